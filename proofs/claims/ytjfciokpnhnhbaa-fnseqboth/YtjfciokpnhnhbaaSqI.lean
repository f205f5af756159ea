/-
  The program's building of the tree of signs, and its test of a sequence. No condition but that the slice reads.
-/
import Derived.Test.YtjfciokpnhnhbaaSqT
import Derived.LaidEqlPtr
namespace Go.Proofs.Ytjfciokpnhnhbaa
open Go.RowKit Go.Maps Go.Sort
set_option linter.unusedVariables false

theorem Tree.start {w : World} {base MB r : Nat} {D : Nat → Ev} (hr : w.heap[r]? = some (.cells #[.int .i64 0, .string ⟨#[]⟩, .bool false, .slice none 0 0] 66)) (hb : base ≤ r) (hm : w.ownsMap Try.prog 2 PR MB 1 ((DataW.map []).put (.int .i64 0) (.held (ptr r)))) (hmb : base ≤ MB) :
    Tree w base MB D 0 (fun _ => r) (fun _ => .slice none 0 0) (fun _ => ⟨#[]⟩) := by
  have hk : ∀ z, Key D 0 z → z = 0 := by
    rintro z (h | h)
    · exact h
    · cases h
  refine ⟨fun z hz => ?_, fun z hz => World.ownsRow_nil _ _ _ _, fun z z' hz hz' _ => (hk z hz).trans (hk z' hz').symm, fun z z' hz hz' _ g hg => (by cases hg), fun j hj => absurd hj (Nat.not_lt_zero _), ⟨1, _, hm, Nat.le_refl _, IsMap.put ⟨[], rfl⟩ _ _, fun z hz d => ?_, fun z hz d => ?_⟩, hmb⟩
  · obtain rfl := hk z hz
    exact ⟨hb, hr⟩
  · obtain rfl := hk z hz
    exact atKey_put_same ⟨[], rfl⟩ (show WideAt.IsKeyLit (.int .i64 0) from trivial) _ _
  · rw [atKey_put_other (k := .int .i64 0) (by intro e; apply hz; exact .inl (by simpa using e))]
    rfl

section
variable {w w3 : World} {base MB i : Nat} {D : Nat → Ev} {P : Int → Nat} {K : Int → Value} {S : Int → ByteArray}
theorem Tree.notrow (h : Tree w base MB D i P K S) {z z' : Int} {g : Nat} (hz : Key D i z) (hz' : Key D i z') (hg : (K z).ownBlock = some g) : P z' ≠ g ∧ MB ≠ g := by
  obtain ⟨cur, hcur⟩ := row_type (h.row z hz) hg
  constructor
  · intro e
    have := (h.node z' hz').2
    rw [e, hcur] at this
    simp at this
  · intro e
    obtain ⟨n', E', ⟨es, cl, hb', _⟩, _⟩ := h.map
    rw [e, hcur] at hb'
    cases hb'
theorem Tree.notmap (h : Tree w base MB D i P K S) {z : Int} (hz : Key D i z) : P z ≠ MB := by
  intro e
  obtain ⟨n', E', ⟨es, cl, hb', _⟩, _⟩ := h.map
  have := (h.node z hz).2
  rw [e, hb'] at this
  cases this
theorem Tree.node3 (h : Tree w base MB D i P K S) {z : Int} (hz : Key D i z) (hG : w.grownBy w3 (K z).ownBlock) : w3.heap[P z]? = some (.cells #[.int .i64 z, .string (S z), .bool (delB D i z), K z] 66) :=
  (hG.block _ (lt_of_block (h.node z hz).2) (fun e => (h.notrow hz hz e.symm).1 rfl)).trans (h.node z hz).2
end
theorem wf_small {z : Int} (h0 : 1 ≤ z) (h1 : z ≤ 1000000) : (Lit.int .i64 z).wf = true := by
  have e1 : IntKind.i64.min = -9223372036854775808 := by decide
  have e2 : IntKind.i64.max = 9223372036854775807 := by decide
  simp [Lit.wf, e1, e2]
  omega
theorem del_key {D : Nat → Ev} {k : Nat} {z : Int} (h : allB (okS D) k = true) (hd : delB D k z = true) : insB D k z = true := by
  unfold delB at hd
  rw [List.any_eq_true] at hd
  obtain ⟨j, hj, h1⟩ := hd
  have hj := List.mem_range.1 hj
  simp only [Bool.and_eq_true, beq_iff_eq] at h1
  have h2 := allB_at h hj
  unfold okS kindB at h2
  rw [h1.1] at h2
  simp at h2
  obtain ⟨i, hi, h3, h4⟩ := insB_iff.1 h2.2.2
  exact insB_iff.2 ⟨i, by omega, h3, by rw [h4, h1.2]⟩
theorem kid_key {D : Nat → Ev} {k : Nat} {z : Int} (h : allB (okS D) k = true) (hz : z ≠ 0) (hn : insB D k z = false) : kids D k z = [] := by
  cases hl : kids D k z with
  | nil => rfl
  | cons y l =>
    have hy : y ∈ kids D k z := by rw [hl]; exact List.mem_cons_self
    unfold kids at hy
    obtain ⟨j, hj, rfl⟩ := List.mem_map.1 hy
    rw [List.mem_filter] at hj
    have h1 := hj.2
    simp only [Bool.and_eq_true, beq_iff_eq] at h1
    have hjk := List.mem_range.1 hj.1
    have h2 := allB_at h hjk
    unfold okS kindB at h2
    rw [h1.1] at h2
    simp at h2
    rcases h2.2.2 with h3 | h3
    · exact absurd (h1.2.symm.trans h3) hz
    · obtain ⟨i, hi, h4, h5⟩ := insB_iff.1 h3
      have : insB D k z = true := insB_iff.2 ⟨i, by omega, h4, by rw [h5, h1.2]⟩
      rw [hn] at this
      cases this
theorem ins_zero {D : Nat → Ev} {k : Nat} (h : allB (okS D) k = true) : insB D k 0 = false := insB_no fun j hj _ => by have := ok_pos h hj; omega

theorem neqP_same (p : Nat) (w : World) : (binOp .neq 60 (ptr p) (ptr p)).run Try.prog w = .ok (.bool false) w := by
  have h : ∀ d : Nat, (Op.equalIn (d + 1) 60 (.pointer (some ⟨p, 0, none⟩)) (.pointer (some ⟨p, 0, none⟩))).run Try.prog w = .ok true w := fun d => by
    have hs : (Go.sizeOf 66).run Try.prog w = .ok 4 w := by kernel_rfl
    simp [Op.equalIn, run_underlying Try.underlying60, hs, run_sameAddr_same]
  unfold ptr
  simp only [binOp]
  simp [Op.equal, Op.maxDepth, h 9999]
theorem neqP_other {p q : Nat} {w : World} {ca cb : Array Value} {ta tb : TypeId} (hne : p ≠ q) (ha : w.heap[p]? = some (.cells ca ta)) (hb : w.heap[q]? = some (.cells cb tb)) : (binOp .neq 60 (ptr p) (ptr q)).run Try.prog w = .ok (.bool true) w := by
  have h : ∀ d : Nat, (Op.equalIn (d + 1) 60 (.pointer (some ⟨p, 0, none⟩)) (.pointer (some ⟨q, 0, none⟩))).run Try.prog w = .ok false w := fun d => by
    have hs : (Go.sizeOf 66).run Try.prog w = .ok 4 w := by kernel_rfl
    have hsa := run_sameAddr_other (P := Try.prog) w (a := ⟨p, 0, none⟩) (b := ⟨q, 0, none⟩) (fun e => hne (congrArg Addr.block e)) ha hb
    simp [Op.equalIn, run_underlying Try.underlying60, hs, hsa]
  unfold ptr
  simp only [binOp]
  simp [Op.equal, Op.maxDepth, h 9999]
/-- the last Id of the first k ops -/
def lastA (D : Nat → Ev) (k : Nat) : Int := if k = 0 then 0 else (D (k - 1)).a
theorem ok_of {D : Nat → Ev} {k : Nat} (h1 : lastA D k < (D k).a) (h2 : (D k).a ≤ 1000000) (h0 : allB (okS D) k = true) : okS D k = kindB D k := by
  have hpos : 1 ≤ (D k).a := by
    unfold lastA at h1
    split at h1
    · omega
    · have := ok_pos h0 (show k - 1 < k by omega)
      omega
  unfold okS inB
  rw [decide_eq_true hpos, decide_eq_true h2]
  by_cases hk : k = 0
  · subst hk; rfl
  · unfold lastA at h1
    rw [if_neg hk] at h1
    rw [decide_eq_true h1]
    simp
theorem rise_last {D : Nat → Ev} {k : Nat} (h : allB (okS D) k = true) (j : Nat) (hj : j < k) : (D j).a ≤ lastA D k := by
  unfold lastA
  rw [if_neg (by omega)]
  by_cases he : j = k - 1
  · rw [he]; exact Int.le_refl _
  · have := rise_lt h (k - 1 - j - 1) j (by omega)
    rw [show j + (k - 1 - j - 1) + 1 = k - 1 by omega] at this
    omega
theorem ok_not {D : Nat → Ev} {k : Nat} (h1 : (D k).a ≤ lastA D k) : okS D k = false := by
  unfold lastA at h1
  unfold okS inB
  by_cases hk : k = 0
  · rw [if_pos hk] at h1
    rw [decide_eq_false (show ¬ 1 ≤ (D k).a by omega)]
    rfl
  · rw [if_neg hk] at h1
    rw [decide_eq_false (show ¬ (D (k - 1)).a < (D k).a by omega)]
    simp [hk]
theorem ok_big {D : Nat → Ev} {k : Nat} (h1 : 1000000 < (D k).a) : okS D k = false := by
  unfold okS inB
  rw [decide_eq_false (show ¬ (D k).a ≤ 1000000 by omega)]
  simp
theorem kind_nokey {D : Nat → Ev} {k : Nat} (h : ¬ Key D k (D k).c) : kindB D k = false := by
  have h1 : (D k).c ≠ 0 := fun e => h (.inl e)
  have h2 : insB D k (D k).c = false := by
    cases hc : insB D k (D k).c with
    | false => rfl
    | true => exact absurd (.inr hc) h
  unfold kindB
  rw [h2]
  have h3 : ((D k).c == 0) = false := by simp [h1]
  rw [h3]
  simp
theorem kind_ins {D : Nat → Ev} {k : Nat} (hb : (D k).b = 1) (h : Key D k (D k).c) : kindB D k = sgB (D k).d := by
  unfold kindB
  rw [if_pos hb]
  rcases h with h | h
  · rw [h]; simp
  · rw [h]; simp

theorem look_tree {w : World} {base MB k : Nat} {D : Nat → Ev} {P : Int → Nat} {K : Int → Value} {S : Int → ByteArray} (h : Tree w base MB D k P K S) (z : Int) (hz : (Lit.int .i64 z).wf = true) :
    (Key D k z → (Instr.lookup 97 (.map (some MB)) (.int .i64 z) false).run Try.prog w = .ok (ptr (P z)) w) ∧ (¬ Key D k z → (Instr.lookup 97 (.map (some MB)) (.int .i64 z) false).run Try.prog w = .ok (.pointer none) w) := by
  obtain ⟨n, E, h1, h2, h3, h4, h5⟩ := h.map
  obtain ⟨v, ps, hrun, hv⟩ := h1.lookup (e := 60) lawI Try.underlying97 (zeroP w) (zd := .held (.pointer none)) (zp := []) rfl (keyOf_int_mk Try.underlying2 hz)
  obtain ⟨p, rfl⟩ := PR_inv _ _ hv
  have hp : DataW.held (Value.pointer p) = E.atKey (.int .i64 z) (.held (.pointer none)) := by
    simp only [PR, Option.some.injEq, Prod.mk.injEq] at hv
    exact hv.1
  constructor
  · intro hk
    rw [h4 z hk] at hp
    unfold ptr at hp ⊢
    simp only [DataW.held.injEq] at hp
    rw [hrun, hp]
  · intro hk
    rw [h5 z hk] at hp
    simp only [DataW.held.injEq] at hp
    rw [hrun, hp]

set_option maxRecDepth 10000 in
set_option maxHeartbeats 16000000 in
theorem signTree_any (a : Option Addr) (len cap : Nat) (D : Nat → Ev) (w : World) (h : IsEvs w a len cap D) (hF : ∀ i, i < len → (D i).in) :
    Calls Try.prog 52 #[.slice a len cap] w fun e w' => ∃ p, e = .returned (.tuple #[.pointer p, .bool (seqB D len)]) ∧ Below w.heap.size w w' ∧ (seqB D len = true → ∃ MB P K S, p = some ⟨P 0, 0, none⟩ ∧ Tree w' w.heap.size MB D len P K S) := by
  obtain ⟨hlc, hcm, hc⟩ := h
  obtain ⟨i0, hi, hz0, hz1, hz2⟩ := info_parts infoP
  by_cases h40 : 40 < len
  · have hr : Hid (seqB D len = false) := by
      show _ = _
      unfold seqB
      rw [decide_eq_false (by omega)]; rfl
    have h40' : (40 : Int) < (len : Int) := by omega
    clear hc
    go_enter Try.func52, Try.ntmps52
    go_wp2
    go_ret2
    rw [hr.out]
    exact ⟨none, rfl, Below.refl _ _, fun h => by cases h⟩
  have hle : len ≤ 40 := by omega
  have hleI : decide ((40 : Int) < (len : Int)) = false := by simp; omega
  have HF : Hid (∀ i, i < len → (D i).in) := hF
  clear h40 hF
  have hmm := @run_makeMap Try.prog
  obtain ⟨w1, hrun1, hown1, hgrow1⟩ := (World.ownsMap_made (w.alloc (.cells #[.int .i64 0, .string ⟨#[]⟩, .bool false, .slice none 0 0] 66)) Try.prog 2 PR).update (t := 97) (e := 60) lawI Try.underlying97 (by unfold maxLen; omega) (key := .int .i64 0) (val := ptr w.heap.size) (keyOf_int_mk Try.underlying2 (by decide)) (d := .held (ptr w.heap.size)) (ps := []) rfl
  have hsz : (w.alloc (.cells #[.int .i64 0, .string ⟨#[]⟩, .bool false, .slice none 0 0] 66)).heap.size = w.heap.size + 1 := by simp
  rw [hsz] at hrun1 hown1 hgrow1
  have hB1 : Below w.heap.size w w1 := (((Below.refl _ w).alloc (Nat.le_refl _) _).alloc (by simp) _).grown hgrow1 (by simp; omega) (fun q hq => by have := Option.some.inj hq; omega)
  have hT0 : Tree w1 w.heap.size (w.heap.size + 1) D 0 (fun _ => w.heap.size) (fun _ => .slice none 0 0) (fun _ => ⟨#[]⟩) := by
    refine Tree.start ?_ (Nat.le_refl _) hown1 (by omega)
    rw [hgrow1.block _ (by simp; omega) (fun e => by have := Option.some.inj e; omega), Below.heap_alloc _ _ _ (by simp)]
    exact heap_alloc_new _ _
  have HT0 : Hid (_) := hT0
  unfold ptr at hrun1
  clear hT0 hown1 hgrow1 hsz
  go_enter Try.func52, Try.ntmps52
  go_wp2
  go_loopw [6, 21] (fun l i wr => ∃ (k : Nat) (P : Int → Nat) (K : Int → Value) (S : Int → ByteArray), k ≤ len ∧ i = .int .i64 k ∧ l = .int .i64 (lastA D k) ∧ Hid (allB (okS D) k = true) ∧ Hid (P 0 = w.heap.size ∧ Tree wr w.heap.size (w.heap.size + 1) D k P K S) ∧ Below w.heap.size w wr) (fun _ i _ => len - (Go.RowKit.intOf i).toNat)
  case atStart => exact ⟨0, _, _, _, Nat.zero_le _, rfl, rfl, rfl, ⟨rfl, HT0.out⟩, hB1⟩
  case round =>
    obtain ⟨k, P, K, S, hk, rfl, rfl, HR, HT, hB⟩ := hrel
    by_cases hlt : k < len
    · obtain ⟨b, off, rfl, hbs, hcell⟩ := hc (by omega)
      have hltI : (k : Int) < (len : Int) := by omega
      obtain ⟨c0, c1, c2, c3⟩ : EvAt wr b (off + k * 4) (D k) := (hcell k hlt).grow hbs hB
      have hds : (D k).d.size ≤ 9223372036854775807 := (HF.out k hlt).1
      have HB : Hid (∀ o, Below w.heap.size w (wr.alloc o)) := fun o => hB.alloc hB.size _
      have HTW : Hid (∀ o, Tree (wr.alloc o) w.heap.size (w.heap.size + 1) D k P K S) := fun o => HT.out.2.below ((Below.refl _ _).alloc (Nat.le_refl _) _)
      have hP0 := HT.out.1
      have hlk := fun o => look_tree (HTW.out o) (D k).c (HF.out k hlt).2
      have HLK : Hid (_) := hlk
      have hBs := hB.size
      clear hcell hc hlk hB1
      by_cases hl1 : (D k).a ≤ lastA D k
      · have hr : Hid (seqB D len = false) := seqB_false hlt (ok_not hl1)
        by_cases hkey : Key D k (D k).c
        · have hrl := fun o => (HLK.out o).1 hkey
          unfold ptr at hrl
          clear hkey
          go_wp2
          go_ret2
          rw [hr.out]
          exact ⟨none, rfl, HB.out _, fun h => by cases h⟩
        · have hrl := fun o => (HLK.out o).2 hkey
          clear hkey
          go_wp2
          go_ret2
          rw [hr.out]
          exact ⟨none, rfl, HB.out _, fun h => by cases h⟩
      · have hl1d : decide ((D k).a ≤ lastA D k) = false := by simpa using hl1
        have hl1' : lastA D k < (D k).a := by omega
        by_cases hbig : 1000000 < (D k).a
        · have hr : Hid (seqB D len = false) := seqB_false hlt (ok_big hbig)
          clear hl1
          by_cases hkey : Key D k (D k).c
          · have hrl := fun o => (HLK.out o).1 hkey
            unfold ptr at hrl
            clear hkey
            go_wp2
            go_ret2
            rw [hr.out]
            exact ⟨none, rfl, HB.out _, fun h => by cases h⟩
          · have hrl := fun o => (HLK.out o).2 hkey
            clear hkey
            go_wp2
            go_ret2
            rw [hr.out]
            exact ⟨none, rfl, HB.out _, fun h => by cases h⟩
        · have hbigd : decide (1000000 < (D k).a) = false := by simpa using hbig
          have HOK : Hid (okS D k = kindB D k) := ok_of hl1' (by omega) HR.out
          have HPOS : Hid (1 ≤ (D k).a ∧ (D k).a ≤ 1000000) := by
            refine ⟨?_, by omega⟩
            unfold lastA at hl1'
            split at hl1'
            · omega
            · have := ok_pos HR.out (show k - 1 < k by omega)
              omega
          have HNK : Hid (¬ Key D k (D k).a) := by
            rintro (h | h)
            · have := HPOS.out; omega
            · obtain ⟨j, hj, _, h2⟩ := insB_iff.1 h
              have := rise_last HR.out j hj
              omega
          clear hl1 hbig
          by_cases hkey : Key D k (D k).c
          · have hrl := fun o => (HLK.out o).1 hkey
            unfold ptr at hrl
            have HKEY : Hid (Key D k (D k).c) := hkey
            by_cases hb1 : (D k).b = 1
            · have e5 : ((D k).b == 1) = true := by simp [hb1]
              cases hsg : sgB (D k).d with
              | false =>
                have hr : Hid (seqB D len = false) := seqB_false hlt (by rw [HOK.out, kind_ins hb1 hkey, hsg])
                have e7 : ((D k).b == 2) = false := by rw [hb1]; rfl
                clear hkey hb1
                go_wp2_with (go_at_call 63; refine (sign_any (D k).d hds false hsg _).mono ?_; rintro e w2 ⟨rfl, rfl⟩)
                go_ret2
                rw [hr.out]
                exact ⟨none, rfl, HB.out _, fun h => by cases h⟩
              | true =>
                have HR' : Hid (allB (okS D) (k + 1) = true) := by show _ = _; rw [allB_succ, HR.out, HOK.out, kind_ins hb1 hkey, hsg]; rfl
                have HB1 : Hid ((D k).b = 1) := hb1
                clear hkey hb1
                have HDA : Hid (delB D k (D k).a = false) := by
                  show _ = _
                  cases hd : delB D k (D k).a with
                  | false => rfl
                  | true => exact absurd (.inr (del_key HR.out hd)) HNK.out
                have HKA : Hid (kids D k (D k).a = []) := kid_key HR.out (fun e => HNK.out (.inl e)) (by
                  cases hi' : insB D k (D k).a with
                  | false => rfl
                  | true => exact absurd (.inr hi') HNK.out)
                obtain ⟨n, E, hm, hn, hE⟩ := HT.out.2.map
                have hT2 : ∀ o o' o'', Tree (((wr.alloc o).alloc o').alloc o'') w.heap.size (w.heap.size + 1) D k P K S := fun o o' o'' => ((HTW.out o).below ((Below.refl _ _).alloc (Nat.le_refl _) _)).below ((Below.refl _ _).alloc (Nat.le_refl _) _)
                have HT2 : Hid (_) := hT2
                have hld : ∀ o o', ((wr.alloc o).alloc o').cell? ⟨P (D k).c, 3, none⟩ = some (K (D k).c) := fun o o' => cellN (((HTW.out o).below ((Below.refl _ _).alloc (Nat.le_refl _) _)).node _ HKEY.out).2
                obtain ⟨m, hm0⟩ : ∃ m, m = (kids D k (D k).c).length := ⟨_, rfl⟩
                have hm40 : m ≤ 40 := by rw [hm0]; exact Nat.le_trans (kids_len D k _) (by omega)
                have HROW : Hid (∀ o o' o'', (((wr.alloc o).alloc o').alloc o'').ownsRow w.heap.size 60 1 (K (D k).c) m ((kids D k (D k).c).map fun y => ptr (P y))) := fun o o' o'' => by rw [hm0]; exact (hT2 o o' o'').row _ HKEY.out
                have HM0 : Hid (m = (kids D k (D k).c).length) := hm0
                have HMP : Hid (wr.ownsMap Try.prog 2 PR (w.heap.size + 1) n E) := hm
                have HN : Hid (n ≤ k + 1) := hn
                have HE : Hid (_) := hE
                have k1 : Hid (m + 1 ≤ maxLen) := by show _ ≤ _; unfold maxLen; omega
                have k2 : Hid ((m + 1) * 8 ≤ 140737488355328) := by show _ ≤ _; omega
                have k3 : Hid (n < maxLen) := by show _ < _; unfold maxLen; omega
                have HSZ : Hid (w.heap.size ≤ wr.heap.size) := hBs
                have hkeyA : Hid (keyOf Try.prog 2 (.int .i64 (D k).a) = some (.int .i64 (D k).a)) := keyOf_int_mk Try.underlying2 (wf_small HPOS.out.1 HPOS.out.2)
                have HNW : Hid (∀ o o' : Obj, ∀ j u, [ptr (wr.heap.size + 1)][j]? = some u → (((wr.alloc o).alloc o').alloc (.cells #[ptr (wr.heap.size + 1)] 60)).cell? ((⟨wr.heap.size + 1 + 1, 0, none⟩ : Addr).add j) = some u) := by
                  intro o o'
                  have hs2 : ((wr.alloc o).alloc o').heap.size = wr.heap.size + 1 + 1 := by simp
                  have h3 := World.news_of_block (heap_alloc_new ((wr.alloc o).alloc o') (.cells #[ptr (wr.heap.size + 1)] 60))
                  rw [hs2] at h3
                  exact h3
                clear hT2 hm hn hE hm0 hP0
                go_wp2_with (first
                  | (go_at_call 63; refine (sign_any (D k).d hds true hsg _).mono ?_; rintro e w2 ⟨rfl, rfl⟩)
                  | (at_builtin
                     refine wpList_append_lies _ rfl _ _ 58 rfl w.heap.size 60 i0 (.pointer none) 1 8 Try.underlying58 hi hz0 hz1 hz2 rfl (by decide) (K (D k).c) m _ rfl (HROW.out _ _ _) ⟨wr.heap.size + 1 + 1, 0, none⟩ 1 1 [ptr (wr.heap.size + 1)] rfl rfl (HNW.out _ _) (fun u hu => by simp at hu; subst hu; rfl) (by decide) k1.out k2.out (by have := HSZ.out; simp; omega) _ rfl ?_
                     intro g gc w3 hown hgrow hwh hgl
                     have hn3 := (HT2.out _ _ _).node3 HKEY.out hgrow
                     have hc3 : w3.cell? ⟨P (D k).c, 3, none⟩ = some (K (D k).c) := cellN hn3
                     have hf3 : w3.frozen? ⟨P (D k).c, 3, none⟩ = false := frozN hn3
                     have hnm := HT.out.2.notmap HKEY.out
                     have HM4 : Hid ((w3.setCell ⟨P (D k).c, 3, none⟩ (.slice (some ⟨g, 0, none⟩) (m + 1) gc)).ownsMap Try.prog 2 PR (w.heap.size + 1) n E) :=
                       ((((HMP.out.alloc _).alloc _).alloc _).kept hgrow (fun e => (HT.out.2.notrow HKEY.out HKEY.out e.symm).2 rfl)).kept (row := some (P (D k).c)) ⟨rfl, rfl, rfl, by rw [World.size_setCell]; exact Nat.le_refl _, fun q _ hq => Below.heap_setCell _ _ _ _ (fun e => hq (by rw [e]))⟩ (fun e => hnm (Option.some.inj e).symm)
                     have hPl : P (D k).c < wr.heap.size := lt_of_block (HT.out.2.node _ HKEY.out).2
                     have hb3 : w3.heap[wr.heap.size]? = some (.cells #[.int .i64 (D k).a, .int .i64 (D k).b, .int .i64 (D k).c, .string (D k).d] 36) := by
                       rw [hgrow.block _ (by simp <;> omega) (fun e => by have := (World.ownsRow.lt (HT.out.2.row _ HKEY.out) _ e.symm).2; omega), Below.heap_alloc _ _ _ (by simp <;> omega), Below.heap_alloc _ _ _ (by simp)]
                       exact heap_alloc_new _ _
                     have hid0 : (w3.setCell ⟨P (D k).c, 3, none⟩ (.slice (some ⟨g, 0, none⟩) (m + 1) gc)).cell? ⟨wr.heap.size, 0, none⟩ = some (.int .i64 (D k).a) := by
                       rw [World.cell?_setCell_other _ _ _ _ (by simp <;> omega)]
                       exact cellN hb3
                     clear hb3 hPl
                     have HG3 : Hid (_) := hgrow
                     have HOW3 : Hid (_) := hown
                     have HWH : Hid (_) := hwh
                     clear hn3 hnm hown hgrow hwh hgl)
                  | (at_mapUpdate
                     refine wpList_mapUpdate_own _ rfl _ _ _ 97 rfl 2 60 lawI Try.underlying97 PR (w.heap.size + 1) n E rfl HM4.out k3.out _ _ _ rfl rfl hkeyA.out (.held (ptr (wr.heap.size + 1))) [] rfl ?_
                     intro w5 hown5 hgrow5
                     have HO5 : Hid (_) := hown5
                     have HG5 : Hid (_) := hgrow5
                     clear hown5 hgrow5))
                go_roundw
                case rel =>
                  have hT' := Tree.insert (B := wr.heap.size + 1) (g := g) (cap := gc) (n := n) (E := E) (by simp) (HTW.out _) HB1.out HKEY.out HNK.out HDA.out HKA.out (by have := HSZ.out; simp; omega) HG3.out (by rw [← HM0.out]; exact HOW3.out) HWH.out ⟨HE.out.1, HE.out.2.1, HE.out.2.2⟩ HN.out (by rw [← HM0.out]; exact HG5.out) HO5.out
                  refine ⟨k + 1, _, _, _, by omega, by go_num, ?_, HR', ⟨?_, hT'⟩, ?_⟩
                  · unfold lastA; simp
                  · show (if (0 : Int) = (D k).a then wr.heap.size + 1 else P 0) = w.heap.size
                    rw [if_neg (by have := HPOS.out; omega)]
                    exact HT.out.1
                  · have q1 := (((HB.out (.cells #[.int .i64 (D k).a, .int .i64 (D k).b, .int .i64 (D k).c, .string (D k).d] 36)).alloc (by have := HSZ.out; simp; omega) (.cells #[.int .i64 (D k).a, .string (D k).d, .bool false, .slice none 0 0] 66)).alloc (by have := HSZ.out; simp; omega) (.cells #[ptr (wr.heap.size + 1)] 60)).grown HG3.out (by have := HSZ.out; simp; omega) (fun q hq => (World.ownsRow.lt (HT.out.2.row _ HKEY.out) q hq).1)
                    have q2 := q1.setCell (p := ⟨P (D k).c, 3, none⟩) (HT.out.2.node _ HKEY.out).1 (.slice (some ⟨g, 0, none⟩) (m + 1) gc)
                    exact q2.grown HG5.out q2.size (fun q hq => by have := Option.some.inj hq; omega)
                case measure => simp [Go.RowKit.intOf]; omega
            · have e5 : ((D k).b == 1) = false := by simp [hb1]
              by_cases hb2 : (D k).b = 2
              · have e7 : ((D k).b == 2) = true := by simp [hb2]
                cases hem : ((D k).d.toList == []) with
                | false =>
                  have hr : Hid (seqB D len = false) := seqB_false hlt (by rw [HOK.out]; unfold kindB; rw [if_neg hb1, if_pos hb2, hem]; rfl)
                  clear hkey hb1 hb2
                  go_wp2
                  go_ret2
                  rw [hr.out]
                  exact ⟨none, rfl, HB.out _, fun h => by cases h⟩
                | true =>
                  by_cases hc0 : (D k).c = 0
                  · have hr : Hid (seqB D len = false) := seqB_false hlt (by rw [HOK.out]; unfold kindB; rw [if_neg hb1, if_pos hb2, hem, hc0, ins_zero HR.out]; rfl)
                    have hpc : ∀ o, (binOp .neq 60 (.pointer (some ⟨P (D k).c, 0, none⟩)) (.pointer (some ⟨w.heap.size, 0, none⟩))).run Try.prog (wr.alloc o) = .ok (.bool false) (wr.alloc o) := fun o => by
                      rw [hc0, hP0]
                      exact neqP_same _ _
                    clear hkey hb1 hb2 hP0 hc0
                    go_wp2
                    go_ret2
                    rw [hr.out]
                    exact ⟨none, rfl, HB.out _, fun h => by cases h⟩
                  · have hins : insB D k (D k).c = true := by
                      rcases hkey with h | h
                      · exact absurd h hc0
                      · exact h
                    have HR' : Hid (allB (okS D) (k + 1) = true) := by show _ = _; rw [allB_succ, HR.out, HOK.out]; unfold kindB; rw [if_neg hb1, if_pos hb2, hem, hins]; rfl
                    have hpc : ∀ o, (binOp .neq 60 (.pointer (some ⟨P (D k).c, 0, none⟩)) (.pointer (some ⟨w.heap.size, 0, none⟩))).run Try.prog (wr.alloc o) = .ok (.bool true) (wr.alloc o) := fun o => by
                      rw [← hP0]
                      exact neqP_other (fun e => hc0 (HT.out.2.inj _ 0 HKEY.out (.inl rfl) e)) ((HTW.out o).node _ HKEY.out).2 ((HTW.out o).node 0 (.inl rfl)).2
                    have HB2 : Hid ((D k).b = 2) := hb2
                    have hcd : ∀ o, (wr.alloc o).cell? ⟨P (D k).c, 2, none⟩ = some (.bool (delB D k (D k).c)) := fun o => cellN ((HTW.out o).node _ HKEY.out).2
                    have hfd : ∀ o, (wr.alloc o).frozen? ⟨P (D k).c, 2, none⟩ = false := fun o => frozN ((HTW.out o).node _ HKEY.out).2
                    clear hkey hb1 hb2 hP0 hc0 hins
                    go_wp2
                    go_roundw
                    case rel =>
                      refine ⟨k + 1, P, K, S, by omega, by go_num, ?_, HR', ⟨HT.out.1, (HTW.out _).delete HB2.out HKEY.out⟩, ?_⟩
                      · unfold lastA; simp
                      · exact (HB.out _).setCell (p := ⟨P (D k).c, 2, none⟩) (HT.out.2.node _ HKEY.out).1 _
                    case measure => simp [Go.RowKit.intOf]; omega
              · have e7 : ((D k).b == 2) = false := by simp [hb2]
                have hr : Hid (seqB D len = false) := seqB_false hlt (by rw [HOK.out]; unfold kindB; rw [if_neg hb1, if_neg hb2])
                clear hkey hb1 hb2
                go_wp2
                go_ret2
                rw [hr.out]
                exact ⟨none, rfl, HB.out _, fun h => by cases h⟩
          · have hrl := fun o => (HLK.out o).2 hkey
            have hr : Hid (seqB D len = false) := seqB_false hlt (by rw [HOK.out, kind_nokey hkey])
            clear hkey
            go_wp2
            go_ret2
            rw [hr.out]
            exact ⟨none, rfl, HB.out _, fun h => by cases h⟩
    · have hke : k = len := by omega
      subst hke
      have hkd : decide ((k : Int) < (k : Int)) = false := by simp
      have hr : Hid (seqB D k = true) := by
        show _ = _
        unfold seqB
        rw [HR.out, decide_eq_true hle]; rfl
      clear hc
      go_wp2
      go_ret2
      rw [hr.out]
      exact ⟨_, rfl, hB, fun _ => ⟨_, P, K, S, by rw [HT.out.1], HT.out.2⟩⟩

theorem implSeq_any (a : Option Addr) (len cap : Nat) (D : Nat → Ev) (w : World) (h : IsEvs w a len cap D) (hF : ∀ i, i < len → (D i).in) :
    Calls Try.prog 24 #[.slice a len cap] w fun e w' => e = .returned (.bool (seqB D len)) ∧ Below w.heap.size w w' := by
  go_enter Try.func24, Try.ntmps24
  go_wp2_with fail
  refine (signTree_any a len cap D w h hF).mono ?_
  rintro e w1 ⟨p, rfl, hB1, _⟩
  go_wp2
  go_ret
  exact ⟨rfl, hB1⟩
end Go.Proofs.Ytjfciokpnhnhbaa
