/-
  Slices of numbers: how they read, slices that the call owns, the laws' own functions over them. No condition but that the slices read.
  The laws' own functions over numbers: the size left, a copy. No condition but that the slice reads.
  Crash, plainly: the files behind the ops that are kept. No condition.
  Places that rise: the program's placesOk. No condition but that the slice reads.
  Single operations on ops kept in a slice, and the region 'op := ops[keep[i]]'. No condition.
-/
import Derived.Test.YtbohaefmokbgbaaBase
import Derived.Laws.AppendOwn
import Derived.Deep.AppendLies
import Derived.Deep.Onto
import Derived.Laws.CopyOwn
import Derived.Test.YtbohaefmokbgbaaDkI
import Derived.Test.YtbohaefmokbgbaaDkDi
namespace Go.Proofs.Ytbohaefmokbgbaa
open Go.RowKit
set_option linter.unusedVariables false

theorem infoI : (Try.prog.info? 2).map (fun i => (i.zero, i.size, i.bytes)) = some (some (.int .i64 0), 1, 8) := by kernel_rfl
/-- a slice of numbers that reads as L -/
def RdI (w : World) (v : Value) (L : List Int) : Prop :=
  ∃ a cap, v = .slice a L.length cap ∧ L.length ≤ cap ∧ cap ≤ 9223372036854775807 ∧ (0 < L.length → ∃ b off, a = some ⟨b, off, none⟩ ∧ b < w.heap.size ∧ ∀ i, i < L.length → w.cell? ⟨b, off + i, none⟩ = some (.int .i64 (L.getD i 0)))
theorem RdI.below {w w' : World} {v : Value} {L : List Int} (h : RdI w v L) (hB : Below w.heap.size w w') : RdI w' v L := by
  obtain ⟨a, cap, rfl, h1, h2, h3⟩ := h
  refine ⟨a, cap, rfl, h1, h2, fun hp => ?_⟩
  obtain ⟨b, off, e, hb, hc⟩ := h3 hp
  exact ⟨b, off, e, Nat.lt_of_lt_of_le hb hB.size, fun i hi => (hB.cell (p := ⟨b, off + i, none⟩) hb).trans (hc i hi)⟩
/-- numbers in memory of the call's own -/
def OwnI (w : World) (base : Nat) (v : Value) (L : List Int) : Prop := w.ownsRow base 2 1 v L.length (L.map (.int .i64 ·))
theorem OwnI.below {w w' : World} {base : Nat} {v : Value} {L : List Int} (h : OwnI w base v L) (hB : Below w.heap.size w w') : OwnI w' base v L := ownsRow_below h hB
theorem OwnI.rd {w : World} {base : Nat} {v : Value} {L : List Int} (h : OwnI w base v L) : RdI w v L := by
  have h' := h
  obtain ⟨h1, h2⟩ := h
  rcases h2 with ⟨rfl, h0⟩ | ⟨g, cap, cur, rfl, hb, hh, hn, hc, hs, ht⟩
  · have hL : L = [] := List.eq_nil_of_length_eq_zero h0
    subst hL
    exact ⟨none, 0, rfl, Nat.le_refl _, by omega, fun h => absurd h (Nat.lt_irrefl _)⟩
  · refine ⟨_, cap, rfl, hn, by unfold maxLen at hc; omega, fun _ => ⟨g, 0, rfl, lt_of_block hh, fun i hi => ?_⟩⟩
    rw [Nat.zero_add, World.ownsRow.cellAt h' i (by omega)]
    simp [hi]
theorem OwnI.base {w : World} {base base' : Nat} {v : Value} {L : List Int} (h : OwnI w base v L) (hb : base' ≤ base) : OwnI w base' v L := World.ownsRow.mono h hb

theorem RdI.shape {w : World} {v : Value} {L : List Int} (h : RdI w v L) : ∃ a c, v = .slice a L.length c ∧ True := by
  obtain ⟨a, c, e, _⟩ := h
  exact ⟨a, c, e, trivial⟩
theorem OwnI.slice {w : World} {base : Nat} {v : Value} {L : List Int} (h : OwnI w base v L) : ∃ a c, v = .slice a L.length c := by
  obtain ⟨a, c, e, _⟩ := h.rd
  exact ⟨a, c, e⟩

theorem OwnI.kept {w w' : World} {base : Nat} {v : Value} {L : List Int} {r : Option Nat} (h : OwnI w base v L) (hG : w.grownBy w' r) (hne : ∀ k, v.ownBlock = some k → some k ≠ r) : OwnI w' base v L := by
  have hlt := World.ownsRow.lt h
  obtain ⟨h1, h2⟩ := h
  refine ⟨h1, ?_⟩
  rcases h2 with h2 | ⟨g, cap, cur, hv, hb, hh, q⟩
  · exact .inl h2
  · have hg : v.ownBlock = some g := by rw [hv]; rfl
    exact .inr ⟨g, cap, cur, hv, hb, (hG.block g (hlt g hg).2 (hne g hg)).trans hh, q⟩
theorem OwnI.nil (w : World) (base : Nat) : OwnI w base (.slice none 0 0) [] := ⟨rfl, .inl ⟨rfl, rfl⟩⟩

set_option maxHeartbeats 1000000 in
theorem eqI_same (v v' : Value) (L : List Int) (w : World) (h : RdI w v L) (h' : RdI w v' L) :
    Calls Try.prog 24 #[v, v'] w fun e w' => e = .returned (.bool true) ∧ Below w.heap.size w w' := by
  obtain ⟨a, cap, rfl, hlc, hcm, hc⟩ := h
  obtain ⟨a', cap', rfl, hlc', hcm', hc'⟩ := h'
  obtain ⟨len, hlen⟩ : ∃ len, len = L.length := ⟨_, rfl⟩
  rw [← hlen] at hlc hlc' hc hc' ⊢
  clear hlen
  have hbn : ((len : Int) != (len : Int)) = false := by simp
  go_enter Try.func24, Try.ntmps24
  go_wp2
  go_loopw [5] (fun i wr => ∃ (k : Nat), k ≤ len ∧ i = .int .i64 k ∧ Below w.heap.size w wr)
    (fun i _ => len - (intOf i).toNat)
  case atStart => exact ⟨0, Nat.zero_le _, rfl, Below.refl _ _⟩
  case round =>
    obtain ⟨k, hk, rfl, hB⟩ := hrel
    by_cases hlt : k < len
    · obtain ⟨b, off, rfl, hbs, hcell⟩ := hc (by omega)
      obtain ⟨b', off', rfl, hbs', hcell'⟩ := hc' (by omega)
      have d1 := (hB.cell (p := ⟨b, off + k, none⟩) hbs).trans (hcell k hlt)
      have d1' := (hB.cell (p := ⟨b', off' + k, none⟩) hbs').trans (hcell' k hlt)
      obtain ⟨z, hz⟩ : ∃ z, z = L.getD k 0 := ⟨_, rfl⟩
      rw [← hz] at d1 d1'
      have hss : (z != z) = false := by simp
      clear hcell hc hcell' hc' hz
      go_wp2
      go_quiet (fail)
      go_wp2
      go_roundw
      case rel => exact ⟨k + 1, by omega, by go_num, hB.trans ⟨rfl, rfl, rfl, Nat.le_refl _, fun _ _ => rfl⟩⟩
      case measure => simp [intOf]; omega
    · have hke : k = len := by omega
      subst hke
      go_wp2
      go_ret
      exact ⟨rfl, hB⟩

/-- n marks, from s on -/
def marksI (s n : Nat) : List Int := (List.range n).map fun i => ((s + i : Nat) : Int)
theorem marksI_len (s n : Nat) : (marksI s n).length = n := by unfold marksI; simp
theorem marksI_at {s n i : Nat} (h : i < n) : (marksI s n).getD i 0 = ((s + i : Nat) : Int) := by unfold marksI; simp [h]
theorem marksI_of {s n : Nat} {xs : List Value} (hl : xs.length = n) (h : ∀ i, i < n → xs[i]? = some (.int .i64 ((s + i : Nat) : Int))) : xs = (marksI s n).map (.int .i64 ·) := by
  apply List.ext_getElem?
  intro i
  by_cases hi : i < n
  · rw [h i hi]; unfold marksI; simp [hi]
  · rw [List.getElem?_eq_none (by omega), List.getElem?_eq_none (by simp [marksI_len]; omega)]

set_option maxHeartbeats 1000000 in
theorem markI_any (base : Nat) (v : Value) (L : List Int) (s : Nat) (w : World) (h : OwnI w base v L) (hb : L.length ≤ 1048576) (hs : s ≤ 2199023255552) :
    Calls Try.prog 25 #[v, .int .i64 (s : Int)] w fun e w' => e = .returned (.int .i64 ((s + L.length : Nat) : Int)) ∧ OwnI w' base v (marksI s L.length) ∧ w.grownBy w' v.ownBlock := by
  obtain ⟨a, cap, rfl⟩ := h.slice
  obtain ⟨len, hlen⟩ : ∃ len, len = L.length := ⟨_, rfl⟩
  have HO0 : Hid (w.ownsRow base 2 1 (.slice a len cap) len (L.map (.int .i64 ·))) := by rw [hlen]; exact h
  have hr : ∀ w' : World, w'.ownsRow base 2 1 (.slice a len cap) len ((marksI s len).map (.int .i64 ·)) → OwnI w' base (.slice a len cap) (marksI s len) := fun w' q => by unfold OwnI; rw [marksI_len]; exact q
  have HR := (show Hid _ from hr)
  have hcap : cap ≤ 9223372036854775807 ∧ len ≤ cap := by
    obtain ⟨a', c', e, h1, h2, _⟩ := h.rd
    simp at e
    obtain ⟨_, rfl⟩ := e
    rw [hlen]
    exact ⟨h2, h1⟩
  rw [← hlen] at hb ⊢
  clear hlen h hr
  obtain ⟨hcm, hlc⟩ := hcap
  go_enter Try.func25, Try.ntmps25
  go_wp2
  go_loopw [1, 5] (fun x i wr => ∃ (j : Nat) (xs : List Value), j ≤ len ∧ i = .int .i64 j ∧ x = .int .i64 ((s + j : Nat) : Int) ∧ wr.ownsRow base 2 1 (.slice a len cap) len xs ∧ Hid (∀ t, t < j → xs[t]? = some (.int .i64 ((s + t : Nat) : Int))) ∧ w.grownBy wr (Value.slice a len cap).ownBlock)
    (fun _ i _ => len - (intOf i).toNat)
  case atStart => exact ⟨0, _, Nat.zero_le _, rfl, rfl, HO0.out, fun t ht => absurd ht (Nat.not_lt_zero _), World.grownBy.refl _ _⟩
  case round =>
    obtain ⟨j, xs, hj, rfl, rfl, how, HA, hG⟩ := hrel
    by_cases hlt : j < len
    · obtain ⟨g, rfl⟩ : ∃ g, a = some ⟨g, 0, none⟩ := by
        rcases how.2 with ⟨h', h0⟩ | ⟨g, cap', cur, h', _⟩
        · omega
        · simp only [Value.slice.injEq] at h'
          exact ⟨g, h'.1⟩
      have hltI : (j : Int) < (len : Int) := by omega
      have hxl : xs.length = len * 1 := how.1
      have f1 := how.frozenAt j
      obtain ⟨v1, e1⟩ := own_some how j (by omega)
      have HO : Hid (_) := how
      have HG : Hid (_) := hG
      clear how hG
      go_wp2
      go_roundw
      case rel =>
        refine ⟨j + 1, xs.set j (.int .i64 ((s + j : Nat) : Int)), by omega, by go_num, by go_num, (World.ownsRow.stored HO.out _ _).1, ?_, HG.out.trans (World.ownsRow.stored HO.out _ _).2⟩
        intro t ht
        rcases Nat.lt_succ_iff_lt_or_eq.1 ht with h1 | rfl
        · rw [List.getElem?_set_ne (by omega)]
          exact HA.out t h1
        · rw [List.getElem?_set_self (by omega)]
      case measure => simp [intOf]; omega
    · have hje : j = len := by omega
      subst hje
      have hm : xs = (marksI s j).map (.int .i64 ·) := marksI_of (by have := how.1; omega) HA.out
      have HO : Hid (wr.ownsRow base 2 1 (.slice a j cap) j ((marksI s j).map (.int .i64 ·))) := by rw [← hm]; exact how
      clear how hm
      go_wp2
      go_ret
      exact ⟨rfl, HR.out _ HO.out, hG⟩
end Go.Proofs.Ytbohaefmokbgbaa

namespace Go.Proofs.Ytbohaefmokbgbaa
open Go.RowKit
set_option linter.unusedVariables false

/-- what toInt64S has written when k rounds are over -/
def copyTo (Z : Nat → Int) (n k : Nat) : List Value := (List.range n).map fun i => .int .i64 (if i < k then Z i else 0)

theorem made_ints (Z : Nat → Int) (n : Nat) : (madeCells (Value.int .i64 0).cells (n * 1)).toList = copyTo Z n 0 := by
  apply List.ext_getElem?
  intro i
  simp only [copyTo, madeCells, Value.cells, List.getElem?_map]
  by_cases h : i < n
  · simp [h, Nat.mod_one]
  · simp [h]

theorem copyTo_set (Z : Nat → Int) (n k : Nat) (hk : k < n) : (copyTo Z n k).set k (.int .i64 (Z k)) = copyTo Z n (k + 1) := by
  apply List.ext_getElem?
  intro i
  unfold copyTo
  rw [List.getElem?_set]
  by_cases hik : k = i
  · subst hik
    simp [hk]
  · rw [if_neg hik, List.getElem?_map, List.getElem?_map]
    have e : (i < k) ↔ (i < k + 1) := by omega
    by_cases h : i < n
    · simp [h, e]
    · simp [h]

theorem copyTo_all (L : List Int) : copyTo (fun i => L.getD i 0) L.length L.length = L.map (.int .i64 ·) := by
  apply List.ext_getElem?
  intro i
  unfold copyTo
  by_cases h : i < L.length
  · simp [h]
  · simp [h]

set_option maxHeartbeats 400000 in
theorem toI_any (v : Value) (L : List Int) (w : World) (h : RdI w v L) (hlen : L.length ≤ 1048576) :
    Calls Try.prog 23 #[v] w fun e w' => e = .returned (.slice (some ⟨w.heap.size, 0, none⟩) L.length L.length) ∧ OwnI w' w.heap.size (.slice (some ⟨w.heap.size, 0, none⟩) L.length L.length) L ∧ Below w.heap.size w w' := by
  obtain ⟨a, cap, rfl, hlc, hcm, hc⟩ := h
  have HF : Hid (copyTo (fun i => L.getD i 0) L.length L.length = L.map (.int .i64 ·)) := copyTo_all L
  obtain ⟨Z, hZ⟩ : ∃ Z : Nat → Int, Z = fun i => L.getD i 0 := ⟨_, rfl⟩
  have hc' : 0 < L.length → ∃ b off, a = some ⟨b, off, none⟩ ∧ b < w.heap.size ∧ ∀ i, i < L.length → w.cell? ⟨b, off + i, none⟩ = some (.int .i64 (Z i)) := by rw [hZ]; exact hc
  rw [← hZ] at HF
  obtain ⟨len, hl⟩ : ∃ len, len = L.length := ⟨_, rfl⟩
  have HL : Hid (len = L.length) := hl
  rw [← hl] at hlc hlen hc' HF ⊢
  clear hc hZ hl
  obtain ⟨i0, hi, hz0, hz1, hz2⟩ := info_parts infoI
  have hb2 : i0.bytes * len ≤ 281474976710656 := by rw [hz2]; omega
  have hb3 : len ≤ maxLen := by unfold maxLen; omega
  go_enter Try.func23, Try.ntmps23
  go_wp2_with (at_make; refine wpList_make_full _ rfl _ _ 35 rfl w.heap.size 2 i0 (.int .i64 0) 1 Try.underlying35 hi hz0 hz1 .i64 .i64 _ _ len rfl rfl rfl rfl hb2 hb3 (Nat.le_refl _) ?_; intro w1 hown hgrow)
  have hB1 : Below w.heap.size w w1 := (Below.refl _ w).grown hgrow (Nat.le_refl _) (fun k hk => by cases hk)
  rw [made_ints Z len] at hown
  clear hgrow
  go_loopw [4] (fun i wr => ∃ k : Nat, k ≤ len ∧ i = .int .i64 k ∧ wr.ownsRow w.heap.size 2 1 (.slice (some ⟨w.heap.size, 0, none⟩) len len) len (copyTo Z len k) ∧ Below w.heap.size w wr)
    (fun i _ => len - (intOf i).toNat)
  case atStart => exact ⟨0, Nat.zero_le _, rfl, hown, hB1⟩
  case round =>
    obtain ⟨k, hk, rfl, how, hB⟩ := hrel
    by_cases hlt : k < len
    · obtain ⟨b, off, rfl, hbs, hcell⟩ := hc' (by omega)
      have hck : wr.cell? ⟨b, off + k, none⟩ = some (.int .i64 (Z k)) := (hB.cell (p := ⟨b, off + k, none⟩) hbs).trans (hcell k hlt)
      have hfz := how.frozenAt k
      have hcl : ∃ v, wr.cell? ⟨w.heap.size, k, none⟩ = some v := by
        rw [how.cellAt k (by omega)]
        simp [copyTo, hlt]
      obtain ⟨v0, hcl⟩ := hcl
      have hst := (how.stored k (.int .i64 (Z k))).1
      rw [copyTo_set Z len k hlt] at hst
      have hB' : Below w.heap.size w (wr.setCell ⟨w.heap.size, k, none⟩ (.int .i64 (Z k))) := hB.setCell (p := ⟨w.heap.size, k, none⟩) (Nat.le_refl _) _
      clear how hown hB hB1
      go_wp2
      go_roundw
      case rel => exact ⟨k + 1, by omega, by go_num, hst, hB'⟩
      case measure => simp [intOf]; omega
    · have hke : k = len := by omega
      subst hke
      have hfin : Hid (OwnI wr w.heap.size (.slice (some ⟨w.heap.size, 0, none⟩) k k) L) := by
        show OwnI _ _ _ _
        unfold OwnI
        rw [← HL.out, ← HF.out]
        exact how
      clear how hown hB1 HF
      go_wp2
      go_ret
      exact ⟨rfl, hfin.out, hB⟩
end Go.Proofs.Ytbohaefmokbgbaa

namespace Go.Proofs.Ytbohaefmokbgbaa
open Go.RowKit
set_option linter.unusedVariables false

theorem cut_tot {s x : ByteArray} : ∀ {L : List Fl}, getF L s = some x → tot (cutF L s) + x.size ≤ tot L
  | [], h => by rw [getF_nil] at h; cases h
  | f :: L, h => by
    rw [getF_cons] at h
    unfold cutF
    rw [List.filter_cons, tot_cons]
    cases he : (f.n.toList == s.toList) with
    | true =>
      rw [if_pos he] at h
      have hx : f.d = x := Option.some.inj h
      have ht := tot_cut L s
      unfold cutF at ht
      simp only [Bool.not_true, Bool.false_eq_true, ↓reduceIte]
      rw [← hx]
      omega
    | false =>
      rw [if_neg (by rw [he]; decide)] at h
      have ih := cut_tot h
      unfold cutF at ih
      simp only [Bool.not_false, ↓reduceIte]
      rw [tot_cons]
      omega
/-- how long what is there now is -/
def oldSz (L : List Fl) (s : ByteArray) : Nat := match getF L s with | some x => x.size | none => 0
theorem putR_tot {s d : ByteArray} : ∀ {L : List Fl}, UpF L → tot (putR L s d) + oldSz L s ≤ tot L + d.size
  | [], _ => by
    show tot [(⟨s, d⟩ : Fl)] + 0 ≤ 0 + d.size
    rw [tot_one]
    simp
  | f :: L, h => by
    obtain ⟨h1, h2⟩ := List.pairwise_cons.1 h
    rw [putR]
    unfold oldSz
    rw [getF_cons]
    split
    · simp only
      rw [tot_cons, tot_cons]
      show d.size + tot L + f.d.size ≤ _
      omega
    · rename_i he
      split
      · have ih := putR_tot (s := s) (d := d) h2
        unfold oldSz at ih
        rw [tot_cons, tot_cons]
        omega
      · rename_i hl
        have hsf : lessN s f.n = true := lessN_tri (by simpa using hl) (by simpa using he)
        rw [getF_out (fun g hg => fun q => lessN_ne (lessN_trans hsf (h1 g hg)) q.symm)]
        rw [tot_cons, tot_cons]
        show d.size + (f.d.size + tot L) + 0 ≤ _
        omega
theorem doF_tot {K : List Fl} (h : UpF K) (o : Dop) : tot (doF K o).1 ≤ tot K + o.d.size := by
  unfold doF
  split
  · show tot (putF _ _ _) ≤ _
    rw [putF_eq h]
    have := putR_tot (s := o.n) (d := match getF K o.n with | some x => x ++ o.d | none => o.d) h
    unfold oldSz at this
    cases hg : getF K o.n with
    | none => rw [hg] at this; simp only at this ⊢; omega
    | some x => rw [hg] at this; simp only [ByteArray.size_append] at this ⊢; omega
  · cases hg : getF K o.n with
    | none => show tot K ≤ _; omega
    | some x =>
      have hc := cut_tot hg
      simp only
      split
      · show tot (putF _ _ _) ≤ _
        have := tot_put (cutF K o.n) o.t x
        omega
      · show tot (cutF _ _) ≤ _
        omega
theorem doF_len1 {K : List Fl} (h : UpF K) (o : Dop) : (doF K o).1.length ≤ K.length + 1 := by
  have hp : ∀ {L : List Fl} (_ : UpF L) (s d : ByteArray), (putF L s d).length ≤ L.length + 1 := fun {L} hu s d => by
    rw [putF_eq hu, putR_len hu]
    split <;> omega
  unfold doF
  split
  · exact hp h _ _
  · cases hg : getF K o.n with
    | none => show K.length ≤ _; omega
    | some x =>
      have hc := cutF_len K o.n
      simp only
      split
      · have := hp (cutF_up h o.n) o.t x
        show (putF _ _ _).length ≤ _
        omega
      · show (cutF _ _).length ≤ _
        omega
/-- what is left of an op when power is lost while it is written -/
def tornO (o : Dop) (t : Nat) : Dop := if o.k = 1 ∧ t < o.d.size then ⟨o.k, o.n, o.t, o.d.extract 0 t⟩ else o
/-- the op that is done at that place of those kept -/
def opAt (O : List Dop) (Z : List Int) (t i : Nat) : Dop := if i + 1 = Z.length then tornO (O.getD (Z.getD i 0).toNat dopZ) t else O.getD (Z.getD i 0).toNat dopZ
/-- the files behind so many of those kept -/
def crF (S : List Fl) (O : List Dop) (Z : List Int) (t : Nat) : Nat → List Fl
  | 0 => S
  | k + 1 => (doF (crF S O Z t k) (opAt O Z t k)).1
def plB (n : Nat) (Z : List Int) (i : Nat) : Bool := inB 0 ((n : Int) - 1) (Z.getD i 0) && (decide (i = 0) || decide (Z.getD (i - 1) 0 < Z.getD i 0))
/-- they rise, and are places -/
def placesB (n : Nat) (Z : List Int) : Bool := (List.range Z.length).all fun i => plB n Z i
theorem placesB_at {n : Nat} {Z : List Int} (h : placesB n Z = true) {i : Nat} (hi : i < Z.length) : 0 ≤ Z.getD i 0 ∧ Z.getD i 0 < n ∧ (0 < i → Z.getD (i - 1) 0 < Z.getD i 0) := by
  unfold placesB at h
  rw [List.all_eq_true] at h
  have := h i (List.mem_range.2 hi)
  unfold plB inB at this
  simp only [Bool.and_eq_true, Bool.or_eq_true, decide_eq_true_eq] at this
  obtain ⟨⟨h1, h2⟩, h3⟩ := this
  exact ⟨h1, by omega, fun hp => h3.resolve_left (by omega)⟩
theorem placesB_no {n : Nat} {Z : List Int} {i : Nat} (hi : i < Z.length) (h : plB n Z i = false) : placesB n Z = false := by
  cases hq : placesB n Z with
  | false => rfl
  | true =>
    unfold placesB at hq
    rw [List.all_eq_true] at hq
    rw [hq i (List.mem_range.2 hi)] at h
    cases h
theorem placesB_yes {n : Nat} {Z : List Int} (h : ∀ i, i < Z.length → plB n Z i = true) : placesB n Z = true := by
  unfold placesB
  rw [List.all_eq_true]
  exact fun i hi => h i (List.mem_range.1 hi)
theorem places_ge {n : Nat} {Z : List Int} (h : placesB n Z = true) : ∀ i, i < Z.length → (i : Int) ≤ Z.getD i 0
  | 0, hi => (placesB_at h hi).1
  | i + 1, hi => by
    have h1 := places_ge h i (by omega)
    have h2 := (placesB_at h hi).2.2 (by omega)
    rw [Nat.add_sub_cancel] at h2
    omega
theorem places_len {n : Nat} {Z : List Int} (h : placesB n Z = true) : Z.length ≤ n := by
  rcases Nat.eq_zero_or_pos Z.length with hz | hz
  · omega
  · have h1 := places_ge h (Z.length - 1) (by omega)
    have h2 := (placesB_at h (show Z.length - 1 < Z.length by omega)).2.1
    omega
theorem torn_size (o : Dop) (t : Nat) : (tornO o t).d.size ≤ o.d.size ∧ (tornO o t).n = o.n ∧ (tornO o t).t = o.t ∧ (tornO o t).k = o.k := by
  unfold tornO
  split
  · refine ⟨?_, rfl, rfl, rfl⟩
    show (o.d.extract 0 t).size ≤ _
    rw [ByteArray.size_extract]
    omega
  · exact ⟨Nat.le_refl _, rfl, rfl, rfl⟩
theorem torn_form {o : Dop} (h : formB o = true) (t : Nat) : formB (tornO o t) = true := by
  unfold tornO
  split
  · rename_i hk
    unfold formB at h ⊢
    simp only [hk.1] at h ⊢
    simpa using h
  · exact h
theorem runB_form : ∀ {O : List Dop} {S n : List Fl}, runB S O = some n → ∀ o ∈ O, formB o = true
  | [], _, _, _, o, ho => by cases ho
  | q :: O, S, n, h, o, ho => by
    rw [runB] at h
    split at h
    · rename_i hq
      simp only [Bool.and_eq_true] at hq
      rcases List.mem_cons.1 ho with e | e
      · rw [e]; exact hq.2.1
      · exact runB_form h o e
    · cases h
theorem disk_forms {L S : List Fl} {O : List Dop} (h : diskB L S O = true) : ∀ o ∈ O, formB o = true := by
  unfold diskB at h
  simp only [Bool.and_eq_true] at h
  have h4 := h.2.2.2
  cases hr : runB S O with
  | none => rw [hr] at h4; cases h4
  | some n => exact runB_form hr
theorem getD_mem {O : List Dop} {i : Nat} (h : i < O.length) : O.getD i dopZ ∈ O := by
  simp [h]
theorem doF_in {K : List Fl} (h : UpF K) {o : Dop} (hk : o.k = 1) : o.d.size ≤ tot (doF K o).1 := by
  unfold doF
  rw [if_pos hk]
  show _ ≤ tot (putF _ _ _)
  rw [putF_eq h]
  have hq := putR_get h o.n (match getF K o.n with | some x => x ++ o.d | none => o.d) o.n
  rw [if_pos (beq_self_eq_true o.n.toList)] at hq
  obtain ⟨f, hf, e⟩ := getF_mem hq
  have := tot_mem hf
  rw [e] at this
  cases hg : getF K o.n with
  | none => rw [hg] at this; exact this
  | some x => rw [hg] at this; simp only [ByteArray.size_append] at this ⊢; omega
theorem form_empty {o : Dop} (h : formB o = true) (hk : o.k ≠ 1) : o.d.size = 0 := by
  have hz : o.d.toList.isEmpty = true := by
    unfold formB at h
    simp only [Bool.and_eq_true] at h
    have h2 := h.2.2
    split at h2
    · simp only [Bool.and_eq_true] at h2
      exact h2.2
    · simp only [Bool.and_eq_true, Bool.or_eq_true, beq_iff_eq] at h2
      exact h2.2.resolve_left hk
  rw [ByteArray.toList_eq, List.isEmpty_iff] at hz
  show o.d.data.size = 0
  rw [← Array.length_toList, hz]
  rfl
theorem runB_small : ∀ {O : List Dop} {S n : List Fl}, UpF S → runB S O = some n → ∀ o ∈ O, o.d.size ≤ 200000
  | [], _, _, _, _, o, ho => by cases ho
  | q :: O, S, n, hu, h, o, ho => by
    rw [runB] at h
    split at h
    · rename_i hq
      simp only [Bool.and_eq_true] at hq
      rcases List.mem_cons.1 ho with e | e
      · rw [e]
        by_cases hk : q.k = 1
        · have h1 := doF_in hu hk
          have h2 := (filesB_parts hq.2.2).2.1
          omega
        · rw [form_empty hq.2.1 hk]
          omega
      · exact runB_small (doF_up hu q) h o e
    · cases h
theorem disk_small {L S : List Fl} {O : List Dop} (h : diskB L S O = true) : ∀ o ∈ O, o.d.size ≤ 200000 := by
  unfold diskB at h
  simp only [Bool.and_eq_true] at h
  have h4 := h.2.2.2
  cases hr : runB S O with
  | none => rw [hr] at h4; cases h4
  | some n => exact runB_small (filesB_up h.2.1) hr
theorem opAt_is {L S : List Fl} {O : List Dop} {Z : List Int} {t i : Nat} (hd : diskB L S O = true) (hz : ∀ o ∈ O, o.d.size ≤ 100000000) (hp : placesB O.length Z = true) (hi : i < Z.length) : formB (opAt O Z t i) = true ∧ (opAt O Z t i).d.size ≤ 100000000 := by
  have h1 := placesB_at hp hi
  have hm : O.getD (Z.getD i 0).toNat dopZ ∈ O := getD_mem (by omega)
  unfold opAt
  split
  · exact ⟨torn_form (disk_forms hd _ hm) t, Nat.le_trans (torn_size _ t).1 (hz _ hm)⟩
  · exact ⟨disk_forms hd _ hm, hz _ hm⟩
theorem crF_facts {L S : List Fl} {O : List Dop} {Z : List Int} {t : Nat} {M : Nat} (hd : diskB L S O = true) (hu : UpF S) (hn : ∀ f ∈ S, nmB f.n = true) (hz : ∀ o ∈ O, o.d.size ≤ M) (hp : placesB O.length Z = true) : ∀ k, k ≤ Z.length → UpF (crF S O Z t k) ∧ (∀ f ∈ crF S O Z t k, nmB f.n = true) ∧ (crF S O Z t k).length ≤ S.length + k ∧ tot (crF S O Z t k) ≤ tot S + k * M
  | 0, _ => ⟨hu, hn, Nat.le_refl _, by show tot S ≤ _; omega⟩
  | k + 1, hk => by
    obtain ⟨i1, i2, i3, i4⟩ := crF_facts hd hu hn hz hp k (by omega)
    have h1 := placesB_at hp (show k < Z.length by omega)
    have hm : O.getD (Z.getD k 0).toNat dopZ ∈ O := getD_mem (by omega)
    have hf : formB (opAt O Z t k) = true ∧ (opAt O Z t k).d.size ≤ M := by
      unfold opAt
      split
      · exact ⟨torn_form (disk_forms hd _ hm) t, Nat.le_trans (torn_size _ t).1 (hz _ hm)⟩
      · exact ⟨disk_forms hd _ hm, hz _ hm⟩
    have e1 := doF_len1 i1 (opAt O Z t k)
    have e2 := doF_tot i1 (opAt O Z t k)
    refine ⟨doF_up i1 _, doF_names i2 hf.1, ?_, ?_⟩
    · show (doF _ _).1.length ≤ _
      omega
    · show tot (doF _ _).1 ≤ _
      rw [Nat.add_mul, Nat.one_mul]
      omega
end Go.Proofs.Ytbohaefmokbgbaa

namespace Go.Proofs.Ytbohaefmokbgbaa
open Go.RowKit
set_option linter.unusedVariables false

def upI (Z : List Int) (i : Nat) : Bool := decide (i = 0) || decide (Z.getD (i - 1) 0 < Z.getD i 0)
def risesB (Z : List Int) : Bool := (List.range Z.length).all fun i => upI Z i
theorem risesB_no {Z : List Int} {i : Nat} (hi : i < Z.length) (h : upI Z i = false) : risesB Z = false := by
  cases hq : risesB Z with
  | false => rfl
  | true =>
    unfold risesB at hq
    rw [List.all_eq_true] at hq
    rw [hq i (List.mem_range.2 hi)] at h
    cases h
theorem risesB_yes {Z : List Int} (h : ∀ i, i < Z.length → upI Z i = true) : risesB Z = true := by
  unfold risesB
  rw [List.all_eq_true]
  exact fun i hi => h i (List.mem_range.1 hi)
theorem rises_up {Z : List Int} (h : risesB Z = true) {i : Nat} (hi : i < Z.length) : upI Z i = true := by
  unfold risesB at h
  rw [List.all_eq_true] at h
  exact h i (List.mem_range.2 hi)
theorem rises_le {Z : List Int} (h : risesB Z = true) : ∀ i, i < Z.length → Z.getD 0 0 ≤ Z.getD i 0
  | 0, _ => Int.le_refl _
  | i + 1, hi => by
    have h1 := rises_le h i (by omega)
    have h2 := rises_up h hi
    unfold upI at h2
    simp only [Bool.or_eq_true, decide_eq_true_eq, Nat.add_sub_cancel] at h2
    rcases h2 with h2 | h2 <;> omega
theorem rises_last {Z : List Int} (h : risesB Z = true) : ∀ d i, i + d + 1 = Z.length → Z.getD i 0 ≤ Z.getD (Z.length - 1) 0
  | 0, i, hi => by
    have : Z.length - 1 = i := by omega
    rw [this]
    exact Int.le_refl _
  | d + 1, i, hi => by
    have h1 := rises_last h d (i + 1) (by omega)
    have h2 := rises_up h (show i + 1 < Z.length by omega)
    unfold upI at h2
    simp only [Bool.or_eq_true, decide_eq_true_eq, Nat.add_sub_cancel] at h2
    rcases h2 with h2 | h2 <;> omega
theorem places_is {n : Nat} {Z : List Int} (hz : 0 < Z.length) : placesB n Z = (risesB Z && (decide (0 ≤ Z.getD 0 0) && decide (Z.getD (Z.length - 1) 0 < n))) := by
  rw [Bool.eq_iff_iff]
  constructor
  · intro h
    simp only [Bool.and_eq_true, decide_eq_true_eq]
    refine ⟨risesB_yes fun i hi => ?_, (placesB_at h hz).1, (placesB_at h (show Z.length - 1 < Z.length by omega)).2.1⟩
    have := (placesB_at h hi).2.2
    unfold upI
    simp only [Bool.or_eq_true, decide_eq_true_eq]
    rcases Nat.eq_zero_or_pos i with h0 | h0
    · exact .inl h0
    · exact .inr (this h0)
  · intro h
    simp only [Bool.and_eq_true, decide_eq_true_eq] at h
    refine placesB_yes fun i hi => ?_
    have h1 := rises_le h.1 i hi
    have h2 := rises_last h.1 (Z.length - 1 - i) i (by omega)
    have h3 := rises_up h.1 hi
    unfold upI at h3
    unfold plB inB
    rw [h3, decide_eq_true (by omega), decide_eq_true (by omega)]
    rfl

set_option maxRecDepth 4000 in
set_option maxHeartbeats 2000000 in
theorem rises_any (v : Value) (Z : List Int) (w : World) (h : RdI w v Z) :
    Calls Try.prog 73 #[v] w fun e w' => e = .returned (.bool (risesB Z)) ∧ Below w.heap.size w w' := by
  obtain ⟨a, cap, rfl, hlc, hcm, hc⟩ := h
  obtain ⟨n, hn⟩ : ∃ n, n = Z.length := ⟨_, rfl⟩
  have HN : Hid (n = Z.length) := hn
  rw [← hn] at hlc hc ⊢
  clear hn
  go_enter Try.func73, Try.ntmps73
  go_wp2
  go_loopw [3] (fun i wr => ∃ (k : Nat), 1 ≤ k ∧ (k ≤ n ∨ k = 1) ∧ i = .int .i64 k ∧ Hid ((∀ j, j < k → j < n → upI Z j = true) ∧ Below w.heap.size w wr)) (fun i _ => n - (intOf i).toNat)
  case atStart => exact ⟨1, Nat.le_refl _, .inr rfl, rfl, (fun j hj _ => by
      have h0 : j = 0 := by omega
      subst h0
      rfl), Below.refl _ _⟩
  case round =>
    obtain ⟨k, hk1, hk2, rfl, HI⟩ := hrel
    by_cases hlt : k < n
    · have hltI : (k : Int) < (n : Int) := by omega
      obtain ⟨b, off, rfl, hbs, hl⟩ := hc (by omega)
      obtain ⟨k1, hkk⟩ : ∃ k1, k1 = k - 1 := ⟨_, rfl⟩
      have d0 := (HI.out.2.cell (p := ⟨b, off + k, none⟩) hbs).trans (hl k hlt)
      have d1 := (HI.out.2.cell (p := ⟨b, off + k1, none⟩) hbs).trans (hl k1 (by omega))
      have HU : Hid (upI Z k = decide (Z.getD k1 0 < Z.getD k 0)) := by
        show _ = _
        unfold upI
        rw [decide_eq_false (show ¬ k = 0 by omega), hkk]
        rfl
      obtain ⟨x, hx⟩ : ∃ x, x = Z.getD k 0 := ⟨_, rfl⟩
      obtain ⟨y, hy⟩ : ∃ y, y = Z.getD k1 0 := ⟨_, rfl⟩
      rw [← hx] at d0 HU
      rw [← hy] at d1 HU
      have hk1I : IntKind.i64.wrap ((k : Int) - 1) = (k1 : Int) := by rw [IntKind.wrap_i64]; omega
      have hk1n : (k1 : Int) < (n : Int) := by omega
      have hk1m : k1 < n := by omega
      have HB : Hid (Below w.heap.size w wr) := HI.out.2
      have s0 : ∀ s : Later wr, s.val.cell? ⟨b, off + k, none⟩ = some (.int .i64 x) := fun s => s.cell d0
      have s1 : ∀ s : Later wr, s.val.cell? ⟨b, off + k1, none⟩ = some (.int .i64 y) := fun s => s.cell d1
      have hne := Later.any wr
      clear hl hc hx hy d0 d1
      by_cases hxy : y < x
      · have hxz : ¬ x ≤ y := by omega
        have HJ : Hid (∀ j, j < k + 1 → j < n → upI Z j = true) := fun j hj hjn => by
          rcases Nat.lt_succ_iff_lt_or_eq.1 hj with h | rfl
          · exact HI.out.1 j h hjn
          · rw [HU.out]; exact decide_eq_true hxy
        clear hkk
        go_wp2
        refine wp_region_later (by kernel_rfl) (by kernel_rfl) ?_
        repeat (go_big_quiet_step (fail))
        refine wpQuiet_nil ?_
        rintro _ ⟨s5, rfl⟩
        have HB5 : Hid (Below w.heap.size w s5.val) := HB.out.trans (s5.ok.mono HB.out.size)
        obtain ⟨w6, hw6⟩ : ∃ w6, w6 = s5.val := ⟨_, rfl⟩
        rw [← hw6] at HB5 ⊢
        clear hw6 hne s0 s1 s5
        go_wp2
        exact ⟨⟨k + 1, by omega, .inl (by omega), by simp, HJ.out, HB5.out⟩, by simp [intOf]; omega⟩
      · have hxz : x ≤ y := by omega
        have HR : Hid (risesB Z = false) := risesB_no (i := k) (by rw [← HN.out]; exact hlt) (by rw [HU.out]; exact decide_eq_false hxy)
        clear hkk
        go_wp2
        refine wp_region_later (by kernel_rfl) (by kernel_rfl) ?_
        repeat (go_big_quiet_step (fail))
        refine wpQuiet_nil ?_
        rintro _ ⟨s5, rfl⟩
        have HB5 : Hid (Below w.heap.size w s5.val) := HB.out.trans (s5.ok.mono HB.out.size)
        obtain ⟨w6, hw6⟩ : ∃ w6, w6 = s5.val := ⟨_, rfl⟩
        rw [← hw6] at HB5 ⊢
        clear hw6 hne s0 s1 s5
        go_wp2
        go_ret
        exact ⟨ret_bool HR.out.symm, HB5.out⟩
    · have hltI : ¬ (k : Int) < (n : Int) := by omega
      have HR : Hid (risesB Z = true) := risesB_yes fun j hj => HI.out.1 j (by rw [← HN.out] at hj; omega) (by rw [HN.out]; exact hj)
      have HB : Hid (Below w.heap.size w wr) := HI.out.2
      go_wp2
      go_ret
      exact ⟨ret_bool HR.out.symm, HB.out⟩

set_option maxRecDepth 4000 in
set_option maxHeartbeats 2000000 in
theorem placesOk_any (v : Value) (Z : List Int) (m : Nat) (w : World) (h : RdI w v Z) (hm : m ≤ 1048576) :
    Calls Try.prog 40 #[v, .int .i64 (m : Int)] w fun e w' => e = .returned (.bool (placesB m Z)) ∧ Below w.heap.size w w' := by
  have HRD : Hid (RdI w v Z) := h
  obtain ⟨a, cap, rfl, hlc, hcm, hc⟩ := h
  obtain ⟨n, hn⟩ : ∃ n, n = Z.length := ⟨_, rfl⟩
  have HN : Hid (n = Z.length) := hn
  rw [← hn] at hlc hc ⊢
  rw [← hn] at HRD
  by_cases h0 : n = 0
  · have HR : Hid (placesB m Z = true) := placesB_yes fun i hi => absurd hi (by omega)
    have h0I : (n : Int) = 0 := by omega
    subst h0
    go_enter Try.func40, Try.ntmps40
    go_wp2
    go_ret
    exact ⟨ret_bool HR.out.symm, Below.refl _ _⟩
  · have h0I : ¬ (n : Int) = 0 := by omega
    have HP := (show Hid _ from places_is (n := m) (Z := Z) (by omega))
    rw [← hn] at HP
    obtain ⟨b, off, rfl, hbs, hl⟩ := hc (by omega)
    obtain ⟨n1, hn1⟩ : ∃ n1, n1 = n - 1 := ⟨_, rfl⟩
    have HC : Hid (∀ w', Below w.heap.size w w' → w'.cell? ⟨b, off, none⟩ = some (.int .i64 (Z.getD 0 0)) ∧ w'.cell? ⟨b, off + n1, none⟩ = some (.int .i64 (Z.getD n1 0))) := fun w' hB => ⟨(hB.cell (p := ⟨b, off, none⟩) hbs).trans (hl 0 (by omega)), (hB.cell (p := ⟨b, off + n1, none⟩) hbs).trans (hl n1 (by omega))⟩
    rw [← hn1] at HP
    obtain ⟨x, hx⟩ : ∃ x, x = Z.getD 0 0 := ⟨_, rfl⟩
    obtain ⟨y, hy⟩ : ∃ y, y = Z.getD n1 0 := ⟨_, rfl⟩
    rw [← hx] at HC HP
    rw [← hy] at HC HP
    have hwr : IntKind.i64.wrap ((n : Int) - 1) = (n1 : Int) := by rw [IntKind.wrap_i64]; omega
    have hwr2 : (n : Int) - 1 = (n1 : Int) := by omega
    have hn1I : (n1 : Int) < (n : Int) := by omega
    have hn1m : n1 < n := by omega
    have hn0I : (0 : Int) < (n : Int) := by omega
    have hn0m : 0 < n := by omega
    clear hl hc hx hy hn hn1
    go_enter Try.func40, Try.ntmps40
    go_wp2_with fail
    refine (rises_any _ Z w HRD.out).mono ?_
    rintro e w1 ⟨rfl, hB1⟩
    obtain ⟨c0, c1⟩ := HC.out w1 hB1
    have HB : Hid (Below w.heap.size w w1) := hB1
    clear hB1
    cases hr : risesB Z with
    | false =>
      rw [hr] at HP
      go_wp2
      go_ret
      exact ⟨ret_bool HP.out.symm, HB.out⟩
    | true =>
      rw [hr] at HP
      by_cases h1 : 0 ≤ x
      · rw [decide_eq_true h1] at HP
        go_wp2
        go_ret
        exact ⟨ret_bool HP.out.symm, HB.out⟩
      · rw [decide_eq_false h1] at HP
        go_wp2
        go_ret
        exact ⟨ret_bool HP.out.symm, HB.out⟩
end Go.Proofs.Ytbohaefmokbgbaa

namespace Go.Proofs.Ytbohaefmokbgbaa
open Go.RowKit
set_option linter.unusedVariables false

theorem lt_of_cell {w : World} {p : Addr} {v : Value} (h : w.cell? p = some v) : p.block < w.heap.size := by
  rcases Nat.lt_or_ge p.block w.heap.size with h' | h'
  · exact h'
  · unfold World.cell? at h
    rw [Array.getElem?_eq_none h'] at h
    simp at h
theorem q_idxI (ev : Operand → Value) (o : Oper) (w : World) (x y : Operand) (b off n c m : Nat) (h : o.op = .indexAddr 35 x y) (hx : ev x = .slice (some ⟨b, off, none⟩) n c) (hy : ev y = .int .i64 m) (hm : m < n) : (execOp ev o).run Try.prog w = .ok (.value (.pointer (some ⟨b, off + m, none⟩))) w := by
  have hmI : (m : Int) < (n : Int) := by omega
  simp [execOp, h, hx, hy]
  go_simp
theorem q_loadI (ev : Operand → Value) (o : Oper) (w : World) (x : Operand) (p k : Nat) (c : Int) (h : o.op = .load 2 x) (hx : ev x = .pointer (some ⟨p, k, none⟩)) (hc : w.cell? ⟨p, k, none⟩ = some (.int .i64 c)) : (execOp ev o).run Try.prog w = .ok (.value (.int .i64 c)) w := by
  simp [execOp, h, hx]
  go_simp
theorem q_idxO (ev : Operand → Value) (o : Oper) (w : World) (x y : Operand) (b off n c m : Nat) (h : o.op = .indexAddr 25 x y) (hx : ev x = .slice (some ⟨b, off, none⟩) n c) (hy : ev y = .int .i64 m) (hm : m < n) : (execOp ev o).run Try.prog w = .ok (.value (.pointer (some ⟨b, off + m * 4, none⟩))) w := by
  have hmI : (m : Int) < (n : Int) := by omega
  simp [execOp, h, hx, hy]
  go_simp
theorem q_loadOA (ev : Operand → Value) (o' : Oper) (w : World) (x : Operand) (p q : Nat) (o : Dop) (h : o'.op = .load 49 x) (hx : ev x = .pointer (some ⟨p, q, none⟩)) (e0 : w.cell? ⟨p, q, none⟩ = some (.int .i64 o.k)) (e1 : w.cell? ⟨p, q + 1, none⟩ = some (.string o.n)) (e2 : w.cell? ⟨p, q + 2, none⟩ = some (.string o.t)) (e3 : w.cell? ⟨p, q + 3, none⟩ = some (.string o.d)) : (execOp ev o').run Try.prog w = .ok (.value (.agg #[.int .i64 o.k, .string o.n, .string o.t, .string o.d])) w := by
  simp [execOp, h, hx]
  go_simp
theorem q_allocO (ev : Operand → Value) (o : Oper) (w : World) (h : o.op = .alloc 49) : (execOp ev o).run Try.prog w = .ok (.value (.pointer (some ⟨w.heap.size, 0, none⟩))) (w.alloc (.cells #[.int .i64 0, .string ⟨#[]⟩, .string ⟨#[]⟩, .string ⟨#[]⟩] 49)) := by
  simp [execOp, h]
  go_simp
theorem q_storeO (ev : Operand → Value) (o' : Oper) (w : World) (x y : Operand) (r : Nat) (o : Dop) (h : o'.op = .store 49 x y) (hx : ev x = .pointer (some ⟨r, 0, none⟩)) (hy : ev y = .agg #[.int .i64 o.k, .string o.n, .string o.t, .string o.d]) (hb : w.heap[r]? = some (.cells #[.int .i64 0, .string ⟨#[]⟩, .string ⟨#[]⟩, .string ⟨#[]⟩] 49 (0, 0))) : ∃ w', (execOp ev o').run Try.prog w = .ok .skip w' ∧ w'.heap[r]? = some (.cells #[.int .i64 o.k, .string o.n, .string o.t, .string o.d] 49 (0, 0)) ∧ (∀ q, q ≠ r → w'.heap[q]? = w.heap[q]?) ∧ w'.heap.size = w.heap.size ∧ w'.os = w.os ∧ w'.tape = w.tape ∧ w'.output = w.output := by
  have e0 : w.cell? ⟨r, 0, none⟩ = some (.int .i64 0) := cellN hb
  have e1 : w.cell? ⟨r, 1, none⟩ = some (.string ⟨#[]⟩) := cellN hb
  have e2 : w.cell? ⟨r, 2, none⟩ = some (.string ⟨#[]⟩) := cellN hb
  have e3 : w.cell? ⟨r, 3, none⟩ = some (.string ⟨#[]⟩) := cellN hb
  have f0 : w.frozen? ⟨r, 0, none⟩ = false := frozN hb
  have f1 : w.frozen? ⟨r, 1, none⟩ = false := frozN hb
  have f2 : w.frozen? ⟨r, 2, none⟩ = false := frozN hb
  have f3 : w.frozen? ⟨r, 3, none⟩ = false := frozN hb
  refine ⟨(((w.setCell ⟨r, 0, none⟩ (.int .i64 o.k)).setCell ⟨r, 1, none⟩ (.string o.n)).setCell ⟨r, 2, none⟩ (.string o.t)).setCell ⟨r, 3, none⟩ (.string o.d), ?_, ?_, fun q hq => ?_, by simp [World.setCell], rfl, rfl, rfl⟩
  · simp [execOp, h, hx, hy]
    go_simp
  · have b1 : (w.setCell ⟨r, 0, none⟩ (.int .i64 o.k)).heap[r]? = some (.cells #[.int .i64 o.k, .string ⟨#[]⟩, .string ⟨#[]⟩, .string ⟨#[]⟩] 49 (0, 0)) := by rw [heap_setCell_same _ _ _ _ 49 _ hb]; rfl
    have b2 : ((w.setCell ⟨r, 0, none⟩ (.int .i64 o.k)).setCell ⟨r, 1, none⟩ (.string o.n)).heap[r]? = some (.cells #[.int .i64 o.k, .string o.n, .string ⟨#[]⟩, .string ⟨#[]⟩] 49 (0, 0)) := by rw [heap_setCell_same _ _ _ _ 49 _ b1]; rfl
    have b3 : (((w.setCell ⟨r, 0, none⟩ (.int .i64 o.k)).setCell ⟨r, 1, none⟩ (.string o.n)).setCell ⟨r, 2, none⟩ (.string o.t)).heap[r]? = some (.cells #[.int .i64 o.k, .string o.n, .string o.t, .string ⟨#[]⟩] 49 (0, 0)) := by rw [heap_setCell_same _ _ _ _ 49 _ b2]; rfl
    rw [heap_setCell_same _ _ _ _ 49 _ b3]
    rfl
  · rw [Below.heap_setCell _ _ _ _ hq, Below.heap_setCell _ _ _ _ hq, Below.heap_setCell _ _ _ _ hq, Below.heap_setCell _ _ _ _ hq]
theorem wpOp_storeO {ops : Array Oper} {Q : Exit → Act → World → Prop} {i' : Nat} {o' : Oper} {K : Act → World → Prop} {t : Act} {w : World} (ho : ops[i']? = some o') (hg : Region.wanted o' (yielded ops t.tmps) = true) (x y : Operand) (r : Nat) (o : Dop) (h : o'.op = .store 49 x y) (hx : t.eval x = .pointer (some ⟨r, 0, none⟩)) (hy : t.eval y = .agg #[.int .i64 o.k, .string o.n, .string o.t, .string o.d]) (hb : w.heap[r]? = some (.cells #[.int .i64 0, .string ⟨#[]⟩, .string ⟨#[]⟩, .string ⟨#[]⟩] 49 (0, 0)))
    (hK : ∀ w', w'.heap[r]? = some (.cells #[.int .i64 o.k, .string o.n, .string o.t, .string o.d] 49 (0, 0)) → (∀ q, q ≠ r → w'.heap[q]? = w.heap[q]?) → w'.heap.size = w.heap.size → w'.os = w.os → w'.tape = w.tape → w'.output = w.output → K (t.put o'.dst undef) w') : wpOp Try.prog ops Q i' K t w := by
  obtain ⟨w', hr, h1, h2, h3, h4, h5, h6⟩ := q_storeO t.eval o' w x y r o h hx hy hb
  exact wpOp_runS ho hg hr (hK w' h1 h2 h3 h4 h5 h6)

def dsV : List Nat := [63, 64, 65, 66, 67, 68, 69, 70, 11]
def slotV (j : Nat) : Nat := dsV.getD j 0
theorem slotV_inj (i j : Nat) (hi : i < 9) (hj : j < 9) (q : slotV i = slotV j) : i = j := by
  have h : ∀ i : Fin 9, ∀ j : Fin 9, slotV i.val = slotV j.val → i.val = j.val := by decide
  exact h ⟨i, hi⟩ ⟨j, hj⟩ q
theorem slotV_mem (i : Nat) (hi : i < 9) : slotV i ∈ dsV := by
  have h : ∀ i : Fin 9, slotV i.val ∈ dsV := by decide
  exact h ⟨i, hi⟩
/-- what each step of the region has given -/
def VF (B base b off nK cK k x b2 off2 nO cO : Nat) (o : Dop) : Nat → (Nat → Value) → World → Prop
  | 0, f, _ => f 63 = .pointer (some ⟨B, 2, none⟩)
  | 1, f, _ => f 64 = .slice (some ⟨b2, off2, none⟩) nO cO
  | 2, f, _ => f 65 = .slice (some ⟨b, off, none⟩) nK cK
  | 3, f, _ => f 66 = .int .i64 (k : Int)
  | 4, f, _ => f 67 = .pointer (some ⟨b, off + k, none⟩)
  | 5, f, _ => f 68 = .int .i64 (x : Int)
  | 6, f, _ => f 69 = .pointer (some ⟨b2, off2 + x * 4, none⟩)
  | 7, f, _ => f 70 = .agg #[.int .i64 o.k, .string o.n, .string o.t, .string o.d]
  | 8, f, w => ∃ g, f 11 = .pointer (some ⟨g, 0, none⟩) ∧ base ≤ g ∧ w.heap[g]? = some (.cells #[.int .i64 0, .string ⟨#[]⟩, .string ⟨#[]⟩, .string ⟨#[]⟩] 49 (0, 0))
  | _, _, _ => True
theorem VF.below {B base b off nK cK k x b2 off2 nO cO : Nat} {o : Dop} {j : Nat} {f : Nat → Value} {w w' : World} (h : VF B base b off nK cK k x b2 off2 nO cO o j f w) (hB : Below w.heap.size w w') : VF B base b off nK cK k x b2 off2 nO cO o j f w' := by
  match j, h with
  | 0, h => exact h
  | 1, h => exact h
  | 2, h => exact h
  | 3, h => exact h
  | 4, h => exact h
  | 5, h => exact h
  | 6, h => exact h
  | 7, h => exact h
  | 8, h => exact (by obtain ⟨g, e, hb, hh⟩ := h; exact ⟨g, e, hb, (hB.block _ (lt_of_block hh)).trans hh⟩)
  | (m + 9), _ => exact trivial
theorem VF.dep {B base b off nK cK k x b2 off2 nO cO : Nat} {o : Dop} {j : Nat} {f f' : Nat → Value} {w : World} (hj : j < 9) (h : VF B base b off nK cK k x b2 off2 nO cO o j f w) (he : f (slotV j) = f' (slotV j)) : VF B base b off nK cK k x b2 off2 nO cO o j f' w := by
  match j, hj, h, he with
  | 0, _, h, he => have e : f 63 = f' 63 := he; simp only [VF] at h ⊢; rw [← e]; exact h
  | 1, _, h, he => have e : f 64 = f' 64 := he; simp only [VF] at h ⊢; rw [← e]; exact h
  | 2, _, h, he => have e : f 65 = f' 65 := he; simp only [VF] at h ⊢; rw [← e]; exact h
  | 3, _, h, he => have e : f 66 = f' 66 := he; simp only [VF] at h ⊢; rw [← e]; exact h
  | 4, _, h, he => have e : f 67 = f' 67 := he; simp only [VF] at h ⊢; rw [← e]; exact h
  | 5, _, h, he => have e : f 68 = f' 68 := he; simp only [VF] at h ⊢; rw [← e]; exact h
  | 6, _, h, he => have e : f 69 = f' 69 := he; simp only [VF] at h ⊢; rw [← e]; exact h
  | 7, _, h, he => have e : f 70 = f' 70 := he; simp only [VF] at h ⊢; rw [← e]; exact h
  | 8, _, h, he => have e : f 11 = f' 11 := he; simp only [VF] at h ⊢; rw [← e]; exact h
  | (m + 9), hj, _, _ => exact absurd hj (by omega)
end Go.Proofs.Ytbohaefmokbgbaa
