/-
  The program's WrapsOf: as many texts as there are pairs of members and epochs. Conditions: the slice reads; the table of powers of ten lies.
  FnKeys, plainly: what a member's key leads to, and how many pairs of members and epochs there are. No condition.
  FnKeys' small functions: sameInts, sameTexts, the specification's WrapsOf. No condition but that the slices read.
  The law FnKeys returns true at every code. Conditions: the code reads as bytes; the table of powers of ten lies.
-/
import Derived.Test.YtpcbhjejpebogaaGreatDoorThI
import Derived.Test.YtpcbhjejpebogaaGreatDoorOqK
import Derived.Sort.OwnSorted
import Derived.Test.YtpcbhjejpebogaaGreatDoorThK
import Derived.Test.YtpcbhjejpebogaaGreatDoorThY
import Derived.Test.YtpcbhjejpebogaaGreatDoorThP
namespace Go.Proofs.YtpcbhjejpebogaaGreatDoor
open Go.RowKit Go.Shelf Go.Maps Go.Sort
attribute [local go_sem] Oper.semAt_some
set_option linter.unusedVariables false

section
variable (Kp : World → World → Prop)
set_option maxRecDepth 100000 in
set_option maxHeartbeats 2000000 in
theorem pairs_of (n : Nat) (hn : 1 ≤ n) (l Bl : Nat) (a : Option Addr) (len cap : Nat) (K : Nat → Int) (L : Nat → Nat) (M : Nat → Nat → Int) (J Jx : List (Int × Int) → World → Prop)
    (w W : World) (hwW : Below w.heap.size w W) (hk1 : ∀ A B, Kp A B → Below w.heap.size A B) (hk2 : ∀ (A B : World) (b : Nat) (cs : Array Value), Kp A B → A.heap[b]? = some (Obj.cells cs 45 (0, 0)) → B.heap[b]? = A.heap[b]?) (hJ : AbidesFrom W.heap.size J)
    (hY : ∀ pre x W1, J pre W1 → pre.length < (Ep.pairsOf K L M len).length → pre ++ [x] <+: Ep.pairsOf K L M len → YieldAt Fence.wide (n - 1) Tryz.prog l (Ep.encP x) W1 fun e W' =>
      (e = .returned (.bool true) ∧ J (pre ++ [x]) W' ∧ Kp W1 W') ∨ (e = .returned (.bool false) ∧ Jx (pre ++ [x]) W'))
    (hBlW : W.cell? ⟨Bl, 0, none⟩ = some (.slice a len cap)) (hI : Ep.IsEps w a len cap K L M) (h0 : J [] W) :
    CallsIn Fence.wide n Tryz.prog 82 #[.func (.yield l) #[] #[], .pointer (some ⟨Bl, 0, none⟩)] W fun e W' => (∃ v, e = .returned v) ∧
      ((∃ ys, ys = Ep.pairsOf K L M len ∧ J ys W') ∨ (∃ pre, pre <+: Ep.pairsOf K L M len ∧ Jx pre W')) := by
  obtain ⟨hlc, hcm, hc⟩ := hI
  refine callsIn_of_wp Tryz.func82 rfl trivial ?_ rfl
  simp only [Tryz.ntmps82, List.size_toArray, List.length_cons, List.length_nil, Nat.reduceAdd, Nat.reduceSub, Array.replicate_succ, Array.replicate_zero, List.push_toArray, List.append_toArray, List.nil_append, List.cons_append]
  gi_wp2
  gi_loopw [4, 6, 9] (fun _ _ i wr => ∃ k : Nat, k ≤ len ∧ i = .int .i64 k ∧ J (Ep.pairsOf K L M k) wr ∧ Below w.heap.size w wr) (fun _ _ i _ => len - (intOf i).toNat)
  case atStart => exact ⟨0, Nat.zero_le _, rfl, h0, hwW⟩
  case round =>
    obtain ⟨k, hk, rfl, hJk, hBk⟩ := hrel
    by_cases hlt : k < len
    · obtain ⟨b, off, A, C, rfl, hbs, hcell⟩ := hc (by omega)
      obtain ⟨c1, c2, c3⟩ := hcell k hlt
      have d1 := (hBk.cell (p := ⟨b, off + k * 2, none⟩) hbs).trans c1
      have d2 := (hBk.cell (p := ⟨b, off + k * 2 + 1, none⟩) hbs).trans c2
      have hLk : L k ≤ 9223372036854775807 := by have := c3.1; have := c3.2.1; omega
      have HC := (show Hid _ from hc)
      have H3 : Hid (Ep.IsI64 w (A k) (L k) (C k) (M k)) := c3
      clear hcell hc c1 c2 c3
      have hJA : J (Ep.partOf K L M k 0) (wr.alloc (.cells #[.int .i64 (K k), .slice (A k) (L k) (C k)] 45)) := by
        rw [Ep.part_zero]
        exact hJ _ _ _ none hJk (World.grownBy_alloc wr _ none) (fun r e => by cases e)
      have hKA : Below w.heap.size w (wr.alloc (.cells #[.int .i64 (K k), .slice (A k) (L k) (C k)] 45)) := hBk.alloc hBk.size _
      have q0 : (wr.alloc (.cells #[.int .i64 (K k), .slice (A k) (L k) (C k)] 45)).heap[wr.heap.size]? = some (.cells #[.int .i64 (K k), .slice (A k) (L k) (C k)] 45 (0, 0)) := World.alloc_heap_new wr _
      generalize A k = Ak at *
      obtain ⟨ce, hce⟩ : ∃ ce, ce = #[Value.int .i64 (K k), Value.slice Ak (L k) (C k)] := ⟨_, rfl⟩
      have HCE : Hid (ce = #[Value.int .i64 (K k), Value.slice Ak (L k) (C k)]) := hce
      have q1 : (wr.alloc (.cells #[.int .i64 (K k), .slice Ak (L k) (C k)] 45)).heap[wr.heap.size]? = some (.cells ce 45 (0, 0)) := by rw [hce]; exact q0
      clear hce q0
      gi_wp2
      gi_loopw [6, 16] (fun _ i w2 => ∃ j : Nat, j ≤ L k ∧ i = .int .i64 j ∧ J (Ep.partOf K L M k j) w2 ∧ Below w.heap.size w w2 ∧ w2.heap[wr.heap.size]? = some (.cells ce 45 (0, 0))) (fun _ i _ => L k - (intOf i).toNat)
      case atStart => exact ⟨0, Nat.zero_le _, rfl, hJA, hKA, q1⟩
      case round =>
        obtain ⟨j, hj, rfl, hJj, hBj, qj⟩ := hrel
        by_cases hjl : j < L k
        · obtain ⟨b2, off2, rfl, hb2, hcell2⟩ := H3.out.2.2 (by omega)
          have x1 := (hBj.cell (p := ⟨b2, off2 + j, none⟩) hb2).trans (hcell2 j hjl)
          have x2 := box_cell0 qj (v := .int .i64 (K k)) (by rw [HCE.out]; rfl)
          clear hcell2
          obtain ⟨fn, tmps, assign, body, hy, hR⟩ := hY (Ep.partOf K L M k j) (M k j, K k) _ hJj (Ep.part_lt hlt hjl) (by rw [← Ep.part_succ]; exact Ep.part_prefix hlt (by omega))
          dsimp only [Ep.encP] at hy
          gi_wp2
          refine hR.mono ?_
          rintro e W3 (⟨rfl, hJ3, hk3⟩ | ⟨rfl, hJx3⟩)
          · have q3 := (hk2 _ _ _ _ hk3 qj).trans qj
            have hB3 := hBj.trans (hk1 _ _ hk3)
            rw [← Ep.part_succ] at hJ3
            gi_wp2
            go_roundw
            case rel => exact ⟨j + 1, by omega, by go_num, hJ3, hB3, q3⟩
            case measure => simp [intOf]; omega
          · rw [← Ep.part_succ] at hJx3
            gi_wp2
            refine bodyPost_ret (results_none rfl _ _ _) rfl ?_
            exact ⟨⟨_, rfl⟩, .inr ⟨_, Ep.part_prefix hlt (by omega), hJx3⟩⟩
        · have hjL : j = L k := by omega
          subst hjL
          rw [Ep.part_full] at hJj
          gi_wp2
          go_roundw
          case rel => exact ⟨k + 1, by omega, by go_num, hJj, hBj⟩
          case measure => simp [intOf]; omega
    · have hke : k = len := by omega
      subst hke
      gi_wp2
      go_end0
      exact ⟨⟨_, rfl⟩, .inl ⟨_, rfl, hJk⟩⟩

end

/-- the pairs that there are -/
abbrev Pair (K : Nat → Int) (L : Nat → Nat) (M : Nat → Nat → Int) (len : Nat) := {p : Int × Int // p ∈ Ep.pairsOf K L M len}
theorem pairs_sub (Kp : World → World → Prop) (n : Nat) (hn : 1 ≤ n) (Bl : Nat) (a : Option Addr) (len cap : Nat) (K : Nat → Int) (L : Nat → Nat) (M : Nat → Nat → Int) (w w4 : World) (hw4 : Below w.heap.size w w4) (hk1 : ∀ A B, Kp A B → Below w.heap.size A B) (hk2 : ∀ (A B : World) (b : Nat) (cs : Array Value), Kp A B → A.heap[b]? = some (Obj.cells cs 45 (0, 0)) → B.heap[b]? = A.heap[b]?)
    (hBl : w4.cell? ⟨Bl, 0, none⟩ = some (.slice a len cap)) (hI : Ep.IsEps w a len cap K L M) :
    SeqStopsK Fence.wide n Tryz.prog 82 #[.pointer (some ⟨Bl, 0, none⟩)] (fun x : Pair K L M len => Ep.encP x.1) Kp (fun ys => ys.map Subtype.val = Ep.pairsOf K L M len) (fun _ => True) (Ep.pairsOf K L M len).length w4 := by
  intro l J Jx W hW hJ hJx hY h0
  refine (pairs_of Kp n hn l Bl a len cap K L M (fun pre W => ∃ pre' : List (Pair K L M len), pre'.map Subtype.val = pre ∧ J pre' W) (fun pre W => ∃ pre' : List (Pair K L M len), pre'.map Subtype.val = pre ∧ Jx pre' W) w W (hw4.trans (hW.mono hw4.size)) hk1 hk2 ?_ ?_ ((hW.cell (p := ⟨Bl, 0, none⟩) (Ep.cell_lt' hBl)).trans hBl) hI ⟨[], rfl, h0⟩).mono ?_
  · rintro s A B row ⟨pre', e, hs⟩ hg hr
    exact ⟨pre', e, hJ _ _ _ _ hs hg hr⟩
  · rintro pre x W1 ⟨pre', e, hs⟩ hlt hpx
    have hx : x ∈ Ep.pairsOf K L M len := hpx.subset (by simp)
    have hl : pre'.length < (Ep.pairsOf K L M len).length := by rw [← e, List.length_map] at hlt; exact hlt
    obtain ⟨fn, tmps, assign, body, hy, hR⟩ := hY pre' ⟨x, hx⟩ W1 hs hl
    refine ⟨fn, tmps, assign, body, hy, hR.mono ?_⟩
    rintro e' W' (⟨h1, h2, h3⟩ | ⟨h1, h2⟩)
    · exact .inl ⟨h1, ⟨_, by rw [List.map_append, e]; rfl, h2⟩, h3⟩
    · exact .inr ⟨h1, ⟨_, by rw [List.map_append, e]; rfl, h2⟩⟩
  · rintro e' W' ⟨hv, (⟨ys, rfl, pre', e, h⟩ | ⟨pre, hp, pre', e, h⟩)⟩
    · exact ⟨hv, .inl ⟨pre', e, h⟩⟩
    · exact ⟨hv, .inr ⟨pre', trivial, h⟩⟩

def wtx {K : Nat → Int} {L : Nat → Nat} {M : Nat → Nat → Int} {len : Nat} (pre : List (Pair K L M len)) : List Value := (pre.map fun x => (wrapT x.1).txt.toList).map encStr
theorem wtx_is {K : Nat → Int} {L : Nat → Nat} {M : Nat → Nat → Int} {len : Nat} (pre : List (Pair K L M len)) : ∃ ss : List (List UInt8), ss.length = pre.length ∧ wtx pre = ss.map encStr := ⟨_, by rw [List.length_map], rfl⟩
theorem wtx_add {K : Nat → Int} {L : Nat → Nat} {M : Nat → Nat → Int} {len : Nat} (pre : List (Pair K L M len)) (x : Pair K L M len) {X : ByteArray} (h : (wrapT x.1).txt.toList = X.toList) : wtx (pre ++ [x]) = wtx pre ++ [.string X] := by
  unfold wtx
  rw [List.map_append, List.map_append, List.map_cons, List.map_nil, List.map_cons, List.map_nil, h, enc_str]

theorem sort_row (base : Nat) (a : Option Addr) (c : Nat) (ss : List (List UInt8)) (w : World) (h : w.ownsRow base 9 1 (.slice a ss.length c) ss.length (ss.map encStr)) (hs : ss.length ≤ 1000000) :
    Calls Tryz.prog 58 #[.slice a ss.length c] w fun e w' => e = .returned (.tuple #[]) ∧ (∃ ts : List (List UInt8), ts.length = ss.length ∧ w'.ownsRow base 9 1 (.slice a ss.length c) ss.length (ts.map encStr)) ∧ w.grownBy w' (Value.slice a ss.length c).ownBlock := by
  rcases h.2 with ⟨e1, hz⟩ | ⟨gb, cap, cur, e1, hbase, hgb, r1, r2, r3, r4⟩
  · have hss : ss = [] := List.eq_nil_of_length_eq_zero hz
    subst hss
    refine (AnyM.slices_Sort_string_none Tryz.sort65 a c w).mono ?_
    rintro e w' ⟨rfl, rfl⟩
    exact ⟨rfl, ⟨[], rfl, h⟩, World.grownBy.refl _ _⟩
  · simp only [Value.slice.injEq] at e1
    obtain ⟨rfl, _, rfl⟩ := e1
    have hH : Holds encStr w gb 0 ss.toArray := holds_of_block hgb (by simpa using r4)
    refine (AnyM.slices_Sort_string Tryz.sort65 gb 0 c ss w hH (Array.getElem?_eq_some_iff.1 hgb).1 (by omega)).mono ?_
    rintro e w' ⟨rfl, nn, os, rfl⟩
    exact ⟨rfl, ⟨_, by simp, ownsRow_sorted (by simp) hbase hgb r1 r2 r3⟩, grownBy_sorted _⟩

theorem app_keepG {W w1 : World} {n₀ B : Nat} {t e : TypeId} {v v' : Value} {k sz : Nat} {xs : List Value} {tmp : Obj} (ht : t ≠ 45) (he : e ≠ 45) (hv : Boxed W B t v) (hrow : W.ownsRow n₀ e sz v k xs) (hgrow : (W.alloc tmp).grownBy w1 v.ownBlock) :
    ∀ (b : Nat) (cs : Array Value), W.heap[b]? = some (.cells cs 45 (0, 0)) → (w1.setCell ⟨B, 0, none⟩ v').heap[b]? = W.heap[b]? := by
  intro b cs q
  have hb : b < W.heap.size := (Array.getElem?_eq_some_iff.1 q).1
  have h1 : b ≠ B := by
    rintro rfl
    have h2 := (show W.heap[b]? = _ from hv).symm.trans q
    simp at h2
    exact ht h2.2
  rw [Below.heap_setCell _ _ _ _ h1]
  refine (hgrow.block b (by simp; omega) (fun e2 => ?_)).trans (Below.heap_alloc W tmp b hb)
  rcases hrow.2 with ⟨rfl, _⟩ | ⟨g, cap, cur, rfl, _, hgb, _⟩
  · cases e2
  · have e3 : b = g := Option.some.inj e2
    subst e3
    rw [q] at hgb
    simp at hgb
    exact he hgb.2.symm

set_option maxRecDepth 100000 in
set_option maxHeartbeats 2000000 in
theorem implWraps_any (a : Option Addr) (len cap : Nat) (K : Nat → Int) (L : Nat → Nat) (M : Nat → Nat → Int) (w : World) (h : Ep.IsEps w a len cap K L M) (hP : Pow w) :
    Calls Tryz.prog 24 #[.slice a len cap] w fun e w' => ∃ u n c S, e = .returned (.slice u n c) ∧ IsStrs w' u n c S ∧ (Ep.epsB K L M len = true → n = (Ep.pairsOf K L M len).length) ∧ Below w.heap.size w w' := by
  refine (callsIn_wide (n := 6)).1 ?_
  have HI : Hid (Ep.IsEps w a len cap K L M) := h
  have HP : Hid (Pow w) := hP
  obtain ⟨eb, heb⟩ : ∃ eb, eb = Ep.epsB K L M len := ⟨_, rfl⟩
  have HEB : Hid (eb = Ep.epsB K L M len) := heb
  have HE : Hid (∀ v, Below w.heap.size w v → Calls Tryz.prog 51 #[.slice a len cap] v fun e w' => e = .returned (.bool eb) ∧ Below v.heap.size v w') := fun v hv => by
    rw [HEB.out]
    exact Ep.implEpochsOk_any a len cap K L M v (HI.out.below hv)
  clear h heb hP
  refine callsIn_of_wp_marks Tryz.func24 rfl trivial ?_ rfl
  simp only [Tryz.ntmps24, List.size_toArray, List.length_cons, List.length_nil, Nat.reduceAdd, Nat.reduceSub, Array.replicate_succ, Array.replicate_zero, List.push_toArray, List.append_toArray, List.nil_append, List.cons_append]
  gi_wp2_with fail
  refine ⟨trivial, (callsIn_wide.2 (HE.out w (Below.refl _ _))).mono ?_⟩
  rintro e w1 ⟨rfl, hB1⟩
  have HB1 : Hid (Below w.heap.size w w1) := hB1
  clear hB1
  cases eb with
  | false =>
    gi_wp2
    exact ⟨_, results_tmp rfl _ _ _, none, 0, 0, fun _ => ⟨#[]⟩, rfl, ⟨Nat.le_refl _, by decide, fun h => absurd h (Nat.lt_irrefl _)⟩, (fun h => (by rw [← HEB.out] at h; cases h)), HB1.out⟩
  | true =>
  gi_wp2_with fail
  refine ⟨trivial, (Ep.keysBy_in _ _ _ _ _).mono ?_⟩
  rintro e w4 ⟨rfl, hw4⟩
  have HW4 : Hid (w4 = (w1.alloc (.cells #[.slice none 0 0] 24)).alloc (.cells #[.slice a len cap] 36)) := hw4
  have HB4 : Hid (Below w.heap.size w w4) := by show Below _ _ _; rw [hw4]; exact (HB1.out.alloc HB1.out.size _).alloc (by have := HB1.out.size; simp; omega) _
  have HBX4 : Hid (Boxed w4 w1.heap.size 24 (.slice none 0 0)) := by show Boxed _ _ _ _; rw [hw4]; exact (Boxed.new w1 _ _).alloc _
  have HBL : Hid (w4.cell? ⟨w1.heap.size + 1, 0, none⟩ = some (.slice a len cap)) := by
    show _ = _
    rw [hw4]
    have h1 := (Boxed.new (w1.alloc (.cells #[.slice none 0 0] 24)) 36 (.slice a len cap)).cell
    rw [World.size_alloc] at h1
    exact h1
  clear hw4
  gi_wp2
  have hpf := pairs_few HEB.out.symm
  obtain ⟨i0, hi, hz0, hz1, hz2⟩ := info_parts info9
  have hmix := mix
  obtain ⟨s0, hs0⟩ : ∃ s0, s0 = w.heap.size := ⟨_, rfl⟩
  obtain ⟨b1, hb1⟩ : ∃ b1, b1 = w1.heap.size := ⟨_, rfl⟩
  have HS0 : Hid (s0 = w.heap.size ∧ b1 = w1.heap.size ∧ s0 ≤ b1 ∧ b1 ≤ w4.heap.size) := ⟨hs0, hb1, by rw [hs0, hb1]; exact HB1.out.size, by rw [hb1]; exact Nat.le_of_lt HBX4.out.lt⟩
  rw [← hb1] at HBX4 HBL ⊢
  rw [← hs0] at HB4
  clear hs0 hb1
  refine wpIn_rangeFunc_ownF rfl (by omega) (gf := 82) (lb := #[.pointer (some ⟨b1 + 1, 0, none⟩)]) rfl trivial (enters_of Tryz.func82 (by kernel_rfl) rfl)
    (encs := fun x : Pair K L M len => Ep.encP x.1) (Kp := KeepE s0) (S := fun ys => ys.map Subtype.val = Ep.pairsOf K L M len) (Sp := fun _ => True) (N := (Ep.pairsOf K L M len).length) (w0 := w4)
    (by
      rw [HS0.out.1] at HB4 ⊢
      exact pairs_sub (KeepE w.heap.size) (6 - 1) (by omega) (b1 + 1) a len cap K L M w w4 HB4.out (fun _ _ h => h.1) (fun _ _ b cs h e => h.2 b cs e) HBL.out HI.out)
    keepE_t (keepE_b (Nat.le_trans HS0.out.2.2.1 HS0.out.2.2.2)) (Below.refl _ _) (fun _ => rfl)
    (fun pre W => (∃ v, Boxed W b1 24 v ∧ W.ownsRow s0 9 1 v pre.length (wtx pre) ∧ True) ∧ Below s0 w W)
    (fun _ _ _ => False)
    (OwnFrom.and (Own.from (holdsRow_own s0 b1 24 9 1 (fun pre : List (Pair K L M len) => pre.length) (fun pre => wtx pre) (fun _ _ => True)) _) (ownFrom_below (by rw [HS0.out.1]; exact Nat.le_refl _) (Nat.le_trans HS0.out.2.2.1 HS0.out.2.2.2)))
    (fun _ _ _ _ _ hs _ _ => hs)
    ⟨⟨_, HBX4.out, World.ownsRow_nil _ _ _ _, trivial⟩, HB4.out⟩
    (fun x => { tmps := #[.slice a len cap, undef, .slice none 0 0, .pointer (some ⟨b1, 0, none⟩), .int .i64 x.1.1, .int .i64 x.1.2, .slice a len cap, .bool true, .bool false, .slice a len cap, .func (.func 82) #[] #[.pointer (some ⟨b1 + 1, 0, none⟩)], .int .i64 x.1.1, .int .i64 x.1.2, undef, undef, undef, undef, undef, undef, undef, undef, undef, undef], defers := [] }) ?assign ?body ?done ?stop
  case assign =>
    intro l x W K hK
    gi_wp2
    exact hK
  case body =>
    rintro l pre ⟨⟨x1, x2⟩, hx⟩ W ⟨⟨v, hv, hrow, _⟩, hB⟩ hlt
    obtain ⟨va, vc, rfl⟩ := row_slice hrow
    have hc := hv.cell
    obtain ⟨r1, r2⟩ := pairs_range HEB.out.symm _ hx
    have hfit := wrapT_fit r1 r2
    obtain ⟨t, ht⟩ : ∃ t, t = wrapT (x1, x2) := ⟨_, rfl⟩
    rw [← ht] at hfit
    have hVI := wrapV_is r1.1 r2.1
    rw [← ht, t.val_is] at hVI
    obtain ⟨X, hX⟩ : ∃ X, X = t.txt := ⟨_, rfl⟩
    obtain ⟨u, hu⟩ : ∃ u, u = t.inn := ⟨_, rfl⟩
    obtain ⟨ty, hty⟩ : ∃ ty, ty = t.ty := ⟨_, rfl⟩
    obtain ⟨fn, hfn⟩ : ∃ fn, fn = t.tf := ⟨_, rfl⟩
    have hm : ∀ w, (method 287 ty u "loop.example/g00318/impl.text").run Tryz.prog w = .ok (fn, u) w := fun w => by rw [hu, hty, hfn]; exact mText t w
    have hen : ∀ args w, (callFunc fn args).run Tryz.prog w = .ok (.enter fn args) w := by rw [hfn]; exact enText t
    have HPW : Hid (Pow W) := by
      have h1 := hB
      rw [HS0.out.1] at h1
      exact HP.out.below h1
    have HX : Hid (Calls Tryz.prog fn #[u] W.drew fun e w' => e = .returned (.string X) ∧ Below W.drew.heap.size W.drew w') := by
      have h1 : TextC t := ttext_any _ hfit.1 hfit.2.1
      have h2 := h1 W.drew (HPW.out.below ((Below.refl _ _).drew))
      rw [← hX, ← hfn, ← hu] at h2
      exact h2
    have HWC : Hid (∀ X : World, Calls Tryz.prog 53 #[.int .i64 x1, .int .i64 x2] X fun e w' => e = .returned (.iface ty u) ∧ w' = X) := fun X => by
      have h1 := wrapped_any x1 x2 X
      rw [hVI, ← hty, ← hu] at h1
      exact h1
    have HXT : Hid ((wrapT (x1, x2)).txt.toList = X.toList ∧ X.size ≤ 1000000) := ⟨by rw [hX, ht], by rw [hX]; have h1 := Tr.txt_size t hfit.1; have h2 := hfit.2.1; omega⟩
    have hXs : X.size ≤ 9223372036854775807 := by have := HXT.out.2; omega
    have hbW : b1 < W.heap.size := hv.lt
    have hsW : s0 ≤ W.heap.size := by have := hB.size; rw [← HS0.out.1] at this; exact this
    clear ht hVI hX hu hty hfn hfit r1 r2
    gi_wp2
    gi_region_with_o (first
      | (refine ⟨trivial, ?_⟩; gi_at_call 53; refine (CallsIn.inRound l (callsIn_wide.2 (HWC.out _))).mono ?_; rintro e w' ⟨rfl, hw'⟩; rw [hw']; clear hw' w')
      | (refine ⟨trivial, (CallsIn.inRound l (callsIn_wide.2 HX.out)).mono ?_⟩; rintro e W2 ⟨rfl, hB2⟩
         have hv2 : Boxed W2 b1 24 (.slice va pre.length vc) := (hB2.block b1 hbW).trans hv
         have hr2 : W2.ownsRow s0 9 1 (.slice va pre.length vc) pre.length (wtx pre) := Ep.ownsRow_below (w := W.drew) hrow hB2
         have hsW2 : s0 ≤ W2.heap.size := Nat.le_trans hsW hB2.size
         obtain ⟨v', w5, hap, hown', hgrow, hnn⟩ := run_append_own (P := Tryz.prog) (W2.alloc (.cells #[.string X] 9)) s0 24 24 9 i0 (.string ⟨#[]⟩) 1 16 Tryz.underlying24 hi hz0 hz1 hz2 rfl (by decide) (.slice va pre.length vc) pre.length (wtx pre) (hr2.alloc _) ⟨W2.heap.size, 0, none⟩ 1 1 [.string X] rfl (cell_one_new W2 _ _) (by simp [Value.oneCell']) (by unfold maxLen; omega) (by omega) (by simp; omega)
         obtain ⟨g', cap', rfl⟩ := ownsRow_succ hown'
         obtain ⟨hv1, hv3, hr3, hk3, hb3⟩ := hv2.appended (by decide) hr2 hsW2 HS0.out.2.2.1 hown' hgrow
         have HF : Hid (KeepsOthers W (w5.setCell ⟨b1, 0, none⟩ (.slice (some ⟨g', 0, none⟩) (pre.length + 1) cap')) ∧ KeepE s0 W (w5.setCell ⟨b1, 0, none⟩ (.slice (some ⟨g', 0, none⟩) (pre.length + 1) cap')) ∧ Boxed (w5.setCell ⟨b1, 0, none⟩ (.slice (some ⟨g', 0, none⟩) (pre.length + 1) cap')) b1 24 (.slice (some ⟨g', 0, none⟩) (pre.length + 1) cap') ∧ (w5.setCell ⟨b1, 0, none⟩ (.slice (some ⟨g', 0, none⟩) (pre.length + 1) cap')).ownsRow s0 9 1 (.slice (some ⟨g', 0, none⟩) (pre.length + 1) cap') (pre ++ [(⟨(x1, x2), hx⟩ : Pair K L M len)]).length (wtx (pre ++ [(⟨(x1, x2), hx⟩ : Pair K L M len)]))) := (by
           refine ⟨((KeepsOthers.drew W).trans ⟨hB2.size, fun k o q _ => (hB2.block k (Array.getElem?_eq_some_iff.1 q).1).trans q⟩).trans hk3, ⟨(((Below.refl s0 W).drew).trans (hB2.mono hsW)).trans hb3, fun b cs q => ?_⟩, hv3, ?_⟩
           · have q2 : W2.heap[b]? = some (Obj.cells cs 45 (0, 0)) := (hB2.block b (Array.getElem?_eq_some_iff.1 q).1).trans q
             exact (app_keepG (by decide) (by decide) hv2 hr2 hgrow b cs q2).trans (hB2.block b (Array.getElem?_eq_some_iff.1 q).1)
           · rw [wtx_add pre ⟨(x1, x2), hx⟩ HXT.out.1, List.length_append]
             exact hr3)
         have hc2 := hv2.cell
         have hbW2 : b1 < W2.heap.size := hv2.lt
         have hc1 := hv1.cell
         have hf1 := hv1.frozen
         clear hv2 hr2 hown' hgrow hnn hv1 hv3 hr3 hk3 hb3 hB2
         simp [go_sem] at hap))
    all_goals exact ⟨HF.out.1, HF.out.2.1, ⟨_, HF.out.2.2.1, HF.out.2.2.2, trivial⟩, hB.trans HF.out.2.1.1⟩
  case done =>
    rintro D ys W hD hys ⟨⟨v, hv, hrow, _⟩, hB⟩ hK
    obtain ⟨va, vc, rfl⟩ := row_slice hrow
    obtain ⟨ss, hss, hwx⟩ := wtx_is ys
    have hyl : ys.length = (Ep.pairsOf K L M len).length := by rw [← hys, List.length_map]
    rw [hwx, ← hss] at hrow
    rw [← hss] at hv
    have hBW : Below w.heap.size w W := by rw [← HS0.out.1]; exact hB
    have HBW : Hid (Below w.heap.size w W) := hBW
    have HV : Hid (Boxed W b1 24 (.slice va ss.length vc)) := hv
    have HROW : Hid (W.ownsRow s0 9 1 (.slice va ss.length vc) ss.length (ss.map encStr)) := hrow
    have HSRT : Hid (Calls Tryz.prog 58 #[.slice va ss.length vc] W fun e w' => e = .returned (.tuple #[]) ∧ (∃ ts : List (List UInt8), ts.length = ss.length ∧ w'.ownsRow s0 9 1 (.slice va ss.length vc) ss.length (ts.map encStr)) ∧ W.grownBy w' (Value.slice va ss.length vc).ownBlock) := sort_row s0 va vc ss W hrow (by omega)
    have HKW : Hid (W.heap[D]? = some (.deferred (some [])) ∧ w4.heap.size ≤ D ∧ D < W.heap.size) := ⟨hK, hD, (Array.getElem?_eq_some_iff.1 hK).1⟩
    have hc := hv.cell
    obtain ⟨q, hq⟩ : ∃ q, q = ss.length := ⟨_, rfl⟩
    have HQ : Hid (q = ss.length ∧ ss.length = (Ep.pairsOf K L M len).length) := ⟨hq, by rw [hss, hyl]⟩
    rw [← hq] at hc HSRT HV
    clear hrow hv hK hD hB hBW hss hwx hys hyl hq
    gi_wp2_with fail
    refine ⟨trivial, (callsIn_wide.2 HSRT.out).mono ?_⟩
    rintro e w6 ⟨rfl, ⟨ts, hts, ho6⟩, hg6⟩
    have hbx6 : Boxed w6 b1 24 (.slice va q vc) := HV.out.kept hg6 (fun e => by
      have h1 := HROW.out
      rw [← HQ.out.1] at h1
      exact HV.out.not_row (by decide) h1 e)
    have hc6 := hbx6.cell
    have HB6 : Hid (Below w.heap.size w w6) := HBW.out.grown hg6 HBW.out.size (fun k hk => by
      have h1 := (HROW.out.lt k (by rw [← HQ.out.1]; exact hk)).1
      rw [HS0.out.1] at h1
      exact h1)
    have HO6 : Hid (w6.ownsRow s0 9 1 (.slice va q vc) q (ts.map encStr) ∧ ts.length = q) := ⟨ho6, hts⟩
    have HK6 : Hid (w6.heap[D]? = some (.deferred (some []))) := by
      show _ = _
      refine (hg6.block D HKW.out.2.2 (fun e => ?_)).trans HKW.out.1
      have h1 := HROW.out
      rw [← HQ.out.1] at h1
      rcases h1.2 with ⟨e1, _⟩ | ⟨g, c, cur, e1, _, hgb, _⟩
      · rw [e1] at e; cases e
      · rw [e1] at e
        have h2 : D = g := Option.some.inj e
        rw [← h2, HKW.out.1] at hgb
        cases hgb
    clear ho6 hts hg6 hbx6
    gi_wp2
    refine ⟨by simp, .inl ⟨_, _, rfl, run_takeDeferred HK6.out, ?_⟩⟩
    have ho7 := ownsRow_putObj HO6.out.1 (.deferred none) HK6.out rfl
    obtain ⟨a', cap', e', hI⟩ := strs_of_own (S := atL ts) ho7 (fun i hi => by
      have hi2 : i < ts.length := by rw [HO6.out.2]; exact hi
      rw [List.getElem?_map]
      simp [atL, tx, encStr, List.getD, hi2])
    simp only [Value.slice.injEq, true_and] at e'
    obtain ⟨rfl, rfl⟩ := e'
    exact ⟨_, results_tmp rfl _ _ _, _, _, _, _, rfl, hI, fun _ => by rw [HQ.out.1, HQ.out.2], HB6.out.trans (belowK_b (w := w) (Nat.le_refl _) w6 D _ _ (by have h1 := HKW.out.2.1; have h2 := HB4.out.size; have h3 := HS0.out.2; have h4 := HB1.out.size; omega) HK6.out rfl rfl)⟩
  case stop =>
    rintro D c pre W _ _ h _
    exact h.elim
end Go.Proofs.YtpcbhjejpebogaaGreatDoor

namespace Go.Proofs.YtpcbhjejpebogaaGreatDoor
open Go.RowKit Go.Maps
set_option linter.unusedVariables false

section
variable {K : Nat → Int} {L : Nat → Nat} {M : Nat → Nat → Int} {len : Nat}

theorem eps_part (h : Ep.epsB K L M len = true) {i : Nat} (hi : i < len) : (i = 0 ∨ K (i - 1) < K i) ∧ Ep.memB (M i) (L i) = true ∧ Ep.risesI (M i) (L i) = true := by
  unfold Ep.epsB Ep.epsTo at h
  rw [Bool.and_eq_true, List.all_eq_true] at h
  have h1 := h.2 i (List.mem_range.2 hi)
  rw [Bool.and_eq_true, Bool.or_eq_true] at h1
  obtain ⟨h2, h3⟩ := h1
  unfold Ep.epB at h3
  simp only [Bool.and_eq_true, decide_eq_true_eq] at h3
  exact ⟨h2.imp (fun h => by simpa using h) (fun h => by simpa using h), h3.1.2, h3.2⟩
theorem eps_rise (h : Ep.epsB K L M len = true) : ∀ d i, i + d + 1 < len → K i < K (i + d + 1)
  | 0, i, hi => by
    have := (eps_part h hi).1
    simpa using this
  | d + 1, i, hi => by
    have h1 := eps_rise h d i (by omega)
    have h2 := (eps_part h hi).1
    have e : i + (d + 1) + 1 - 1 = i + d + 1 := by omega
    rw [e] at h2
    rcases h2 with h2 | h2
    · omega
    · omega
theorem eps_inj (h : Ep.epsB K L M len = true) {i j : Nat} (hi : i < len) (hj : j < len) (e : K i = K j) : i = j := by
  rcases Nat.lt_trichotomy i j with h1 | h1 | h1
  · have h2 := eps_rise h (j - i - 1) i (by omega)
    rw [show i + (j - i - 1) + 1 = j by omega] at h2
    omega
  · exact h1
  · have h2 := eps_rise h (i - j - 1) j (by omega)
    rw [show j + (i - j - 1) + 1 = i by omega] at h2
    omega
theorem mem_rise {Z : Nat → Int} {n : Nat} (h : Ep.risesI Z n = true) : ∀ d i, i + d + 1 < n → Z i < Z (i + d + 1) := by
  have h0 : ∀ i, i + 1 < n → Z i < Z (i + 1) := by
    intro i hi
    unfold Ep.risesI at h
    rw [List.all_eq_true] at h
    have := h (i + 1) (List.mem_range.2 hi)
    simpa using this
  intro d
  induction d with
  | zero => intro i hi; exact h0 i hi
  | succ d ih =>
    intro i hi
    have h1 := ih i (by omega)
    have h2 := h0 (i + d + 1) (by omega)
    rw [show i + (d + 1) + 1 = i + d + 1 + 1 by omega]
    omega
/-- member m is in epoch i -/
def memE (L : Nat → Nat) (M : Nat → Nat → Int) (i : Nat) (m : Int) : Bool := (List.range (L i)).any fun j => decide (M i j = m)
theorem memE_is {i : Nat} {m : Int} : memE L M i m = true ↔ ∃ j, j < L i ∧ M i j = m := by
  unfold memE
  rw [List.any_eq_true]
  constructor
  · rintro ⟨j, hj, e⟩
    exact ⟨j, List.mem_range.1 hj, of_decide_eq_true e⟩
  · rintro ⟨j, hj, e⟩
    exact ⟨j, List.mem_range.2 hj, decide_eq_true e⟩
theorem pairs_at (h : Ep.epsB K L M len = true) {i : Nat} (hi : i < len) {m : Int} : (m, K i) ∈ Ep.pairsOf K L M len ↔ memE L M i m = true := by
  rw [Ep.mem_pairs, memE_is]
  constructor
  · rintro ⟨i', j, hi', hj, e1, e2⟩
    obtain rfl := eps_inj h hi' hi e2
    exact ⟨j, hj, e1⟩
  · rintro ⟨j, hj, e⟩
    exact ⟨i, j, hi, hj, e, rfl⟩

/-- in how many of the first n epochs m is -/
def cntE (L : Nat → Nat) (M : Nat → Nat → Int) (n : Nat) (m : Int) : Nat := ((List.range n).filter fun i => memE L M i m).length
theorem cntE_succ (n : Nat) (m : Int) : cntE L M (n + 1) m = cntE L M n m + (if memE L M n m = true then 1 else 0) := by
  unfold cntE
  rw [List.range_succ, List.filter_append, List.length_append]
  cases h : memE L M n m <;> simp [h]
theorem five (p : Int → Bool) : ([1, 2, 3, 4, 5].filter p).length = (if p 1 = true then 1 else 0) + (if p 2 = true then 1 else 0) + (if p 3 = true then 1 else 0) + (if p 4 = true then 1 else 0) + (if p 5 = true then 1 else 0) := by
  cases h1 : p 1 <;> cases h2 : p 2 <;> cases h3 : p 3 <;> cases h4 : p 4 <;> cases h5 : p 5 <;> simp [h1, h2, h3, h4, h5]
theorem row_five (h : Ep.epsB K L M len = true) {i : Nat} (hi : i < len) : ([1, 2, 3, 4, 5].filter (memE L M i)).length = L i := by
  obtain ⟨_, h2, h3⟩ := eps_part h hi
  have hn : ((List.range (L i)).map (M i)).Nodup := by
    rw [List.nodup_iff_pairwise_ne, List.pairwise_map]
    refine (List.pairwise_lt_range (n := L i)).imp_of_mem ?_
    intro a b ha hb hab e
    have := mem_rise h3 (b - a - 1) a (by have := List.mem_range.1 hb; omega)
    rw [show a + (b - a - 1) + 1 = b by omega] at this
    omega
  have hm : ∀ x, x ∈ (List.range (L i)).map (M i) ↔ x ∈ ([1, 2, 3, 4, 5] : List Int).filter (memE L M i) := by
    intro x
    rw [List.mem_filter, memE_is, List.mem_map]
    constructor
    · rintro ⟨j, hj, rfl⟩
      have hj := List.mem_range.1 hj
      obtain ⟨hr, _⟩ := eps_range h hi hj
      refine ⟨?_, j, hj, rfl⟩
      have : M i j = 1 ∨ M i j = 2 ∨ M i j = 3 ∨ M i j = 4 ∨ M i j = 5 := by omega
      rcases this with e | e | e | e | e <;> rw [e] <;> simp
    · rintro ⟨_, j, hj, e⟩
      exact ⟨j, List.mem_range.2 hj, e⟩
  have h5 : (([1, 2, 3, 4, 5] : List Int).filter (memE L M i)).Nodup := List.Nodup.sublist List.filter_sublist (by decide)
  have e1 := len_le _ _ hn (fun x hx => (hm x).1 hx)
  have e2 := len_le _ _ h5 (fun x hx => (hm x).2 hx)
  rw [List.length_map, List.length_range] at e1 e2
  omega
theorem all_five (h : Ep.epsB K L M len = true) : ∀ n, n ≤ len → cntE L M n 1 + cntE L M n 2 + cntE L M n 3 + cntE L M n 4 + cntE L M n 5 = (Ep.pairsOf K L M n).length
  | 0, _ => rfl
  | n + 1, hn => by
    have h1 := all_five h n (by omega)
    have h2 := row_five h (i := n) (by omega)
    rw [five] at h2
    have e : (Ep.pairsOf K L M (n + 1)).length = (Ep.pairsOf K L M n).length + L n := by
      unfold Ep.pairsOf
      rw [List.range_succ, List.flatMap_append, List.length_append]
      simp
    rw [cntE_succ, cntE_succ, cntE_succ, cntE_succ, cntE_succ, e]
    omega

theorem keysL_eq (O : List (List UInt8)) (K : Nat → Int) : ∀ n, keysL O K n = ((List.range n).filter (keyIn O K)).map K
  | 0 => rfl
  | n + 1 => by
    rw [keysL, keysL_eq O K n, List.range_succ, List.filter_append, List.map_append]
    cases h : keyIn O K n <;> simp [h]
theorem keyT_fit {n : Nat} (h : n ≤ 999) : Fit (keyT n) := by
  refine ⟨?_, ?_, ?_⟩
  · unfold keyT
    rw [Tr.Ok]
    exact ⟨.inr (.inl rfl), h⟩
  · unfold keyT
    rw [Tr.size]
    omega
  · unfold keyT
    rw [Tr.deep]
    omega

/-- what is opened by member m's key and the wraps -/
theorem key_opened (h : Ep.epsB K L M len = true) {m : Nat} (hm : 1 ≤ m ∧ m ≤ 5) {use : Bool} {P : Tr → Prop} (hP : ∀ u, P u ↔ (use = true ∧ u = keyT m) ∨ ∃ p, p ∈ Ep.pairsOf K L M len ∧ u = wrapT p) {i : Nat} (hi : i < len) :
    (∃ t, Op P t ∧ t.txt.toList = (keyT (K i).toNat).txt.toList) ↔ use = true ∧ memE L M i m = true := by
  obtain ⟨hk1, hk2⟩ := eps_key h hi
  have hC : ∀ t, Op P t → (use = true ∧ t = keyT m) ∨ (∃ p, p ∈ Ep.pairsOf K L M len ∧ t = wrapT p) ∨ (use = true ∧ ∃ k, ((m : Int), k) ∈ Ep.pairsOf K L M len ∧ t = keyT k.toNat) := by
    intro t ht
    refine ht (fun t => (use = true ∧ t = keyT m) ∨ (∃ p, p ∈ Ep.pairsOf K L M len ∧ t = wrapT p) ∨ (use = true ∧ ∃ k, ((m : Int), k) ∈ Ep.pairsOf K L M len ∧ t = keyT k.toNat)) (fun u hu => ?_) ⟨fun t u hq => ?_, fun n t hq => ?_, fun n t hq hk => ?_⟩
    · rcases (hP u).1 hu with h1 | h1
      · exact .inl h1
      · exact .inr (.inl h1)
    · rcases hq with ⟨_, e⟩ | ⟨p, _, e⟩ | ⟨_, k, _, e⟩
      · cases e
      · unfold wrapT at e; cases e
      · cases e
    · rcases hq with ⟨_, e⟩ | ⟨p, _, e⟩ | ⟨_, k, _, e⟩
      · cases e
      · unfold wrapT at e; cases e
      · cases e
    · rcases hq with ⟨_, e⟩ | ⟨p, hp, e⟩ | ⟨_, k, _, e⟩
      · cases e
      · have e' : n = p.1.toNat ∧ t = keyT p.2.toNat := by
          unfold wrapT sealT at e
          simp only [Tr.mk.injEq, Sum.inr.injEq, Prod.mk.injEq] at e
          exact ⟨e.2.1, e.2.2⟩
        obtain ⟨r1, r2⟩ := pairs_range h p hp
        rcases hk with ⟨hu, e2⟩ | ⟨q, _, e2⟩ | ⟨_, k, hk2, e2⟩
        · have e3 : n = m := by
            unfold keyT at e2
            simp only [Tr.mk.injEq, Sum.inl.injEq, Prod.mk.injEq] at e2
            exact e2.2
          refine .inr (.inr ⟨hu, p.2, ?_, e'.2⟩)
          have e4 : p = ((m : Int), p.2) := by
            obtain ⟨p1, p2⟩ := p
            have : p1 = (m : Int) := by have := e'.1; simp at this r1; omega
            rw [this]
          rw [← e4]
          exact hp
        · unfold wrapT at e2; cases e2
        · exfalso
          obtain ⟨_, r3⟩ := pairs_range h _ hk2
          have e3 : n = k.toNat := by
            unfold keyT at e2
            simp only [Tr.mk.injEq, Sum.inl.injEq, Prod.mk.injEq] at e2
            exact e2.2
          have := e'.1
          simp at r3
          omega
      · cases e
  constructor
  · rintro ⟨t, ht, e⟩
    have hf1 := keyT_fit (show (K i).toNat ≤ 999 by omega)
    have key : ∀ n, n ≤ 999 → t = keyT n → n = (K i).toNat := by
      rintro n hn rfl
      have e2 := txt_inj (keyT_fit hn) hf1 e
      unfold keyT at e2
      simp only [Tr.mk.injEq, Sum.inl.injEq, Prod.mk.injEq] at e2
      exact e2.2
    rcases hC t ht with ⟨_, e1⟩ | ⟨p, hp, e1⟩ | ⟨hu, k, hk, e1⟩
    · have := key m (by omega) e1
      omega
    · obtain ⟨r1, r2⟩ := pairs_range h p hp
      rw [e1] at e
      have e2 := txt_inj (wrapT_fit r1 r2) hf1 e
      unfold wrapT at e2; cases e2
    · obtain ⟨_, r3⟩ := pairs_range h _ hk
      simp at r3
      have := key k.toNat (by omega) e1
      have e4 : k = K i := by omega
      rw [e4] at hk
      exact ⟨hu, (pairs_at h hi).1 hk⟩
  · rintro ⟨hu, hme⟩
    have hp := (pairs_at h hi).2 hme
    have h1 : Op P (wrapT ((m : Int), K i)) := .base ((hP _).2 (.inr ⟨_, hp, rfl⟩))
    have h2 : Op P (keyT m) := .base ((hP _).2 (.inl ⟨hu, rfl⟩))
    exact ⟨keyT (K i).toNat, (Op.shut P).sealK m _ (by unfold wrapT at h1; simpa using h1) h2, rfl⟩

/-- what KeysOf answers to a member's key -/
theorem keysR_member (h : Ep.epsB K L M len = true) {m : Nat} (hm : 1 ≤ m ∧ m ≤ 5) {use : Bool} {S : Nat → ByteArray} {kl : Nat} (hk : knownB S kl = true) (hS : ∀ u, Kn (atL (LL S kl)) (LL S kl).length u ↔ use = true ∧ u = keyT m) {R : List Int} (hR : KeysR K L M len S kl R) :
    R = ((List.range len).filter fun i => use && memE L M i m).map K := by
  obtain ⟨O, _, hO, e⟩ := hR.1 h hk
  rw [e, keysL_eq]
  congr 1
  refine List.filter_congr fun i hi => ?_
  have hi := List.mem_range.1 hi
  have h1 := key_opened h hm (use := use) (P := Kn (atL (allL (LL S kl) (wrL (Ep.pairsOf K L M len)))) (allL (LL S kl) (wrL (Ep.pairsOf K L M len))).length) (fun u => by rw [kn_all h u, hS u]) hi
  have h2 : keyIn O K i = true ↔ use = true ∧ memE L M i m = true := by
    unfold keyIn
    rw [decide_eq_true_iff, hO]
    exact h1
  cases hb : (use && memE L M i m) with
  | true => rw [Bool.and_eq_true] at hb; exact h2.2 hb
  | false =>
    cases hc : keyIn O K i with
    | false => rfl
    | true =>
      have := h2.1 hc
      rw [← Bool.and_eq_true, hb] at this
      cases this
theorem keys_len (n : Nat) (m : Int) : (((List.range n).filter fun i => true && memE L M i m).map K).length = cntE L M n m := by
  rw [List.length_map]
  unfold cntE
  congr 1
theorem keys_has (h : Ep.epsB K L M len = true) {m : Int} {i : Nat} (hi : i < len) : K i ∈ ((List.range len).filter fun i => true && memE L M i m).map K ↔ memE L M i m = true := by
  rw [List.mem_map]
  constructor
  · rintro ⟨j, hj, e⟩
    rw [List.mem_filter] at hj
    obtain rfl := eps_inj h (List.mem_range.1 hj.1) hi e
    simpa using hj.2
  · intro hme
    exact ⟨i, List.mem_filter.2 ⟨List.mem_range.2 hi, by simpa using hme⟩, rfl⟩
end
/-- member m's key as the law writes it -/
def mkey (m : Nat) : ByteArray := ⟨#[107, UInt8.ofNat (48 + m)]⟩
theorem mkey_txt {m : Nat} (hm : 1 ≤ m ∧ m ≤ 5) : (keyT m).txt = mkey m := by
  have : m = 1 ∨ m = 2 ∨ m = 3 ∨ m = 4 ∨ m = 5 := by omega
  rw [keyT_txt]
  rcases this with rfl | rfl | rfl | rfl | rfl
  · exact (show keyT0 1 = mkey 1 by kernel_rfl)
  · exact (show keyT0 2 = mkey 2 by kernel_rfl)
  · exact (show keyT0 3 = mkey 3 by kernel_rfl)
  · exact (show keyT0 4 = mkey 4 by kernel_rfl)
  · exact (show keyT0 5 = mkey 5 by kernel_rfl)
theorem mkey_known {m : Nat} (hm : 1 ≤ m ∧ m ≤ 5) : knownB (fun _ => mkey m) 1 = true := by
  unfold knownB
  rw [Bool.and_eq_true, Bool.and_eq_true]
  refine ⟨⟨by decide, rfl⟩, termsB_all.2 fun i _ => ?_⟩
  have hf := keyT_fit (show m ≤ 999 by omega)
  rw [← mkey_txt hm, rT_txt hf.1 hf.2.1 hf.2.2]
  rfl
theorem mkey_kn {m : Nat} (hm : 1 ≤ m ∧ m ≤ 5) (u : Tr) : Kn (atL (LL (fun _ => mkey m) 1)) (LL (fun _ => mkey m) 1).length u ↔ true = true ∧ u = keyT m := by
  have hf := keyT_fit (show m ≤ 999 by omega)
  unfold Kn
  rw [LL_len]
  constructor
  · rintro ⟨h1, i, hi, e⟩
    rw [atL_LL hi, ← mkey_txt hm] at e
    exact ⟨rfl, txt_inj h1 hf (by rw [e])⟩
  · rintro ⟨_, rfl⟩
    exact ⟨hf, 0, by decide, by rw [atL_LL (by decide), mkey_txt hm]⟩
theorem none_kn (S : Nat → ByteArray) (m : Nat) (u : Tr) : Kn (atL (LL S 0)) (LL S 0).length u ↔ false = true ∧ u = keyT m := by
  unfold Kn
  rw [LL_len]
  constructor
  · rintro ⟨_, i, hi, _⟩; omega
  · rintro ⟨h, _⟩; cases h
end Go.Proofs.YtpcbhjejpebogaaGreatDoor

namespace Go.Proofs.YtpcbhjejpebogaaGreatDoor
open Go.RowKit Go.Maps
set_option linter.unusedVariables false

theorem ints_of_own {w : World} {base : Nat} {v : Value} {n : Nat} {xs : List Value} {Z : Nat → Int} (h : w.ownsRow base 2 1 v n xs) (hx : ∀ i, i < n → xs[i]? = some (.int .i64 (Z i))) :
    ∃ a cap, v = .slice a n cap ∧ Ep.IsI64 w a n cap Z ∧ ∀ b off, a = some ⟨b, off, none⟩ → base ≤ b ∧ b < w.heap.size := by
  have hlt := h.lt
  rcases h.2 with ⟨rfl, rfl⟩ | ⟨g, cap, cur, rfl, hb, hg, hnc, hcm, hcs, htake⟩
  · exact ⟨none, 0, rfl, ⟨Nat.le_refl _, by omega, fun h => absurd h (Nat.lt_irrefl _)⟩, fun b off e => by cases e⟩
  · refine ⟨_, cap, rfl, ⟨hnc, by unfold maxLen at hcm; omega, fun hp => ⟨g, 0, rfl, (Array.getElem?_eq_some_iff.1 hg).1, fun i hi => ?_⟩⟩, fun b off e => ?_⟩
    · have := h.cells (g := g) rfl i _ (hx i hi)
      have hadd : (⟨g, 0, none⟩ : Addr).add i = ⟨g, i, none⟩ := by unfold Addr.add; split <;> simp_all
      rw [hadd] at this
      rw [Nat.zero_add]
      exact this
    · simp only [Option.some.injEq, Addr.mk.injEq, and_true] at e
      obtain ⟨rfl, rfl⟩ := e
      exact hlt g rfl
def atI (L : List Int) (i : Nat) : Int := L.getD i 0
theorem ints_of_row {w : World} {base : Nat} {v : Value} {L : List Int} (h : OwnK w base v L) : ∃ a cap, v = .slice a L.length cap ∧ Ep.IsI64 w a L.length cap (atI L) ∧ ∀ b off, a = some ⟨b, off, none⟩ → base ≤ b ∧ b < w.heap.size :=
  ints_of_own (Z := atI L) h (fun i hi => by
    rw [List.getElem?_map]
    simp [atI, List.getD, hi])

set_option maxHeartbeats 1000000 in
theorem sameI_any (a a' : Option Addr) (len cap cap' : Nat) (Z : Nat → Int) (w : World) (h : Ep.IsI64 w a len cap Z) (h' : Ep.IsI64 w a' len cap' Z) :
    Calls Tryz.prog 22 #[.slice a len cap, .slice a' len cap'] w fun e w' => e = .returned (.bool true) ∧ Below w.heap.size w w' := by
  obtain ⟨hlc, hcm, hc⟩ := h
  obtain ⟨hlc', hcm', hc'⟩ := h'
  have hbn : ((len : Int) != (len : Int)) = false := by simp
  go_enter Tryz.func22, Tryz.ntmps22
  go_wp2
  go_loopw [5] (fun i wr => ∃ (k : Nat), k ≤ len ∧ i = .int .i64 k ∧ Below w.heap.size w wr)
    (fun i _ => len - (intOf i).toNat)
  case atStart => exact ⟨0, Nat.zero_le _, rfl, Below.refl _ _⟩
  case round =>
    obtain ⟨k, hk, rfl, hB⟩ := hrel
    by_cases hlt : k < len
    · obtain ⟨b, off, rfl, hbs, hcell⟩ := hc (by omega)
      obtain ⟨b', off', rfl, hbs', hcell'⟩ := hc' (by omega)
      have d1 := (hB.cell (p := ⟨b, off + k, none⟩) hbs).trans (hcell k hlt)
      have d1' := (hB.cell (p := ⟨b', off' + k, none⟩) hbs').trans (hcell' k hlt)
      have hss : ((Z k) != (Z k)) = false := by simp
      clear hcell hc hcell' hc'
      go_wp2
      go_quiet (fail)
      go_wp2
      go_roundw
      case rel => exact ⟨k + 1, by omega, by go_num, hB.trans ⟨rfl, rfl, rfl, Nat.le_refl _, fun _ _ => rfl⟩⟩
      case measure => simp [intOf]; omega
    · have hke : k = len := by omega
      subst hke
      go_wp2
      go_ret
      exact ⟨rfl, hB⟩

set_option maxHeartbeats 1000000 in
theorem sameTB_any (a a' : Option Addr) (len cap len' cap' : Nat) (S S' : Nat → ByteArray) (w : World) (h : IsStrs w a len cap S) (h' : IsStrs w a' len' cap' S') :
    Calls Tryz.prog 11 #[.slice a len cap, .slice a' len' cap'] w fun e w' => ∃ b, e = .returned (.bool b) ∧ Below w.heap.size w w' := by
  obtain ⟨hlc, hcm, hc⟩ := h
  obtain ⟨hlc', hcm', hc'⟩ := h'
  by_cases hne : len = len'
  · subst hne
    have hbn : ((len : Int) != (len : Int)) = false := by simp
    go_enter Tryz.func11, Tryz.ntmps11
    go_wp2
    go_loopw [5] (fun i wr => ∃ (k : Nat), k ≤ len ∧ i = .int .i64 k ∧ Below w.heap.size w wr)
      (fun i _ => len - (intOf i).toNat)
    case atStart => exact ⟨0, Nat.zero_le _, rfl, Below.refl _ _⟩
    case round =>
      obtain ⟨k, hk, rfl, hB⟩ := hrel
      by_cases hlt : k < len
      · obtain ⟨b, off, rfl, hbs, hcell⟩ := hc (by omega)
        obtain ⟨b', off', rfl, hbs', hcell'⟩ := hc' (by omega)
        have d1 := (hB.cell (p := ⟨b, off + k, none⟩) hbs).trans (hcell k hlt)
        have d1' := (hB.cell (p := ⟨b', off' + k, none⟩) hbs').trans (hcell' k hlt)
        by_cases he : S k = S' k
        · rw [← he] at d1'
          have hss : ((S k).toList != (S k).toList) = false := by simp
          clear hcell hc hcell' hc'
          go_wp2
          go_quiet (fail)
          go_wp2
          go_roundw
          case rel => exact ⟨k + 1, by omega, by go_num, hB.trans ⟨rfl, rfl, rfl, Nat.le_refl _, fun _ _ => rfl⟩⟩
          case measure => simp [intOf]; omega
        · have hl : ¬ (S k).toList = (S' k).toList := fun e => he (by
            rw [ByteArray.toList_eq, ByteArray.toList_eq] at e
            exact ByteArray.ext (Array.ext' e))
          have hss : ((S k).toList != (S' k).toList) = true := by simpa using hl
          clear hcell hc hcell' hc'
          go_wp2
          go_quiet (fail)
          go_wp2
          · go_ret
            exact ⟨_, rfl, hB.trans ⟨rfl, rfl, rfl, Nat.le_refl _, fun _ _ => rfl⟩⟩
          · exact ⟨⟨k + 1, by omega, by go_num, hB.trans ⟨rfl, rfl, rfl, Nat.le_refl _, fun _ _ => rfl⟩⟩, by simp [intOf]; omega⟩
      · have hke : k = len := by omega
        subst hke
        go_wp2
        go_ret
        exact ⟨_, rfl, hB⟩
  · have hbn : ((len : Int) != (len' : Int)) = true := by simp; omega
    go_enter Tryz.func11, Tryz.ntmps11
    go_wp2
    go_ret
    exact ⟨_, rfl, Below.refl _ _⟩

theorem specWrapsNo_any (a : Option Addr) (len cap : Nat) (K : Nat → Int) (L : Nat → Nat) (M : Nat → Nat → Int) (w : World) (h : Ep.IsEps w a len cap K L M) :
    Calls Tryz.prog 25 #[.slice a len cap] w fun e w' => ∃ u n c S, e = .returned (.slice u n c) ∧ IsStrs w' u n c S ∧ Below w.heap.size w w' := by
  have HI : Hid (Ep.IsEps w a len cap K L M) := h
  cases hq : Ep.epsB K L M len with
  | true =>
    refine (specWraps_any a len cap K L M w h hq).mono ?_
    rintro e w' ⟨g, c, rfl, ho, hB⟩
    exact ⟨_, _, _, _, rfl, ho.strs, hB⟩
  | false =>
    have HQ : Hid (Ep.epsB K L M len = false) := hq
    have HB0 : Hid (Below w.heap.size w (w.alloc (.cells #[] 9))) := (Below.refl _ _).alloc (Nat.le_refl _) _
    clear h hq
    go_enter Tryz.func25, Tryz.ntmps25
    go_wp2_with fail
    refine (Ep.specEpochsOk_any a len cap K L M _ (HI.out.below HB0.out)).mono ?_
    rintro e w1 ⟨rfl, hB1⟩
    rw [HQ.out]
    have HB1 : Hid (Below w.heap.size w w1) := HB0.out.trans (hB1.mono HB0.out.size)
    have hs1 : w.heap.size < w1.heap.size := by have := hB1.size; simp at this; omega
    have HS1 : Hid (w.heap.size < w1.heap.size) := hs1
    clear hB1 hs1
    go_wp2
    go_ret
    exact ⟨some ⟨w.heap.size, 0, none⟩, 0, 0, fun _ => ⟨#[]⟩, rfl, ⟨Nat.le_refl _, by decide, fun h => absurd h (Nat.lt_irrefl _)⟩, HB1.out⟩
end Go.Proofs.YtpcbhjejpebogaaGreatDoor

namespace Go.Proofs.YtpcbhjejpebogaaGreatDoor
open Go.RowKit Go.Maps
set_option linter.unusedVariables false

/-- how many keys the first n members lead to -/
def sumC (L : Nat → Nat) (M : Nat → Nat → Int) (len : Nat) : Nat → Nat
  | 0 => 0
  | k + 1 => sumC L M len k + cntE L M len ((k + 1 : Nat) : Int)
theorem sumC_all {K : Nat → Int} {L : Nat → Nat} {M : Nat → Nat → Int} {len : Nat} (h : Ep.epsB K L M len = true) : sumC L M len 5 = (Ep.pairsOf K L M len).length := by
  have h1 := all_five h len (Nat.le_refl _)
  simp only [sumC]
  simpa using h1
theorem sumC_le (L : Nat → Nat) (M : Nat → Nat → Int) (len : Nat) : ∀ k, sumC L M len k ≤ k * len
  | 0 => by simp [sumC]
  | k + 1 => by
    have h1 := sumC_le L M len k
    have h2 : cntE L M len ((k + 1 : Nat) : Int) ≤ len := by
      unfold cntE
      have := List.length_filter_le (fun i => memE L M i ((k + 1 : Nat) : Int)) (List.range len)
      rwa [List.length_range] at this
    rw [sumC, Nat.succ_mul]
    omega

theorem wpList_append_nil {P : Program} (w : World) {ops : Array Oper} {rest : List Oper} {o : Oper} {a : Act} {Q : Exit → Act → World → Prop}
    (hg : o.guard = none) (s x : Operand) (t : TypeId) (hop : o.op = Op.call { callee := Callee.builtin Builtin.append, args := #[s, x], argTypes := #[t, t] })
    (base : Nat) (e : TypeId) (i : TypeInfo) (size : Nat) (h1 : P.underlying t = some (.slice e)) (h2 : P.info? e = some i) (h4 : i.size = size) (v : Value) (k : Nat) (xs : List Value) (hs : a.eval s = v) (hown : w.ownsRow base e size v k xs) (hx : a.eval x = .slice none 0 0)
    (hK : wpList P ops Q rest (a.put o.dst v) w) : wpList P ops Q (o :: rest) a w := by
  refine wpList_plain hg fun K hK' => ?_
  have hrun := run_append_owned_none (P := P) w base t o.type e i size h1 h2 _ k xs hown
  unfold Oper.wp
  simp [execOp, hop, resolve, invoke, builtin, hs, hx, hrun, Result.andThen]
  exact hK' _ _ hK

set_option maxRecDepth 20000 in
set_option maxHeartbeats 8000000 in
theorem fnkeys_walk {u : Option Addr} {len cap : Nat} {Z : Nat → Int} (w : World) (hU : IsU8 w u len cap Z) (hP : Pow w) :
    Calls Tryz.prog 5 #[.slice u len cap] w fun e w' => e = .returned (.bool true) ∧ Below w.heap.size w w' := by
  have HU : Hid (IsU8 w u len cap Z) := hU
  have HP : Hid (Pow w) := hP
  clear hU hP
  by_cases hbig : (1048576 : Int) < (len : Int)
  · have hd : decide ((1048576 : Int) < (len : Int)) = true := decide_eq_true hbig
    go_enter Tryz.func5, Tryz.ntmps5
    go_wp2_with fail
    refine (big_any u len cap w).mono ?_
    rintro e w1 ⟨rfl, hw⟩
    rw [hw, hd]
    clear hw w1 hd
    go_wp2
    go_ret
    exact ⟨rfl, Below.refl _ _⟩
  have hd : decide ((1048576 : Int) < (len : Int)) = false := decide_eq_false hbig
  go_enter Tryz.func5, Tryz.ntmps5
  go_wp2_with fail
  refine (big_any u len cap w).mono ?_
  rintro e w1 ⟨rfl, hw⟩
  rw [hw, hd]
  clear hw w1 hd hbig
  go_wp2_with fail
  refine (drawKeysOf_any u len cap Z w HU.out).mono ?_
  rintro e w2 ⟨a, n, c, K, L, M, ka, kl, kc, S, rfl, hI2, hS2, hz2, hB2⟩
  have HI2 : Hid (Ep.IsEps w2 a n c K L M) := hI2
  have HB2 : Hid (Below w.heap.size w w2) := hB2
  have HS2 : Hid (IsStrs w2 ka kl kc S) := hS2
  clear hI2 hB2 hS2
  have HKO : Hid (∀ v, Below w2.heap.size w2 v → Calls Tryz.prog 21 #[.slice a n c, .slice ka kl kc] v fun e w' => ∃ v' R, e = .returned v' ∧ OwnK w' v.heap.size v' R ∧ KeysR K L M n S kl R ∧ Below v.heap.size v w') := fun v hv =>
    implKeysOf_any a n c K L M ka kl kc S v (HI2.out.below hv) (HS2.out.below hv) hz2 (HP.out.below (HB2.out.trans (hv.mono HB2.out.size)))
  have HKS : Hid (∀ v, Below w2.heap.size w2 v → Calls Tryz.prog 23 #[.slice a n c, .slice ka kl kc] v fun e w' => ∃ v' R, e = .returned v' ∧ OwnK w' v.heap.size v' R ∧ KeysR K L M n S kl R ∧ Below v.heap.size v w') := fun v hv =>
    specKeysOf_any a n c K L M ka kl kc S v (HI2.out.below hv) (HS2.out.below hv) hz2
  clear hz2
  go_wp2_with fail
  refine (HKO.out w2 (Below.refl _ _)).mono ?_
  rintro e w3 ⟨v3, R, rfl, ho3, hR, hB3⟩
  have HR : Hid (KeysR K L M n S kl R) := hR
  have HB3 : Hid (Below w2.heap.size w2 w3) := hB3
  obtain ⟨a3, c3, rfl, hI3, _⟩ := ints_of_row ho3
  obtain ⟨m, hm⟩ : ∃ m, m = R.length := ⟨_, rfl⟩
  have HM : Hid (m = R.length) := hm
  rw [← hm] at hI3 ⊢
  have HI3 : Hid (Ep.IsI64 w3 a3 m c3 (atI R)) := hI3
  -- the specification's KeysOf and the comparison, wherever they are asked
  have HSM : Hid (∀ v v', Below w3.heap.size w3 v → ∀ b d, Ep.IsI64 v' b m d (atI R) → Below v.heap.size v v' → Calls Tryz.prog 22 #[.slice a3 m c3, .slice b m d] v' fun e w' => e = .returned (.bool true) ∧ Below v'.heap.size v' w') := fun v v' hv b d hb hvv =>
    sameI_any a3 b m c3 d (atI R) v' (HI3.out.below (hv.trans (hvv.mono hv.size))) hb
  clear hR hB3 ho3 hm hI3
  go_wp2_with fail
  refine (HKS.out w3 HB3.out).mono ?_
  rintro e w4 ⟨v4, R4, rfl, ho4, hR4, hB4⟩
  rw [hR4.unique HR.out] at ho4
  obtain ⟨a4, c4, rfl, hI4, _⟩ := ints_of_row ho4
  rw [← HM.out] at hI4 ⊢
  have HB4 : Hid (Below w3.heap.size w3 w4) := hB4
  have HC4 : Hid (Calls Tryz.prog 22 #[.slice a3 m c3, .slice a4 m c4] w4 fun e w' => e = .returned (.bool true) ∧ Below w4.heap.size w4 w') := HSM.out w3 w4 (Below.refl _ _) a4 c4 hI4 hB4
  clear hR4 ho4 hI4 hB4
  go_wp2_with fail
  refine HC4.out.mono ?_
  rintro e w5 ⟨rfl, hB5⟩
  have HB35 : Hid (Below w3.heap.size w3 w5) := HB4.out.trans (hB5.mono HB4.out.size)
  have HB5 : Hid (Below w2.heap.size w2 w5) := HB3.out.trans (HB35.out.mono HB3.out.size)
  clear hB5
  have HPV : Hid (∀ v, Below w2.heap.size w2 v → Pow v) := fun v hv => HP.out.below (HB2.out.trans (hv.mono HB2.out.size))
  go_wp2_with fail
  refine (implWraps_any a n c K L M w5 (HI2.out.below HB5.out) (HPV.out w5 HB5.out)).mono ?_
  rintro e w6 ⟨u6, n6, c6, S6, rfl, hI6, hn6, hB6⟩
  have HB36 : Hid (Below w3.heap.size w3 w6) := HB35.out.trans (hB6.mono HB35.out.size)
  have HB6 : Hid (Below w2.heap.size w2 w6) := HB5.out.trans (hB6.mono HB5.out.size)
  clear hB6 hn6
  go_wp2_with fail
  refine (specWrapsNo_any a n c K L M w6 (HI2.out.below HB6.out)).mono ?_
  rintro e w7 ⟨u7, n7, c7, S7, rfl, hI7, hB7⟩
  have HB37 : Hid (Below w3.heap.size w3 w7) := HB36.out.trans (hB7.mono HB36.out.size)
  have HB7 : Hid (Below w2.heap.size w2 w7) := HB6.out.trans (hB7.mono HB6.out.size)
  have HI67 : Hid (IsStrs w7 u6 n6 c6 S6) := hI6.below hB7
  have HI7 : Hid (IsStrs w7 u7 n7 c7 S7) := hI7
  clear hB7 hI6 hI7
  go_wp2_with fail
  refine (sameTB_any u6 u7 n6 c6 n7 c7 S6 S7 w7 HI67.out HI7.out).mono ?_
  rintro e w8 ⟨b, rfl, hB8⟩
  have HB38 : Hid (Below w3.heap.size w3 w8) := HB37.out.trans (hB8.mono HB37.out.size)
  have HB8 : Hid (Below w2.heap.size w2 w8) := HB7.out.trans (hB8.mono HB7.out.size)
  clear hB8
  cases b with
  | false =>
    go_wp2_with fail
    refine (HKS.out w8 HB8.out).mono ?_
    rintro e w9 ⟨v9, R9, rfl, ho9, hR9, hB9⟩
    rw [hR9.unique HR.out] at ho9
    obtain ⟨a9, c9, rfl, hI9, _⟩ := ints_of_row ho9
    rw [← HM.out] at hI9 ⊢
    have HB9 : Hid (Below w2.heap.size w2 w9) := HB8.out.trans (hB9.mono HB8.out.size)
    have HC9 : Hid (Calls Tryz.prog 22 #[.slice a3 m c3, .slice a9 m c9] w9 fun e w' => e = .returned (.bool true) ∧ Below w9.heap.size w9 w') := HSM.out w8 w9 HB38.out a9 c9 hI9 hB9
    clear hR9 ho9 hI9 hB9
    go_wp2_with fail
    refine HC9.out.mono ?_
    rintro e w10 ⟨rfl, hB10⟩
    have HB10 : Hid (Below w.heap.size w w10) := HB2.out.trans ((HB9.out.trans (hB10.mono HB9.out.size)).mono HB2.out.size)
    clear hB10
    go_wp2
    go_ret
    exact ⟨rfl, HB10.out⟩
  | true =>
  obtain ⟨eb, heb⟩ : ∃ eb, eb = Ep.epsB K L M n := ⟨_, rfl⟩
  have HEB : Hid (eb = Ep.epsB K L M n) := heb
  have HEC : Hid (∀ v, Below w2.heap.size w2 v → Calls Tryz.prog 26 #[.slice a n c] v fun e w' => e = .returned (.bool eb) ∧ Below v.heap.size v w') := fun v hv => by
    rw [HEB.out]
    exact Ep.specEpochsOk_any a n c K L M v (HI2.out.below hv)
  clear heb
  go_wp2_with fail
  refine (HEC.out w8 HB8.out).mono ?_
  rintro e w9 ⟨rfl, hB9⟩
  have HB39 : Hid (Below w3.heap.size w3 w9) := HB38.out.trans (hB9.mono HB38.out.size)
  have HB9 : Hid (Below w2.heap.size w2 w9) := HB8.out.trans (hB9.mono HB8.out.size)
  clear hB9
  cases eb with
  | false =>
    go_wp2_with fail
    refine (HKS.out w9 HB9.out).mono ?_
    rintro e w10 ⟨v9, R9, rfl, ho9, hR9, hB10⟩
    rw [hR9.unique HR.out] at ho9
    obtain ⟨a9, c9, rfl, hI9, _⟩ := ints_of_row ho9
    rw [← HM.out] at hI9 ⊢
    have HB10 : Hid (Below w2.heap.size w2 w10) := HB9.out.trans (hB10.mono HB9.out.size)
    have HC9 : Hid (Calls Tryz.prog 22 #[.slice a3 m c3, .slice a9 m c9] w10 fun e w' => e = .returned (.bool true) ∧ Below w10.heap.size w10 w') := HSM.out w9 w10 HB39.out a9 c9 hI9 hB10
    clear hR9 ho9 hI9 hB10
    go_wp2_with fail
    refine HC9.out.mono ?_
    rintro e w11 ⟨rfl, hB11⟩
    have HB11 : Hid (Below w.heap.size w w11) := HB2.out.trans ((HB10.out.trans (hB11.mono HB10.out.size)).mono HB2.out.size)
    clear hB11
    go_wp2
    go_ret
    exact ⟨rfl, HB11.out⟩
  | true =>
  have HOK : Hid (Ep.epsB K L M n = true) := HEB.out.symm
  have hn5 : n ≤ 5 := by
    rcases Nat.eq_zero_or_pos n with h0 | h0
    · omega
    · exact (eps_few HOK.out h0).2
  clear HSM HC4 HKO HKS HI67 HI7 HEC HI3 HR HM
  have hs29 : w2.heap.size ≤ w9.heap.size := HB9.out.size
  have HS29 : Hid (w2.heap.size ≤ w9.heap.size) := hs29
  have HA0 : Hid (OwnK (w9.alloc (.cells #[] 2)) w9.heap.size (.slice (some ⟨w9.heap.size, 0, none⟩) 0 0) []) := World.ownsRow_made w9 #[] 0 (Nat.le_refl _) (by decide) rfl
  have HZ0 : Hid (Below w2.heap.size w2 (w9.alloc (.cells #[] 2))) := HB9.out.alloc HB9.out.size _
  clear hs29
  go_wp2
  go_loopw [6, 7, 8, 9, 10, 11] (fun all mv _ _ _ _ wr => ∃ (k : Nat) (mz : Int) (A : List Int), 1 ≤ mz ∧ mz ≤ 6 ∧ mv = .int .i64 mz ∧ Hid (mz = (k : Int) + 1 ∧ OwnK wr w9.heap.size all A ∧ A.length = sumC L M n k ∧ Below w2.heap.size w2 wr ∧ w9.heap.size ≤ wr.heap.size)) (fun _ mv _ _ _ _ _ => 6 - (intOf mv).toNat)
  case atStart => exact ⟨0, 1, [], by omega, by omega, rfl, by simp, HA0.out, rfl, HZ0.out, by simp⟩
  case round =>
    obtain ⟨k, mz, A, hm1, hm6, rfl, HR⟩ := hrel
    obtain ⟨aa, ac, hall⟩ := row_slice HR.out.2.1
    subst hall
    obtain ⟨q, hq⟩ : ∃ q, q = A.length := ⟨_, rfl⟩
    have HQ : Hid (q = A.length ∧ q = sumC L M n k) := ⟨hq, by rw [hq]; exact HR.out.2.2.1⟩
    rw [← hq]
    rw [← hq] at HR
    clear hq
    by_cases hlt : mz ≤ 5
    · have HKM : Hid (1 ≤ k + 1 ∧ k + 1 ≤ 5) := ⟨by omega, by have := HR.out.1; omega⟩
      have hw1 : IntKind.i64.wrap (48 + mz) = 48 + mz := by rw [IntKind.wrap_i64]; omega
      have hcv := mg_string wr (48 + mz)
      obtain ⟨T, hT⟩ : ∃ T, T = mkey (k + 1) := ⟨_, rfl⟩
      have HT : Hid (T = mkey (k + 1)) := hT
      have hadd : ∀ v : World, (Op.stringOp .add ⟨#[107]⟩ (mg (48 + mz))).run Tryz.prog v = .ok (.string T) v := fun v => by
        have e1 : ByteArray.mk #[107] ++ mg (48 + mz) = T := by
          rw [hT]
          have h1 := HR.out.1
          have h2 := HKM.out
          have : k = 0 ∨ k = 1 ∨ k = 2 ∨ k = 3 ∨ k = 4 := by omega
          rcases this with h3 | h3 | h3 | h3 | h3 <;> (rw [h3] at h1 ⊢; rw [h1]; rfl)
        rw [← e1]
        exact add_ok (by have e2 : (ByteArray.mk #[107]).size = 1 := rfl; have e3 : (mg (48 + mz)).size = 1 := rfl; omega) v
      have hBK : Below wr.heap.size wr ((wr.alloc (.cells #[.int .u8 (48 + mz)] 5)).alloc (.cells #[.string T] 9)) := ((Below.refl _ _).alloc (Nat.le_refl _) _).alloc (by simp) _
      have hIK : IsStrs ((wr.alloc (.cells #[.int .u8 (48 + mz)] 5)).alloc (.cells #[.string T] 9)) (some ⟨wr.heap.size + 1, 0, none⟩) 1 1 (fun _ => mkey (k + 1)) := by
        refine ⟨Nat.le_refl _, by decide, fun _ => ⟨_, 0, rfl, by simp, fun i hi => ?_⟩⟩
        have h0 : i = 0 := by omega
        subst h0
        have h1 := (Boxed.new (wr.alloc (.cells #[.int .u8 (48 + mz)] 5)) 9 (.string T)).cell
        rw [World.size_alloc] at h1
        rw [h1, hT]
      have hBZ : Below w2.heap.size w2 ((wr.alloc (.cells #[.int .u8 (48 + mz)] 5)).alloc (.cells #[.string T] 9)) := HR.out.2.2.2.1.trans (hBK.mono HR.out.2.2.2.1.size)
      have HCK : Hid (Calls Tryz.prog 21 #[.slice a n c, .slice (some ⟨wr.heap.size + 1, 0, none⟩) 1 1] ((wr.alloc (.cells #[.int .u8 (48 + mz)] 5)).alloc (.cells #[.string T] 9)) fun e w' => ∃ v R, e = .returned v ∧ OwnK w' ((wr.alloc (.cells #[.int .u8 (48 + mz)] 5)).alloc (.cells #[.string T] 9)).heap.size v R ∧ KeysR K L M n (fun _ => mkey (k + 1)) 1 R ∧ Below ((wr.alloc (.cells #[.int .u8 (48 + mz)] 5)).alloc (.cells #[.string T] 9)).heap.size ((wr.alloc (.cells #[.int .u8 (48 + mz)] 5)).alloc (.cells #[.string T] 9)) w') :=
        implKeysOf_any a n c K L M _ 1 1 (fun _ => mkey (k + 1)) _ (HI2.out.below hBZ) hIK (fun i _ => by show (2 : Nat) ≤ _; decide) (HPV.out _ hBZ)
      have HBZ : Hid (Below w2.heap.size w2 ((wr.alloc (.cells #[.int .u8 (48 + mz)] 5)).alloc (.cells #[.string T] 9))) := hBZ
      have HOA : Hid (OwnK ((wr.alloc (.cells #[.int .u8 (48 + mz)] 5)).alloc (.cells #[.string T] 9)) w9.heap.size (.slice aa q ac) A) := by
        have h1 := HR.out.2.1
        unfold OwnK at h1
        rw [HQ.out.1]
        rw [HQ.out.1] at h1
        exact (h1.alloc _).alloc _
      clear hT hBK hIK hBZ
      go_wp2_with fail
      refine HCK.out.mono ?_
      rintro e w10 ⟨v10, R1, rfl, ho10, hR1, hB10⟩
      have HB10 : Hid (Below w2.heap.size w2 w10) := HBZ.out.trans (hB10.mono HBZ.out.size)
      have HA10 : Hid (OwnK w10 w9.heap.size (.slice aa q ac) A) := HOA.out.below hB10
      have HS10 : Hid (w9.heap.size ≤ w10.heap.size) := by
        show _ ≤ _
        have h1 := hB10.size
        have h2 := HR.out.2.2.2.2
        simp at h1
        omega
      have hRE := keysR_member HOK.out HKM.out (use := true) (mkey_known HKM.out) (mkey_kn HKM.out) hR1
      have HR1 : Hid (R1.length = cntE L M n ((k + 1 : Nat) : Int) ∧ ∀ i, i < n → (K i ∈ R1 ↔ memE L M i ((k + 1 : Nat) : Int) = true)) := ⟨by rw [hRE]; exact keys_len n _, fun i hi => by rw [hRE]; exact keys_has HOK.out hi⟩
      obtain ⟨a1, c1, rfl, hI1, _⟩ := ints_of_row ho10
      have HO1 : Hid (w10.ownsRow ((wr.alloc (.cells #[.int .u8 (48 + mz)] 5)).alloc (.cells #[.string T] 9)).heap.size 2 1 (.slice a1 R1.length c1) R1.length (R1.map (.int .i64 ·))) := ho10
      obtain ⟨n1, hn1⟩ : ∃ n1, n1 = R1.length := ⟨_, rfl⟩
      have HN1 : Hid (n1 = R1.length ∧ n1 ≤ n) := ⟨hn1, by
        rw [hn1, HR1.out.1]
        unfold cntE
        have := List.length_filter_le (fun i => memE L M i ((k + 1 : Nat) : Int)) (List.range n)
        rwa [List.length_range] at this⟩
      rw [← hn1] at hI1 HO1 ⊢
      have HI1 : Hid (Ep.IsI64 w10 a1 n1 c1 (atI R1)) := hI1
      have hn1b : n1 ≤ 5 := by have := HN1.out.2; omega
      clear ho10 hR1 hB10 hRE hI1 hn1 hcv hadd
      go_wp2
      go_loopw [9, 10, 11] (fun iv _ _ w3 => ∃ (ii : Nat), ii ≤ n ∧ iv = .int .i64 (ii : Int) ∧ Hid (Below w10.heap.size w10 w3)) (fun iv _ _ _ => n - (intOf iv).toNat)
      case atStart => exact ⟨0, Nat.zero_le _, rfl, Below.refl _ _⟩
      case round =>
        obtain ⟨ii, hii, rfl, HBI⟩ := hrel
        by_cases hil : ii < n
        · have hilI : (ii : Int) < (n : Int) := by omega
          obtain ⟨b, off, Aa, Ca, hab, hbs, hcell⟩ := HI2.out.2.2 (by omega)
          subst hab
          obtain ⟨ki, hki⟩ : ∃ ki, ki = K ii := ⟨_, rfl⟩
          have HKI : Hid (ki = K ii) := hki
          have HKC : Hid (∀ v, Below w10.heap.size w10 v → v.cell? ⟨b, off + ii * 2, none⟩ = some (.int .i64 ki)) := fun v hv => by
            rw [HKI.out]
            exact ((HB10.out.trans (hv.mono HB10.out.size)).cell (p := ⟨b, off + ii * 2, none⟩) hbs).trans (hcell ii hil).1
          clear hcell hki
          go_wp2
          go_loopw [10, 11] (fun inv kv w4 => ∃ (kk : Nat) (pb : Bool), kk ≤ n1 ∧ kv = .int .i64 (kk : Int) ∧ inv = .bool pb ∧ Hid (pb = decide (ki ∈ R1.take kk) ∧ Below w10.heap.size w10 w4)) (fun _ kv _ => n1 - (intOf kv).toNat)
          case atStart => exact ⟨0, false, Nat.zero_le _, rfl, rfl, by simp, HBI.out⟩
          case round =>
            obtain ⟨kk, pb, hkk, rfl, rfl, HPB⟩ := hrel
            by_cases hkl : kk < n1
            · have hkI : (kk : Int) < (n1 : Int) := by omega
              have d2 := HKC.out wr HPB.out.2
              have hat : R1[kk]? = some (atI R1 kk) := by
                have h1 : kk < R1.length := by rw [← HN1.out.1]; exact hkl
                unfold atI
                rw [List.getD_eq_getElem?_getD, List.getElem?_eq_getElem h1]
                rfl
              have HAT : Hid (R1.take (kk + 1) = R1.take kk ++ [atI R1 kk]) := by
                show _ = _
                rw [List.take_add_one, hat]
                rfl
              clear hat
              cases pb with
              | true =>
                have HP2 : Hid (true = decide (ki ∈ R1.take (kk + 1))) := by
                  show _ = _
                  rw [HAT.out]
                  have h1 : ki ∈ R1.take kk := of_decide_eq_true HPB.out.1.symm
                  rw [decide_eq_true (List.mem_append_left _ h1)]
                go_wp2
                go_quiet (fail)
                go_wp2
                go_roundw
                case rel => exact ⟨kk + 1, true, by omega, by go_num, rfl, HP2.out, HPB.out.2.trans ⟨rfl, rfl, rfl, Nat.le_refl _, fun _ _ => rfl⟩⟩
                case measure => simp [intOf]; omega
              | false =>
                obtain ⟨b1, off1, hb1, hbs1, hcell1⟩ := HI1.out.2.2 (by omega)
                subst hb1
                have d1 := (HPB.out.2.cell (p := ⟨b1, off1 + kk, none⟩) hbs1).trans (hcell1 kk hkl)
                obtain ⟨z1, hz1⟩ : ∃ z1, z1 = atI R1 kk := ⟨_, rfl⟩
                rw [← hz1] at d1 HAT
                clear hcell1 hz1
                obtain ⟨zb, hzb⟩ : ∃ zb, (z1 == ki) = zb := ⟨_, rfl⟩
                have HP2 : Hid (zb = decide (ki ∈ R1.take (kk + 1))) := by
                  show _ = _
                  rw [HAT.out]
                  have h1 : ¬ ki ∈ R1.take kk := of_decide_eq_false HPB.out.1.symm
                  rw [← hzb]
                  by_cases h2 : z1 = ki
                  · subst h2
                    rw [decide_eq_true (List.mem_append_right _ (List.mem_singleton.2 rfl))]
                    simp
                  · rw [decide_eq_false (fun h => (List.mem_append.1 h).elim h1 (fun h => h2 (List.mem_singleton.1 h).symm))]
                    simpa using h2
                go_wp2
                go_quiet (fail)
                go_wp2
                go_roundw
                case rel => exact ⟨kk + 1, zb, by omega, by go_num, rfl, HP2.out, HPB.out.2.trans ⟨rfl, rfl, rfl, Nat.le_refl _, fun _ _ => rfl⟩⟩
                case measure => simp [intOf]; omega
            · have hke : kk = n1 := by omega
              subst hke
              have HPX : Hid (pb = Ep.hasB K L M n mz ki) := by
                show _ = _
                have h1 : R1.take kk = R1 := by rw [HN1.out.1]; exact List.take_length
                rw [HPB.out.1, h1]
                unfold Ep.hasB
                rw [HOK.out, Bool.true_and, HKI.out, HR.out.1]
                have h2 := HR1.out.2 ii hil
                have h3 := pairs_at HOK.out hil (m := ((k + 1 : Nat) : Int))
                have e : ((k + 1 : Nat) : Int) = (k : Int) + 1 := by omega
                rw [e] at h2 h3
                exact decide_eq_decide.2 (h2.trans h3.symm)
              have HHI : Hid (∀ s : Later wr, Calls Tryz.prog 27 #[.slice (some ⟨b, off, none⟩) n c, .int .i64 mz, .int .i64 ki] s.val fun e w' => e = .returned (.bool pb) ∧ Below s.val.heap.size s.val w') := fun s => by
                rw [HPX.out]
                exact Ep.implHasKey_any _ n c K L M mz ki s.val (HI2.out.below (HB10.out.trans ((HPB.out.2.trans (s.ok.mono HPB.out.2.size)).mono HB10.out.size)))
              have HHS : Hid (∀ s : Later wr, Calls Tryz.prog 28 #[.slice (some ⟨b, off, none⟩) n c, .int .i64 mz, .int .i64 ki] s.val fun e w' => e = .returned (.bool pb) ∧ Below s.val.heap.size s.val w') := fun s => by
                rw [HPX.out]
                exact Ep.specHasKey_any _ n c K L M mz ki s.val (HI2.out.below (HB10.out.trans ((HPB.out.2.trans (s.ok.mono HPB.out.2.size)).mono HB10.out.size)))
              have qK : ∀ s : Later wr, s.val.cell? ⟨b, off + ii * 2, none⟩ = some (.int .i64 ki) := fun s => s.cell (HKC.out wr HPB.out.2)
              have hbb : (pb != pb) = false := by cases pb <;> rfl
              have hne := Later.any wr
              go_wp2
              refine wp_region_later (by kernel_rfl) (by kernel_rfl) ?_
              repeat (go_big_quiet_step ((rename_i t; first | with_reducible exact Calls.later (HHI.out t) | with_reducible exact Calls.later (HHS.out t))))
              refine wpQuiet_nil ?_
              rintro _ ⟨⟨w12, hB12⟩, rfl⟩
              go_wp2
              go_roundw
              case rel => exact ⟨ii + 1, by omega, by go_num, HPB.out.2.trans (hB12.mono HPB.out.2.size)⟩
              case measure => simp [intOf]; omega
        · have hie : ii = n := by omega
          subst hie
          have HAI : Hid (OwnK wr w9.heap.size (.slice aa q ac) A) := HA10.out.below HBI.out
          have HZI : Hid (Below w2.heap.size w2 wr) := HB10.out.trans (HBI.out.mono HB10.out.size)
          have HW9 : Hid (w9.heap.size ≤ wr.heap.size) := Nat.le_trans HS10.out HBI.out.size
          obtain ⟨i0, hi, hz0, hz1, hz2⟩ := info_parts Ep.info2
          have HSM : Hid (q + n1 ≤ 1000) := by
            show _ ≤ _
            have h1 := sumC_le L M ii k
            have h2 := HQ.out.2
            have h3 := HN1.out.2
            have h4 := HKM.out.2
            have h5 : k * ii ≤ 4 * 5 := Nat.mul_le_mul (by omega) hn5
            omega
          have HN5 : Hid (ii ≤ 5) := hn5
          have HFN : Hid (∀ v w', (w'.ownsRow w9.heap.size 2 1 v (q + n1) (A.map (.int .i64 ·) ++ R1.map (.int .i64 ·))) → OwnK w' w9.heap.size v (A ++ R1) ∧ (A ++ R1).length = sumC L M ii (k + 1)) := fun v w' h => by
            refine ⟨?_, ?_⟩
            · unfold OwnK
              rw [List.length_append, ← HQ.out.1, ← HN1.out.1, List.map_append]
              exact h
            · rw [List.length_append, ← HQ.out.1, HQ.out.2, HR1.out.1]
              rfl
          rcases HO1.out.2 with ⟨e1, e2⟩ | ⟨g1, c1', cur1, e1, hb1, hg1, _⟩
          · simp only [Value.slice.injEq] at e1
            obtain ⟨rfl, rfl, rfl⟩ := e1
            have HX : Hid (OwnK wr w9.heap.size (.slice aa q ac) (A ++ R1) ∧ (A ++ R1).length = sumC L M ii (k + 1)) := by
              have hR0 : R1 = [] := List.eq_nil_of_length_eq_zero HN1.out.1.symm
              have h1 := HAI.out
              refine ⟨by rw [hR0, List.append_nil]; exact h1, ?_⟩
              have := (HFN.out (.slice aa q ac) wr (by
                rw [hR0, List.map_nil, List.append_nil, Nat.add_zero, HQ.out.1]
                unfold OwnK at h1
                rw [HQ.out.1] at h1
                exact h1)).2
              exact this
            have HAR : Hid (wr.ownsRow w9.heap.size 2 1 (.slice aa q ac) A.length (A.map (.int .i64 ·))) := HAI.out
            clear e2 hn5 hn1b
            go_wp2_with (at_builtin; refine wpList_append_nil _ rfl _ _ 39 rfl w9.heap.size 2 i0 1 Tryz.underlying39 hi hz1 _ _ _ rfl HAR.out rfl ?_)
            go_roundw
            case rel => exact ⟨k + 1, mz + 1, A ++ R1, by omega, by omega, by go_num, by have := HR.out.1; omega, HX.out.1, HX.out.2, HZI.out, HW9.out⟩
            case measure => simp [intOf]; omega
          · simp only [Value.slice.injEq] at e1
            obtain ⟨rfl, _, rfl⟩ := e1
            have HNW : Hid (∀ j u, (R1.map (Value.int .i64 ·))[j]? = some u → wr.cell? ((⟨g1, 0, none⟩ : Addr).add j) = some u) := by
              have h1 := Ep.ownsRow_below HO1.out HBI.out
              exact h1.cells (g := g1) rfl
            have HAQ : Hid (wr.ownsRow w9.heap.size 2 1 (.slice aa q ac) q (A.map (.int .i64 ·))) := by
              have h1 := HAI.out
              unfold OwnK at h1
              rw [HQ.out.1] at h1 ⊢
              exact h1
            clear hb1 hg1 hn5 hn1b
            go_wp2_with (at_builtin; refine wpList_append_own _ rfl _ _ 39 rfl w9.heap.size 2 i0 (.int .i64 0) 1 8 Tryz.underlying39 hi hz0 hz1 hz2 rfl (by decide) _ q _ rfl HAQ.out ⟨g1, 0, none⟩ n1 _ (R1.map (Value.int .i64 ·)) rfl (by rw [List.length_map, Nat.mul_one, ← HN1.out.1]) HNW.out (ints_oneCell .i64 R1) (by have := HSM.out; unfold maxLen; omega) (by have := HSM.out; omega) HW9.out ?_; intro v4 w13 hown4 hgrow4 _)
            have HZ13 : Hid (Below w2.heap.size w2 w13) := HZI.out.grown hgrow4 HZI.out.size (fun x hx => by have := (HAQ.out.lt x hx).1; have := HS29.out; omega)
            have HX := HFN.out v4 w13 hown4
            have HW13 : Hid (w9.heap.size ≤ w13.heap.size) := Nat.le_trans HW9.out hgrow4.size
            go_roundw
            case rel => exact ⟨k + 1, mz + 1, A ++ R1, by omega, by omega, by go_num, by have := HR.out.1; omega, HX.1, HX.2, HZ13.out, HW13.out⟩
            case measure => simp [intOf]; omega
    · have hk6 : mz = 6 := by omega
      have HK5 : Hid (k = 5) := by show _ = _; have := HR.out.1; omega
      have hI0 : IsStrs wr none 0 0 (fun _ => (⟨#[]⟩ : ByteArray)) := ⟨Nat.le_refl _, by decide, fun h => absurd h (Nat.lt_irrefl _)⟩
      have HC0 : Hid (Calls Tryz.prog 21 #[.slice a n c, .slice none 0 0] wr fun e w' => ∃ v R, e = .returned v ∧ OwnK w' wr.heap.size v R ∧ KeysR K L M n (fun _ => (⟨#[]⟩ : ByteArray)) 0 R ∧ Below wr.heap.size wr w') :=
        implKeysOf_any a n c K L M none 0 0 _ wr (HI2.out.below HR.out.2.2.2.1) hI0 (fun i hi => absurd hi (Nat.not_lt_zero _)) (HPV.out wr HR.out.2.2.2.1)
      clear hI0
      go_wp2_with fail
      refine HC0.out.mono ?_
      rintro e w11 ⟨v11, R0, rfl, ho11, hR0, hB11⟩
      have hRE := keysR_member HOK.out (m := 1) (by decide) (use := false) (S := fun _ => (⟨#[]⟩ : ByteArray)) (kl := 0) rfl (none_kn _ 1) hR0
      have hR0' : R0 = [] := by rw [hRE]; simp
      rw [hR0'] at ho11
      obtain ⟨a11, c11, rfl, _, _⟩ := ints_of_row ho11
      have HB11 : Hid (Below w2.heap.size w2 w11) := HR.out.2.2.2.1.trans (hB11.mono HR.out.2.2.2.1.size)
      clear ho11 hR0 hB11 hRE hR0'
      go_wp2_with fail
      refine (implWraps_any a n c K L M w11 (HI2.out.below HB11.out) (HPV.out w11 HB11.out)).mono ?_
      rintro e w12 ⟨u12, n12, c12, S12, rfl, _, hn12, hB12⟩
      have hnq : n12 = q := by
        rw [hn12 HOK.out, HQ.out.2, HK5.out, sumC_all HOK.out]
      subst hnq
      have HB12 : Hid (Below w.heap.size w w12) := HB2.out.trans ((HB11.out.trans (hB12.mono HB11.out.size)).mono HB2.out.size)
      clear hB12 hn12
      go_wp2
      go_ret
      exact ⟨rfl, HB12.out⟩
end Go.Proofs.YtpcbhjejpebogaaGreatDoor
