/-
  The program's SeqInserted and SeqDeleted. No condition but that the slice reads.
-/
import Derived.Test.YtjfciokpnhnhbaaSqWo
namespace Go.Proofs.Ytjfciokpnhnhbaa
open Go.RowKit
set_option linter.unusedVariables false

/-- a sequence, an op and whether it is right -/
def SR (b : Bool) (L : List Ev) (x : Ev) (W : World) (e : Ending) (w' : World) : Prop :=
  ∃ v, e = .returned (.tuple #[v, .agg (enc4 (if b then x else evZ)).toArray, .bool b]) ∧ OwnV w' W.heap.size v (if b then L else []) ∧ Below W.heap.size W w'
theorem SR.no {b : Bool} {L : List Ev} {x : Ev} {W w' : World} (h : b = false) (hB : Below W.heap.size W w') : SR b L x W (.returned (.tuple #[.slice none 0 0, .agg #[.int .i64 0, .int .i64 0, .int .i64 0, .string ⟨#[]⟩], .bool false])) w' := by
  subst h
  exact ⟨_, rfl, OwnV.nil _ _, hB⟩
theorem SR.yes {b : Bool} {L : List Ev} {x : Ev} {W w' : World} {v : Value} (h : b = true) (hO : OwnV w' W.heap.size v L) (hB : Below W.heap.size W w') : SR b L x W (.returned (.tuple #[v, .agg (enc4 x).toArray, .bool true])) w' := by
  subst h
  exact ⟨_, rfl, hO, hB⟩
def aft (L : List Int) (z : Int) : Int := if 0 < z then L.getD (z - 1).toNat 0 else 0
def opI (D : Nat → Ev) (n : Nat) (author z : Int) (sg : ByteArray) : Ev := ⟨nid D n author, 1, aft (idsR D n) z, sg⟩
def okI (D : Nat → Ev) (n : Nat) (author z : Int) (sg : ByteArray) : Bool := inB 0 (idsR D n).length z && okW D n author (opI D n author z sg)
def opD (D : Nat → Ev) (n : Nat) (author z : Int) : Ev := ⟨nid D n author, 2, (idsR D n).getD z.toNat 0, ⟨#[]⟩⟩
def okD (D : Nat → Ev) (n : Nat) (author z : Int) : Bool := inB 0 ((idsR D n).length - 1) z && okW D n author (opD D n author z)
theorem put4_own {w : World} {base q : Nat} {v y0 y1 y2 y3 : Value} {L : List Ev} (h : OwnV w base v L) (hq : q < base) : OwnV ((((w.setCell ⟨q, 0, none⟩ y0).setCell ⟨q, 1, none⟩ y1).setCell ⟨q, 2, none⟩ y2).setCell ⟨q, 3, none⟩ y3) base v L := by
  refine h.at (fun k hk => ?_)
  have := (World.ownsRow.lt h k hk).1
  have hne : k ≠ q := by omega
  rw [Below.heap_setCell _ _ _ _ hne, Below.heap_setCell _ _ _ _ hne, Below.heap_setCell _ _ _ _ hne, Below.heap_setCell _ _ _ _ hne]
theorem put4_bel {W w : World} {q : Nat} {y0 y1 y2 y3 : Value} (h : Below W.heap.size W w) (hq : W.heap.size ≤ q) : Below W.heap.size W ((((w.setCell ⟨q, 0, none⟩ y0).setCell ⟨q, 1, none⟩ y1).setCell ⟨q, 2, none⟩ y2).setCell ⟨q, 3, none⟩ y3) :=
  (((h.setCell hq _).setCell hq _).setCell hq _).setCell hq _
theorem SR.of {b : Bool} {L : List Ev} {x X : Ev} {W w' : World} {D : Nat → Ev} {n : Nat} {author : Int} {v : Value} (hb : b = okW D n author X) (hx : x = X) (hL : L = listD D n ++ [X]) (hO : OwnV w' W.heap.size v (outW D n author X)) (hB : Below W.heap.size W w') : SR b L x W (.returned (.tuple #[v, .agg (enc4 (opW D n author X)).toArray, .bool (okW D n author X)])) w' := by
  subst hb hx hL
  exact ⟨v, rfl, hO, hB⟩
theorem inB_no1 {lo hi z : Int} (h : z < lo) : inB lo hi z = false := by unfold inB; rw [decide_eq_false (by omega)]; rfl
theorem inB_no2 {lo hi z : Int} (h : hi < z) : inB lo hi z = false := by unfold inB; rw [decide_eq_false (show ¬ z ≤ hi by omega), Bool.and_false]
theorem inB_yes {lo hi z : Int} (h : lo ≤ z) (h' : z ≤ hi) : inB lo hi z = true := by unfold inB; rw [decide_eq_true h, decide_eq_true h']; rfl
theorem ids_wf {D : Nat → Ev} {n j : Nat} (h : j < (idsR D n).length) : (Lit.int .i64 ((idsR D n).getD j 0)).wf = true := by
  have hm : (idsR D n).getD j 0 ∈ idsR D n := by simp [List.getD, h]
  obtain ⟨_, h1, h2⟩ := idsR_ins hm
  exact wf_small h1 h2

set_option maxRecDepth 10000 in
set_option maxHeartbeats 4000000 in
theorem implInserted_any (a : Option Addr) (len cap : Nat) (D : Nat → Ev) (author z : Int) (sg : ByteArray) (hsg : sg.size ≤ 9223372036854775807) (W : World) (h : IsEvs W a len cap D) (hF : ∀ i, i < len → (D i).in) :
    Calls Try.prog 18 #[.slice a len cap, .int .i64 author, .int .i64 z, .string sg] W (SR (okI D len author z sg) (listD D len ++ [opI D len author z sg]) (opI D len author z sg) W) := by
  have HE : Hid (IsEvs W a len cap D) := h
  have HFF : Hid (∀ i, i < len → (D i).in) := hF
  obtain ⟨Y, hY⟩ : ∃ Y, Y = W.alloc (.cells #[.int .i64 0, .int .i64 0, .int .i64 0, .string ⟨#[]⟩] 36) := ⟨_, rfl⟩
  have HY := (show Hid _ from hY)
  have HYB : Hid (Below W.heap.size W Y) := by rw [hY]; exact (Below.refl _ _).alloc (Nat.le_refl _) _
  have HY0 : Hid (Y.heap[W.heap.size]? = some (.cells #[.int .i64 0, .int .i64 0, .int .i64 0, .string ⟨#[]⟩] 36 (0, 0))) := by rw [hY]; exact heap_alloc_new W _
  clear hY h hF
  go_enter Try.func18, Try.ntmps18
  go_wp2_with fail
  rw [← HY.out]
  refine (implIds_any a len cap D Y (HE.out.below HYB.out) HFF.out).mono ?_
  rintro e w1 ⟨v, rfl, hO, hB1⟩
  have HB1 : Hid (Below W.heap.size W w1) := HYB.out.trans (hB1.mono HYB.out.size)
  have hrw : w1.heap[W.heap.size]? = some (.cells #[.int .i64 0, .int .i64 0, .int .i64 0, .string ⟨#[]⟩] 36 (0, 0)) := (hB1.block _ (lt_of_block HY0.out)).trans HY0.out
  have HRW := (show Hid _ from hrw)
  obtain ⟨L, hL⟩ : ∃ L, L = idsR D len := ⟨_, rfl⟩
  have HLL : Hid (L = idsR D len) := hL
  have hL40 : L.length ≤ 40 := by rw [hL]; exact idsR_len D len
  rw [← hL] at hO
  obtain ⟨va, vc, rfl, l1, l2, hc⟩ := hO.rd
  obtain ⟨m, hm⟩ : ∃ m, m = L.length := ⟨_, rfl⟩
  rw [← hm] at l1 hc hL40 ⊢
  have HM : Hid (m = L.length) := hm
  have HQ : Hid (∀ Z : World, Below w1.heap.size w1 Z → Below W.heap.size W Z ∧ W.heap.size < Z.heap.size) := fun Z hZ => ⟨HB1.out.trans (hZ.mono HB1.out.size), Nat.lt_of_lt_of_le (lt_of_block HRW.out) hZ.size⟩
  clear hB1 hO hL hm
  have r0 : w1.cell? ⟨W.heap.size, 0, none⟩ = some (.int .i64 0) := cellN hrw
  have r1 : w1.cell? ⟨W.heap.size, 1, none⟩ = some (.int .i64 0) := cellN hrw
  have r2 : w1.cell? ⟨W.heap.size, 2, none⟩ = some (.int .i64 0) := cellN hrw
  have r3 : w1.cell? ⟨W.heap.size, 3, none⟩ = some (.string ⟨#[]⟩) := cellN hrw
  have s0 : w1.frozen? ⟨W.heap.size, 0, none⟩ = false := frozN hrw
  have s1 : w1.frozen? ⟨W.heap.size, 1, none⟩ = false := frozN hrw
  have s2 : w1.frozen? ⟨W.heap.size, 2, none⟩ = false := frozN hrw
  have s3 : w1.frozen? ⟨W.heap.size, 3, none⟩ = false := frozN hrw
  clear hrw
  by_cases hz0 : z < 0
  · have HN : Hid (okI D len author z sg = false) := by show _ = _; unfold okI; rw [inB_no1 hz0]; rfl
    go_wp2
    refine bodyPost_ret (results_trt (p := 9) (u := 8) (v := 10) rfl _ _ W.heap.size 36 _ _ _ rfl (put4 _ _ _ _ HRW.out) Try.underlying36 rfl infoE4) rfl ?_
    exact SR.no HN.out (put4_bel HB1.out (Nat.le_refl _))
  · by_cases hz1 : (m : Int) < z
    · have HN : Hid (okI D len author z sg = false) := by show _ = _; unfold okI; rw [inB_no2 (by rw [← HLL.out, ← HM.out]; exact hz1)]; rfl
      go_wp2
      refine bodyPost_ret (results_trt (p := 9) (u := 8) (v := 10) rfl _ _ W.heap.size 36 _ _ _ rfl (put4 _ _ _ _ HRW.out) Try.underlying36 rfl infoE4) rfl ?_
      exact SR.no HN.out (put4_bel HB1.out (Nat.le_refl _))
    · by_cases hz2 : 0 < z
      · obtain ⟨j, rfl⟩ : ∃ j : Nat, z = (j : Int) + 1 := ⟨(z - 1).toNat, by omega⟩
        have hjm : j < m := by omega
        obtain ⟨b, off, rfl, hb, hcc⟩ := hc (by omega)
        obtain ⟨y, hy⟩ : ∃ y, y = L.getD j 0 := ⟨_, rfl⟩
        have c0 := hcc j hjm
        rw [← hy] at c0
        have HYY : Hid (y = L.getD j 0) := hy
        clear hcc hc hy
        go_wp2_with fail
        obtain ⟨X, hX⟩ : ∃ X, X = opI D len author ((j : Int) + 1) sg := ⟨_, rfl⟩
        have HXE : Hid (opI D len author ((j : Int) + 1) sg = X) := hX.symm
        have hX1 : X = ⟨nid D len author, 1, y, sg⟩ := by rw [hX]; unfold opI aft; rw [if_pos (by omega), ← HLL.out, HYY.out]; congr 2; omega
        have HOK : Hid (okI D len author ((j : Int) + 1) sg = okW D len author X) := by show _ = _; unfold okI; rw [← hX, ← HLL.out, ← HM.out, inB_yes (by omega) (by omega), Bool.true_and]
        obtain ⟨Z, hZ⟩ : ∃ Z, Z = w1.alloc (.cells #[.int .i64 0, .int .i64 1, .int .i64 y, .string sg] 36) := ⟨_, rfl⟩
        rw [← hZ]
        have hBZ : Below w1.heap.size w1 Z := by rw [hZ]; exact (Below.refl _ _).alloc (Nat.le_refl _) _
        have hW : Calls Try.prog 48 #[.slice a len cap, .int .i64 author, .agg #[.int .i64 0, .int .i64 1, .int .i64 y, .string sg]] Z (WoP D len author X Z) := by
          rw [hX1]
          exact withOp_any a len cap D author ⟨0, 1, y, sg⟩ Z (HE.out.below (HQ.out Z hBZ).1) HFF.out ⟨hsg, by rw [HYY.out, HLL.out]; exact ids_wf (by rw [← HLL.out, ← HM.out]; exact hjm)⟩
        refine hW.mono ?_
        rintro e w3 ⟨v, rfl, hO, hB3⟩
        have hrw : w3.heap[W.heap.size]? = some (.cells #[.int .i64 0, .int .i64 0, .int .i64 0, .string ⟨#[]⟩] 36 (0, 0)) := (hB3.block _ (HQ.out Z hBZ).2).trans ((hBZ.block _ (lt_of_block HRW.out)).trans HRW.out)
        have HR3 := (show Hid _ from hrw)
        have HO3 : Hid (OwnV w3 Z.heap.size v (outW D len author X) ∧ Below W.heap.size W w3 ∧ W.heap.size < Z.heap.size) := ⟨hO, (HQ.out Z hBZ).1.trans (hB3.mono (HQ.out Z hBZ).1.size), (HQ.out Z hBZ).2⟩
        clear r0 r1 r2 r3 s0 s1 s2 s3 hO hB3 hBZ hZ hW hX hX1 c0
        have r0 : w3.cell? ⟨W.heap.size, 0, none⟩ = some (.int .i64 0) := cellN hrw
        have r1 : w3.cell? ⟨W.heap.size, 1, none⟩ = some (.int .i64 0) := cellN hrw
        have r2 : w3.cell? ⟨W.heap.size, 2, none⟩ = some (.int .i64 0) := cellN hrw
        have r3 : w3.cell? ⟨W.heap.size, 3, none⟩ = some (.string ⟨#[]⟩) := cellN hrw
        have s0 : w3.frozen? ⟨W.heap.size, 0, none⟩ = false := frozN hrw
        have s1 : w3.frozen? ⟨W.heap.size, 1, none⟩ = false := frozN hrw
        have s2 : w3.frozen? ⟨W.heap.size, 2, none⟩ = false := frozN hrw
        have s3 : w3.frozen? ⟨W.heap.size, 3, none⟩ = false := frozN hrw
        clear hrw
        obtain ⟨s, hs⟩ : ∃ s, s = okW D len author X := ⟨_, rfl⟩
        obtain ⟨x', hx'⟩ : ∃ x', x' = opW D len author X := ⟨_, rfl⟩
        rw [← hs, ← hx', show (enc4 x').toArray = #[.int .i64 x'.a, .int .i64 x'.b, .int .i64 x'.c, .string x'.d] from rfl]
        have HSX : Hid (s = okW D len author X ∧ x' = opW D len author X) := ⟨hs, hx'⟩
        clear hs hx'
        go_wp2
        refine bodyPost_ret (results_trt (p := 9) (u := 8) (v := 10) rfl _ _ W.heap.size 36 _ _ _ rfl (put4 _ _ _ _ HR3.out) Try.underlying36 rfl infoE4) rfl ?_
        have := SR.of (W := W) HOK.out HXE.out (congrArg (fun t => listD D len ++ [t]) HXE.out) ((put4_own (y0 := .int .i64 x'.a) (y1 := .int .i64 x'.b) (y2 := .int .i64 x'.c) (y3 := .string x'.d) HO3.out.1 HO3.out.2.2).base (Nat.le_of_lt HO3.out.2.2)) (put4_bel HO3.out.2.1 (Nat.le_refl _))
        rw [← HSX.out.1, ← HSX.out.2] at this
        exact this
      · go_wp2_with fail
        obtain ⟨X, hX⟩ : ∃ X, X = opI D len author z sg := ⟨_, rfl⟩
        have HXE : Hid (opI D len author z sg = X) := hX.symm
        have hX1 : X = ⟨nid D len author, 1, 0, sg⟩ := by rw [hX]; unfold opI aft; rw [if_neg (by omega)]
        have HOK : Hid (okI D len author z sg = okW D len author X) := by show _ = _; unfold okI; rw [← hX, ← HLL.out, ← HM.out, inB_yes (by omega) (by omega), Bool.true_and]
        obtain ⟨Z, hZ⟩ : ∃ Z, Z = w1.alloc (.cells #[.int .i64 0, .int .i64 1, .int .i64 0, .string sg] 36) := ⟨_, rfl⟩
        rw [← hZ]
        have hBZ : Below w1.heap.size w1 Z := by rw [hZ]; exact (Below.refl _ _).alloc (Nat.le_refl _) _
        have hW : Calls Try.prog 48 #[.slice a len cap, .int .i64 author, .agg #[.int .i64 0, .int .i64 1, .int .i64 0, .string sg]] Z (WoP D len author X Z) := by
          rw [hX1]
          exact withOp_any a len cap D author ⟨0, 1, 0, sg⟩ Z (HE.out.below (HQ.out Z hBZ).1) HFF.out ⟨hsg, by show (Lit.int .i64 0).wf = true; decide⟩
        refine hW.mono ?_
        rintro e w3 ⟨v, rfl, hO, hB3⟩
        have hrw : w3.heap[W.heap.size]? = some (.cells #[.int .i64 0, .int .i64 0, .int .i64 0, .string ⟨#[]⟩] 36 (0, 0)) := (hB3.block _ (HQ.out Z hBZ).2).trans ((hBZ.block _ (lt_of_block HRW.out)).trans HRW.out)
        have HR3 := (show Hid _ from hrw)
        have HO3 : Hid (OwnV w3 Z.heap.size v (outW D len author X) ∧ Below W.heap.size W w3 ∧ W.heap.size < Z.heap.size) := ⟨hO, (HQ.out Z hBZ).1.trans (hB3.mono (HQ.out Z hBZ).1.size), (HQ.out Z hBZ).2⟩
        clear r0 r1 r2 r3 s0 s1 s2 s3 hO hB3 hBZ hZ hW hX hX1
        have r0 : w3.cell? ⟨W.heap.size, 0, none⟩ = some (.int .i64 0) := cellN hrw
        have r1 : w3.cell? ⟨W.heap.size, 1, none⟩ = some (.int .i64 0) := cellN hrw
        have r2 : w3.cell? ⟨W.heap.size, 2, none⟩ = some (.int .i64 0) := cellN hrw
        have r3 : w3.cell? ⟨W.heap.size, 3, none⟩ = some (.string ⟨#[]⟩) := cellN hrw
        have s0 : w3.frozen? ⟨W.heap.size, 0, none⟩ = false := frozN hrw
        have s1 : w3.frozen? ⟨W.heap.size, 1, none⟩ = false := frozN hrw
        have s2 : w3.frozen? ⟨W.heap.size, 2, none⟩ = false := frozN hrw
        have s3 : w3.frozen? ⟨W.heap.size, 3, none⟩ = false := frozN hrw
        clear hrw
        obtain ⟨s, hs⟩ : ∃ s, s = okW D len author X := ⟨_, rfl⟩
        obtain ⟨x', hx'⟩ : ∃ x', x' = opW D len author X := ⟨_, rfl⟩
        rw [← hs, ← hx', show (enc4 x').toArray = #[.int .i64 x'.a, .int .i64 x'.b, .int .i64 x'.c, .string x'.d] from rfl]
        have HSX : Hid (s = okW D len author X ∧ x' = opW D len author X) := ⟨hs, hx'⟩
        clear hs hx'
        go_wp2
        refine bodyPost_ret (results_trt (p := 9) (u := 8) (v := 10) rfl _ _ W.heap.size 36 _ _ _ rfl (put4 _ _ _ _ HR3.out) Try.underlying36 rfl infoE4) rfl ?_
        have := SR.of (W := W) HOK.out HXE.out (congrArg (fun t => listD D len ++ [t]) HXE.out) ((put4_own (y0 := .int .i64 x'.a) (y1 := .int .i64 x'.b) (y2 := .int .i64 x'.c) (y3 := .string x'.d) HO3.out.1 HO3.out.2.2).base (Nat.le_of_lt HO3.out.2.2)) (put4_bel HO3.out.2.1 (Nat.le_refl _))
        rw [← HSX.out.1, ← HSX.out.2] at this
        exact this

set_option maxRecDepth 10000 in
set_option maxHeartbeats 4000000 in
theorem implDeleted_any (a : Option Addr) (len cap : Nat) (D : Nat → Ev) (author z : Int) (W : World) (h : IsEvs W a len cap D) (hF : ∀ i, i < len → (D i).in) :
    Calls Try.prog 29 #[.slice a len cap, .int .i64 author, .int .i64 z] W (SR (okD D len author z) (listD D len ++ [opD D len author z]) (opD D len author z) W) := by
  have HE : Hid (IsEvs W a len cap D) := h
  have HFF : Hid (∀ i, i < len → (D i).in) := hF
  obtain ⟨Y, hY⟩ : ∃ Y, Y = W.alloc (.cells #[.int .i64 0, .int .i64 0, .int .i64 0, .string ⟨#[]⟩] 36) := ⟨_, rfl⟩
  have HY := (show Hid _ from hY)
  have HYB : Hid (Below W.heap.size W Y) := by rw [hY]; exact (Below.refl _ _).alloc (Nat.le_refl _) _
  have HY0 : Hid (Y.heap[W.heap.size]? = some (.cells #[.int .i64 0, .int .i64 0, .int .i64 0, .string ⟨#[]⟩] 36 (0, 0))) := by rw [hY]; exact heap_alloc_new W _
  clear hY h hF
  go_enter Try.func29, Try.ntmps29
  go_wp2_with fail
  rw [← HY.out]
  refine (implIds_any a len cap D Y (HE.out.below HYB.out) HFF.out).mono ?_
  rintro e w1 ⟨v, rfl, hO, hB1⟩
  have HB1 : Hid (Below W.heap.size W w1) := HYB.out.trans (hB1.mono HYB.out.size)
  have hrw : w1.heap[W.heap.size]? = some (.cells #[.int .i64 0, .int .i64 0, .int .i64 0, .string ⟨#[]⟩] 36 (0, 0)) := (hB1.block _ (lt_of_block HY0.out)).trans HY0.out
  have HRW := (show Hid _ from hrw)
  obtain ⟨L, hL⟩ : ∃ L, L = idsR D len := ⟨_, rfl⟩
  have HLL : Hid (L = idsR D len) := hL
  have hL40 : L.length ≤ 40 := by rw [hL]; exact idsR_len D len
  rw [← hL] at hO
  obtain ⟨va, vc, rfl, l1, l2, hc⟩ := hO.rd
  obtain ⟨m, hm⟩ : ∃ m, m = L.length := ⟨_, rfl⟩
  rw [← hm] at l1 hc hL40 ⊢
  have HM : Hid (m = L.length) := hm
  have HQ : Hid (∀ Z : World, Below w1.heap.size w1 Z → Below W.heap.size W Z ∧ W.heap.size < Z.heap.size) := fun Z hZ => ⟨HB1.out.trans (hZ.mono HB1.out.size), Nat.lt_of_lt_of_le (lt_of_block HRW.out) hZ.size⟩
  clear hB1 hO hL hm
  have r0 : w1.cell? ⟨W.heap.size, 0, none⟩ = some (.int .i64 0) := cellN hrw
  have r1 : w1.cell? ⟨W.heap.size, 1, none⟩ = some (.int .i64 0) := cellN hrw
  have r2 : w1.cell? ⟨W.heap.size, 2, none⟩ = some (.int .i64 0) := cellN hrw
  have r3 : w1.cell? ⟨W.heap.size, 3, none⟩ = some (.string ⟨#[]⟩) := cellN hrw
  have s0 : w1.frozen? ⟨W.heap.size, 0, none⟩ = false := frozN hrw
  have s1 : w1.frozen? ⟨W.heap.size, 1, none⟩ = false := frozN hrw
  have s2 : w1.frozen? ⟨W.heap.size, 2, none⟩ = false := frozN hrw
  have s3 : w1.frozen? ⟨W.heap.size, 3, none⟩ = false := frozN hrw
  clear hrw
  by_cases hz0 : z < 0
  · have HN : Hid (okD D len author z = false) := by show _ = _; unfold okD; rw [inB_no1 hz0]; rfl
    go_wp2
    refine bodyPost_ret (results_trt (p := 7) (u := 6) (v := 8) rfl _ _ W.heap.size 36 _ _ _ rfl (put4 _ _ _ _ HRW.out) Try.underlying36 rfl infoE4) rfl ?_
    exact SR.no HN.out (put4_bel HB1.out (Nat.le_refl _))
  · by_cases hz1 : (m : Int) ≤ z
    · have HN : Hid (okD D len author z = false) := by show _ = _; unfold okD; rw [inB_no2 (by rw [← HLL.out, ← HM.out]; omega)]; rfl
      go_wp2
      refine bodyPost_ret (results_trt (p := 7) (u := 6) (v := 8) rfl _ _ W.heap.size 36 _ _ _ rfl (put4 _ _ _ _ HRW.out) Try.underlying36 rfl infoE4) rfl ?_
      exact SR.no HN.out (put4_bel HB1.out (Nat.le_refl _))
    · obtain ⟨j, rfl⟩ : ∃ j : Nat, z = (j : Int) := ⟨z.toNat, by omega⟩
      have hjm : j < m := by omega
      obtain ⟨b, off, rfl, hb, hcc⟩ := hc (by omega)
      obtain ⟨y, hy⟩ : ∃ y, y = L.getD j 0 := ⟨_, rfl⟩
      have c0 := hcc j hjm
      rw [← hy] at c0
      have HYY : Hid (y = L.getD j 0) := hy
      clear hcc hc hy
      go_wp2_with fail
      obtain ⟨X, hX⟩ : ∃ X, X = opD D len author (j : Int) := ⟨_, rfl⟩
      have HXE : Hid (opD D len author (j : Int) = X) := hX.symm
      have hX1 : X = ⟨nid D len author, 2, y, ⟨#[]⟩⟩ := by rw [hX]; unfold opD; rw [← HLL.out, HYY.out]; rfl
      have HOK : Hid (okD D len author (j : Int) = okW D len author X) := by show _ = _; unfold okD; rw [← hX, ← HLL.out, ← HM.out, inB_yes (by omega) (by omega), Bool.true_and]
      obtain ⟨Z, hZ⟩ : ∃ Z, Z = w1 := ⟨_, rfl⟩
      rw [← hZ]
      have hBZ : Below w1.heap.size w1 Z := by rw [hZ]; exact Below.refl _ _
      have hW : Calls Try.prog 48 #[.slice a len cap, .int .i64 author, .agg #[.int .i64 0, .int .i64 2, .int .i64 y, .string ⟨#[]⟩]] Z (WoP D len author X Z) := by
        rw [hX1]
        exact withOp_any a len cap D author ⟨0, 2, y, ⟨#[]⟩⟩ Z (HE.out.below (HQ.out Z hBZ).1) HFF.out ⟨by show (⟨#[]⟩ : ByteArray).size ≤ 9223372036854775807; decide, by rw [HYY.out, HLL.out]; exact ids_wf (by rw [← HLL.out, ← HM.out]; exact hjm)⟩
      refine hW.mono ?_
      rintro e w3 ⟨v, rfl, hO, hB3⟩
      have hrw : w3.heap[W.heap.size]? = some (.cells #[.int .i64 0, .int .i64 0, .int .i64 0, .string ⟨#[]⟩] 36 (0, 0)) := (hB3.block _ (HQ.out Z hBZ).2).trans ((hBZ.block _ (lt_of_block HRW.out)).trans HRW.out)
      have HR3 := (show Hid _ from hrw)
      have HO3 : Hid (OwnV w3 Z.heap.size v (outW D len author X) ∧ Below W.heap.size W w3 ∧ W.heap.size < Z.heap.size) := ⟨hO, (HQ.out Z hBZ).1.trans (hB3.mono (HQ.out Z hBZ).1.size), (HQ.out Z hBZ).2⟩
      clear r0 r1 r2 r3 s0 s1 s2 s3 hO hB3 hBZ hZ hW hX hX1 c0
      have r0 : w3.cell? ⟨W.heap.size, 0, none⟩ = some (.int .i64 0) := cellN hrw
      have r1 : w3.cell? ⟨W.heap.size, 1, none⟩ = some (.int .i64 0) := cellN hrw
      have r2 : w3.cell? ⟨W.heap.size, 2, none⟩ = some (.int .i64 0) := cellN hrw
      have r3 : w3.cell? ⟨W.heap.size, 3, none⟩ = some (.string ⟨#[]⟩) := cellN hrw
      have s0 : w3.frozen? ⟨W.heap.size, 0, none⟩ = false := frozN hrw
      have s1 : w3.frozen? ⟨W.heap.size, 1, none⟩ = false := frozN hrw
      have s2 : w3.frozen? ⟨W.heap.size, 2, none⟩ = false := frozN hrw
      have s3 : w3.frozen? ⟨W.heap.size, 3, none⟩ = false := frozN hrw
      clear hrw
      obtain ⟨s, hs⟩ : ∃ s, s = okW D len author X := ⟨_, rfl⟩
      obtain ⟨x', hx'⟩ : ∃ x', x' = opW D len author X := ⟨_, rfl⟩
      rw [← hs, ← hx', show (enc4 x').toArray = #[.int .i64 x'.a, .int .i64 x'.b, .int .i64 x'.c, .string x'.d] from rfl]
      have HSX : Hid (s = okW D len author X ∧ x' = opW D len author X) := ⟨hs, hx'⟩
      clear hs hx'
      go_wp2
      refine bodyPost_ret (results_trt (p := 7) (u := 6) (v := 8) rfl _ _ W.heap.size 36 _ _ _ rfl (put4 _ _ _ _ HR3.out) Try.underlying36 rfl infoE4) rfl ?_
      have := SR.of (W := W) HOK.out HXE.out (congrArg (fun t => listD D len ++ [t]) HXE.out) ((put4_own (y0 := .int .i64 x'.a) (y1 := .int .i64 x'.b) (y2 := .int .i64 x'.c) (y3 := .string x'.d) HO3.out.1 HO3.out.2.2).base (Nat.le_of_lt HO3.out.2.2)) (put4_bel HO3.out.2.1 (Nat.le_refl _))
      rw [← HSX.out.1, ← HSX.out.2] at this
      exact this
end Go.Proofs.Ytjfciokpnhnhbaa
