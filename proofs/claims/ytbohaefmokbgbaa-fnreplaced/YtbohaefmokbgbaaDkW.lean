/-
  The program's changes, done on a shelf. No condition but that sizes are small.
-/
import Derived.Test.YtbohaefmokbgbaaDkH
namespace Go.Proofs.Ytbohaefmokbgbaa
open Go.RowKit Go.Maps
set_option linter.unusedVariables false

theorem empty_add (d : ByteArray) : (⟨#[]⟩ : ByteArray) ++ d = d := by
  apply ba_ext
  rw [ByteArray.toList_eq, ByteArray.toList_eq]
  simp
theorem Sh.below_base {w w' : World} {base B : Nat} (T : Turn (fun k => k = B) w w') (hb : base ≤ w.heap.size) (h : base ≤ B) : Below base w w' := T.below hb (fun k hk e => by omega)
theorem app_step {w w3 : World} {base B c : Nat} {L : List Fl} {D : DataW Value} {p : Pi} {n d : ByteArray} (h : Sh w base B c L D p) (hs : getF L n = none) (hb : base ≤ w.heap.size) (hn : n.size ≤ 9223372036854775807)
    (how : w3.ownsMap Try.prog 9 PR B (c + 1) (D.put (keyL n) (ptrP (w.heap.size + 1)))) (hgr : ((w.alloc (.cells #[.string n, .string d] 111)).alloc (.cells #[.slice none 0 0, .int .i64 0] 119)).grownBy w3 (some B)) :
    w3.cell? ⟨w.heap.size, 0, none⟩ = some (.string n) ∧ w3.cell? ⟨w.heap.size, 1, none⟩ = some (.string d) ∧ (Instr.lookup 74 (.map (some B)) (.string n) false).run Try.prog w3 = .ok (.pointer (some ⟨w.heap.size + 1, 0, none⟩)) w3 ∧
    Hid (Sh w3 base B (c + 1) (putR L n ⟨#[]⟩) (D.put (keyL n) (ptrP (w.heap.size + 1))) (p.set n.toList (w.heap.size + 1) (.slice none 0 0) []) ∧ Below base w w3 ∧ base ≤ w3.heap.size ∧ PileAt w3 base (w.heap.size + 1) (.slice none 0 0) [] 0) := by
  have hB1 : Below w.heap.size w (w.alloc (.cells #[.string n, .string d] 111)) := (Below.refl _ _).alloc (Nat.le_refl _) _
  have hB2 : Below w.heap.size w ((w.alloc (.cells #[.string n, .string d] 111)).alloc (.cells #[.slice none 0 0, .int .i64 0] 119)) := hB1.alloc hB1.size _
  have hlt := h.own.lt
  have g1 : ((w.alloc (.cells #[.string n, .string d] 111)).alloc (.cells #[.slice none 0 0, .int .i64 0] 119)).heap[w.heap.size + 1]? = some (.cells #[.slice none 0 0, .int .i64 0] 119 (0, 0)) := by
    have := heap_alloc_new (w.alloc (.cells #[.string n, .string d] 111)) (.cells #[.slice none 0 0, .int .i64 0] 119)
    simpa using this
  have g0 : ((w.alloc (.cells #[.string n, .string d] 111)).alloc (.cells #[.slice none 0 0, .int .i64 0] 119)).heap[w.heap.size]? = some (.cells #[.string n, .string d] 111 (0, 0)) := (Below.heap_alloc _ _ _ (by simp)).trans (heap_alloc_new _ _)
  have g3 : w3.heap[w.heap.size]? = some (.cells #[.string n, .string d] 111 (0, 0)) := (hgr.block _ (lt_of_block g0) (fun e => by simp at e; omega)).trans g0
  have hS := h.add1 hs hB2 g1 (by omega) hb how hgr
  have hgt : getF (putR L n ⟨#[]⟩) n = some ⟨#[]⟩ := by rw [putR_get h.up]; simp
  have hl := hS.look n hn
  rw [hgt] at hl
  have hp := (hS.pile n _ hgt).1
  refine ⟨cellN g3, cellN g3, ?_, hS, ?_, ?_, ?_⟩
  · simpa [Pi.set] using hl
  · exact (hB2.mono hb).trans ((Turn.of_grown (R := fun k => k = B) hgr (fun k hk => by cases hk; rfl)).below (Nat.le_trans hb hB2.size) (fun k hk e => by have := h.ge; omega))
  · exact Nat.le_trans hb (Nat.le_trans hB2.size hgr.size)
  · simpa [Pi.set, show (⟨#[]⟩ : ByteArray).size = 0 from rfl] using hp

set_option maxRecDepth 4000 in
set_option maxHeartbeats 2000000 in
theorem app_any (n d : ByteArray) (base B c : Nat) (L : List Fl) (D : DataW Value) (p : Pi) (w : World) (h : Sh w base B c L D p) (hb : base ≤ w.heap.size) (hc : c ≤ 100000) (hn : n.size ≤ 1000000000) (hd : d.size ≤ 1000000000) (hx : ∀ x, getF L n = some x → x.size ≤ 1000000000) :
    Calls Try.prog 74 #[.agg #[.string n, .string d], .map (some B)] w fun e w' => e = .returned (.bool true) ∧ ∃ D' p', Sh w' base B (c + 2) (putR L n (match getF L n with | some x => x ++ d | none => d)) D' p' ∧ Below base w w' := by
  obtain ⟨X, hX⟩ : ∃ X, X = w.alloc (.cells #[.string n, .string d] 111) := ⟨_, rfl⟩
  have hBX : Below w.heap.size w X := by rw [hX]; exact (Below.refl _ _).alloc (Nat.le_refl _) _
  have gX : X.heap[w.heap.size]? = some (.cells #[.string n, .string d] 111 (0, 0)) := by rw [hX]; exact heap_alloc_new _ _
  have c0 : X.cell? ⟨w.heap.size, 0, none⟩ = some (.string n) := cellN gX
  have c1 : X.cell? ⟨w.heap.size, 1, none⟩ = some (.string d) := cellN gX
  have hSX := h.below hBX
  have hl := hSX.look n (by omega)
  have HBX := (show Hid _ from hBX)
  have HW : Hid (base ≤ w.heap.size ∧ base ≤ X.heap.size ∧ c ≤ 100000 ∧ n.size ≤ 1000000000 ∧ d.size ≤ 1000000000) := ⟨hb, Nat.le_trans hb hBX.size, hc, hn, hd⟩
  have HX := (show Hid _ from hX)
  cases hg : getF L n with
  | some x =>
    rw [hg] at hl
    have HP : Hid (PileAt X base (p.G n.toList) (p.V n.toList) (p.P n.toList) x.size ∧ (p.P n.toList).length ≤ c ∧ x.size ≤ 1000000000) := ⟨(hSX.pile n x hg).1, (hSX.pile n x hg).2.2, hx x hg⟩
    have HS : Hid (Sh X base B c L D p ∧ getF L n = some x) := ⟨hSX, hg⟩
    rw [hX] at c0 c1 hl
    clear hX hBX gX hSX hb hc hn hd hx hg h
    go_enter Try.func74, Try.ntmps74
    go_wp2_with fail
    rw [← HX.out]
    refine (pput_any base _ _ _ x.size d X HP.out.1 (by have := HP.out.2.1; have := HW.out.2.2.1; omega) (by have := HP.out.2.2; have := HW.out.2.2.2.2; omega) HW.out.2.1).mono ?_
    rintro e w' ⟨rfl, v', hp', hv', hT'⟩
    have HE : Hid (Sh w' base B (c + 1) (putR L n (x ++ d)) D (p.set n.toList (p.G n.toList) v' (p.P n.toList ++ [d])) ∧ Below base w w') := by
      refine ⟨HS.out.1.add2 HS.out.2 hp' hv' hT', (HBX.out.mono HW.out.1).trans (hT'.below HW.out.2.1 fun k hk e => ?_)⟩
      rcases e with e | e
      · have := HP.out.1.ge; omega
      · have := (HP.out.1.own.lt k e).1; omega
    clear c0 c1 hl hp' hv' hT'
    go_wp2
    go_ret
    exact ⟨rfl, _, _, HE.out.1.more (by omega), HE.out.2⟩
  | none =>
    rw [hg] at hl
    have HS : Hid (Sh w base B c L D p ∧ getF L n = none ∧ n.size ≤ 9223372036854775807) := ⟨h, hg, by omega⟩
    have HO : Hid (((w.alloc (.cells #[.string n, .string d] 111)).alloc (.cells #[.slice none 0 0, .int .i64 0] 119)).ownsMap Try.prog 9 PR B c D) := (h.own.alloc _).alloc _
    have hkey : keyOf Try.prog 9 (.string n) = some (keyL n) := keyS (by omega)
    rw [hX] at c0 c1 hl
    have d0 : ((w.alloc (.cells #[.string n, .string d] 111)).alloc (.cells #[.slice none 0 0, .int .i64 0] 119)).cell? ⟨w.heap.size, 0, none⟩ = some (.string n) := by
      have : ((w.alloc (.cells #[.string n, .string d] 111)).alloc (.cells #[.slice none 0 0, .int .i64 0] 119)).heap[w.heap.size]? = some (.cells #[.string n, .string d] 111 (0, 0)) := (Below.heap_alloc _ _ _ (by simp)).trans (heap_alloc_new _ _)
      exact cellN this
    clear hX hBX gX hSX hb hc hn hd hx hg h HX HBX
    go_enter Try.func74, Try.ntmps74
    go_wp2_with (first
      | (at_mapUpdate
         refine wpList_mapUpdate_own _ rfl _ _ _ 74 rfl 9 117 lawS Try.underlying74 PR B c D rfl HO.out (by have := HW.out.2.2.1; unfold maxLen; omega) _ _ _ rfl rfl hkey (ptrP (w.heap.size + 1)) [] rfl ?_
         intro w3 hown3 hgrow3
         obtain ⟨e0, e1, hl3, HS3⟩ := app_step HS.out.1 HS.out.2.1 HW.out.1 HS.out.2.2 hown3 hgrow3
         clear hown3 hgrow3 c0 c1 d0 hl))
    refine (pput_any base (w.heap.size + 1) (.slice none 0 0) [] 0 d w3 HS3.out.2.2.2 (by simp) (by have := HW.out.2.2.2.2; omega) HS3.out.2.2.1).mono ?_
    rintro e w' ⟨rfl, v', hp', hv', hT'⟩
    have HE : Hid (∃ D' p', Sh w' base B (c + 2) (putR L n d) D' p' ∧ Below base w w') := by
      have hgt : getF (putR L n ⟨#[]⟩) n = some ⟨#[]⟩ := by rw [putR_get HS.out.1.up]; simp
      have := HS3.out.1.add2 (d := d) (w' := w') (v' := v') hgt (by simpa [Pi.set, show (⟨#[]⟩ : ByteArray).size = 0 from rfl] using hp') (by simpa [Pi.set] using hv') (by simpa [Pi.set] using hT')
      rw [empty_add, putR_again] at this
      refine ⟨_, _, this, HS3.out.2.1.trans (hT'.below HS3.out.2.2.1 fun k hk e => ?_)⟩
      rcases e with e | e
      · have := HW.out.1; omega
      · cases e
    clear e0 e1 hl3 hp' hv' hT'
    go_wp2
    go_ret
    exact ⟨rfl, HE.out⟩
set_option maxRecDepth 4000 in
set_option maxHeartbeats 2000000 in
theorem rem_any (n : ByteArray) (base B c : Nat) (L : List Fl) (D : DataW Value) (p : Pi) (w : World) (h : Sh w base B c L D p) (hb : base ≤ w.heap.size) (hn : n.size ≤ 1000000000) :
    Calls Try.prog 143 #[.agg #[.string n], .map (some B)] w fun e w' => e = .returned (.bool (getF L n).isSome) ∧ ∃ D' p', Sh w' base B c (cutF L n) D' p' ∧ Below base w w' := by
  obtain ⟨X, hX⟩ : ∃ X, X = w.alloc (.cells #[.string n] 116) := ⟨_, rfl⟩
  have hBX : Below w.heap.size w X := by rw [hX]; exact (Below.refl _ _).alloc (Nat.le_refl _) _
  have gX : X.heap[w.heap.size]? = some (.cells #[.string n] 116 (0, 0)) := by rw [hX]; exact heap_alloc_new _ _
  have c0 : X.cell? ⟨w.heap.size, 0, none⟩ = some (.string n) := cellN gX
  have hSX := h.below hBX
  have hl := hSX.look n (by omega)
  have HBX := (show Hid _ from hBX)
  have HS := (show Hid _ from hSX)
  have HW : Hid (base ≤ w.heap.size ∧ base ≤ X.heap.size) := ⟨hb, Nat.le_trans hb hBX.size⟩
  have HO : Hid ((w.alloc (.cells #[.string n] 116)).ownsMap Try.prog 9 PR B c D) := h.own.alloc _
  have hkey : keyOf Try.prog 9 (.string n) = some (keyL n) := keyS (by omega)
  have HX := (show Hid _ from hX)
  rw [hX] at c0 hl
  clear hX hBX gX hSX hb hn h
  cases hg : getF L n with
  | some x =>
    rw [hg] at hl
    go_enter Try.func143, Try.ntmps143
    go_wp2_with (first
      | (at_delete
         refine wpList_delete_own _ rfl _ _ 74 9 rfl 117 lawS Try.underlying74 PR B c D rfl HO.out _ _ rfl hkey ?_
         intro w1 hown1 hturn1
         rw [← HX.out] at hturn1
         have HE : Hid (Sh w1 base B c (cutF L n) (D.del (keyL n)) p ∧ Below base w w1) := by
           have T : Turn (fun k => k = B) X w1 := Turn.of_grown hturn1.grown (fun k hk => by cases hk; rfl)
           exact ⟨HS.out.cut hown1 T, (HBX.out.mono HW.out.1).trans (Sh.below_base T HW.out.2 HS.out.ge)⟩
         clear hown1 hturn1 c0 hl))
    go_ret
    exact ⟨rfl, _, _, HE.out⟩
  | none =>
    rw [hg] at hl
    go_enter Try.func143, Try.ntmps143
    go_wp2_with (first
      | (at_delete
         refine wpList_delete_own _ rfl _ _ 74 9 rfl 117 lawS Try.underlying74 PR B c D rfl HO.out _ _ rfl hkey ?_
         intro w1 hown1 hturn1
         rw [← HX.out] at hturn1
         have HE : Hid (Sh w1 base B c (cutF L n) (D.del (keyL n)) p ∧ Below base w w1) := by
           have T : Turn (fun k => k = B) X w1 := Turn.of_grown hturn1.grown (fun k hk => by cases hk; rfl)
           exact ⟨HS.out.cut hown1 T, (HBX.out.mono HW.out.1).trans (Sh.below_base T HW.out.2 HS.out.ge)⟩
         clear hown1 hturn1 c0 hl))
    go_ret
    exact ⟨rfl, _, _, HE.out⟩

set_option maxRecDepth 4000 in
set_option maxHeartbeats 2000000 in
theorem ren_any (n u : ByteArray) (base B c : Nat) (L : List Fl) (D : DataW Value) (p : Pi) (w : World) (h : Sh w base B c L D p) (hb : base ≤ w.heap.size) (hc : c ≤ 100000) (hn : n.size ≤ 1000000000) (hu : u.size ≤ 1000000000) :
    Calls Try.prog 141 #[.agg #[.string n, .string u], .map (some B)] w fun e w' => e = .returned (.bool (getF L n).isSome) ∧ ∃ D' p', Sh w' base B (c + 1) (match getF L n with | some x => putR (cutF L n) u x | none => L) D' p' ∧ Below base w w' := by
  obtain ⟨X, hX⟩ : ∃ X, X = w.alloc (.cells #[.string n, .string u] 114) := ⟨_, rfl⟩
  have hBX : Below w.heap.size w X := by rw [hX]; exact (Below.refl _ _).alloc (Nat.le_refl _) _
  have gX : X.heap[w.heap.size]? = some (.cells #[.string n, .string u] 114 (0, 0)) := by rw [hX]; exact heap_alloc_new _ _
  have c0 : X.cell? ⟨w.heap.size, 0, none⟩ = some (.string n) := cellN gX
  have hSX := h.below hBX
  have hl := hSX.look n (by omega)
  have HBX := (show Hid _ from hBX)
  have HS := (show Hid _ from hSX)
  have HW : Hid (base ≤ w.heap.size ∧ base ≤ X.heap.size ∧ c ≤ 100000 ∧ B < w.heap.size) := ⟨hb, Nat.le_trans hb hBX.size, hc, h.own.lt⟩
  have HGX := (show Hid _ from gX)
  have HO : Hid ((w.alloc (.cells #[.string n, .string u] 114)).ownsMap Try.prog 9 PR B c D) := h.own.alloc _
  have hkey : keyOf Try.prog 9 (.string n) = some (keyL n) := keyS (by omega)
  have hkeyu : keyOf Try.prog 9 (.string u) = some (keyL u) := keyS (by omega)
  have HX := (show Hid _ from hX)
  rw [hX] at c0 hl
  clear hX hBX gX hSX hb hn hu hc h
  cases hg : getF L n with
  | some x =>
    rw [hg] at hl
    have HG : Hid (getF L n = some x) := hg
    clear hg
    go_enter Try.func141, Try.ntmps141
    go_wp2_with (first
      | (at_delete
         refine wpList_delete_own _ rfl _ _ 74 9 rfl 117 lawS Try.underlying74 PR B c D rfl HO.out _ _ rfl hkey ?_
         intro w1 hown1 hturn1
         rw [← HX.out] at hturn1
         have HT : Hid (Turn (fun k => k = B) X w1 ∧ w1.ownsMap Try.prog 9 PR B c (D.del (keyL n))) := ⟨Turn.of_grown hturn1.grown (fun k hk => by cases hk; rfl), hown1⟩
         have c1 : w1.cell? ⟨w.heap.size, 1, none⟩ = some (.string u) := by
           have := (HT.out.1.block _ (lt_of_block HGX.out) (fun e => by have := HW.out.2.2.2; omega)).trans HGX.out
           exact cellN this
         clear hown1 hturn1 c0 hl)
      | (at_mapUpdate
         refine wpList_mapUpdate_own _ rfl _ _ _ 74 rfl 9 117 lawS Try.underlying74 PR B c (D.del (keyL n)) rfl HT.out.2 (by have := HW.out.2.2.1; unfold maxLen; omega) _ _ _ rfl rfl hkeyu (ptrP (p.G n.toList)) [] rfl ?_
         intro w3 hown3 hgrow3
         have HE : Hid (Sh w3 base B (c + 1) (putR (cutF L n) u x) ((D.del (keyL n)).put (keyL u) (ptrP (p.G n.toList))) (p.set u.toList (p.G n.toList) (p.V n.toList) (p.P n.toList)) ∧ Below base w w3) := by
           have T : Turn (fun k => k = B) X w3 := HT.out.1.trans (Turn.of_grown hgrow3 (fun k hk => by cases hk; rfl))
           exact ⟨HS.out.ren HG.out hown3 T, (HBX.out.mono HW.out.1).trans (Sh.below_base T HW.out.2.1 HS.out.ge)⟩
         clear hown3 hgrow3 c1))
    go_ret
    exact ⟨rfl, _, _, HE.out⟩
  | none =>
    rw [hg] at hl
    have HE : Hid (Sh X base B (c + 1) L D p ∧ Below base w X) := ⟨HS.out.more (by omega), HBX.out.mono HW.out.1⟩
    rw [HX.out] at HE
    clear hg
    go_enter Try.func141, Try.ntmps141
    go_wp2
    go_ret
    exact ⟨rfl, ⟨_, _, HE.out.1⟩, HE.out.2⟩
end Go.Proofs.Ytbohaefmokbgbaa
