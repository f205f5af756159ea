/-
  The drawings of FnFrames, whole: whatever the code, two texts of at most 300 and 8 bytes. Condition: the code reads as bytes.
-/
import Derived.Test.YtcknemblniemcaaDoorFrD
import Derived.Test.YtcknemblniemcaaDoorMarkT
namespace Go.Proofs.YtcknemblniemcaaDoor
open Go.RowKit Go.Shelf
set_option linter.unusedVariables false

theorem ownsRow_mut {R : Nat} {w w' : World} {base : Nat} {e : TypeId} {size : Nat} {v : Value} {n : Nat} {xs : List Value} (h : w.ownsRow base e size v n xs) (hM : Mut R w w') (hR : R < base) : w'.ownsRow base e size v n xs := by
  obtain ⟨h1, h2⟩ := h
  refine ⟨h1, ?_⟩
  rcases h2 with h2 | ⟨g, cap, cur, hv, hg, hh, r⟩
  · exact Or.inl h2
  · exact Or.inr ⟨g, cap, cur, hv, hg, (hM.block g (lt_of_block hh) (by omega)).trans hh, r⟩
theorem Draw.grown {W : World} {a : Option Addr} {len cap R : Nat} {w w' : World} {row : Option Nat} (h : Draw W a len cap R w) (hG : w.grownBy w' row) (hr : ∀ k, row = some k → k ≠ R ∧ W.heap.size ≤ k) : Draw W a len cap R w' := by
  obtain ⟨p, hp, hb⟩ := h.box
  exact ⟨h.bel.grown hG h.bel.size (fun k hk => (hr k hk).2), h.new, p, hp, (hG.block R (lt_of_block hb) (fun e => (hr R e.symm).1 rfl)).trans hb⟩
theorem push_size : ∀ (zs : List Int) (b : ByteArray), (zs.foldl (fun r n => r.push (UInt8.ofNat n.toNat)) b).size = b.size + zs.length
  | [], b => rfl
  | z :: zs, b => by
    rw [List.foldl_cons, push_size zs, ByteArray.size_push, List.length_cons]
    omega
theorem row_str {w : World} {base g q cap : Nat} {zs : List Int} (h : w.ownsRow base 5 1 (.slice (some ⟨g, 0, none⟩) q cap) q (zs.map (Value.int .u8))) : ∃ t : ByteArray, t.size = q ∧ (convert 29 9 (.slice (some ⟨g, 0, none⟩) q cap)).run Tryd.prog w = .ok (.string t) w := by
  have hl : zs.length = q := by have := h.1; simpa using this
  have hr := run_loadCells_list (P := Tryd.prog) w ⟨g, 0, none⟩ (zs.map (Value.int .u8)) (by
    intro j v hv
    rw [Go.WideShapes.add_plain, Nat.zero_add]
    have hj : j < q := by
      rcases Nat.lt_or_ge j q with h' | h'
      · exact h'
      · rw [List.getElem?_eq_none (by simpa using (by omega : zs.length ≤ j))] at hv; cases hv
    rw [h.cellAt j (by omega)]
    exact hv)
  refine ⟨_, ?_, by
    rw [run_convert_bytes_string _ 29 9 5 _ _ _ Tryd.underlying29 Tryd.underlying5 Tryd.underlying9, run_bytesToString _ _ _ _ zs (by rw [← hl]; simpa using hr)]⟩
  rw [push_size, hl]
  exact Nat.zero_add _

section
variable {W : World} {a : Option Addr} {len cap R : Nat} {Z : Nat → Int}

set_option maxRecDepth 4000 in
set_option maxHeartbeats 1000000 in
theorem bytes_any (hU : IsU8 W a len cap Z) (w : World) (h : Draw W a len cap R w) :
    Calls Tryd.prog 25 #[.pointer (some ⟨R, 0, none⟩), .int .i64 5] w fun e w' => ∃ t : ByteArray, t.size ≤ 5 ∧ e = .returned (.string t) ∧ Below W.heap.size W w' := by
  obtain ⟨i0, hi, hz0, hz1, hz2⟩ := info_parts info5
  have hRw := h.lt
  have hWw := h.bel.size
  have HR : Hid (R < w.heap.size ∧ W.heap.size ≤ w.heap.size) := ⟨hRw, hWw⟩
  clear hRw hWw
  go_enter Tryd.func25, Tryd.ntmps25
  go_wp2_with fail
  refine (belowN_any hU 6 (by omega) (by omega) _ (h.alloc _)).mono ?_
  rintro e w1 ⟨x, hx, rfl, hD1, hM1⟩
  have HO1 : Hid (w1.ownsRow w.heap.size 5 1 (.slice (some ⟨w.heap.size, 0, none⟩) 0 0) 0 ([].map (Value.int .u8)) ∧ Draw W a len cap R w1 ∧ w.heap.size ≤ w1.heap.size) := ⟨ownsRow_mut (World.ownsRow_made w #[] 0 (Nat.le_refl _) (by decide) rfl) hM1 HR.out.1, hD1, Nat.le_trans (by simp) hM1.size⟩
  clear h hD1 hM1
  go_wp2
  go_loopw [5, 6] (fun v y wr => ∃ (k q g cp : Nat) (zs : List Int), y = .int .i64 k ∧ v = .slice (some ⟨g, 0, none⟩) q cp ∧ k + q ≤ 5 ∧ Hid (wr.ownsRow w.heap.size 5 1 (.slice (some ⟨g, 0, none⟩) q cp) q (zs.map (Value.int .u8)) ∧ Draw W a len cap R wr ∧ w.heap.size ≤ wr.heap.size)) (fun _ y _ => (intOf y).toNat)
  case atStart => exact ⟨x, 0, _, _, [], rfl, rfl, by omega, HO1.out⟩
  case round =>
    obtain ⟨k, q, g, cp, zs, rfl, rfl, hkq, HI⟩ := hrel
    by_cases hk : 0 < k
    · have hkI : (0 : Int) < (k : Int) := by omega
      go_wp2_with fail
      refine (below_any hU 256 (by omega) (by omega) _ HI.out.2.1).mono ?_
      rintro e w2 ⟨y, hy0, hy1, rfl, hD2, hM2⟩
      have hyw : IntKind.u8.wrap y = y := by rw [IntKind.wrap_u8]; omega
      have HF : Hid (w2.ownsRow w.heap.size 5 1 (.slice (some ⟨g, 0, none⟩) q cp) q (zs.map (Value.int .u8)) ∧ Draw W a len cap R w2 ∧ w.heap.size ≤ w2.heap.size) := ⟨ownsRow_mut HI.out.1 hM2 HR.out.1, hD2, Nat.le_trans HI.out.2.2 hM2.size⟩
      clear hD2 hM2 HI
      have hc3 : Hid (q + 1 ≤ maxLen) := by show _ ≤ _; unfold maxLen; omega
      have hc4 : Hid ((q + 1) * 1 ≤ 140737488355328) := by show _ ≤ _; omega
      go_wp2_with (at_builtin; refine wpList_append_own _ rfl _ _ 29 rfl w.heap.size 5 i0 (.int .u8 0) 1 1 Tryd.underlying29 hi hz0 hz1 hz2 rfl (by decide) _ q _ rfl (World.ownsRow.alloc HF.out.1 _) ⟨w2.heap.size, 0, none⟩ 1 1 [.int .u8 y] rfl rfl (World.news_of_block (heap_alloc_new _ _)) (fun u hu => by simp at hu; subst hu; rfl) hc3.out hc4.out (by have := HF.out.2.2; simp; omega) ?_; intro v' w7 hown hgrow hnil)
      have hD7 : Draw W a len cap R w7 := (HF.out.2.1.alloc _).grown hgrow (fun k hk => by have := (HF.out.1.lt k hk).1; have := HR.out; omega)
      have hx7 : zs.map (Value.int .u8) ++ [.int .u8 y] = (zs ++ [y]).map (Value.int .u8) := by rw [List.map_append]; rfl
      rw [hx7] at hown
      obtain ⟨g', cap', rfl⟩ : ∃ g' cap', v' = .slice (some ⟨g', 0, none⟩) (q + 1) cap' := by
        rcases hown.2 with ⟨h, h2⟩ | ⟨g', cap'', cur, h, _⟩
        · rw [h2] at hown; have := hown.1; simp at this
        · exact ⟨_, _, h⟩
      have HO : Hid (w7.ownsRow w.heap.size 5 1 (.slice (some ⟨g', 0, none⟩) (q + 1) cap') (q + 1) ((zs ++ [y]).map (Value.int .u8)) ∧ Draw W a len cap R w7 ∧ w.heap.size ≤ w7.heap.size) := ⟨hown, hD7, by have := hgrow.size; have := HF.out.2.2; simp at *; omega⟩
      clear hown hgrow hnil hD7 hx7
      go_wp2
      go_roundw
      case rel => exact ⟨k - 1, q + 1, g', cap', zs ++ [y], by rw [Int.natCast_sub (by omega)]; rfl, rfl, by omega, HO.out⟩
      case measure => simp [intOf]; omega
    · have hkI : ¬ (0 : Int) < (k : Int) := by omega
      obtain ⟨t, ht, hcv⟩ := row_str HI.out.1
      have HE : Hid (Below W.heap.size W wr) := HI.out.2.1.bel
      go_wp2
      go_ret
      exact ⟨t, by omega, rfl, HE.out⟩

set_option maxRecDepth 4000 in
theorem drawFrame_any (hU : IsU8 W a len cap Z) :
    Calls Tryd.prog 16 #[.slice a len cap] W fun e w' => ∃ t : ByteArray, t.size ≤ 8 ∧ e = .returned (.string t) ∧ Below W.heap.size W w' := by
  go_enter Tryd.func16, Tryd.ntmps16
  go_wp2_with fail
  refine (open_any _ _ _ _).mono ?_
  rintro e w1 ⟨rfl, hD1⟩
  go_wp2_with fail
  refine (text_any hU w1 hD1).mono ?_
  rintro e w2 ⟨t, ht, rfl, hD2, _⟩
  go_wp2_with fail
  refine (bytes_any hU w2 hD2).mono ?_
  rintro e w3 ⟨u, hu, rfl, hB⟩
  have had := add_ok (a := t) (b := u) (by omega)
  clear hD1 hD2
  have HB := (show Hid _ from hB)
  clear hB
  go_wp2
  go_ret
  exact ⟨t ++ u, by rw [ByteArray.size_append]; omega, rfl, HB.out⟩

theorem frameT_small {t : ByteArray} (h : t.size ≤ 3) : (frameT t).size ≤ 11 := by
  unfold frameT
  rw [if_pos (by omega), ByteArray.size_append, headT_size]
  omega

set_option maxRecDepth 4000 in
set_option maxHeartbeats 1000000 in
theorem drawTake_any (hU : IsU8 W a len cap Z) :
    Calls Tryd.prog 14 #[.slice a len cap] W fun e w' => ∃ t : ByteArray, t.size ≤ 300 ∧ e = .returned (.string t) ∧ Below W.heap.size W w' := by
  go_enter Tryd.func14, Tryd.ntmps14
  go_wp2_with fail
  refine (open_any _ _ _ _).mono ?_
  rintro e w1 ⟨rfl, hD1⟩
  go_wp2_with fail
  refine (belowN_any hU 4 (by omega) (by omega) w1 hD1).mono ?_
  rintro e w2 ⟨x, hx, rfl, hD2, _⟩
  have HD2 := (show Hid _ from hD2)
  clear hD1 hD2
  go_wp2
  go_loopw [4, 5] (fun v y wr => ∃ (k : Nat) (s : ByteArray), y = .int .i64 k ∧ v = .string s ∧ s.size + 11 * k ≤ 33 ∧ Hid (Draw W a len cap W.heap.size wr)) (fun _ y _ => (intOf y).toNat)
  case atStart => exact ⟨x, _, rfl, rfl, by show 0 + _ ≤ _; omega, HD2.out⟩
  case round =>
    obtain ⟨k, s, rfl, rfl, hks, HI⟩ := hrel
    by_cases hk : 0 < k
    · have hkI : (0 : Int) < (k : Int) := by omega
      go_wp2_with fail
      refine (text_any hU _ HI.out).mono ?_
      rintro e w3 ⟨t, ht, rfl, hD3, _⟩
      go_wp2_with fail
      refine (specFrame_any t (by omega) w3).mono ?_
      rintro e w4 ⟨rfl, hB4⟩
      have hfl := frameT_small ht
      have had := add_ok (a := s) (b := frameT t) (by omega)
      have hsz : (s ++ frameT t).size + 11 * (k - 1) ≤ 33 := by rw [ByteArray.size_append]; omega
      have HD4 : Hid (Draw W a len cap W.heap.size w4) := hD3.below hB4
      generalize frameT t = u at had hsz hfl ⊢
      clear hD3 hB4 HI
      go_wp2
      go_roundw
      case rel => exact ⟨k - 1, s ++ u, by rw [Int.natCast_sub (by omega)]; rfl, rfl, hsz, HD4.out⟩
      case measure => simp [intOf]; omega
    · have hkI : ¬ (0 : Int) < (k : Int) := by omega
      go_wp2_with fail
      refine (hurt_any hU s (by omega) _ HI.out).mono ?_
      rintro e w3 ⟨t, ht, rfl, hD3⟩
      have HB : Hid (Below W.heap.size W w3) := hD3.bel
      clear hD3
      go_wp2
      go_ret
      exact ⟨t, ht, rfl, HB.out⟩

end
end Go.Proofs.YtcknemblniemcaaDoor
