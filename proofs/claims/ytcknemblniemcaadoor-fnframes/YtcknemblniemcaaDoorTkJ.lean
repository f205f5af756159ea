/-
  The program's TakeFrames, for texts of at most 1,048,576 bytes, in worlds in which the table halfLeft lies.
-/
import Derived.Test.YtcknemblniemcaaDoorTkI
namespace Go.Proofs.YtcknemblniemcaaDoor
open Go.RowKit
set_option linter.unusedVariables false

def strLen : Value → Nat
  | .string t => t.size
  | _ => 0

set_option maxRecDepth 4000 in
set_option maxHeartbeats 2000000 in
theorem implTake_any (s : ByteArray) (hs : s.size ≤ 1048576) (w : World) (hT : Halves w) :
    Calls Tryd.prog 9 #[.string s] w fun e w' => ∃ v, e = .returned (.tuple #[v, .int .i64 ((tkF s).2 : Int)]) ∧ OwnL w' w.heap.size v (tkF s).1 ∧ Below w.heap.size w w' := by
  obtain ⟨i0, hi, hz0, hz1, hz2⟩ := info_parts info9
  obtain ⟨n, hn⟩ : ∃ n, n = s.size := ⟨_, rfl⟩
  have hn1 : n ≤ 1048576 := by omega
  have hnI : (s.size : Int) = (n : Int) := by rw [hn]
  have HN : Hid (n = s.size) := hn
  have HT := (show Hid _ from hT)
  clear hn hT
  go_enter Tryd.func9, Tryd.ntmps9
  go_wp2
  go_loopw [4, 5, 6, 7] (fun v y _ _ wr => ∃ (p q : Nat) (r : ByteArray) (a : Option Addr) (cap : Nat) (L : List (List UInt8)), y = .string r ∧ v = .slice a q cap ∧ p ≤ n ∧ 8 * q ≤ p ∧ Hid (r = s.extract p s.size) ∧ Hid (q = L.length ∧ Took s L p ∧ wr.ownsRow w.heap.size 9 1 (.slice a q cap) q (L.map encStr) ∧ Below w.heap.size w wr)) (fun _ y _ _ _ => strLen y)
  case atStart => exact ⟨0, 0, s, _, _, [], rfl, rfl, Nat.zero_le _, Nat.zero_le _, by show _ = _; exact (ByteArray.extract_zero_size).symm, rfl, Took.start s, ⟨rfl, .inl ⟨rfl, rfl⟩⟩, Below.refl _ _⟩
  case round =>
    obtain ⟨p, q, r, a, cap, L, rfl, rfl, hp, hq, HR, HI⟩ := hrel
    obtain ⟨m, hm⟩ : ∃ m, m = r.size := ⟨_, rfl⟩
    have hmI : (r.size : Int) = (m : Int) := by rw [hm]
    have hmn : m + p = n := by have := size_rest (s := s) (p := p) (by have := HN.out; omega); rw [← HR.out] at this; have := HN.out; omega
    have HFB : Hid (frB r 0 = frB s p) := by show _ = _; rw [HR.out]; exact frB_rest (by have := HN.out; omega)
    go_wp2_with fail
    refine (first_any r (by omega) wr (Halves.below HT.out (show Below w.heap.size w wr from HI.out.2.2.2))).mono ?_
    rintro e w1 ⟨rfl, hB1⟩
    rw [HFB.out]
    have HF : Hid (Below w.heap.size w w1 ∧ w1.ownsRow w.heap.size 9 1 (.slice a q cap) q (L.map encStr) ∧ q = L.length) := by
      obtain ⟨i1, i2, i3, i4⟩ := HI.out
      exact ⟨i4.trans (hB1.mono i4.size), ownsRow_below i3 hB1, i1⟩
    clear hB1
    cases hfr : frB s p with
    | false =>
      have HE : Hid (tkF s = (L, p)) := HI.out.2.1.done hfr
      have HO : Hid (OwnL w1 w.heap.size (.slice a q cap) L) := by
        show w1.ownsRow _ _ _ _ _ _
        rw [← HF.out.2.2]
        exact HF.out.2.1
      have hpI : (n : Int) - (m : Int) = (p : Int) := by omega
      clear hmn
      go_wp2
      go_ret2
      rw [HE.out]
      exact ⟨_, rfl, HO.out, HF.out.1⟩
    | true =>
      obtain ⟨f1, f2, f3, f4⟩ := frB_parts hfr
      obtain ⟨z, hz⟩ : ∃ z, z = wd s p := ⟨_, rfl⟩
      rw [← hz] at f2 f3
      obtain ⟨d, hd⟩ : ∃ d, d = dat s p := ⟨_, rfl⟩
      have hds : d.size = z := by rw [hd]; unfold dat; rw [ByteArray.size_extract, ← hz]; omega
      have hdI : (d.size : Int) = (z : Int) := by rw [hds]
      have HD : Hid (fst r = d) := by
        show _ = _
        have hw0 : wd r 0 = z := by rw [HR.out, wd_rest (by omega), hz]
        unfold fst
        rw [if_pos ⟨by have := HN.out; omega, by rw [hw0]; exact f2, by rw [hw0]; have := HN.out; omega⟩, HR.out, dat_rest (by omega) (by rw [← hz]; exact f3), hd]
      obtain ⟨k8, hk8⟩ : ∃ k8, k8 = 8 + z := ⟨_, rfl⟩
      have e8 : (8 : Int) + (z : Int) = (k8 : Int) := by omega
      have l1 : (k8 : Int) ≤ (m : Int) := by have := HN.out; omega
      have l2 : k8 ≤ m := by omega
      have l3 : k8 ≤ r.size := by omega
      have HE : Hid (Took s (L ++ [d.toList]) (p + k8)) := by
        have h1 := HI.out.2.1.step hfr
        rw [← hd, ← hz, show p + 8 + z = p + k8 by omega] at h1
        exact h1
      have HR2 : Hid (r.extract k8 r.size = s.extract (p + k8) s.size) := by
        show _ = _
        rw [HR.out]
        exact ext_end (by have := HN.out; omega)
      have hz1' : z ≤ 100000 := f2
      have hpn : p + k8 ≤ n := by have := HN.out; omega
      have hq1 : 8 * (q + 1) ≤ p + k8 := by omega
      have hms : (r.extract k8 m).size < m := by rw [hm, ByteArray.size_extract]; omega
      have hc3 : Hid (q + 1 ≤ maxLen) := by show _ ≤ _; unfold maxLen; omega
      have hc4 : Hid ((q + 1) * 16 ≤ 140737488355328) := by show _ ≤ _; omega
      have HM : Hid (m = r.size) := hm
      rw [HD.out]
      clear hd hz hfr f1 f2 f3 f4 hk8 hds hm hmn
      go_wp2_with (at_builtin; refine wpList_append_own _ rfl _ _ 24 rfl w.heap.size 9 i0 (.string ⟨#[]⟩) 1 16 Tryd.underlying24 hi hz0 hz1 hz2 rfl (by decide) _ q _ rfl (World.ownsRow.alloc HF.out.2.1 _) ⟨w1.heap.size, 0, none⟩ 1 1 [.string d] rfl rfl (World.news_of_block (heap_alloc_new _ _)) (fun u hu => by simp at hu; subst hu; rfl) hc3.out hc4.out (by have := HF.out.1.size; simp; omega) ?_; intro v' w7 hown hgrow hnil)
      have hB7 : Below w.heap.size w w7 := (HF.out.1.alloc HF.out.1.size _).grown hgrow (by have := HF.out.1.size; simp; omega) (fun x hx => (HF.out.2.1.lt x hx).1)
      have hx7 : L.map encStr ++ [.string d] = (L ++ [d.toList]).map encStr := by rw [List.map_append, List.map_cons, List.map_nil, enc_str]
      rw [hx7] at hown
      obtain ⟨a', cap', rfl⟩ : ∃ a' cap', v' = .slice a' (q + 1) cap' := by
        rcases hown.2 with ⟨h, h2⟩ | ⟨g', cap'', cur, h, _⟩
        · rw [h2] at hown; have := hown.1; simp at this
        · exact ⟨_, _, h⟩
      have HO : Hid (w7.ownsRow w.heap.size 9 1 (.slice a' (q + 1) cap') (q + 1) ((L ++ [d.toList]).map encStr) ∧ Below w.heap.size w w7 ∧ q + 1 = (L ++ [d.toList]).length) := ⟨hown, hB7, by rw [List.length_append, ← HF.out.2.2]; rfl⟩
      clear hown hgrow hnil hB7 hx7
      go_wp2
      go_roundw
      case rel => exact ⟨p + k8, q + 1, _, a', cap', L ++ [d.toList], rfl, rfl, hpn, hq1, by show _ = _; rw [← HR2.out], HO.out.2.2, HE.out, HO.out.1, HO.out.2.1⟩
      case measure => simp only [strLen]; rw [← HM.out]; exact hms
end Go.Proofs.YtcknemblniemcaaDoor
