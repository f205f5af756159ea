/-
  The specification's l1Put: a new list with one text more, at its place. No condition but that the slice reads and is not long.
-/
import Derived.Test.YtlibipbpaigmdaaGreatDoorSList
import Derived.Laws.AppendOwn
namespace Go.Proofs.YtlibipbpaigmdaaGreatDoor
open Go.RowKit
set_option linter.unusedVariables false

theorem ret_w {a b : Value} (h : a = b) : Ending.returned a = .returned b := by rw [h]
theorem enc_str (s : ByteArray) : encStr s.toList = .string s := by
  rw [ByteArray.toList_eq]
theorem add_at (b o j : Nat) : (⟨b, o, none⟩ : Addr).add j = ⟨b, o + j, none⟩ := by unfold Addr.add; split <;> simp_all

/-- the cells of L lie from place off of block b on -/
def Lies (w : World) (b off : Nat) (L : List (List UInt8)) : Prop := ∀ i, i < L.length → w.cell? ⟨b, off + i, none⟩ = some (encStr (L.getD i []))
theorem Lies.drop {w : World} {b off : Nat} {L : List (List UInt8)} (h : Lies w b off L) (k : Nat) : Lies w b (off + k) (L.drop k) := by
  intro i hi
  rw [List.length_drop] at hi
  have := h (k + i) (by omega)
  rw [Nat.add_assoc, this]
  simp [List.getD_eq_getElem?_getD, List.getElem?_drop]
theorem Lies.take {w : World} {b off : Nat} {L : List (List UInt8)} (h : Lies w b off L) (k : Nat) : Lies w b off (L.take k) := by
  intro i hi
  rw [List.length_take] at hi
  rw [h i (by omega)]
  simp [List.getD_eq_getElem?_getD, show i < k by omega]
theorem Lies.news {w : World} {b off : Nat} {L : List (List UInt8)} (h : Lies w b off L) : ∀ j u, (L.map encStr)[j]? = some u → w.cell? ((⟨b, off, none⟩ : Addr).add j) = some u := by
  intro j u hu
  rw [List.getElem?_map, Option.map_eq_some_iff] at hu
  obtain ⟨x, hx, rfl⟩ := hu
  have hj : j < L.length := (List.getElem?_eq_some_iff.1 hx).1
  rw [add_at, h j hj, List.getD_eq_getElem?_getD, hx]
  rfl
theorem Lies.below {w w' : World} {b off : Nat} {L : List (List UInt8)} (h : Lies w b off L) (hb : b < w.heap.size) (hB : Below w.heap.size w w') : Lies w' b off L := fun i hi => (hB.cell (p := ⟨b, off + i, none⟩) hb).trans (h i hi)
theorem one_enc (L : List (List UInt8)) : ∀ u ∈ L.map encStr, u.oneCell' = true := by
  intro u hu
  obtain ⟨x, _, rfl⟩ := List.mem_map.1 hu
  rfl

/-- a slice that is not nil, laid at or above base, that holds the texts L -/
def OwnS (w : World) (base g cap : Nat) (L : List (List UInt8)) : Prop := w.ownsRow base 9 1 (.slice (some ⟨g, 0, none⟩) L.length cap) L.length (L.map encStr)
theorem OwnS.below {w w' : World} {base g cap : Nat} {L : List (List UInt8)} (h : OwnS w base g cap L) (hB : Below w.heap.size w w') : OwnS w' base g cap L := ownsRow_below h hB
theorem OwnS.lies {w : World} {base g cap : Nat} {L : List (List UInt8)} (h : OwnS w base g cap L) : Lies w g 0 L ∧ g < w.heap.size ∧ base ≤ g := by
  refine ⟨fun i hi => ?_, own_live h, (h.lt g rfl).1⟩
  rw [Nat.zero_add, h.cellAt i (by omega), List.getElem?_map, List.getD_eq_getElem?_getD, List.getElem?_eq_getElem hi]
  rfl
theorem OwnS.caps {w : World} {base g cap : Nat} {L : List (List UInt8)} (h : OwnS w base g cap L) : L.length ≤ cap ∧ cap ≤ 9223372036854775807 := by
  rcases h.2 with ⟨h', _⟩ | ⟨g', cap', cur, h', _, _, hnc, hcm, _⟩
  · simp at h'
  · simp only [Value.slice.injEq, Option.some.injEq, Addr.mk.injEq, and_true, true_and] at h'
    obtain ⟨rfl, rfl⟩ := h'
    unfold maxLen at hcm
    exact ⟨hnc, by omega⟩
theorem OwnS.strs {w : World} {base g cap : Nat} {L : List (List UInt8)} (h : OwnS w base g cap L) : IsStrs w (some ⟨g, 0, none⟩) L.length cap (atL L) := by
  obtain ⟨h1, h2, h3⟩ := h.lies
  refine ⟨h.caps.1, h.caps.2, fun _ => ⟨g, 0, rfl, h2, fun i hi => ?_⟩⟩
  rw [h1 i hi]
  rfl
theorem own_form {w : World} {base : Nat} {v : Value} {n : Nat} {L : List (List UInt8)} {xs : List Value} (h : w.ownsRow base 9 1 v n xs) (hn : n = L.length) (hx : xs = L.map encStr) (hv : v ≠ .slice none 0 0) : ∃ g cap, v = .slice (some ⟨g, 0, none⟩) L.length cap ∧ OwnS w base g cap L := by
  subst hn
  subst hx
  rcases h.2 with ⟨h', _⟩ | ⟨g, cap, cur, rfl, _⟩
  · exact absurd h' hv
  · exact ⟨g, cap, rfl, h⟩

set_option maxHeartbeats 2000000 in
theorem l1Put_any (b off cap : Nat) (L : List (List UInt8)) (s : ByteArray) (w : World) (h : Lies w b off L) (hb : b < w.heap.size) (hl : L.length ≤ cap) (hc : cap ≤ 9223372036854775807) (h1 : L.length ≤ 1000000) :
    Calls Tryz.prog 113 #[.slice (some ⟨b, off, none⟩) L.length cap, .string s] w fun e w' => ∃ g gc, e = .returned (.slice (some ⟨g, 0, none⟩) (putL L s.toList).length gc) ∧ OwnS w' w.heap.size g gc (putL L s.toList) ∧ Below w.heap.size w w' := by
  obtain ⟨i0, hi, hz0, hz1, hz2⟩ := info_parts info9
  obtain ⟨n, hn⟩ : ∃ n, n = L.length := ⟨_, rfl⟩
  have HL : Hid (Lies w b off L) := h
  rw [← hn] at hl h1 ⊢
  have cel : ∀ i, i < n → w.cell? ⟨b, off + i, none⟩ = some (.string (atL L i)) := fun i hi => h i (by omega)
  have HC : Hid (∀ i, i < n → w.cell? ⟨b, off + i, none⟩ = some (.string (atL L i))) := cel
  have HN : Hid (n = L.length) := hn
  clear h cel hn
  go_enter Tryz.func113, Tryz.ntmps113
  go_wp2
  go_loop [5] (fun i => ∃ (k : Nat), k ≤ n ∧ i = .int .i64 k ∧ Hid (∀ j, j < k → Op.bytesLess (L.getD j []) s.toList = true)) (fun i => n - (intOf i).toNat)
  case atStart => exact ⟨0, Nat.zero_le _, rfl, fun j hj => absurd hj (Nat.not_lt_zero _)⟩
  case round =>
    obtain ⟨k, hk, rfl, HR⟩ := hrel
    by_cases hlt : k < n
    · have d1 := HC.out k hlt
      have hltI : (k : Int) < (n : Int) := by omega
      cases hq : Op.bytesLess (atL L k).toList s.toList with
      | true =>
        have HR' : Hid (∀ j, j < k + 1 → Op.bytesLess (L.getD j []) s.toList = true) := by
          intro j hj
          rcases Nat.lt_succ_iff_lt_or_eq.1 hj with h1 | rfl
          · exact HR.out j h1
          · rw [← atL_list]; exact hq
        go_wp2
        go_round
        case rel => exact ⟨k + 1, by omega, by go_num, HR'⟩
        case measure => simp [intOf]; omega
      | false =>
        have hn := HN.out
        have hat := putL_at s.toList L k (by omega) HR.out (fun _ => by rw [← atL_list]; exact hq)
        cases he : ((atL L k).toList == s.toList) with
        | true =>
          have hp : putL L s.toList = L := by
            rw [hat, if_pos ⟨by omega, by rw [← atL_list]; exact eq_of_beq he⟩]
          have HP : Hid (putL L s.toList = L) := hp
          have hc1 : 0 + n ≤ maxLen := by unfold maxLen; omega
          have hc2 : (0 + n) * 16 ≤ 140737488355328 := by omega
          have HW : Hid (Lies (w.alloc (.cells #[] 9)) b off L) := HL.out.below hb ((Below.refl _ _).alloc (Nat.le_refl _) _)
          clear hp hat hn
          go_wp2_with (at_builtin; refine wpList_append_own _ rfl _ _ 25 rfl w.heap.size 9 i0 (.string ⟨#[]⟩) 1 16 Tryz.underlying25 hi hz0 hz1 hz2 rfl (by decide) _ 0 [] rfl (World.ownsRow_made w #[] 0 (Nat.le_refl _) (by decide) rfl) ⟨b, off, none⟩ n cap (L.map encStr) rfl (by rw [List.length_map, ← HN.out, Nat.mul_one]) HW.out.news (one_enc L) hc1 hc2 (by simp) ?_; intro v' w3 hown hgrow hnil)
          have hf := own_form hown (L := L) (by rw [← HN.out, Nat.zero_add]) (List.nil_append _) (fun e => by have := (hnil.1 e).1; cases this)
          obtain ⟨g, gc, rfl, hf⟩ := hf
          have HF : Hid (OwnS w3 w.heap.size g gc L ∧ Below w.heap.size w w3) := ⟨hf, ((Below.refl _ _).alloc (Nat.le_refl _) _).grown hgrow (by simp) (fun x hx => by have hx' : some w.heap.size = some x := hx; cases hx'; exact Nat.le_refl _)⟩
          clear hown hgrow hnil hf
          go_wp2
          go_ret
          refine ⟨g, gc, ?_, ?_, HF.out.2⟩
          · exact ret_w (by rw [HP.out]; rfl)
          · rw [HP.out]; exact HF.out.1
        | false =>
          have hp : putL L s.toList = L.take k ++ [s.toList] ++ L.drop k := by
            rw [hat, if_neg (fun h => by have h2 := h.2; rw [← atL_list] at h2; rw [h2] at he; simp at he)]
          have HP : Hid (putL L s.toList = L.take k ++ [s.toList] ++ L.drop k) := hp
          have hkl : (L.take k).length = k := by rw [List.length_take]; omega
          have hdl : (L.drop k).length = n - k := by rw [List.length_drop]; omega
          have HKL : Hid ((L.take k).length = k ∧ (L.drop k).length = n - k) := ⟨hkl, hdl⟩
          have hc1 : Hid (0 + k ≤ maxLen) := by show _ ≤ _; unfold maxLen; omega
          have hc2 : Hid ((0 + k) * 16 ≤ 140737488355328) := by show _ ≤ _; omega
          have hc3 : Hid (k + 1 ≤ maxLen) := by show _ ≤ _; unfold maxLen; omega
          have hc4 : Hid ((k + 1) * 16 ≤ 140737488355328) := by show _ ≤ _; omega
          have hc5 : Hid (k + 1 + (n - k) ≤ maxLen) := by show _ ≤ _; unfold maxLen; omega
          have hc6 : Hid ((k + 1 + (n - k)) * 16 ≤ 140737488355328) := by show _ ≤ _; omega
          have HW : Hid (Lies (w.alloc (.cells #[] 9)) b off (L.take k)) := (HL.out.below hb ((Below.refl _ _).alloc (Nat.le_refl _) _)).take k
          clear hp hn hkl hdl
          clear hat
          go_wp2_with (first
            | (at_builtin
               refine wpList_append_own _ rfl _ _ 25 rfl w.heap.size 9 i0 (.string ⟨#[]⟩) 1 16 Tryz.underlying25 hi hz0 hz1 hz2 rfl (by decide) _ 0 [] rfl (World.ownsRow_made w #[] 0 (Nat.le_refl _) (by decide) rfl) ⟨b, off, none⟩ k cap ((L.take k).map encStr) rfl (by rw [List.length_map, HKL.out.1, Nat.mul_one]) HW.out.news (one_enc _) hc1.out hc2.out (by simp) ?_
               intro v' w3 hown hgrow hnil
               obtain ⟨g, gc, rfl, hf⟩ := own_form hown (L := L.take k) (by rw [HKL.out.1, Nat.zero_add]) (List.nil_append _) (fun e => by have := (hnil.1 e).1; cases this)
               have hB3 : Below w.heap.size w w3 := ((Below.refl _ _).alloc (Nat.le_refl _) _).grown hgrow (by simp) (fun x hx => by have hx' : some w.heap.size = some x := hx; cases hx'; exact Nat.le_refl _)
               rw [HKL.out.1]
               have HO3 : Hid (w3.ownsRow w.heap.size 9 1 (.slice (some ⟨g, 0, none⟩) k gc) k ((L.take k).map encStr)) := by
                 have := hf
                 unfold OwnS at this
                 rw [HKL.out.1] at this
                 exact this
               have HB3 : Hid (Below w.heap.size w w3) := hB3
               clear hown hgrow hnil hf hB3)
            | (at_builtin
               refine wpList_append_own _ rfl _ _ 25 rfl w.heap.size 9 i0 (.string ⟨#[]⟩) 1 16 Tryz.underlying25 hi hz0 hz1 hz2 rfl (by decide) _ k _ rfl (HO3.out.alloc _) ⟨w3.heap.size, 0, none⟩ 1 1 [.string s] rfl rfl (World.news_of_block (heap_alloc_new _ _)) (fun u hu => by simp at hu; subst hu; rfl) hc3.out hc4.out (by have := HB3.out.size; simp; omega) ?_
               intro v4 w4 hown4 hgrow4 hnil4
               have hB4 : Below w.heap.size w w4 := (HB3.out.alloc HB3.out.size _).grown hgrow4 (by have := HB3.out.size; simp; omega) (fun x hx => by have := (HO3.out.lt x hx).1; exact this)
               obtain ⟨g4, gc4, rfl, hf4⟩ := own_form hown4 (L := L.take k ++ [s.toList]) (by rw [List.length_append, HKL.out.1]; rfl) (by rw [List.map_append, List.map_cons, List.map_nil, enc_str]) (fun e => by have := (hnil4.1 e).1; cases this)
               have hl4 : (L.take k ++ [s.toList]).length = k + 1 := by rw [List.length_append, HKL.out.1]; rfl
               rw [hl4]
               have HO4 : Hid (w4.ownsRow w.heap.size 9 1 (.slice (some ⟨g4, 0, none⟩) (k + 1) gc4) (k + 1) ((L.take k ++ [s.toList]).map encStr)) := by
                 have := hf4
                 unfold OwnS at this
                 rw [hl4] at this
                 exact this
               have HB4 : Hid (Below w.heap.size w w4) := hB4
               have HW4 : Hid (Lies w4 b (off + k) (L.drop k)) := (fun i hi => (hB4.cell (p := ⟨b, off + k + i, none⟩) hb).trans (HL.out.drop k i hi))
               clear hown4 hgrow4 hnil4 hf4 hB4 hl4)
            | (at_builtin
               refine wpList_append_own _ rfl _ _ 25 rfl w.heap.size 9 i0 (.string ⟨#[]⟩) 1 16 Tryz.underlying25 hi hz0 hz1 hz2 rfl (by decide) _ (k + 1) _ rfl HO4.out ⟨b, off + k, none⟩ (n - k) (cap - k) ((L.drop k).map encStr) rfl (by rw [List.length_map, HKL.out.2, Nat.mul_one]) HW4.out.news (one_enc _) hc5.out hc6.out HB4.out.size ?_
               intro v5 w5 hown5 hgrow5 hnil5
               have hB5 : Below w.heap.size w w5 := HB4.out.grown hgrow5 HB4.out.size (fun x hx => by have := (HO4.out.lt x hx).1; exact this)
               obtain ⟨g5, gc5, rfl, hf5⟩ := own_form hown5 (L := putL L s.toList) (by rw [HP.out, List.length_append, List.length_append, HKL.out.1, HKL.out.2]; rfl) (by rw [HP.out, List.map_append (l₂ := L.drop k)]) (fun e => by have := (hnil5.1 e).1; cases this)
               have HF : Hid (OwnS w5 w.heap.size g5 gc5 (putL L s.toList) ∧ Below w.heap.size w w5) := ⟨hf5, hB5⟩
               clear hown5 hgrow5 hnil5 hf5 hB5))
          go_wp2
          go_ret
          exact ⟨g5, gc5, rfl, HF.out.1, HF.out.2⟩
    · have hke : k = n := by omega
      subst hke
      have hn := HN.out
      have hp : putL L s.toList = L.take k ++ [s.toList] := by
        rw [putL_at s.toList L k (by omega) HR.out (fun h => by omega), if_neg (fun h => by omega), List.drop_eq_nil_of_le (by omega), List.append_nil]
      have HP : Hid (putL L s.toList = L.take k ++ [s.toList]) := hp
      have hkl : (L.take k).length = k := by rw [List.length_take]; omega
      have hdl : (L.drop k).length = 0 := by rw [List.length_drop]; omega
      have HKL : Hid ((L.take k).length = k ∧ (L.drop k).length = 0) := ⟨hkl, hdl⟩
      have hc1 : Hid (0 + k ≤ maxLen) := by show _ ≤ _; unfold maxLen; omega
      have hc2 : Hid ((0 + k) * 16 ≤ 140737488355328) := by show _ ≤ _; omega
      have hc3 : Hid (k + 1 ≤ maxLen) := by show _ ≤ _; unfold maxLen; omega
      have hc4 : Hid ((k + 1) * 16 ≤ 140737488355328) := by show _ ≤ _; omega
      have hc5 : Hid (k + 1 + 0 ≤ maxLen) := by show _ ≤ _; unfold maxLen; omega
      have hc6 : Hid ((k + 1 + 0) * 16 ≤ 140737488355328) := by show _ ≤ _; omega
      have HW : Hid (Lies (w.alloc (.cells #[] 9)) b off (L.take k)) := (HL.out.below hb ((Below.refl _ _).alloc (Nat.le_refl _) _)).take k
      clear hp hn hkl hdl
      by_cases hcap : cap = k
      · have hkc : k = cap := hcap.symm
        clear hcap
        subst hkc
        go_wp2_with (first
          | (at_builtin
             refine wpList_append_own _ rfl _ _ 25 rfl w.heap.size 9 i0 (.string ⟨#[]⟩) 1 16 Tryz.underlying25 hi hz0 hz1 hz2 rfl (by decide) _ 0 [] rfl (World.ownsRow_made w #[] 0 (Nat.le_refl _) (by decide) rfl) ⟨b, off, none⟩ k k ((L.take k).map encStr) rfl (by rw [List.length_map, HKL.out.1, Nat.mul_one]) HW.out.news (one_enc _) hc1.out hc2.out (by simp) ?_
             intro v' w3 hown hgrow hnil
             obtain ⟨g, gc, rfl, hf⟩ := own_form hown (L := L.take k) (by rw [HKL.out.1, Nat.zero_add]) (List.nil_append _) (fun e => by have := (hnil.1 e).1; cases this)
             have hB3 : Below w.heap.size w w3 := ((Below.refl _ _).alloc (Nat.le_refl _) _).grown hgrow (by simp) (fun x hx => by have hx' : some w.heap.size = some x := hx; cases hx'; exact Nat.le_refl _)
             rw [HKL.out.1]
             have HO3 : Hid (w3.ownsRow w.heap.size 9 1 (.slice (some ⟨g, 0, none⟩) k gc) k ((L.take k).map encStr)) := by
               have := hf
               unfold OwnS at this
               rw [HKL.out.1] at this
               exact this
             have HB3 : Hid (Below w.heap.size w w3) := hB3
             clear hown hgrow hnil hf hB3)
          | (at_builtin
             refine wpList_append_own _ rfl _ _ 25 rfl w.heap.size 9 i0 (.string ⟨#[]⟩) 1 16 Tryz.underlying25 hi hz0 hz1 hz2 rfl (by decide) _ k _ rfl (HO3.out.alloc _) ⟨w3.heap.size, 0, none⟩ 1 1 [.string s] rfl rfl (World.news_of_block (heap_alloc_new _ _)) (fun u hu => by simp at hu; subst hu; rfl) hc3.out hc4.out (by have := HB3.out.size; simp; omega) ?_
             intro v4 w4 hown4 hgrow4 hnil4
             have hB4 : Below w.heap.size w w4 := (HB3.out.alloc HB3.out.size _).grown hgrow4 (by have := HB3.out.size; simp; omega) (fun x hx => by have := (HO3.out.lt x hx).1; exact this)
             obtain ⟨g4, gc4, rfl, hf4⟩ := own_form hown4 (L := L.take k ++ [s.toList]) (by rw [List.length_append, HKL.out.1]; rfl) (by rw [List.map_append, List.map_cons, List.map_nil, enc_str]) (fun e => by have := (hnil4.1 e).1; cases this)
             have hl4 : (L.take k ++ [s.toList]).length = k + 1 := by rw [List.length_append, HKL.out.1]; rfl
             rw [hl4]
             have HO4 : Hid (w4.ownsRow w.heap.size 9 1 (.slice (some ⟨g4, 0, none⟩) (k + 1) gc4) (k + 1) ((L.take k ++ [s.toList]).map encStr)) := by
               have := hf4
               unfold OwnS at this
               rw [hl4] at this
               exact this
             have HB4 : Hid (Below w.heap.size w w4) := hB4
             have HW4 : Hid (Lies w4 b (off + k) (L.drop k)) := (fun i hi => (hB4.cell (p := ⟨b, off + k + i, none⟩) hb).trans (HL.out.drop k i hi))
             clear hown4 hgrow4 hnil4 hf4 hB4 hl4)
          | (at_builtin
             first | refine wpList_append_own _ rfl _ _ 25 rfl w.heap.size 9 i0 (.string ⟨#[]⟩) 1 16 Tryz.underlying25 hi hz0 hz1 hz2 rfl (by decide) _ (k + 1) _ rfl HO4.out ⟨b, off, none⟩ 0 _ [] rfl rfl (fun j u hu => by simp at hu) (fun u hu => by simp at hu) hc5.out hc6.out HB4.out.size ?_ | refine wpList_append_own _ rfl _ _ 25 rfl w.heap.size 9 i0 (.string ⟨#[]⟩) 1 16 Tryz.underlying25 hi hz0 hz1 hz2 rfl (by decide) _ (k + 1) _ rfl HO4.out ⟨b, off + k, none⟩ 0 _ [] rfl rfl (fun j u hu => by simp at hu) (fun u hu => by simp at hu) hc5.out hc6.out HB4.out.size ?_
             intro v5 w5 hown5 hgrow5 hnil5
             have hB5 : Below w.heap.size w w5 := HB4.out.grown hgrow5 HB4.out.size (fun x hx => by have := (HO4.out.lt x hx).1; exact this)
             obtain ⟨g5, gc5, rfl, hf5⟩ := own_form hown5 (L := putL L s.toList) (by rw [HP.out, List.length_append, HKL.out.1]; rfl) (by rw [HP.out]; exact List.append_nil _) (fun e => by have := (hnil5.1 e).1; cases this)
             have HF : Hid (OwnS w5 w.heap.size g5 gc5 (putL L s.toList) ∧ Below w.heap.size w w5) := ⟨hf5, hB5⟩
             clear hown5 hgrow5 hnil5 hf5 hB5))
        go_wp2
        go_ret
        exact ⟨g5, gc5, rfl, HF.out.1, HF.out.2⟩
      · skip
        go_wp2_with (first
          | (at_builtin
             refine wpList_append_own _ rfl _ _ 25 rfl w.heap.size 9 i0 (.string ⟨#[]⟩) 1 16 Tryz.underlying25 hi hz0 hz1 hz2 rfl (by decide) _ 0 [] rfl (World.ownsRow_made w #[] 0 (Nat.le_refl _) (by decide) rfl) ⟨b, off, none⟩ k cap ((L.take k).map encStr) rfl (by rw [List.length_map, HKL.out.1, Nat.mul_one]) HW.out.news (one_enc _) hc1.out hc2.out (by simp) ?_
             intro v' w3 hown hgrow hnil
             obtain ⟨g, gc, rfl, hf⟩ := own_form hown (L := L.take k) (by rw [HKL.out.1, Nat.zero_add]) (List.nil_append _) (fun e => by have := (hnil.1 e).1; cases this)
             have hB3 : Below w.heap.size w w3 := ((Below.refl _ _).alloc (Nat.le_refl _) _).grown hgrow (by simp) (fun x hx => by have hx' : some w.heap.size = some x := hx; cases hx'; exact Nat.le_refl _)
             rw [HKL.out.1]
             have HO3 : Hid (w3.ownsRow w.heap.size 9 1 (.slice (some ⟨g, 0, none⟩) k gc) k ((L.take k).map encStr)) := by
               have := hf
               unfold OwnS at this
               rw [HKL.out.1] at this
               exact this
             have HB3 : Hid (Below w.heap.size w w3) := hB3
             clear hown hgrow hnil hf hB3)
          | (at_builtin
             refine wpList_append_own _ rfl _ _ 25 rfl w.heap.size 9 i0 (.string ⟨#[]⟩) 1 16 Tryz.underlying25 hi hz0 hz1 hz2 rfl (by decide) _ k _ rfl (HO3.out.alloc _) ⟨w3.heap.size, 0, none⟩ 1 1 [.string s] rfl rfl (World.news_of_block (heap_alloc_new _ _)) (fun u hu => by simp at hu; subst hu; rfl) hc3.out hc4.out (by have := HB3.out.size; simp; omega) ?_
             intro v4 w4 hown4 hgrow4 hnil4
             have hB4 : Below w.heap.size w w4 := (HB3.out.alloc HB3.out.size _).grown hgrow4 (by have := HB3.out.size; simp; omega) (fun x hx => by have := (HO3.out.lt x hx).1; exact this)
             obtain ⟨g4, gc4, rfl, hf4⟩ := own_form hown4 (L := L.take k ++ [s.toList]) (by rw [List.length_append, HKL.out.1]; rfl) (by rw [List.map_append, List.map_cons, List.map_nil, enc_str]) (fun e => by have := (hnil4.1 e).1; cases this)
             have hl4 : (L.take k ++ [s.toList]).length = k + 1 := by rw [List.length_append, HKL.out.1]; rfl
             rw [hl4]
             have HO4 : Hid (w4.ownsRow w.heap.size 9 1 (.slice (some ⟨g4, 0, none⟩) (k + 1) gc4) (k + 1) ((L.take k ++ [s.toList]).map encStr)) := by
               have := hf4
               unfold OwnS at this
               rw [hl4] at this
               exact this
             have HB4 : Hid (Below w.heap.size w w4) := hB4
             have HW4 : Hid (Lies w4 b (off + k) (L.drop k)) := (fun i hi => (hB4.cell (p := ⟨b, off + k + i, none⟩) hb).trans (HL.out.drop k i hi))
             clear hown4 hgrow4 hnil4 hf4 hB4 hl4)
          | (at_builtin
             first | refine wpList_append_own _ rfl _ _ 25 rfl w.heap.size 9 i0 (.string ⟨#[]⟩) 1 16 Tryz.underlying25 hi hz0 hz1 hz2 rfl (by decide) _ (k + 1) _ rfl HO4.out ⟨b, off, none⟩ 0 _ [] rfl rfl (fun j u hu => by simp at hu) (fun u hu => by simp at hu) hc5.out hc6.out HB4.out.size ?_ | refine wpList_append_own _ rfl _ _ 25 rfl w.heap.size 9 i0 (.string ⟨#[]⟩) 1 16 Tryz.underlying25 hi hz0 hz1 hz2 rfl (by decide) _ (k + 1) _ rfl HO4.out ⟨b, off + k, none⟩ 0 _ [] rfl rfl (fun j u hu => by simp at hu) (fun u hu => by simp at hu) hc5.out hc6.out HB4.out.size ?_
             intro v5 w5 hown5 hgrow5 hnil5
             have hB5 : Below w.heap.size w w5 := HB4.out.grown hgrow5 HB4.out.size (fun x hx => by have := (HO4.out.lt x hx).1; exact this)
             obtain ⟨g5, gc5, rfl, hf5⟩ := own_form hown5 (L := putL L s.toList) (by rw [HP.out, List.length_append, HKL.out.1]; rfl) (by rw [HP.out]; exact List.append_nil _) (fun e => by have := (hnil5.1 e).1; cases this)
             have HF : Hid (OwnS w5 w.heap.size g5 gc5 (putL L s.toList) ∧ Below w.heap.size w w5) := ⟨hf5, hB5⟩
             clear hown5 hgrow5 hnil5 hf5 hB5))
        go_wp2
        go_ret
        exact ⟨g5, gc5, rfl, HF.out.1, HF.out.2⟩
end Go.Proofs.YtlibipbpaigmdaaGreatDoor
