/-
  The specification's l14Put. No condition but that the slice reads.
-/
import Derived.Test.YtbohaefmokbgbaaDkS
namespace Go.Proofs.Ytbohaefmokbgbaa
open Go.RowKit
set_option linter.unusedVariables false

def lessN (a b : ByteArray) : Bool := Op.bytesLess a.toList b.toList
def putS (s d : ByteArray) (st : List Fl × Bool) (f : Fl) : List Fl × Bool :=
  if (f.n.toList == s.toList) = true then (if st.2 = false ∧ lessN f.n s = false then (st.1 ++ [(⟨s, d⟩ : Fl)], true) else st)
  else (if st.2 = false ∧ lessN f.n s = false then (st.1 ++ [(⟨s, d⟩ : Fl)] ++ [f], true) else (st.1 ++ [f], st.2))
def putTo (L : List Fl) (s d : ByteArray) (k : Nat) : List Fl × Bool := (L.take k).foldl (putS s d) ([], false)
theorem putTo_succ (L : List Fl) (s d : ByteArray) (k : Nat) (h : k < L.length) : putTo L s d (k + 1) = putS s d (putTo L s d k) (L.getD k flZ) := by
  unfold putTo
  have e : L.take (k + 1) = L.take k ++ [L.getD k flZ] := by rw [List.take_succ_eq_append_getElem h]; simp [h]
  rw [e, List.foldl_append]
  rfl
/-- the files with one of this name and data -/
def putF (L : List Fl) (s d : ByteArray) : List Fl := if (putTo L s d L.length).2 = true then (putTo L s d L.length).1 else (putTo L s d L.length).1 ++ [(⟨s, d⟩ : Fl)]

set_option maxRecDepth 4000 in
set_option maxHeartbeats 4000000 in
theorem put_any (v : Value) (L : List Fl) (s d : ByteArray) (w : World) (h : RdF w v L) (hL : L.length ≤ 1000000) :
    Calls Try.prog 85 #[v, .string s, .string d] w fun e w' => ∃ u, e = .returned u ∧ OwnF w' w.heap.size u (putF L s d) ∧ u ≠ .slice none 0 0 ∧ Below w.heap.size w w' := by
  obtain ⟨a, cap, rfl, hlc, hcm, hc⟩ := h
  obtain ⟨i0, hi, hz0, hz1, hz2⟩ := info_parts infoF
  obtain ⟨n, hn⟩ : ∃ n, n = L.length := ⟨_, rfl⟩
  have HN : Hid (n = L.length) := hn
  rw [← hn] at hlc hc hL ⊢
  clear hn
  go_enter Try.func85, Try.ntmps85
  go_wp2
  go_loopw [7, 8, 9] (fun u y i wr => ∃ (k q g gc : Nat) (dn : Bool) (M : List Fl), k ≤ n ∧ i = .int .i64 k ∧ y = .bool dn ∧ u = .slice (some ⟨g, 0, none⟩) q gc ∧ q ≤ 2 * k ∧ Hid (putTo L s d k = (M, dn) ∧ q = M.length) ∧ Hid (wr.ownsRow w.heap.size 68 2 (.slice (some ⟨g, 0, none⟩) q gc) q (cellsF M) ∧ Below w.heap.size w wr)) (fun _ _ i _ => n - (intOf i).toNat)
  case atStart => exact ⟨0, 0, w.heap.size, 0, false, [], Nat.zero_le _, rfl, rfl, rfl, Nat.le_refl _, ⟨rfl, rfl⟩, World.ownsRow_made w #[] 0 (Nat.le_refl _) (by decide) rfl, (Below.refl _ _).alloc (Nat.le_refl _) _⟩
  case round =>
    obtain ⟨k, q, g, gc, dn, M, hk, rfl, rfl, rfl, hqk, HQ, HO⟩ := hrel
    have hc1 : Hid (q + 1 ≤ maxLen) := by show _ ≤ _; unfold maxLen; omega
    have hc2 : Hid ((q + 1) * 32 ≤ 140737488355328) := by show _ ≤ _; omega
    have hc3 : Hid (q + 1 + 1 ≤ maxLen) := by show _ ≤ _; unfold maxLen; omega
    have hc4 : Hid ((q + 1 + 1) * 32 ≤ 140737488355328) := by show _ ≤ _; omega
    by_cases hlt : k < n
    · have hltI : (k : Int) < (n : Int) := by omega
      obtain ⟨b, off, rfl, hbs, hl⟩ := hc (by omega)
      have hkL : k < L.length := by rw [← HN.out]; exact hlt
      have hat := hl k hkL
      have d0 := (HO.out.2.cell (p := ⟨b, off + k * 2, none⟩) hbs).trans hat.c0
      have d1 := (HO.out.2.cell (p := ⟨b, off + k * 2 + 1, none⟩) hbs).trans hat.c1
      have HE : Hid (∀ o w', Below w.heap.size w w' → (w'.alloc o).cell? ⟨b, off + k * 2, none⟩ = some (.string (L.getD k flZ).n) ∧ (w'.alloc o).cell? ⟨b, off + k * 2 + 1, none⟩ = some (.string (L.getD k flZ).d) ∧ w'.cell? ⟨b, off + k * 2, none⟩ = some (.string (L.getD k flZ).n) ∧ w'.cell? ⟨b, off + k * 2 + 1, none⟩ = some (.string (L.getD k flZ).d)) := fun o w' hB => by
        have hB2 := hB.alloc hB.size o
        exact ⟨(hB2.cell (p := ⟨b, off + k * 2, none⟩) hbs).trans hat.c0, (hB2.cell (p := ⟨b, off + k * 2 + 1, none⟩) hbs).trans hat.c1, (hB.cell (p := ⟨b, off + k * 2, none⟩) hbs).trans hat.c0, (hB.cell (p := ⟨b, off + k * 2 + 1, none⟩) hbs).trans hat.c1⟩
      have hstep := putTo_succ L s d k hkL
      rw [HQ.out.1] at hstep
      obtain ⟨f, hf⟩ : ∃ f, f = L.getD k flZ := ⟨_, rfl⟩
      rw [← hf] at d0 d1 hstep HE
      clear hl hc hf hat
      cases hq : (f.n.toList == s.toList) with
      | true =>
        cases hdn : (!dn && !Op.bytesLess f.n.toList s.toList) with
        | true =>
          simp only [Bool.and_eq_true, Bool.not_eq_true'] at hdn
          obtain ⟨rfl, hless⟩ := hdn
          have HS : Hid (putTo L s d (k + 1) = (M ++ [(⟨s, d⟩ : Fl)], true)) := by show _ = _; rw [hstep]; unfold putS; rw [if_pos hq, if_pos ⟨rfl, hless⟩]
          clear hstep
          go_wp2_with (first
            | (at_builtin
               refine wpList_append_own _ rfl _ _ 24 rfl w.heap.size 68 i0 (.agg #[.string ⟨#[]⟩, .string ⟨#[]⟩]) 2 32 Try.underlying24 hi hz0 hz1 hz2 rfl (by decide) _ q _ rfl (World.ownsRow.alloc HO.out.1 _) ⟨wr.heap.size, 0, none⟩ 1 1 [.string s, .string d] rfl rfl (World.news_of_block (heap_alloc_new _ _)) (fun u hu => by simp at hu; rcases hu with rfl | rfl <;> rfl) hc1.out hc2.out (by have := HO.out.2.size; simp; omega) ?_
               intro v' w3 hown hgrow hnil
               have hBw3 : Below w.heap.size w w3 := (HO.out.2.alloc HO.out.2.size _).grown hgrow (by have := HO.out.2.size; simp; omega) (fun x hx => (HO.out.1.lt x hx).1)
               rw [show cellsF M ++ [.string s, .string d] = cellsF (M ++ [(⟨s, d⟩ : Fl)]) from cellsF_snoc M (⟨s, d⟩ : Fl)] at hown
               obtain ⟨gw3, capw3, rfl⟩ : ∃ g cap', v' = .slice (some ⟨g, 0, none⟩) (q + 1) cap' := by
                 rcases hown.2 with ⟨h, h2⟩ | ⟨g', cap'', cur, h, _⟩
                 · exact absurd h2 (by omega)
                 · exact ⟨_, _, h⟩
               have HO3 : Hid (w3.ownsRow w.heap.size 68 2 (.slice (some ⟨gw3, 0, none⟩) (q + 1) capw3) (q + 1) (cellsF (M ++ [(⟨s, d⟩ : Fl)])) ∧ Below w.heap.size w w3) := ⟨hown, hBw3⟩
               clear hown hgrow hnil hBw3
               have e0 := (HE.out (.cells #[] 0) w3 HO3.out.2).2.2.1
               have e1 := (HE.out (.cells #[] 0) w3 HO3.out.2).2.2.2))
          go_wp2
          go_roundw
          case rel => exact ⟨k + 1, q + 1, gw3, capw3, true, M ++ [(⟨s, d⟩ : Fl)], by omega, by go_num, rfl, rfl, by omega, ⟨HS.out, by rw [List.length_append, ← HQ.out.2]; rfl⟩, HO3.out⟩
          case measure => simp [intOf]; omega
        | false =>
          have HS : Hid (putTo L s d (k + 1) = (M, dn)) := by show _ = _; rw [hstep]; unfold putS; rw [if_pos hq, if_neg (fun h => by have h2 : Op.bytesLess f.n.toList s.toList = false := h.2; have h1 : dn = false := h.1; rw [h1, h2] at hdn; cases hdn)]
          clear hstep
          cases dn with
          | true =>
            go_wp2
            go_roundw
            case rel => exact ⟨k + 1, q, g, gc, true, M, by omega, by go_num, rfl, rfl, by omega, ⟨HS.out, HQ.out.2⟩, HO.out⟩
            case measure => simp [intOf]; omega
          | false =>
            have hless : Op.bytesLess f.n.toList s.toList = true := by simpa using hdn
            clear hdn
            go_wp2
            go_roundw
            case rel => exact ⟨k + 1, q, g, gc, false, M, by omega, by go_num, rfl, rfl, by omega, ⟨HS.out, HQ.out.2⟩, HO.out⟩
            case measure => simp [intOf]; omega
      | false =>
        cases hdn : (!dn && !Op.bytesLess f.n.toList s.toList) with
        | true =>
          simp only [Bool.and_eq_true, Bool.not_eq_true'] at hdn
          obtain ⟨rfl, hless⟩ := hdn
          have HS : Hid (putTo L s d (k + 1) = (M ++ [(⟨s, d⟩ : Fl)] ++ [f], true)) := by show _ = _; rw [hstep]; unfold putS; rw [if_neg (by rw [hq]; decide), if_pos ⟨rfl, hless⟩]
          clear hstep
          go_wp2_with (first
            | (at_builtin
               refine wpList_append_own _ rfl _ _ 24 rfl w.heap.size 68 i0 (.agg #[.string ⟨#[]⟩, .string ⟨#[]⟩]) 2 32 Try.underlying24 hi hz0 hz1 hz2 rfl (by decide) _ q _ rfl (World.ownsRow.alloc HO.out.1 _) ⟨wr.heap.size, 0, none⟩ 1 1 [.string s, .string d] rfl rfl (World.news_of_block (heap_alloc_new _ _)) (fun u hu => by simp at hu; rcases hu with rfl | rfl <;> rfl) hc1.out hc2.out (by have := HO.out.2.size; simp; omega) ?_
               intro v' w3 hown hgrow hnil
               have hBw3 : Below w.heap.size w w3 := (HO.out.2.alloc HO.out.2.size _).grown hgrow (by have := HO.out.2.size; simp; omega) (fun x hx => (HO.out.1.lt x hx).1)
               rw [show cellsF M ++ [.string s, .string d] = cellsF (M ++ [(⟨s, d⟩ : Fl)]) from cellsF_snoc M (⟨s, d⟩ : Fl)] at hown
               obtain ⟨gw3, capw3, rfl⟩ : ∃ g cap', v' = .slice (some ⟨g, 0, none⟩) (q + 1) cap' := by
                 rcases hown.2 with ⟨h, h2⟩ | ⟨g', cap'', cur, h, _⟩
                 · exact absurd h2 (by omega)
                 · exact ⟨_, _, h⟩
               have HO3 : Hid (w3.ownsRow w.heap.size 68 2 (.slice (some ⟨gw3, 0, none⟩) (q + 1) capw3) (q + 1) (cellsF (M ++ [(⟨s, d⟩ : Fl)])) ∧ Below w.heap.size w w3) := ⟨hown, hBw3⟩
               clear hown hgrow hnil hBw3
               have e0 := (HE.out (.cells #[] 0) w3 HO3.out.2).2.2.1
               have e1 := (HE.out (.cells #[] 0) w3 HO3.out.2).2.2.2)
            | (at_builtin
               refine wpList_append_own _ rfl _ _ 24 rfl w.heap.size 68 i0 (.agg #[.string ⟨#[]⟩, .string ⟨#[]⟩]) 2 32 Try.underlying24 hi hz0 hz1 hz2 rfl (by decide) _ (q + 1) _ rfl (World.ownsRow.alloc HO3.out.1 _) ⟨w3.heap.size, 0, none⟩ 1 1 [.string f.n, .string f.d] rfl rfl (World.news_of_block (heap_alloc_new _ _)) (fun u hu => by simp at hu; rcases hu with rfl | rfl <;> rfl) hc3.out hc4.out (by have := HO3.out.2.size; simp; omega) ?_
               intro v4 w4 hown4 hgrow hnil
               have hBw4 : Below w.heap.size w w4 := (HO3.out.2.alloc HO3.out.2.size _).grown hgrow (by have := HO3.out.2.size; simp; omega) (fun x hx => (HO3.out.1.lt x hx).1)
               rw [show cellsF (M ++ [(⟨s, d⟩ : Fl)]) ++ [.string f.n, .string f.d] = cellsF ((M ++ [(⟨s, d⟩ : Fl)]) ++ [f]) from cellsF_snoc (M ++ [(⟨s, d⟩ : Fl)]) f] at hown4
               obtain ⟨gw4, capw4, rfl⟩ : ∃ g cap', v4 = .slice (some ⟨g, 0, none⟩) ((q + 1) + 1) cap' := by
                 rcases hown4.2 with ⟨h, h2⟩ | ⟨g', cap'', cur, h, _⟩
                 · exact absurd h2 (by omega)
                 · exact ⟨_, _, h⟩
               have HO4 : Hid (w4.ownsRow w.heap.size 68 2 (.slice (some ⟨gw4, 0, none⟩) ((q + 1) + 1) capw4) ((q + 1) + 1) (cellsF ((M ++ [(⟨s, d⟩ : Fl)]) ++ [f])) ∧ Below w.heap.size w w4) := ⟨hown4, hBw4⟩
               clear hown4 hgrow hnil hBw4))
          go_roundw
          case rel => exact ⟨k + 1, q + 1 + 1, gw4, capw4, true, M ++ [(⟨s, d⟩ : Fl)] ++ [f], by omega, by go_num, rfl, rfl, by omega, ⟨HS.out, by rw [List.length_append, List.length_append, ← HQ.out.2]; rfl⟩, HO4.out⟩
          case measure => simp [intOf]; omega
        | false =>
          have HS : Hid (putTo L s d (k + 1) = (M ++ [f], dn)) := by show _ = _; rw [hstep]; unfold putS; rw [if_neg (by rw [hq]; decide), if_neg (fun h => by have h2 : Op.bytesLess f.n.toList s.toList = false := h.2; have h1 : dn = false := h.1; rw [h1, h2] at hdn; cases hdn)]
          clear hstep
          cases dn with
          | true =>
            go_wp2_with (first
              | (at_builtin
                 refine wpList_append_own _ rfl _ _ 24 rfl w.heap.size 68 i0 (.agg #[.string ⟨#[]⟩, .string ⟨#[]⟩]) 2 32 Try.underlying24 hi hz0 hz1 hz2 rfl (by decide) _ q _ rfl (World.ownsRow.alloc HO.out.1 _) ⟨wr.heap.size, 0, none⟩ 1 1 [.string f.n, .string f.d] rfl rfl (World.news_of_block (heap_alloc_new _ _)) (fun u hu => by simp at hu; rcases hu with rfl | rfl <;> rfl) hc1.out hc2.out (by have := HO.out.2.size; simp; omega) ?_
                 intro v' w3 hown hgrow hnil
                 have hBw3 : Below w.heap.size w w3 := (HO.out.2.alloc HO.out.2.size _).grown hgrow (by have := HO.out.2.size; simp; omega) (fun x hx => (HO.out.1.lt x hx).1)
                 rw [show cellsF M ++ [.string f.n, .string f.d] = cellsF (M ++ [f]) from cellsF_snoc M f] at hown
                 obtain ⟨gw3, capw3, rfl⟩ : ∃ g cap', v' = .slice (some ⟨g, 0, none⟩) (q + 1) cap' := by
                   rcases hown.2 with ⟨h, h2⟩ | ⟨g', cap'', cur, h, _⟩
                   · exact absurd h2 (by omega)
                   · exact ⟨_, _, h⟩
                 have HO3 : Hid (w3.ownsRow w.heap.size 68 2 (.slice (some ⟨gw3, 0, none⟩) (q + 1) capw3) (q + 1) (cellsF (M ++ [f])) ∧ Below w.heap.size w w3) := ⟨hown, hBw3⟩
                 clear hown hgrow hnil hBw3))
            go_wp2
            go_roundw
            case rel => exact ⟨k + 1, q + 1, gw3, capw3, true, M ++ [f], by omega, by go_num, rfl, rfl, by omega, ⟨HS.out, by rw [List.length_append, ← HQ.out.2]; rfl⟩, HO3.out⟩
            case measure => simp [intOf]; omega
          | false =>
            have hless : Op.bytesLess f.n.toList s.toList = true := by simpa using hdn
            clear hdn
            go_wp2_with (first
              | (at_builtin
                 refine wpList_append_own _ rfl _ _ 24 rfl w.heap.size 68 i0 (.agg #[.string ⟨#[]⟩, .string ⟨#[]⟩]) 2 32 Try.underlying24 hi hz0 hz1 hz2 rfl (by decide) _ q _ rfl (World.ownsRow.alloc HO.out.1 _) ⟨wr.heap.size, 0, none⟩ 1 1 [.string f.n, .string f.d] rfl rfl (World.news_of_block (heap_alloc_new _ _)) (fun u hu => by simp at hu; rcases hu with rfl | rfl <;> rfl) hc1.out hc2.out (by have := HO.out.2.size; simp; omega) ?_
                 intro v' w3 hown hgrow hnil
                 have hBw3 : Below w.heap.size w w3 := (HO.out.2.alloc HO.out.2.size _).grown hgrow (by have := HO.out.2.size; simp; omega) (fun x hx => (HO.out.1.lt x hx).1)
                 rw [show cellsF M ++ [.string f.n, .string f.d] = cellsF (M ++ [f]) from cellsF_snoc M f] at hown
                 obtain ⟨gw3, capw3, rfl⟩ : ∃ g cap', v' = .slice (some ⟨g, 0, none⟩) (q + 1) cap' := by
                   rcases hown.2 with ⟨h, h2⟩ | ⟨g', cap'', cur, h, _⟩
                   · exact absurd h2 (by omega)
                   · exact ⟨_, _, h⟩
                 have HO3 : Hid (w3.ownsRow w.heap.size 68 2 (.slice (some ⟨gw3, 0, none⟩) (q + 1) capw3) (q + 1) (cellsF (M ++ [f])) ∧ Below w.heap.size w w3) := ⟨hown, hBw3⟩
                 clear hown hgrow hnil hBw3))
            go_wp2
            go_roundw
            case rel => exact ⟨k + 1, q + 1, gw3, capw3, false, M ++ [f], by omega, by go_num, rfl, rfl, by omega, ⟨HS.out, by rw [List.length_append, ← HQ.out.2]; rfl⟩, HO3.out⟩
            case measure => simp [intOf]; omega
    · have hke : k = n := by omega
      subst hke
      have hall : putTo L s d L.length = (M, dn) := by rw [← HN.out]; exact HQ.out.1
      cases dn with
      | true =>
        have HE : Hid (OwnF wr w.heap.size (.slice (some ⟨g, 0, none⟩) q gc) (putF L s d) ∧ Below w.heap.size w wr) := by
          refine ⟨?_, HO.out.2⟩
          show wr.ownsRow _ _ _ _ _ _
          unfold putF
          rw [hall, if_pos rfl, ← HQ.out.2]
          exact HO.out.1
        clear hc hall
        go_wp2
        go_ret
        exact ⟨_, rfl, HE.out.1, by simp, HE.out.2⟩
      | false =>
        clear hc
        go_wp2_with (first
          | (at_builtin
             refine wpList_append_own _ rfl _ _ 24 rfl w.heap.size 68 i0 (.agg #[.string ⟨#[]⟩, .string ⟨#[]⟩]) 2 32 Try.underlying24 hi hz0 hz1 hz2 rfl (by decide) _ q _ rfl (World.ownsRow.alloc HO.out.1 _) ⟨wr.heap.size, 0, none⟩ 1 1 [.string s, .string d] rfl rfl (World.news_of_block (heap_alloc_new _ _)) (fun u hu => by simp at hu; rcases hu with rfl | rfl <;> rfl) hc1.out hc2.out (by have := HO.out.2.size; simp; omega) ?_
             intro v' w3 hown hgrow hnil
             have hBw3 : Below w.heap.size w w3 := (HO.out.2.alloc HO.out.2.size _).grown hgrow (by have := HO.out.2.size; simp; omega) (fun x hx => (HO.out.1.lt x hx).1)
             rw [show cellsF M ++ [.string s, .string d] = cellsF (M ++ [(⟨s, d⟩ : Fl)]) from cellsF_snoc M (⟨s, d⟩ : Fl)] at hown
             obtain ⟨gw3, capw3, rfl⟩ : ∃ g cap', v' = .slice (some ⟨g, 0, none⟩) (q + 1) cap' := by
               rcases hown.2 with ⟨h, h2⟩ | ⟨g', cap'', cur, h, _⟩
               · exact absurd h2 (by omega)
               · exact ⟨_, _, h⟩
             have HO3 : Hid (w3.ownsRow w.heap.size 68 2 (.slice (some ⟨gw3, 0, none⟩) (q + 1) capw3) (q + 1) (cellsF (M ++ [(⟨s, d⟩ : Fl)])) ∧ Below w.heap.size w w3) := ⟨hown, hBw3⟩
             clear hown hgrow hnil hBw3))
        have HE : Hid (OwnF w3 w.heap.size (.slice (some ⟨gw3, 0, none⟩) (q + 1) capw3) (putF L s d) ∧ Below w.heap.size w w3) := by
          refine ⟨?_, HO3.out.2⟩
          show w3.ownsRow _ _ _ _ _ _
          unfold putF
          rw [hall, if_neg (fun h => by cases h), List.length_append, ← HQ.out.2]
          exact HO3.out.1
        clear hall
        go_wp2
        go_ret
        exact ⟨_, rfl, HE.out.1, by simp, HE.out.2⟩
end Go.Proofs.Ytbohaefmokbgbaa
