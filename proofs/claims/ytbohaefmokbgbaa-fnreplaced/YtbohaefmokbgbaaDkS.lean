/-
  The specification's l14Name, l14At, l14Cut, l14Put. No condition but that the slices read.
-/
import Derived.Test.YtbohaefmokbgbaaDkA
import Derived.Laws.BytesString
import Derived.Laws.Concat
namespace Go.Proofs.Ytbohaefmokbgbaa
open Go.RowKit
set_option linter.unusedVariables false

def nmB (s : ByteArray) : Bool := decide (1 ≤ s.size) && decide (s.size ≤ 100)
theorem name_any (s : ByteArray) (hs : s.size ≤ 9223372036854775807) (w : World) : Calls Try.prog 87 #[.string s] w fun e w' => e = .returned (.bool (nmB s)) ∧ w' = w := by
  obtain ⟨n, hn⟩ : ∃ n, n = s.size := ⟨_, rfl⟩
  have hnI : (s.size : Int) = (n : Int) := by rw [hn]
  unfold nmB
  rw [← hn]
  clear hn hs
  by_cases h1 : 1 ≤ n
  · have h1I : (1 : Int) ≤ (n : Int) := by omega
    by_cases h2 : n ≤ 100
    · have h2I : (n : Int) ≤ 100 := by omega
      rw [decide_eq_true h1, decide_eq_true h2]
      go_enter Try.func87, Try.ntmps87
      go_wp2
      go_ret
      exact ⟨rfl, rfl⟩
    · have h2I : ¬ (n : Int) ≤ 100 := by omega
      rw [decide_eq_true h1, decide_eq_false h2]
      go_enter Try.func87, Try.ntmps87
      go_wp2
      go_ret
      exact ⟨rfl, rfl⟩
  · have h1I : ¬ (1 : Int) ≤ (n : Int) := by omega
    rw [decide_eq_false h1]
    go_enter Try.func87, Try.ntmps87
    go_wp2
    go_ret
    exact ⟨rfl, rfl⟩

/-- where a file of that name is, the first one; -1: nowhere -/
def AtIs (L : List Fl) (s : ByteArray) (z : Int) : Prop := (z = -1 ∧ ∀ j, j < L.length → (L.getD j flZ).n.toList ≠ s.toList) ∨ ∃ i : Nat, z = i ∧ i < L.length ∧ (L.getD i flZ).n.toList = s.toList ∧ ∀ j, j < i → (L.getD j flZ).n.toList ≠ s.toList

set_option maxHeartbeats 1000000 in
theorem at_any (v : Value) (L : List Fl) (s : ByteArray) (w : World) (h : RdF w v L) :
    Calls Try.prog 36 #[v, .string s] w fun e w' => ∃ z, e = .returned (.int .i64 z) ∧ AtIs L s z ∧ w' = w := by
  obtain ⟨a, cap, rfl, hlc, hcm, hc⟩ := h
  obtain ⟨n, hn⟩ : ∃ n, n = L.length := ⟨_, rfl⟩
  have HN : Hid (n = L.length) := hn
  rw [← hn] at hlc hc ⊢
  clear hn
  go_enter Try.func36, Try.ntmps36
  go_wp2
  go_loop [5] (fun i => ∃ (k : Nat), k ≤ n ∧ i = .int .i64 k ∧ Hid (∀ j, j < k → (L.getD j flZ).n.toList ≠ s.toList)) (fun i => n - (intOf i).toNat)
  case atStart => exact ⟨0, Nat.zero_le _, rfl, fun j hj => absurd hj (Nat.not_lt_zero _)⟩
  case round =>
    obtain ⟨k, hk, rfl, HR⟩ := hrel
    by_cases hlt : k < n
    · have hltI : (k : Int) < (n : Int) := by omega
      obtain ⟨b, off, rfl, hbs, hl⟩ := hc (by omega)
      have d0 := (hl k (by rw [← HN.out]; exact hlt)).c0
      obtain ⟨f, hf⟩ : ∃ f, f = L.getD k flZ := ⟨_, rfl⟩
      rw [← hf] at d0
      have HF : Hid (f = L.getD k flZ) := hf
      clear hl hc hf
      cases hq : (f.n.toList == s.toList) with
      | true =>
        have HZ : Hid (AtIs L s k) := .inr ⟨k, rfl, by rw [← HN.out]; exact hlt, by rw [← HF.out]; exact eq_of_beq hq, HR.out⟩
        go_wp2
        go_ret
        exact ⟨k, rfl, HZ.out, rfl⟩
      | false =>
        have HR2 : Hid (∀ j, j < k + 1 → (L.getD j flZ).n.toList ≠ s.toList) := fun j hj => by
          rcases Nat.lt_succ_iff_lt_or_eq.1 hj with h | rfl
          · exact HR.out j h
          · rw [← HF.out]; intro e; rw [e] at hq; simp at hq
        go_wp2
        go_round
        case rel => exact ⟨k + 1, by omega, by go_num, HR2⟩
        case measure => simp [intOf]; omega
    · have hke : k = n := by omega
      subst hke
      have HZ : Hid (AtIs L s (-1)) := .inl ⟨rfl, fun j hj => HR.out j (by rw [HN.out]; exact hj)⟩
      clear hc
      go_wp2
      go_ret
      exact ⟨-1, rfl, HZ.out, rfl⟩

def cutF (L : List Fl) (s : ByteArray) : List Fl := L.filter fun f => !(f.n.toList == s.toList)
theorem cutF_take (L : List Fl) (s : ByteArray) (k : Nat) (h : k < L.length) : cutF (L.take (k + 1)) s = if ((L.getD k flZ).n.toList == s.toList) = true then cutF (L.take k) s else cutF (L.take k) s ++ [L.getD k flZ] := by
  have e : L.take (k + 1) = L.take k ++ [L.getD k flZ] := by rw [List.take_succ_eq_append_getElem h]; simp [h]
  unfold cutF
  rw [e, List.filter_append]
  cases hq : ((L.getD k flZ).n.toList == s.toList) with
  | true => rw [List.filter_cons_of_neg (by rw [hq]; decide)]; simp
  | false => rw [List.filter_cons_of_pos (by rw [hq]; rfl)]; simp
theorem cutF_len (L : List Fl) (s : ByteArray) : (cutF L s).length ≤ L.length := List.length_filter_le _ _

set_option maxRecDepth 4000 in
set_option maxHeartbeats 2000000 in
theorem cut_any (v : Value) (L : List Fl) (s : ByteArray) (w : World) (h : RdF w v L) (hL : L.length ≤ 2000000) :
    Calls Try.prog 86 #[v, .string s] w fun e w' => ∃ u, e = .returned u ∧ OwnF w' w.heap.size u (cutF L s) ∧ u ≠ .slice none 0 0 ∧ Below w.heap.size w w' := by
  obtain ⟨a, cap, rfl, hlc, hcm, hc⟩ := h
  obtain ⟨i0, hi, hz0, hz1, hz2⟩ := info_parts infoF
  obtain ⟨n, hn⟩ : ∃ n, n = L.length := ⟨_, rfl⟩
  have HN : Hid (n = L.length) := hn
  rw [← hn] at hlc hc hL ⊢
  clear hn
  go_enter Try.func86, Try.ntmps86
  go_wp2
  go_loopw [5, 6] (fun u i wr => ∃ (k q g gc : Nat), k ≤ n ∧ i = .int .i64 k ∧ u = .slice (some ⟨g, 0, none⟩) q gc ∧ q ≤ k ∧ Hid (q = (cutF (L.take k) s).length) ∧ Hid (wr.ownsRow w.heap.size 68 2 (.slice (some ⟨g, 0, none⟩) q gc) q (cellsF (cutF (L.take k) s)) ∧ Below w.heap.size w wr)) (fun _ i _ => n - (intOf i).toNat)
  case atStart => exact ⟨0, 0, w.heap.size, 0, Nat.zero_le _, rfl, rfl, Nat.le_refl _, rfl, World.ownsRow_made w #[] 0 (Nat.le_refl _) (by decide) rfl, (Below.refl _ _).alloc (Nat.le_refl _) _⟩
  case round =>
    obtain ⟨k, q, g, gc, hk, rfl, rfl, hqk, HQ, HO⟩ := hrel
    by_cases hlt : k < n
    · have hltI : (k : Int) < (n : Int) := by omega
      obtain ⟨b, off, rfl, hbs, hl⟩ := hc (by omega)
      have hkL : k < L.length := by rw [← HN.out]; exact hlt
      have hat := hl k hkL
      have d0 := (HO.out.2.cell (p := ⟨b, off + k * 2, none⟩) hbs).trans hat.c0
      have d1 := (HO.out.2.cell (p := ⟨b, off + k * 2 + 1, none⟩) hbs).trans hat.c1
      have hstep := cutF_take L s k hkL
      obtain ⟨f, hf⟩ : ∃ f, f = L.getD k flZ := ⟨_, rfl⟩
      rw [← hf] at d0 d1 hstep
      clear hl hc hf hat
      cases hq : (f.n.toList == s.toList) with
      | true =>
        rw [hq, if_pos rfl] at hstep
        have HS := (show Hid _ from hstep)
        clear hstep
        go_wp2
        go_roundw
        case rel => exact ⟨k + 1, q, g, gc, by omega, by go_num, rfl, by omega, by rw [HS.out]; exact HQ.out, by rw [HS.out]; exact HO.out⟩
        case measure => simp [intOf]; omega
      | false =>
        rw [hq, if_neg (by decide)] at hstep
        have HS := (show Hid _ from hstep)
        clear hstep
        have hc1 : Hid (q + 1 ≤ maxLen) := by show _ ≤ _; unfold maxLen; omega
        have hc2 : Hid ((q + 1) * 32 ≤ 140737488355328) := by show _ ≤ _; omega
        generalize cutF (List.take k L) s = M at HQ HO HS
        go_wp2_with (at_builtin; refine wpList_append_own _ rfl _ _ 24 rfl w.heap.size 68 i0 (.agg #[.string ⟨#[]⟩, .string ⟨#[]⟩]) 2 32 Try.underlying24 hi hz0 hz1 hz2 rfl (by decide) _ q _ rfl (World.ownsRow.alloc HO.out.1 _) ⟨wr.heap.size, 0, none⟩ 1 1 [.string f.n, .string f.d] rfl rfl (World.news_of_block (heap_alloc_new _ _)) (fun u hu => by simp at hu; rcases hu with rfl | rfl <;> rfl) hc1.out hc2.out (by have := HO.out.2.size; simp; omega) ?_; intro v' w3 hown hgrow hnil)
        have hBw3 : Below w.heap.size w w3 := (HO.out.2.alloc HO.out.2.size _).grown hgrow (by have := HO.out.2.size; simp; omega) (fun x hx => (HO.out.1.lt x hx).1)
        rw [show cellsF M ++ [.string f.n, .string f.d] = cellsF (M ++ [f]) from cellsF_snoc M f] at hown
        obtain ⟨gw3, capw3, rfl⟩ : ∃ g cap', v' = .slice (some ⟨g, 0, none⟩) (q + 1) cap' := by
          rcases hown.2 with ⟨h, h2⟩ | ⟨g', cap'', cur, h, _⟩
          · exact absurd h2 (by omega)
          · exact ⟨_, _, h⟩
        have HO3 : Hid (w3.ownsRow w.heap.size 68 2 (.slice (some ⟨gw3, 0, none⟩) (q + 1) capw3) (q + 1) (cellsF (M ++ [f])) ∧ Below w.heap.size w w3) := ⟨hown, hBw3⟩
        clear hown hgrow hnil hBw3
        go_wp2
        go_roundw
        case rel => exact ⟨k + 1, q + 1, gw3, capw3, by omega, by go_num, rfl, by omega, by rw [HS.out, List.length_append, ← HQ.out]; rfl, by rw [HS.out]; exact HO3.out⟩
        case measure => simp [intOf]; omega
    · have hke : k = n := by omega
      subst hke
      have HE : Hid (OwnF wr w.heap.size (.slice (some ⟨g, 0, none⟩) q gc) (cutF L s) ∧ Below w.heap.size w wr) := by
        have e : L.take k = L := by rw [HN.out]; exact List.take_length
        have h1 := HO.out.1
        have h2 := HQ.out
        rw [e] at h1 h2
        refine ⟨?_, HO.out.2⟩
        show wr.ownsRow _ _ _ _ _ _
        rw [← h2]
        exact h1
      clear hc
      go_wp2
      go_ret
      exact ⟨_, rfl, HE.out.1, by simp, HE.out.2⟩
end Go.Proofs.Ytbohaefmokbgbaa
