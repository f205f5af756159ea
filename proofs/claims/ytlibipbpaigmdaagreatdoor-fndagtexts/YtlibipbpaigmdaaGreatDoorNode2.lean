/-
  NodeOk, the program's and the specification's, answer nodeB. No condition but that the ups read and lengths.
-/
import Derived.Test.YtlibipbpaigmdaaGreatDoorNode
import Derived.Deep.RegionWith
namespace Go.Proofs.YtlibipbpaigmdaaGreatDoor
open Go.RowKit
set_option linter.unusedVariables false

theorem cellN {w : World} {b i : Nat} {cs : Array Value} {t : TypeId} (h : w.heap[b]? = some (.cells cs t (0, 0))) : w.cell? ⟨b, i, none⟩ = cs[i]? := by simp [World.cell?, h]

set_option maxHeartbeats 2000000 in
theorem implNodeOk_any (a s k : Int) (key text : ByteArray) (u : Option Addr) (len cap : Nat) (S : Nat → ByteArray) (w : World) (h : IsStrs w u len cap S) (hS : ∀ i, i < len → (S i).size ≤ 9223372036854775807) (hkey : key.size ≤ 9223372036854775807) (htext : text.size ≤ 9223372036854775807) :
    Calls Tryz.prog 59 #[.agg #[.int .i64 a, .int .i64 s, .int .i64 k, .string key, .string text, .slice u len cap]] w fun e w' => e = .returned (.bool (nodeB a s k key text S len)) ∧ Below w.heap.size w w' := by
  have HB : Hid (Below w.heap.size w (w.alloc (.cells #[.int .i64 a, .int .i64 s, .int .i64 k, .string key, .string text, .slice u len cap] 50))) := (Below.refl _ _).alloc (Nat.le_refl _) _
  have HG : Hid ((w.alloc (.cells #[.int .i64 a, .int .i64 s, .int .i64 k, .string key, .string text, .slice u len cap] 50)).heap[w.heap.size]? = some (.cells #[.int .i64 a, .int .i64 s, .int .i64 k, .string key, .string text, .slice u len cap] 50)) := heap_alloc_new w _
  have HC5 : Hid ((w.alloc (.cells #[.int .i64 a, .int .i64 s, .int .i64 k, .string key, .string text, .slice u len cap] 50)).cell? ⟨w.heap.size, 5, none⟩ = some (.slice u len cap)) := cellN (heap_alloc_new w _)
  have HI : Hid (IsStrs (w.alloc (.cells #[.int .i64 a, .int .i64 s, .int .i64 k, .string key, .string text, .slice u len cap] 50)) u len cap S) := h.below ((Below.refl _ _).alloc (Nat.le_refl _) _)
  have HSS : Hid (∀ i, i < len → (S i).size ≤ 9223372036854775807) := hS
  have HKT : Hid (key.size ≤ 9223372036854775807 ∧ text.size ≤ 9223372036854775807) := ⟨hkey, htext⟩
  clear h hS hkey htext
  have HR : Hid (nodeB a s k key text S len = (inB 1 9 a && inB 1 1000000 s && plainB key && plainB text && opB k key text && idsB S len)) := rfl
  cases h1 : inB 1 9 a with
  | false =>
    have hr : Hid (nodeB a s k key text S len = false) := by
      show _ = _
      rw [HR.out, h1]
      simp
    go_enter Tryz.func59, Tryz.ntmps59
    go_wp2_with ((go_at_call 126; refine (author_any a false h1 _).mono ?_; rintro e w1 ⟨rfl, rfl⟩))
    go_ret
    exact ⟨ret_bool hr.out.symm, HB.out⟩
  | true =>
    cases h2 : inB 1 1000000 s with
    | false =>
      have hr : Hid (nodeB a s k key text S len = false) := by
        show _ = _
        rw [HR.out, h1, h2]
        simp
      go_enter Tryz.func59, Tryz.ntmps59
      go_wp2_with (first | (go_at_call 126; refine (author_any a true h1 _).mono ?_; rintro e w1 ⟨rfl, rfl⟩) | (go_at_call 127; refine (seq_any s false h2 _).mono ?_; rintro e w1 ⟨rfl, rfl⟩))
      go_ret
      exact ⟨ret_bool hr.out.symm, HB.out⟩
    | true =>
      cases h3 : plainB key with
      | false =>
        have hr : Hid (nodeB a s k key text S len = false) := by
          show _ = _
          rw [HR.out, h1, h2, h3]
          simp
        go_enter Tryz.func59, Tryz.ntmps59
        go_wp2_with (first | (go_at_call 126; refine (author_any a true h1 _).mono ?_; rintro e w1 ⟨rfl, rfl⟩) | (go_at_call 127; refine (seq_any s true h2 _).mono ?_; rintro e w1 ⟨rfl, rfl⟩) | (go_at_call_of 128 key; refine (signs_b key HKT.out.1 false h3 _).mono ?_; rintro e w1 ⟨rfl, rfl⟩))
        go_ret
        exact ⟨ret_bool hr.out.symm, HB.out⟩
      | true =>
        cases h4 : plainB text with
        | false =>
          have hr : Hid (nodeB a s k key text S len = false) := by
            show _ = _
            rw [HR.out, h1, h2, h3, h4]
            simp
          go_enter Tryz.func59, Tryz.ntmps59
          go_wp2_with (first | (go_at_call 126; refine (author_any a true h1 _).mono ?_; rintro e w1 ⟨rfl, rfl⟩) | (go_at_call 127; refine (seq_any s true h2 _).mono ?_; rintro e w1 ⟨rfl, rfl⟩) | (go_at_call_of 128 key; refine (signs_b key HKT.out.1 true h3 _).mono ?_; rintro e w1 ⟨rfl, rfl⟩) | (go_at_call_of 128 text; refine (signs_b text HKT.out.2 false h4 _).mono ?_; rintro e w1 ⟨rfl, rfl⟩))
          go_ret
          exact ⟨ret_bool hr.out.symm, HB.out⟩
        | true =>
          cases h5 : opB k key text with
          | false =>
            have hr : Hid (nodeB a s k key text S len = false) := by
              show _ = _
              rw [HR.out, h1, h2, h3, h4, h5]
              simp
            go_enter Tryz.func59, Tryz.ntmps59
            go_wp2_with (first | (go_at_call 126; refine (author_any a true h1 _).mono ?_; rintro e w1 ⟨rfl, rfl⟩) | (go_at_call 127; refine (seq_any s true h2 _).mono ?_; rintro e w1 ⟨rfl, rfl⟩) | (go_at_call_of 128 key; refine (signs_b key HKT.out.1 true h3 _).mono ?_; rintro e w1 ⟨rfl, rfl⟩) | (go_at_call_of 128 text; refine (signs_b text HKT.out.2 true h4 _).mono ?_; rintro e w1 ⟨rfl, rfl⟩) | (go_at_call 129; refine (operation_b a s k key text u len cap false h5 _).mono ?_; rintro e w5 ⟨rfl, hB5⟩; have c5 : w5.cell? ⟨w.heap.size, 5, none⟩ = some (.slice u len cap) := (hB5.cell (p := ⟨w.heap.size, 5, none⟩) (lt_of_block HG.out)).trans HC5.out))
            go_ret
            exact ⟨ret_bool hr.out.symm, HB.out.trans (hB5.mono HB.out.size)⟩
          | true =>
            cases h6 : idsB S len with
            | false =>
              have hr : Hid (nodeB a s k key text S len = false) := by
                show _ = _
                rw [HR.out, h1, h2, h3, h4, h5, h6]
                rfl
              go_enter Tryz.func59, Tryz.ntmps59
              go_wp2_with (first | (go_at_call 126; refine (author_any a true h1 _).mono ?_; rintro e w1 ⟨rfl, rfl⟩) | (go_at_call 127; refine (seq_any s true h2 _).mono ?_; rintro e w1 ⟨rfl, rfl⟩) | (go_at_call_of 128 key; refine (signs_b key HKT.out.1 true h3 _).mono ?_; rintro e w1 ⟨rfl, rfl⟩) | (go_at_call_of 128 text; refine (signs_b text HKT.out.2 true h4 _).mono ?_; rintro e w1 ⟨rfl, rfl⟩) | (go_at_call 129; refine (operation_b a s k key text u len cap true h5 _).mono ?_; rintro e w5 ⟨rfl, hB5⟩; have c5 : w5.cell? ⟨w.heap.size, 5, none⟩ = some (.slice u len cap) := (hB5.cell (p := ⟨w.heap.size, 5, none⟩) (lt_of_block HG.out)).trans HC5.out) | (go_at_call 130; refine (implIds_b u len cap S _ (HI.out.below hB5) HSS.out false h6).mono ?_; rintro e w6 ⟨rfl, hB6⟩))
              go_ret
              exact ⟨ret_bool hr.out.symm, (HB.out.trans (hB5.mono HB.out.size)).trans (hB6.mono (HB.out.trans (hB5.mono HB.out.size)).size)⟩
            | true =>
              have hr : Hid (nodeB a s k key text S len = true) := by
                show _ = _
                rw [HR.out, h1, h2, h3, h4, h5, h6]
                rfl
              go_enter Tryz.func59, Tryz.ntmps59
              go_wp2_with (first | (go_at_call 126; refine (author_any a true h1 _).mono ?_; rintro e w1 ⟨rfl, rfl⟩) | (go_at_call 127; refine (seq_any s true h2 _).mono ?_; rintro e w1 ⟨rfl, rfl⟩) | (go_at_call_of 128 key; refine (signs_b key HKT.out.1 true h3 _).mono ?_; rintro e w1 ⟨rfl, rfl⟩) | (go_at_call_of 128 text; refine (signs_b text HKT.out.2 true h4 _).mono ?_; rintro e w1 ⟨rfl, rfl⟩) | (go_at_call 129; refine (operation_b a s k key text u len cap true h5 _).mono ?_; rintro e w5 ⟨rfl, hB5⟩; have c5 : w5.cell? ⟨w.heap.size, 5, none⟩ = some (.slice u len cap) := (hB5.cell (p := ⟨w.heap.size, 5, none⟩) (lt_of_block HG.out)).trans HC5.out) | (go_at_call 130; refine (implIds_b u len cap S _ (HI.out.below hB5) HSS.out true h6).mono ?_; rintro e w6 ⟨rfl, hB6⟩))
              go_ret
              exact ⟨ret_bool hr.out.symm, (HB.out.trans (hB5.mono HB.out.size)).trans (hB6.mono (HB.out.trans (hB5.mono HB.out.size)).size)⟩

set_option maxHeartbeats 2000000 in
theorem specNodeOk_any (a s k : Int) (key text : ByteArray) (u : Option Addr) (len cap : Nat) (S : Nat → ByteArray) (w : World) (h : IsStrs w u len cap S) (hS : ∀ i, i < len → (S i).size ≤ 9223372036854775807) (hkey : key.size ≤ 9223372036854775807) (htext : text.size ≤ 9223372036854775807) :
    Calls Tryz.prog 114 #[.agg #[.int .i64 a, .int .i64 s, .int .i64 k, .string key, .string text, .slice u len cap]] w fun e w' => e = .returned (.bool (nodeB a s k key text S len)) ∧ Below w.heap.size w w' := by
  have HB : Hid (Below w.heap.size w (w.alloc (.cells #[.int .i64 a, .int .i64 s, .int .i64 k, .string key, .string text, .slice u len cap] 50))) := (Below.refl _ _).alloc (Nat.le_refl _) _
  have HG : Hid ((w.alloc (.cells #[.int .i64 a, .int .i64 s, .int .i64 k, .string key, .string text, .slice u len cap] 50)).heap[w.heap.size]? = some (.cells #[.int .i64 a, .int .i64 s, .int .i64 k, .string key, .string text, .slice u len cap] 50)) := heap_alloc_new w _
  have HC5 : Hid ((w.alloc (.cells #[.int .i64 a, .int .i64 s, .int .i64 k, .string key, .string text, .slice u len cap] 50)).cell? ⟨w.heap.size, 5, none⟩ = some (.slice u len cap)) := cellN (heap_alloc_new w _)
  have HI : Hid (IsStrs (w.alloc (.cells #[.int .i64 a, .int .i64 s, .int .i64 k, .string key, .string text, .slice u len cap] 50)) u len cap S) := h.below ((Below.refl _ _).alloc (Nat.le_refl _) _)
  have HSS : Hid (∀ i, i < len → (S i).size ≤ 9223372036854775807) := hS
  have HKT : Hid (key.size ≤ 9223372036854775807 ∧ text.size ≤ 9223372036854775807) := ⟨hkey, htext⟩
  clear h hS hkey htext
  have HR : Hid (nodeB a s k key text S len = (inB 1 9 a && inB 1 1000000 s && plainB key && plainB text && opB k key text && idsB S len)) := rfl
  have he := empty_list
  have HC2 : Hid ((w.alloc (.cells #[.int .i64 a, .int .i64 s, .int .i64 k, .string key, .string text, .slice u len cap] 50)).cell? ⟨w.heap.size, 2, none⟩ = some (.int .i64 k)) := cellN (heap_alloc_new w _)
  have HC3 : Hid ((w.alloc (.cells #[.int .i64 a, .int .i64 s, .int .i64 k, .string key, .string text, .slice u len cap] 50)).cell? ⟨w.heap.size, 3, none⟩ = some (.string key)) := cellN (heap_alloc_new w _)
  have HC4 : Hid ((w.alloc (.cells #[.int .i64 a, .int .i64 s, .int .i64 k, .string key, .string text, .slice u len cap] 50)).cell? ⟨w.heap.size, 4, none⟩ = some (.string text)) := cellN (heap_alloc_new w _)
  cases h1 : inB 1 9 a with
  | false =>
    have hr : Hid (nodeB a s k key text S len = false) := by
      show _ = _
      rw [HR.out, h1]
      simp
    go_enter Tryz.func114, Tryz.ntmps114
    go_wp2_with ((go_at_call_of 108 a; refine (in_any a 1 9 false h1 _).mono ?_; rintro e w1 ⟨rfl, rfl⟩))
    go_ret
    exact ⟨ret_bool hr.out.symm, HB.out⟩
  | true =>
    cases h2 : inB 1 1000000 s with
    | false =>
      have hr : Hid (nodeB a s k key text S len = false) := by
        show _ = _
        rw [HR.out, h1, h2]
        simp
      go_enter Tryz.func114, Tryz.ntmps114
      go_wp2_with (first | (go_at_call_of 108 a; refine (in_any a 1 9 true h1 _).mono ?_; rintro e w1 ⟨rfl, rfl⟩) | (go_at_call_of 108 s; refine (in_any s 1 1000000 false h2 _).mono ?_; rintro e w1 ⟨rfl, rfl⟩))
      go_ret
      exact ⟨ret_bool hr.out.symm, HB.out⟩
    | true =>
      cases h3 : plainB key with
      | false =>
        have hr : Hid (nodeB a s k key text S len = false) := by
          show _ = _
          rw [HR.out, h1, h2, h3]
          simp
        go_enter Tryz.func114, Tryz.ntmps114
        go_wp2_with (first | (go_at_call_of 108 a; refine (in_any a 1 9 true h1 _).mono ?_; rintro e w1 ⟨rfl, rfl⟩) | (go_at_call_of 108 s; refine (in_any s 1 1000000 true h2 _).mono ?_; rintro e w1 ⟨rfl, rfl⟩) | (go_at_call_of 164 key; refine (plain_b key HKT.out.1 false h3 _).mono ?_; rintro e w1 ⟨rfl, rfl⟩))
        go_ret
        exact ⟨ret_bool hr.out.symm, HB.out⟩
      | true =>
        cases h4 : plainB text with
        | false =>
          have hr : Hid (nodeB a s k key text S len = false) := by
            show _ = _
            rw [HR.out, h1, h2, h3, h4]
            simp
          go_enter Tryz.func114, Tryz.ntmps114
          go_wp2_with (first | (go_at_call_of 108 a; refine (in_any a 1 9 true h1 _).mono ?_; rintro e w1 ⟨rfl, rfl⟩) | (go_at_call_of 108 s; refine (in_any s 1 1000000 true h2 _).mono ?_; rintro e w1 ⟨rfl, rfl⟩) | (go_at_call_of 164 key; refine (plain_b key HKT.out.1 true h3 _).mono ?_; rintro e w1 ⟨rfl, rfl⟩) | (go_at_call_of 164 text; refine (plain_b text HKT.out.2 false h4 _).mono ?_; rintro e w1 ⟨rfl, rfl⟩))
          go_ret
          exact ⟨ret_bool hr.out.symm, HB.out⟩
        | true =>
          cases h6 : idsB S len with
          | false =>
            have hr : Hid (nodeB a s k key text S len = false) := by
              show _ = _
              rw [HR.out, h1, h2, h3, h4, h6]
              simp
            go_enter Tryz.func114, Tryz.ntmps114
            go_wp2_with (first | (go_at_call_of 108 a; refine (in_any a 1 9 true h1 _).mono ?_; rintro e w1 ⟨rfl, rfl⟩) | (go_at_call_of 108 s; refine (in_any s 1 1000000 true h2 _).mono ?_; rintro e w1 ⟨rfl, rfl⟩) | (go_at_call_of 164 key; refine (plain_b key HKT.out.1 true h3 _).mono ?_; rintro e w1 ⟨rfl, rfl⟩) | (go_at_call_of 164 text; refine (plain_b text HKT.out.2 true h4 _).mono ?_; rintro e w1 ⟨rfl, rfl⟩) | (go_at_call 165; refine (specIds_b u len cap S _ HI.out HSS.out false h6).mono ?_; rintro e w6 ⟨rfl, hB6⟩; have c2 : w6.cell? ⟨w.heap.size, 2, none⟩ = some (.int .i64 k) := (hB6.cell (p := ⟨w.heap.size, 2, none⟩) (lt_of_block HG.out)).trans HC2.out; have c3 : w6.cell? ⟨w.heap.size, 3, none⟩ = some (.string key) := (hB6.cell (p := ⟨w.heap.size, 3, none⟩) (lt_of_block HG.out)).trans HC3.out; have c4 : w6.cell? ⟨w.heap.size, 4, none⟩ = some (.string text) := (hB6.cell (p := ⟨w.heap.size, 4, none⟩) (lt_of_block HG.out)).trans HC4.out))
            go_ret
            exact ⟨ret_bool hr.out.symm, HB.out.trans (hB6.mono HB.out.size)⟩
          | true =>
            have hr : Hid (nodeB a s k key text S len = opB k key text) := by
              show _ = _
              rw [HR.out, h1, h2, h3, h4, h6]
              simp
            by_cases hk1 : k = 1
            · subst hk1
              rw [op_12 (key := key) (text := text) (Or.inl (rfl : (1 : Int) = 1))] at hr
              cases hkey : key.toList.isEmpty with
              | true =>
                rw [hkey, Bool.true_and] at hr
                go_enter Tryz.func114, Tryz.ntmps114
                go_wp2_with (first | (go_at_call_of 108 a; refine (in_any a 1 9 true h1 _).mono ?_; rintro e w1 ⟨rfl, rfl⟩) | (go_at_call_of 108 s; refine (in_any s 1 1000000 true h2 _).mono ?_; rintro e w1 ⟨rfl, rfl⟩) | (go_at_call_of 164 key; refine (plain_b key HKT.out.1 true h3 _).mono ?_; rintro e w1 ⟨rfl, rfl⟩) | (go_at_call_of 164 text; refine (plain_b text HKT.out.2 true h4 _).mono ?_; rintro e w1 ⟨rfl, rfl⟩) | (go_at_call 165; refine (specIds_b u len cap S _ HI.out HSS.out true h6).mono ?_; rintro e w6 ⟨rfl, hB6⟩; have c2 : w6.cell? ⟨w.heap.size, 2, none⟩ = some (.int .i64 1) := (hB6.cell (p := ⟨w.heap.size, 2, none⟩) (lt_of_block HG.out)).trans HC2.out; have c3 : w6.cell? ⟨w.heap.size, 3, none⟩ = some (.string key) := (hB6.cell (p := ⟨w.heap.size, 3, none⟩) (lt_of_block HG.out)).trans HC3.out; have c4 : w6.cell? ⟨w.heap.size, 4, none⟩ = some (.string text) := (hB6.cell (p := ⟨w.heap.size, 4, none⟩) (lt_of_block HG.out)).trans HC4.out))
                go_ret
                exact ⟨ret_bool hr.out.symm, HB.out.trans (hB6.mono HB.out.size)⟩
              | false =>
                rw [hkey, Bool.false_and] at hr
                go_enter Tryz.func114, Tryz.ntmps114
                go_wp2_with (first | (go_at_call_of 108 a; refine (in_any a 1 9 true h1 _).mono ?_; rintro e w1 ⟨rfl, rfl⟩) | (go_at_call_of 108 s; refine (in_any s 1 1000000 true h2 _).mono ?_; rintro e w1 ⟨rfl, rfl⟩) | (go_at_call_of 164 key; refine (plain_b key HKT.out.1 true h3 _).mono ?_; rintro e w1 ⟨rfl, rfl⟩) | (go_at_call_of 164 text; refine (plain_b text HKT.out.2 true h4 _).mono ?_; rintro e w1 ⟨rfl, rfl⟩) | (go_at_call 165; refine (specIds_b u len cap S _ HI.out HSS.out true h6).mono ?_; rintro e w6 ⟨rfl, hB6⟩; have c2 : w6.cell? ⟨w.heap.size, 2, none⟩ = some (.int .i64 1) := (hB6.cell (p := ⟨w.heap.size, 2, none⟩) (lt_of_block HG.out)).trans HC2.out; have c3 : w6.cell? ⟨w.heap.size, 3, none⟩ = some (.string key) := (hB6.cell (p := ⟨w.heap.size, 3, none⟩) (lt_of_block HG.out)).trans HC3.out; have c4 : w6.cell? ⟨w.heap.size, 4, none⟩ = some (.string text) := (hB6.cell (p := ⟨w.heap.size, 4, none⟩) (lt_of_block HG.out)).trans HC4.out))
                go_ret
                exact ⟨ret_bool hr.out.symm, HB.out.trans (hB6.mono HB.out.size)⟩
            by_cases hk2 : k = 2
            · subst hk2
              rw [op_12 (key := key) (text := text) (Or.inr (rfl : (2 : Int) = 2))] at hr
              cases hkey : key.toList.isEmpty with
              | true =>
                rw [hkey, Bool.true_and] at hr
                go_enter Tryz.func114, Tryz.ntmps114
                go_wp2_with (first | (go_at_call_of 108 a; refine (in_any a 1 9 true h1 _).mono ?_; rintro e w1 ⟨rfl, rfl⟩) | (go_at_call_of 108 s; refine (in_any s 1 1000000 true h2 _).mono ?_; rintro e w1 ⟨rfl, rfl⟩) | (go_at_call_of 164 key; refine (plain_b key HKT.out.1 true h3 _).mono ?_; rintro e w1 ⟨rfl, rfl⟩) | (go_at_call_of 164 text; refine (plain_b text HKT.out.2 true h4 _).mono ?_; rintro e w1 ⟨rfl, rfl⟩) | (go_at_call 165; refine (specIds_b u len cap S _ HI.out HSS.out true h6).mono ?_; rintro e w6 ⟨rfl, hB6⟩; have c2 : w6.cell? ⟨w.heap.size, 2, none⟩ = some (.int .i64 2) := (hB6.cell (p := ⟨w.heap.size, 2, none⟩) (lt_of_block HG.out)).trans HC2.out; have c3 : w6.cell? ⟨w.heap.size, 3, none⟩ = some (.string key) := (hB6.cell (p := ⟨w.heap.size, 3, none⟩) (lt_of_block HG.out)).trans HC3.out; have c4 : w6.cell? ⟨w.heap.size, 4, none⟩ = some (.string text) := (hB6.cell (p := ⟨w.heap.size, 4, none⟩) (lt_of_block HG.out)).trans HC4.out))
                go_ret
                exact ⟨ret_bool hr.out.symm, HB.out.trans (hB6.mono HB.out.size)⟩
              | false =>
                rw [hkey, Bool.false_and] at hr
                go_enter Tryz.func114, Tryz.ntmps114
                go_wp2_with (first | (go_at_call_of 108 a; refine (in_any a 1 9 true h1 _).mono ?_; rintro e w1 ⟨rfl, rfl⟩) | (go_at_call_of 108 s; refine (in_any s 1 1000000 true h2 _).mono ?_; rintro e w1 ⟨rfl, rfl⟩) | (go_at_call_of 164 key; refine (plain_b key HKT.out.1 true h3 _).mono ?_; rintro e w1 ⟨rfl, rfl⟩) | (go_at_call_of 164 text; refine (plain_b text HKT.out.2 true h4 _).mono ?_; rintro e w1 ⟨rfl, rfl⟩) | (go_at_call 165; refine (specIds_b u len cap S _ HI.out HSS.out true h6).mono ?_; rintro e w6 ⟨rfl, hB6⟩; have c2 : w6.cell? ⟨w.heap.size, 2, none⟩ = some (.int .i64 2) := (hB6.cell (p := ⟨w.heap.size, 2, none⟩) (lt_of_block HG.out)).trans HC2.out; have c3 : w6.cell? ⟨w.heap.size, 3, none⟩ = some (.string key) := (hB6.cell (p := ⟨w.heap.size, 3, none⟩) (lt_of_block HG.out)).trans HC3.out; have c4 : w6.cell? ⟨w.heap.size, 4, none⟩ = some (.string text) := (hB6.cell (p := ⟨w.heap.size, 4, none⟩) (lt_of_block HG.out)).trans HC4.out))
                go_ret
                exact ⟨ret_bool hr.out.symm, HB.out.trans (hB6.mono HB.out.size)⟩
            by_cases hk3 : k = 3
            · subst hk3
              rw [op_3 (key := key) (text := text) (rfl : (3 : Int) = 3)] at hr
              go_enter Tryz.func114, Tryz.ntmps114
              go_wp2_with (first | (go_at_call_of 108 a; refine (in_any a 1 9 true h1 _).mono ?_; rintro e w1 ⟨rfl, rfl⟩) | (go_at_call_of 108 s; refine (in_any s 1 1000000 true h2 _).mono ?_; rintro e w1 ⟨rfl, rfl⟩) | (go_at_call_of 164 key; refine (plain_b key HKT.out.1 true h3 _).mono ?_; rintro e w1 ⟨rfl, rfl⟩) | (go_at_call_of 164 text; refine (plain_b text HKT.out.2 true h4 _).mono ?_; rintro e w1 ⟨rfl, rfl⟩) | (go_at_call 165; refine (specIds_b u len cap S _ HI.out HSS.out true h6).mono ?_; rintro e w6 ⟨rfl, hB6⟩; have c2 : w6.cell? ⟨w.heap.size, 2, none⟩ = some (.int .i64 3) := (hB6.cell (p := ⟨w.heap.size, 2, none⟩) (lt_of_block HG.out)).trans HC2.out; have c3 : w6.cell? ⟨w.heap.size, 3, none⟩ = some (.string key) := (hB6.cell (p := ⟨w.heap.size, 3, none⟩) (lt_of_block HG.out)).trans HC3.out; have c4 : w6.cell? ⟨w.heap.size, 4, none⟩ = some (.string text) := (hB6.cell (p := ⟨w.heap.size, 4, none⟩) (lt_of_block HG.out)).trans HC4.out))
              go_ret
              exact ⟨ret_bool hr.out.symm, HB.out.trans (hB6.mono HB.out.size)⟩
            · rw [op_no (by omega) hk3] at hr
              have e1 : (k == 1) = false := by simpa using hk1
              have e2 : (k == 2) = false := by simpa using hk2
              have e3 : (k == 3) = false := by simpa using hk3
              go_enter Tryz.func114, Tryz.ntmps114
              go_wp2_with (first | (go_at_call_of 108 a; refine (in_any a 1 9 true h1 _).mono ?_; rintro e w1 ⟨rfl, rfl⟩) | (go_at_call_of 108 s; refine (in_any s 1 1000000 true h2 _).mono ?_; rintro e w1 ⟨rfl, rfl⟩) | (go_at_call_of 164 key; refine (plain_b key HKT.out.1 true h3 _).mono ?_; rintro e w1 ⟨rfl, rfl⟩) | (go_at_call_of 164 text; refine (plain_b text HKT.out.2 true h4 _).mono ?_; rintro e w1 ⟨rfl, rfl⟩) | (go_at_call 165; refine (specIds_b u len cap S _ HI.out HSS.out true h6).mono ?_; rintro e w6 ⟨rfl, hB6⟩; have c2 : w6.cell? ⟨w.heap.size, 2, none⟩ = some (.int .i64 k) := (hB6.cell (p := ⟨w.heap.size, 2, none⟩) (lt_of_block HG.out)).trans HC2.out; have c3 : w6.cell? ⟨w.heap.size, 3, none⟩ = some (.string key) := (hB6.cell (p := ⟨w.heap.size, 3, none⟩) (lt_of_block HG.out)).trans HC3.out; have c4 : w6.cell? ⟨w.heap.size, 4, none⟩ = some (.string text) := (hB6.cell (p := ⟨w.heap.size, 4, none⟩) (lt_of_block HG.out)).trans HC4.out))
              go_ret
              exact ⟨ret_bool hr.out.symm, HB.out.trans (hB6.mono HB.out.size)⟩
end Go.Proofs.YtlibipbpaigmdaaGreatDoor
