/-
  Both ReadNodes at a text of more than 1000 bytes: neither takes it. No condition but that the text is not huge.
-/
import Derived.Test.YtcaomoadkbdmgaaDoorRP2
namespace Go.Proofs.YtcaomoadkbdmgaaDoor
open Go.RowKit
set_option linter.unusedVariables false

set_option maxRecDepth 20000 in
set_option maxHeartbeats 2000000 in
theorem implRead_big (s : ByteArray) (w : World) (hs : 1000 < s.size) (hb : s.size ≤ 1048576) :
    Calls Tryd.prog 5 #[.string s] w fun e w' => e = .returned (.tuple #[.agg zeroQ, .bool false]) ∧ Below w.heap.size w w' := by
  have hlen : decide ((1000 : Int) < (s.size : Int)) = true := by simp; omega
  obtain ⟨wa, hwa⟩ : ∃ wa, wa = w.alloc (.cells #[.int .i64 0, .int .i64 0, .int .i64 0, .string ⟨#[]⟩, .string ⟨#[]⟩, .slice none 0 0] 24) := ⟨_, rfl⟩
  have HZ : Hid (wa.heap[w.heap.size]? = some (.cells zeroQ 24)) := by show _ = _; rw [hwa]; exact heap_alloc_new w _
  have HB : Hid (Below w.heap.size w wa) := by rw [hwa]; exact (Below.refl _ _).alloc (Nat.le_refl _) _
  have HWA : Hid (wa = w.alloc (.cells #[.int .i64 0, .int .i64 0, .int .i64 0, .string ⟨#[]⟩, .string ⟨#[]⟩, .slice none 0 0] 24)) := hwa
  obtain ⟨q, hq⟩ : ∃ q, q = zeroQ := ⟨_, rfl⟩
  have hq6 : (Tryd.prog.info? 24).map (·.size) = some q.size := by rw [hq]; exact info24
  have ho6 : zeroQ.size = q.size := by rw [hq]
  have h16 : q.all (·.oneCell') = true := by rw [hq]; simp [Value.oneCell']
  have HQQ : Hid (q = zeroQ) := hq
  clear hq hwa
  go_enter Tryd.func5, Tryd.ntmps5
  go_wp2_with (first
    | (rw [← HWA.out]; refine wpList_store_row rfl 24 _ _ rfl w.heap.size q rfl (congrArg Value.agg HQQ.out.symm) 24 _ HZ.out hq6 ho6 h16 ?_))
  refine bodyPost_ret (results_row_tmp rfl _ _ w.heap.size 24 _ _ _ rfl (setRow_heap _ _ _ _ _ _ HZ.out) Tryd.underlying24 rfl hq6) rfl ⟨ret_val (by rw [HQQ.out]; rfl), below_setRow HB.out (Nat.le_refl _) _⟩

theorem zero_text : (textR pnZ.a pnZ.s pnZ.k pnZ.key pnZ.text pnZ.S pnZ.ups.length) = ⟨#[]⟩ := by
  unfold textR
  rw [if_neg (by simp [nodeB, pnZ, inB])]

set_option maxRecDepth 20000 in
set_option maxHeartbeats 2000000 in
theorem specRead_big (s : ByteArray) (w : World) (hs : 1000 < s.size) (hb : s.size ≤ 1048576) :
    Calls Tryd.prog 4 #[.string s] w fun e w' => e = .returned (.tuple #[.agg zeroQ, .bool false]) ∧ Below w.heap.size w w' := by
  have hlen : decide ((s.size : Int) ≤ 1000) = false := by simp; omega
  have hne : s.data.toList ≠ [] := by
    intro h
    have h2 : s.size = 0 := by rw [Lib.size_eq, h]; rfl
    omega
  have hE : s.toList.isEmpty = false := by rw [ByteArray.toList_eq]; cases h : s.data.toList with | nil => exact absurd h hne | cons _ _ => rfl
  have hs0 : (s.toList == []) = false := by rw [ByteArray.toList_eq]; cases h : s.data.toList with | nil => exact absurd h hne | cons _ _ => rfl
  obtain ⟨t0, ht0⟩ : ∃ t0, t0 = textR pnZ.a pnZ.s pnZ.k pnZ.key pnZ.text pnZ.S pnZ.ups.length := ⟨_, rfl⟩
  have hte : (t0.toList == s.toList) = false := by
    rw [ht0, zero_text, ByteArray.toList_eq, ByteArray.toList_eq]
    cases h : s.data.toList with
    | nil => exact absurd h hne
    | cons _ _ => rfl
  have HT0 : Hid (t0 = textR pnZ.a pnZ.s pnZ.k pnZ.key pnZ.text pnZ.S pnZ.ups.length) := ht0
  clear ht0
  obtain ⟨wa, hwa⟩ : ∃ wa, wa = (w.alloc (.cells #[.int .i64 0, .int .i64 0, .int .i64 0, .string ⟨#[]⟩, .string ⟨#[]⟩, .slice none 0 0] 24)).alloc (.cells #[.int .i64 0, .int .i64 0, .int .i64 0, .string ⟨#[]⟩, .string ⟨#[]⟩, .slice none 0 0] 24) := ⟨_, rfl⟩
  have S0 : SS w wa pnZ (.slice none 0 0) := by
    have hsz : (w.alloc (.cells #[.int .i64 0, .int .i64 0, .int .i64 0, .string ⟨#[]⟩, .string ⟨#[]⟩, .slice none 0 0] 24)).heap.size = w.heap.size + 1 := by simp
    refine ⟨?_, World.ownsRow_nil _ _ _ _, ?_, ?_⟩
    · rw [hwa, ← hsz]; exact ND.new _ _ _ _ _ _ _ _
    · rw [hwa, Below.heap_alloc _ _ _ (by simp)]; exact heap_alloc_new w _
    · rw [hwa]; exact ((Below.refl _ _).alloc (Nat.le_refl _) _).alloc (by simp) _
  have HS0 : Hid (SS w wa pnZ (.slice none 0 0)) := S0
  have HWA : Hid (wa = (w.alloc (.cells #[.int .i64 0, .int .i64 0, .int .i64 0, .string ⟨#[]⟩, .string ⟨#[]⟩, .slice none 0 0] 24)).alloc (.cells #[.int .i64 0, .int .i64 0, .int .i64 0, .string ⟨#[]⟩, .string ⟨#[]⟩, .slice none 0 0] 24)) := hwa
  obtain ⟨q, hq⟩ : ∃ q, q = zeroQ := ⟨_, rfl⟩
  have hq6 : (Tryd.prog.info? 24).map (·.size) = some q.size := by rw [hq]; exact info24
  have ho6 : zeroQ.size = q.size := by rw [hq]
  have h16 : q.all (·.oneCell') = true := by rw [hq]; simp [Value.oneCell']
  have HQQ : Hid (q = zeroQ) := hq
  have HL : Hid (decide ((s.size : Int) ≤ 1000) = false) := hlen
  have HEE : Hid (s.toList.isEmpty = false) := hE
  have HSS : Hid ((s.toList == []) = false) := hs0
  have HTE : Hid ((t0.toList == s.toList) = false) := hte
  have H6 : Hid ((Tryd.prog.info? 24).map (·.size) = some q.size) := hq6
  have HO6 : Hid (zeroQ.size = q.size) := ho6
  have H16 : Hid (q.all (·.oneCell') = true) := h16
  clear S0 hwa hq hne hlen hE hs0 hte hq6 ho6 h16
  go_enter Tryd.func4, Tryd.ntmps4
  go_wp2
  rw [← HWA.out]
  go_loopw [5] (fun rv wr => ∃ (r : ByteArray), rv = .string r ∧ r = s ∧ SS w wr pnZ (.slice none 0 0)) (fun rv _ => strLen rv)
  case atStart => exact ⟨s, rfl, rfl, HS0.out⟩
  case round =>
    clear HS0 HWA wa
    obtain ⟨r, rfl, rfl, hS⟩ := hrel
    have HS : Hid (SS w wr pnZ (.slice none 0 0)) := hS
    clear hS
    have HT : Hid (Calls Tryd.prog 11 #[.agg #[.int .i64 0, .int .i64 0, .int .i64 0, .string ⟨#[]⟩, .string ⟨#[]⟩, .slice none 0 0]] wr fun e w' => e = .returned (.string t0) ∧ Below wr.heap.size wr w') := by
      have := specNodeText_any 0 0 0 ⟨#[]⟩ ⟨#[]⟩ none 0 0 pnZ.S wr ⟨Nat.le_refl _, by omega, fun h => absurd h (Nat.lt_irrefl _)⟩ (fun i hi => absurd hi (Nat.not_lt_zero _)) (by decide) (by decide)
      rw [HT0.out]
      exact this
    have hlen := HL.out
    have hE := HEE.out
    have hs0 := HSS.out
    have hte := HTE.out
    have d0 : wr.cell? ⟨w.heap.size + 1, 0, none⟩ = some (.int .i64 0) := HS.out.nd.c0
    have d1 : wr.cell? ⟨w.heap.size + 1, 1, none⟩ = some (.int .i64 0) := HS.out.nd.c1
    have d2 : wr.cell? ⟨w.heap.size + 1, 2, none⟩ = some (.int .i64 0) := HS.out.nd.c2
    have d3 : wr.cell? ⟨w.heap.size + 1, 3, none⟩ = some (.string ⟨#[]⟩) := HS.out.nd.c3
    have d4 : wr.cell? ⟨w.heap.size + 1, 4, none⟩ = some (.string ⟨#[]⟩) := HS.out.nd.c4
    have d5 := HS.out.nd.c5
    go_wp2_with (first
      | (go_at_call 11; refine HT.out.mono ?_; rintro e w2 ⟨rfl, hB2⟩; have HB2 : Hid (Below wr.heap.size wr w2) := hB2; have HZ2 : Hid (w2.heap[w.heap.size]? = some (.cells zeroQ 24)) := (hB2.block _ (lt_of_block HS.out.z)).trans HS.out.z; clear hB2)
      | (refine wpList_store_row rfl 24 _ _ rfl w.heap.size q rfl (congrArg Value.agg HQQ.out.symm) 24 _ HZ2.out H6.out HO6.out H16.out ?_))
    refine bodyPost_ret (results_row_tmp rfl _ _ w.heap.size 24 _ _ _ rfl (setRow_heap _ _ _ _ _ _ HZ2.out) Tryd.underlying24 rfl H6.out) rfl ⟨ret_val (by rw [HQQ.out]; rfl), below_setRow (HS.out.b.trans (HB2.out.mono HS.out.b.size)) (Nat.le_refl _) _⟩
end Go.Proofs.YtcaomoadkbdmgaaDoor
