/-
  The specification's ReadNode, walked: what it answers, by the lines that it reads. No condition but that the text is not huge.
-/
import Derived.Test.YtcaomoadkbdmgaaDoorSRun
namespace Go.Proofs.YtcaomoadkbdmgaaDoor
open Go.RowKit
set_option linter.unusedVariables false

theorem cutS_any (s : ByteArray) (c : UInt8) (z : Int) (hz : z = (c.toNat : Int)) (w : World) (hs : s.size ≤ 1048576) :
    Calls Tryd.prog 9 #[.string s, .int .u8 z] w fun e w' => e = .returned (.tuple #[.string (bs (cutL c s.data.toList).1), .string (bs (cutL c s.data.toList).2.1), .bool (cutL c s.data.toList).2.2]) ∧ ∃ n, w' = w.drewN n := by
  subst hz
  refine (l1Cut_any s _ w hs).mono ?_
  rintro e w' ⟨i, hF, rfl, n, rfl⟩
  exact ⟨ret_val (cutV_is hF), n, rfl⟩

theorem ND.set0 {w : World} {N : Nat} {a s k : Int} {key text : ByteArray} {v : Value} (h : ND w N a s k key text v) (x : Int) : ND (w.setCell ⟨N, 0, none⟩ (.int .i64 x)) N x s k key text v := by
  refine ⟨World.cell?_setCell_same _ _ _ h.c0, ?_, ?_, ?_, ?_, ?_, fun i => by rw [World.frozen?_setCell]; exact h.z i⟩
  all_goals rw [World.cell?_setCell_other _ _ _ _ (by simp)]
  · exact h.c1
  · exact h.c2
  · exact h.c3
  · exact h.c4
  · exact h.c5
theorem ND.set1 {w : World} {N : Nat} {a s k : Int} {key text : ByteArray} {v : Value} (h : ND w N a s k key text v) (x : Int) : ND (w.setCell ⟨N, 1, none⟩ (.int .i64 x)) N a x k key text v := by
  refine ⟨?_, World.cell?_setCell_same _ _ _ h.c1, ?_, ?_, ?_, ?_, fun i => by rw [World.frozen?_setCell]; exact h.z i⟩
  all_goals rw [World.cell?_setCell_other _ _ _ _ (by simp)]
  · exact h.c0
  · exact h.c2
  · exact h.c3
  · exact h.c4
  · exact h.c5
theorem ND.set2 {w : World} {N : Nat} {a s k : Int} {key text : ByteArray} {v : Value} (h : ND w N a s k key text v) (x : Int) : ND (w.setCell ⟨N, 2, none⟩ (.int .i64 x)) N a s x key text v := by
  refine ⟨?_, ?_, World.cell?_setCell_same _ _ _ h.c2, ?_, ?_, ?_, fun i => by rw [World.frozen?_setCell]; exact h.z i⟩
  all_goals rw [World.cell?_setCell_other _ _ _ _ (by simp)]
  · exact h.c0
  · exact h.c1
  · exact h.c3
  · exact h.c4
  · exact h.c5

/-- all texts of a node under way are short -/
def Small (p : PN) (n : Nat) : Prop := p.key.size ≤ n ∧ p.text.size ≤ n ∧ ∀ x, x ∈ p.ups → x.size ≤ n
theorem step_small {p : PN} {line : List UInt8} {n : Nat} (h : Small p n) (hl : line.length ≤ n) : Small (step p line) n := by
  have ht : (bs (cutL 32 line).2.1).size ≤ n := by rw [bs_size]; have := (cutL_len 32 line).2.1; omega
  obtain ⟨h1, h2, h3⟩ := h
  unfold step
  simp only
  repeat' split
  all_goals first
    | exact ⟨h1, h2, h3⟩
    | exact ⟨ht, h2, h3⟩
    | exact ⟨h1, ht, h3⟩
    | exact ⟨h1, h2, fun x hx => by
        rcases List.mem_append.1 hx with h | h
        · exact h3 x h
        · simp at h; subst h; exact ht⟩

/-- the specification's ReadNode under way -/
structure SS (w0 w : World) (p : PN) (v : Value) : Prop where
  nd : ND w (w0.heap.size + 1) p.a p.s p.k p.key p.text v
  own : w.ownsRow (w0.heap.size + 2) 9 1 v p.ups.length (p.ups.map Value.string)
  z : w.heap[w0.heap.size]? = some (.cells zeroQ 24)
  b : Below w0.heap.size w0 w
theorem SS.set {w0 w : World} {p p' : PN} {v : Value} {o : Nat} {x : Value} (h : SS w0 w p v) (hn : ND (w.setCell ⟨w0.heap.size + 1, o, none⟩ x) (w0.heap.size + 1) p'.a p'.s p'.k p'.key p'.text v) (hu : p'.ups = p.ups) : SS w0 (w.setCell ⟨w0.heap.size + 1, o, none⟩ x) p' v := by
  refine ⟨hn, ?_, (Below.heap_setCell _ _ _ _ (by simp)).trans h.z, h.b.setCell (by simp) _⟩
  rw [hu]
  exact own_kept h.own (grown_set (grown_refl w (some (w0.heap.size + 1))) o x) (fun k hk => by cases hk; omega)
theorem SS.drewN {w0 w : World} {p : PN} {v : Value} (h : SS w0 w p v) (n : Nat) : SS w0 (w.drewN n) p v := ⟨⟨h.nd.c0, h.nd.c1, h.nd.c2, h.nd.c3, h.nd.c4, h.nd.c5, h.nd.z⟩, h.own, h.z, ⟨h.b.os, h.b.tape, h.b.output, h.b.size, h.b.block⟩⟩

theorem cell_alloc5 {w : World} {o : Obj} {b i : Nat} {v : Value} (h : w.cell? ⟨b, i, none⟩ = some v) : (w.alloc o).cell? ⟨b, i, none⟩ = some v := (((Below.refl w.heap.size w).alloc (Nat.le_refl _) o).cell (p := ⟨b, i, none⟩) (cell_lt h)).trans h
theorem froz_alloc5 {w : World} {o : Obj} {M : Nat} {a s k : Int} {key text : ByteArray} {v : Value} (h : ND w M a s k key text v) : (w.alloc o).frozen? ⟨M, 5, none⟩ = false := (((Below.refl w.heap.size w).alloc (Nat.le_refl _) o).frozen (p := ⟨M, 5, none⟩) (cell_lt h.c0)).trans (h.z 5)
theorem SS.app {w0 w w9 : World} {p : PN} {v v' : Value} {t : ByteArray} {o : Obj} (h : SS w0 w p v) (hob : ∀ k, v.ownBlock = some k → w0.heap.size + 2 ≤ k) (hown : w9.ownsRow (w0.heap.size + 2) 9 1 v' (p.ups.length + 1) (p.ups.map Value.string ++ [.string t])) (hg : (w.alloc o).grownBy w9 v.ownBlock) (hsz : w0.heap.size + 2 ≤ w.heap.size) :
    SS w0 (w9.setCell ⟨w0.heap.size + 1, 5, none⟩ v') { p with ups := p.ups ++ [t] } v' := by
  have hne : ∀ k, k ≤ w0.heap.size + 1 → some k ≠ v.ownBlock := fun k hk e => by have := hob k e.symm; omega
  have hga := World.grownBy_alloc w o none
  have k1 : ND w9 (w0.heap.size + 1) p.a p.s p.k p.key p.text v := (h.nd.kept hga (by simp)).kept hg (hne _ (Nat.le_refl _))
  have hz : w9.heap[w0.heap.size]? = some (.cells zeroQ 24) := (hg.block _ (by simp; omega) (hne _ (by omega))).trans ((hga.block _ (by omega) (by simp)).trans h.z)
  have hb : Below w0.heap.size w0 w9 := (h.b.alloc h.b.size o).grown hg (by have := h.b.size; simp; omega) (fun k hk => by have := hob k hk; omega)
  refine ⟨k1.set5 v', ?_, (Below.heap_setCell _ _ _ _ (by simp)).trans hz, hb.setCell (by simp) _⟩
  show (w9.setCell _ _).ownsRow _ 9 1 v' (p.ups ++ [t]).length ((p.ups ++ [t]).map Value.string)
  rw [List.length_append, List.map_append]
  exact own_kept hown (grown_set (grown_refl w9 (some (w0.heap.size + 1))) 5 v') (fun k hk => by cases hk; omega)
theorem own_slice {w : World} {base : Nat} {e : TypeId} {z : Nat} {v : Value} {n : Nat} {xs : List Value} (h : w.ownsRow base e z v n xs) : ∃ a cap, v = .slice a n cap := by
  rcases h.2 with ⟨rfl, rfl⟩ | ⟨g, cap, cur, rfl, _⟩
  · exact ⟨_, _, rfl⟩
  · exact ⟨_, _, rfl⟩
def strLen : Value → Nat
  | .string s => s.size
  | _ => 0
set_option maxRecDepth 20000 in
set_option maxHeartbeats 4000000 in
theorem specRead_any (s : ByteArray) (w : World) (hs : s.size ≤ 1000) :
    Calls Tryd.prog 4 #[.string s] w fun e w' => ∃ (v : Value) (q : Array Value) (b : Bool), e = .returned (.tuple #[.agg q, .bool b]) ∧ Below w.heap.size w w' ∧
      (b = true → ∃ p, run (s.data.toList.length + 1) s.data.toList pnZ = some p ∧ s.toList ≠ [] ∧ textR p.a p.s p.k p.key p.text p.S p.ups.length = s ∧ q = #[.int .i64 p.a, .int .i64 p.s, .int .i64 p.k, .string p.key, .string p.text, v] ∧ w'.ownsRow w.heap.size 9 1 v p.ups.length (p.ups.map Value.string)) ∧
      (b = false → q = zeroQ ∧ ¬ ∃ p, run (s.data.toList.length + 1) s.data.toList pnZ = some p ∧ s.toList ≠ [] ∧ textR p.a p.s p.k p.key p.text p.S p.ups.length = s) := by
  have hlen : (s.size : Int) ≤ 1000 := by omega
  obtain ⟨i0, hi, hz0, hz1, hz2⟩ := info_parts info9'
  have he := empty_list
  have hi6 : (Tryd.prog.info? 24).map (·.size) = some zeroQ.size := info24
  obtain ⟨wa, hwa⟩ : ∃ wa, wa = (w.alloc (.cells #[.int .i64 0, .int .i64 0, .int .i64 0, .string ⟨#[]⟩, .string ⟨#[]⟩, .slice none 0 0] 24)).alloc (.cells #[.int .i64 0, .int .i64 0, .int .i64 0, .string ⟨#[]⟩, .string ⟨#[]⟩, .slice none 0 0] 24) := ⟨_, rfl⟩
  have S0 : SS w wa pnZ (.slice none 0 0) := by
    have hsz : (w.alloc (.cells #[.int .i64 0, .int .i64 0, .int .i64 0, .string ⟨#[]⟩, .string ⟨#[]⟩, .slice none 0 0] 24)).heap.size = w.heap.size + 1 := by simp
    refine ⟨?_, World.ownsRow_nil _ _ _ _, ?_, ?_⟩
    · rw [hwa, ← hsz]; exact ND.new _ _ _ _ _ _ _ _
    · rw [hwa, Below.heap_alloc _ _ _ (by simp)]; exact heap_alloc_new w _
    · rw [hwa]; exact ((Below.refl _ _).alloc (Nat.le_refl _) _).alloc (by simp) _
  have HS0 : Hid (SS w wa pnZ (.slice none 0 0)) := S0
  have HWA : Hid (wa = (w.alloc (.cells #[.int .i64 0, .int .i64 0, .int .i64 0, .string ⟨#[]⟩, .string ⟨#[]⟩, .slice none 0 0] 24)).alloc (.cells #[.int .i64 0, .int .i64 0, .int .i64 0, .string ⟨#[]⟩, .string ⟨#[]⟩, .slice none 0 0] 24)) := hwa
  clear S0 hwa
  go_enter Tryd.func4, Tryd.ntmps4
  go_wp2
  rw [← HWA.out]
  go_loopw [5] (fun rv wr => ∃ (rest : ByteArray) (p : PN) (v : Value) (f : Nat), rv = .string rest ∧ rest.size ≤ 1000 ∧ p.ups.length + rest.size ≤ 1000 ∧ SS w wr p v ∧ Hid (Small p 1000) ∧ Hid (run (s.data.toList.length + 1) s.data.toList pnZ = run f rest.data.toList p ∧ rest.data.toList.length < f)) (fun rv _ => strLen rv)
  case atStart => exact ⟨s, pnZ, _, s.data.toList.length + 1, rfl, hs, by show 0 + s.size ≤ 1000; omega, HS0.out, ⟨Nat.zero_le _, Nat.zero_le _, fun x hx => by simp [pnZ] at hx⟩, ⟨rfl, Nat.lt_succ_self _⟩⟩
  case round =>
    clear HS0 HWA wa
    obtain ⟨rest, p, v, f, rfl, hr, hpr, hS, HM, HR⟩ := hrel
    have HS : Hid (SS w wr p v) := hS
    clear hS
    cases hE : rest.toList.isEmpty with
    | true =>
      have hrn : rest.data.toList = [] := by rw [ByteArray.toList_eq] at hE; simpa using hE
      have HRU : Hid (run (s.data.toList.length + 1) s.data.toList pnZ = some p) := by
        obtain ⟨f', rfl⟩ : ∃ f', f = f' + 1 := ⟨f - 1, by have := HR.out.2; omega⟩
        show _ = _
        rw [HR.out.1, hrn, run, if_pos rfl]
      have hx : ∀ i, i < p.ups.length → (p.ups.map Value.string)[i]? = some (.string (p.S i)) := fun i hi => by
        rw [List.getElem?_map, List.getElem?_eq_getElem hi]
        simp [PN.S, List.getD_eq_getElem?_getD, List.getElem?_eq_getElem hi]
      obtain ⟨ua, uc, hv, hIS⟩ := strs_of_own' HS.out.own hx
      subst hv
      have HT : Hid (Calls Tryd.prog 11 #[.agg #[.int .i64 p.a, .int .i64 p.s, .int .i64 p.k, .string p.key, .string p.text, .slice ua p.ups.length uc]] wr fun e w' => e = .returned (.string (textR p.a p.s p.k p.key p.text p.S p.ups.length)) ∧ Below wr.heap.size wr w') := specNodeText_any _ _ _ _ _ _ _ _ p.S wr hIS (fun i hi => by
        have : p.S i ∈ p.ups := by
          unfold PN.S
          rw [List.getD_eq_getElem?_getD, List.getElem?_eq_getElem hi]
          exact List.getElem_mem hi
        have := HM.out.2.2 _ this
        omega) (by have := HM.out.1; omega) (by have := HM.out.2.1; omega)
      have d0 := HS.out.nd.c0
      have d1 := HS.out.nd.c1
      have d2 := HS.out.nd.c2
      have d3 := HS.out.nd.c3
      have d4 := HS.out.nd.c4
      have d5 := HS.out.nd.c5
      clear hx hIS hrn
      cases hs0 : (s.toList == []) with
      | true =>
        have HNO : Hid (¬ ∃ p, run (s.data.toList.length + 1) s.data.toList pnZ = some p ∧ s.toList ≠ [] ∧ textR p.a p.s p.k p.key p.text p.S p.ups.length = s) := fun ⟨_, _, h, _⟩ => h (eq_of_beq hs0)
        obtain ⟨q, hq⟩ : ∃ q, q = zeroQ := ⟨_, rfl⟩
        have hq6 : (Tryd.prog.info? 24).map (·.size) = some q.size := by rw [hq]; exact info24
        have ho6 : zeroQ.size = q.size := by rw [hq]
        have h16 : q.all (·.oneCell') = true := by rw [hq]; simp [Value.oneCell']
        have HQQ : Hid (q = zeroQ) := hq
        clear hq
        go_wp2_with (first
          | (refine wpList_store_row rfl 24 _ _ rfl w.heap.size q rfl (congrArg Value.agg HQQ.out.symm) 24 _ HS.out.z hq6 ho6 h16 ?_))
        refine bodyPost_ret (results_row_tmp rfl _ _ w.heap.size 24 _ _ _ rfl (setRow_heap _ _ _ _ _ _ HS.out.z) Tryd.underlying24 rfl hq6) rfl ⟨.slice ua p.ups.length uc, q, false, ret_val rfl, below_setRow HS.out.b (Nat.le_refl _) _, fun h => (by cases h), fun _ => ⟨HQQ.out, HNO.out⟩⟩
      | false =>
        have hsn : s.toList ≠ [] := fun h => by rw [h] at hs0; simp at hs0
        have HSN : Hid (s.toList ≠ []) := hsn
        clear hsn
        cases hte : ((textR p.a p.s p.k p.key p.text p.S p.ups.length).toList == s.toList) with
        | false =>
          have HNO : Hid (¬ ∃ p, run (s.data.toList.length + 1) s.data.toList pnZ = some p ∧ s.toList ≠ [] ∧ textR p.a p.s p.k p.key p.text p.S p.ups.length = s) := fun ⟨p', h1, _, h3⟩ => by
            rw [HRU.out] at h1
            cases h1
            rw [h3] at hte
            simp at hte
          obtain ⟨q, hq⟩ : ∃ q, q = zeroQ := ⟨_, rfl⟩
          have hq6 : (Tryd.prog.info? 24).map (·.size) = some q.size := by rw [hq]; exact info24
          have ho6 : zeroQ.size = q.size := by rw [hq]
          have h16 : q.all (·.oneCell') = true := by rw [hq]; simp [Value.oneCell']
          have HQQ : Hid (q = zeroQ) := hq
          clear hq
          go_wp2_with (first
            | (go_at_call 11; refine HT.out.mono ?_; rintro e w2 ⟨rfl, hB2⟩; have HB2 : Hid (Below wr.heap.size wr w2) := hB2; have HZ2 : Hid (w2.heap[w.heap.size]? = some (.cells zeroQ 24)) := (hB2.block _ (lt_of_block HS.out.z)).trans HS.out.z; clear hB2)
            | (refine wpList_store_row rfl 24 _ _ rfl w.heap.size q rfl (congrArg Value.agg HQQ.out.symm) 24 _ HZ2.out hq6 ho6 h16 ?_))
          refine bodyPost_ret (results_row_tmp rfl _ _ w.heap.size 24 _ _ _ rfl (setRow_heap _ _ _ _ _ _ HZ2.out) Tryd.underlying24 rfl hq6) rfl ⟨.slice ua p.ups.length uc, q, false, ret_val rfl, below_setRow (HS.out.b.trans (HB2.out.mono HS.out.b.size)) (Nat.le_refl _) _, fun h => (by cases h), fun _ => ⟨HQQ.out, HNO.out⟩⟩
        | true =>
          have HTE : Hid (textR p.a p.s p.k p.key p.text p.S p.ups.length = s) := by
            have h1 : (textR p.a p.s p.k p.key p.text p.S p.ups.length).toList = s.toList := by simpa using hte
            rw [ByteArray.toList_eq, ByteArray.toList_eq] at h1
            exact ByteArray.ext (Array.ext' h1)
          obtain ⟨q, hq⟩ : ∃ q, q = #[Value.int .i64 p.a, .int .i64 p.s, .int .i64 p.k, .string p.key, .string p.text, .slice ua p.ups.length uc] := ⟨_, rfl⟩
          have hq6 : (Tryd.prog.info? 24).map (·.size) = some q.size := by rw [hq]; exact info24
          have ho6 : zeroQ.size = q.size := by rw [hq]; rfl
          have h16 : q.all (·.oneCell') = true := by rw [hq]; simp [Value.oneCell']
          have HQQ : Hid (q = #[Value.int .i64 p.a, .int .i64 p.s, .int .i64 p.k, .string p.key, .string p.text, .slice ua p.ups.length uc]) := hq
          clear hq
          go_wp2_with (first
            | (go_at_call 11; refine HT.out.mono ?_; rintro e w2 ⟨rfl, hB2⟩; have HB2 : Hid (Below wr.heap.size wr w2) := hB2; have HZ2 : Hid (w2.heap[w.heap.size]? = some (.cells zeroQ 24)) := (hB2.block _ (lt_of_block HS.out.z)).trans HS.out.z; have N2 := HS.out.nd.kept (row := none) ⟨hB2.os, hB2.tape, hB2.output, hB2.size, fun k hk _ => hB2.block k hk⟩ (by simp); have k0 := N2.c0; have k1 := N2.c1; have k2 := N2.c2; have k3 := N2.c3; have k4 := N2.c4; have k5 := N2.c5; clear hB2 N2)
            | (refine wpList_store_row rfl 24 _ _ rfl w.heap.size q rfl (congrArg Value.agg HQQ.out.symm) 24 _ HZ2.out hq6 ho6 h16 ?_))
          refine bodyPost_ret (results_row_tmp rfl _ _ w.heap.size 24 _ _ _ rfl (setRow_heap _ _ _ _ _ _ HZ2.out) Tryd.underlying24 rfl hq6) rfl ⟨.slice ua p.ups.length uc, q, true, ret_val rfl, below_setRow (HS.out.b.trans (HB2.out.mono HS.out.b.size)) (Nat.le_refl _) _, fun _ => ⟨p, HRU.out, HSN.out, HTE.out, HQQ.out, mono_base (own_setRow (ownsRow_below HS.out.own HB2.out) (by omega) _) (by omega)⟩, fun h => by cases h⟩
    | false =>
      have hne : rest.data.toList ≠ [] := by rw [ByteArray.toList_eq] at hE; intro h; rw [h] at hE; cases hE
      obtain ⟨f', rfl⟩ : ∃ f', f = f' + 1 := ⟨f - 1, by have := HR.out.2; omega⟩
      have hcl := cutL_len 10 rest.data.toList
      have hrl : rest.data.toList.length = rest.size := by rw [Array.length_toList]; rfl
      have HC : Hid (Calls Tryd.prog 9 #[.string rest, .int .u8 10] wr fun e w' => e = .returned (.tuple #[.string (bs (cutL 10 rest.data.toList).1), .string (bs (cutL 10 rest.data.toList).2.1), .bool (cutL 10 rest.data.toList).2.2]) ∧ ∃ n, w' = wr.drewN n) := cutS_any rest 10 10 rfl wr (by omega)
      cases hen : (cutL 10 rest.data.toList).2.2 with
      | false =>
        have HN : Hid (run (s.data.toList.length + 1) s.data.toList pnZ = none) := by
          show _ = _
          rw [HR.out.1, run, if_neg hne, if_neg (by rw [hen]; decide)]
        rw [hen] at HC
        obtain ⟨q, hq⟩ : ∃ q, q = zeroQ := ⟨_, rfl⟩
        have hq6 : (Tryd.prog.info? 24).map (·.size) = some q.size := by rw [hq]; exact info24
        have ho6 : zeroQ.size = q.size := by rw [hq]
        have h16 : q.all (·.oneCell') = true := by rw [hq]; simp [Value.oneCell']
        have HQQ : Hid (q = zeroQ) := hq
        clear hq
        go_wp2_with (first
          | (go_at_call 9; refine HC.out.mono ?_; rintro e w1 ⟨rfl, n, hw1⟩; rw [hw1]; clear hw1 w1)
          | (refine wpList_store_row rfl 24 _ _ rfl w.heap.size q rfl (congrArg Value.agg HQQ.out.symm) 24 _ (HS.out.drewN n).z hq6 ho6 h16 ?_))
        refine bodyPost_ret (results_row_tmp rfl _ _ w.heap.size 24 _ _ _ rfl (setRow_heap _ _ _ _ _ _ (HS.out.drewN n).z) Tryd.underlying24 rfl hq6) rfl ⟨v, q, false, ret_val rfl, below_setRow (HS.out.drewN n).b (Nat.le_refl _) _, fun h => (by cases h), fun _ => ⟨HQQ.out, fun ⟨p, hp, _⟩ => by rw [HN.out] at hp; cases hp⟩⟩
      | true =>
        have HR' : Hid (run (s.data.toList.length + 1) s.data.toList pnZ = run f' (cutL 10 rest.data.toList).2.1 (step p (cutL 10 rest.data.toList).1) ∧ (cutL 10 rest.data.toList).2.1.length < f') := by
          refine ⟨?_, by have := HR.out.2; have := hcl.2.2 hne; omega⟩
          rw [HR.out.1, run, if_neg hne, if_pos hen]
        have HM' : Hid (Small (step p (cutL 10 rest.data.toList).1) 1000) := step_small HM.out (by omega)
        rw [hen] at HC
        have hl1 : (bs (cutL 10 rest.data.toList).1).size ≤ 1000 := by rw [bs_size]; omega
        have hl2 : (bs (cutL 10 rest.data.toList).2.1).size < rest.size := by rw [bs_size]; have := hcl.2.2 hne; omega
        have hdl : (bs (cutL 10 rest.data.toList).2.1).data.toList = (cutL 10 rest.data.toList).2.1 := bs_list _
        have hdl1 : (bs (cutL 10 rest.data.toList).1).data.toList = (cutL 10 rest.data.toList).1 := bs_list _
        generalize hLn : (cutL 10 rest.data.toList).1 = line at *
        generalize hMr : (cutL 10 rest.data.toList).2.1 = more at *
        clear hLn hMr hcl hen hne HR HM hrl
        have hc2 := cutL_len 32 line
        have HC2 : Hid (∀ v, Calls Tryd.prog 9 #[.string (bs line), .int .u8 32] v fun e w' => e = .returned (.tuple #[.string (bs (cutL 32 line).1), .string (bs (cutL 32 line).2.1), .bool (cutL 32 line).2.2]) ∧ ∃ n, w' = v.drewN n) := fun v => by
          have := cutS_any (bs line) 32 32 rfl v (by omega)
          rw [hdl1] at this
          exact this
        have HI : Hid (∀ v, Calls Tryd.prog 10 #[.string (bs (cutL 32 line).2.1)] v fun e w' => e = .returned (.tuple #[.int .i64 (rdec (bs (cutL 32 line).2.1)).1, .bool (rdec (bs (cutL 32 line).2.1)).2]) ∧ w' = v) := fun v => l1Int_any _ v (by rw [bs_size]; rw [bs_size] at hl1; omega)
        have HST : Hid (step p line = step p line) := rfl
        have hst := (rfl : step p line = step p line)
        unfold step at hst
        simp only at hst
        have HSTEP : Hid (step p line = (if (cutL 32 line).1 = [97, 117, 116, 104, 111, 114] then { p with a := (rdec (bs (cutL 32 line).2.1)).1 } else if (cutL 32 line).1 = [115, 101, 113] then { p with s := (rdec (bs (cutL 32 line).2.1)).1 } else if (cutL 32 line).1 = [107, 105, 110, 100] then { p with k := (rdec (bs (cutL 32 line).2.1)).1 } else if (cutL 32 line).1 = [107, 101, 121] then { p with key := bs (cutL 32 line).2.1 } else if (cutL 32 line).1 = [116, 101, 120, 116] then { p with text := bs (cutL 32 line).2.1 } else if (cutL 32 line).1 = [117, 112] then { p with ups := p.ups ++ [bs (cutL 32 line).2.1] } else p)) := rfl
        clear hst HST hc2
        have HHD : Hid ((bs more).data.toList = more) := hdl
        generalize (cutL 32 line).1 = wd at *
        generalize (cutL 32 line).2.1 = tl at *
        generalize (cutL 32 line).2.2 = en2 at *
        have c0 := HS.out.nd.c0
        have c1 := HS.out.nd.c1
        have c2 := HS.out.nd.c2
        have c3 := HS.out.nd.c3
        have c4 := HS.out.nd.c4
        have c5 := HS.out.nd.c5
        have z0 := HS.out.nd.z 0
        have z1 := HS.out.nd.z 1
        have z2 := HS.out.nd.z 2
        have z3 := HS.out.nd.z 3
        have z4 := HS.out.nd.z 4
        have z5 := HS.out.nd.z 5
        clear hdl hdl1
        by_cases w0 : wd = [97, 117, 116, 104, 111, 114]
        · have e0 : ((bs wd).toList == ([97, 117, 116, 104, 111, 114] : List UInt8)) = true := by rw [w0, ByteArray.toList_eq]; rfl
          have HP' : Hid (step p line = { p with a := (rdec (bs tl)).1 }) := by show _ = _; rw [HSTEP.out, if_pos w0]
          clear w0
          go_wp2_with (first
            | (go_at_call_of 9 rest; refine HC.out.mono ?_; rintro e w1 ⟨rfl, n, hw1⟩; rw [hw1]; clear hw1 w1)
            | (go_at_call_of 9 line; refine (HC2.out _).mono ?_; rintro e w1 ⟨rfl, n2, hw1⟩; rw [hw1]; clear hw1 w1)
            | (go_at_call 10; refine (HI.out _).mono ?_; rintro e w1 ⟨rfl, hw1⟩; rw [hw1]; clear hw1 w1))
          go_roundw
          case rel => exact ⟨bs more, step p line, v, f', rfl, by omega, by rw [HP'.out]; show p.ups.length + _ ≤ 1000; omega, by rw [HP'.out]; exact (HS.out.drewN (n + n2)).set (p' := { p with a := (rdec (bs tl)).1 }) ((HS.out.drewN (n + n2)).nd.set0 _) rfl, HM', by rw [HHD.out]; exact HR'⟩
          case measure => exact hl2
        · have e0 : ((bs wd).toList == ([97, 117, 116, 104, 111, 114] : List UInt8)) = false := by rw [ByteArray.toList_eq, bs_list]; simpa using w0
          by_cases w1 : wd = [115, 101, 113]
          · have e1 : ((bs wd).toList == ([115, 101, 113] : List UInt8)) = true := by rw [w1, ByteArray.toList_eq]; rfl
            have HP' : Hid (step p line = { p with s := (rdec (bs tl)).1 }) := by show _ = _; rw [HSTEP.out, if_neg w0, if_pos w1]
            clear w1 w0
            go_wp2_with (first
              | (go_at_call_of 9 rest; refine HC.out.mono ?_; rintro e w1 ⟨rfl, n, hw1⟩; rw [hw1]; clear hw1 w1)
              | (go_at_call_of 9 line; refine (HC2.out _).mono ?_; rintro e w1 ⟨rfl, n2, hw1⟩; rw [hw1]; clear hw1 w1)
              | (go_at_call 10; refine (HI.out _).mono ?_; rintro e w1 ⟨rfl, hw1⟩; rw [hw1]; clear hw1 w1))
            go_roundw
            case rel => exact ⟨bs more, step p line, v, f', rfl, by omega, by rw [HP'.out]; show p.ups.length + _ ≤ 1000; omega, by rw [HP'.out]; exact (HS.out.drewN (n + n2)).set (p' := { p with s := (rdec (bs tl)).1 }) ((HS.out.drewN (n + n2)).nd.set1 _) rfl, HM', by rw [HHD.out]; exact HR'⟩
            case measure => exact hl2
          · have e1 : ((bs wd).toList == ([115, 101, 113] : List UInt8)) = false := by rw [ByteArray.toList_eq, bs_list]; simpa using w1
            by_cases w2 : wd = [107, 105, 110, 100]
            · have e2 : ((bs wd).toList == ([107, 105, 110, 100] : List UInt8)) = true := by rw [w2, ByteArray.toList_eq]; rfl
              have HP' : Hid (step p line = { p with k := (rdec (bs tl)).1 }) := by show _ = _; rw [HSTEP.out, if_neg w0, if_neg w1, if_pos w2]
              clear w2 w0 w1
              go_wp2_with (first
                | (go_at_call_of 9 rest; refine HC.out.mono ?_; rintro e w1 ⟨rfl, n, hw1⟩; rw [hw1]; clear hw1 w1)
                | (go_at_call_of 9 line; refine (HC2.out _).mono ?_; rintro e w1 ⟨rfl, n2, hw1⟩; rw [hw1]; clear hw1 w1)
                | (go_at_call 10; refine (HI.out _).mono ?_; rintro e w1 ⟨rfl, hw1⟩; rw [hw1]; clear hw1 w1))
              go_roundw
              case rel => exact ⟨bs more, step p line, v, f', rfl, by omega, by rw [HP'.out]; show p.ups.length + _ ≤ 1000; omega, by rw [HP'.out]; exact (HS.out.drewN (n + n2)).set (p' := { p with k := (rdec (bs tl)).1 }) ((HS.out.drewN (n + n2)).nd.set2 _) rfl, HM', by rw [HHD.out]; exact HR'⟩
              case measure => exact hl2
            · have e2 : ((bs wd).toList == ([107, 105, 110, 100] : List UInt8)) = false := by rw [ByteArray.toList_eq, bs_list]; simpa using w2
              by_cases w3 : wd = [107, 101, 121]
              · have e3 : ((bs wd).toList == ([107, 101, 121] : List UInt8)) = true := by rw [w3, ByteArray.toList_eq]; rfl
                have HP' : Hid (step p line = { p with key := bs tl }) := by show _ = _; rw [HSTEP.out, if_neg w0, if_neg w1, if_neg w2, if_pos w3]
                clear w3 w0 w1 w2
                go_wp2_with (first
                  | (go_at_call_of 9 rest; refine HC.out.mono ?_; rintro e w1 ⟨rfl, n, hw1⟩; rw [hw1]; clear hw1 w1)
                  | (go_at_call_of 9 line; refine (HC2.out _).mono ?_; rintro e w1 ⟨rfl, n2, hw1⟩; rw [hw1]; clear hw1 w1)
                  | (go_at_call 10; refine (HI.out _).mono ?_; rintro e w1 ⟨rfl, hw1⟩; rw [hw1]; clear hw1 w1))
                go_roundw
                case rel => exact ⟨bs more, step p line, v, f', rfl, by omega, by rw [HP'.out]; show p.ups.length + _ ≤ 1000; omega, by rw [HP'.out]; exact (HS.out.drewN (n + n2)).set (p' := { p with key := bs tl }) ((HS.out.drewN (n + n2)).nd.set3 _) rfl, HM', by rw [HHD.out]; exact HR'⟩
                case measure => exact hl2
              · have e3 : ((bs wd).toList == ([107, 101, 121] : List UInt8)) = false := by rw [ByteArray.toList_eq, bs_list]; simpa using w3
                by_cases w4 : wd = [116, 101, 120, 116]
                · have e4 : ((bs wd).toList == ([116, 101, 120, 116] : List UInt8)) = true := by rw [w4, ByteArray.toList_eq]; rfl
                  have HP' : Hid (step p line = { p with text := bs tl }) := by show _ = _; rw [HSTEP.out, if_neg w0, if_neg w1, if_neg w2, if_neg w3, if_pos w4]
                  clear w4 w0 w1 w2 w3
                  go_wp2_with (first
                    | (go_at_call_of 9 rest; refine HC.out.mono ?_; rintro e w1 ⟨rfl, n, hw1⟩; rw [hw1]; clear hw1 w1)
                    | (go_at_call_of 9 line; refine (HC2.out _).mono ?_; rintro e w1 ⟨rfl, n2, hw1⟩; rw [hw1]; clear hw1 w1)
                    | (go_at_call 10; refine (HI.out _).mono ?_; rintro e w1 ⟨rfl, hw1⟩; rw [hw1]; clear hw1 w1))
                  go_roundw
                  case rel => exact ⟨bs more, step p line, v, f', rfl, by omega, by rw [HP'.out]; show p.ups.length + _ ≤ 1000; omega, by rw [HP'.out]; exact (HS.out.drewN (n + n2)).set (p' := { p with text := bs tl }) ((HS.out.drewN (n + n2)).nd.set4 _) rfl, HM', by rw [HHD.out]; exact HR'⟩
                  case measure => exact hl2
                · have e4 : ((bs wd).toList == ([116, 101, 120, 116] : List UInt8)) = false := by rw [ByteArray.toList_eq, bs_list]; simpa using w4
                  by_cases w5 : wd = [117, 112]
                  · have e5 : ((bs wd).toList == ([117, 112] : List UInt8)) = true := by rw [w5, ByteArray.toList_eq]; rfl
                    have HP' : Hid (step p line = { p with ups := p.ups ++ [bs tl] }) := by show _ = _; rw [HSTEP.out, if_neg w0, if_neg w1, if_neg w2, if_neg w3, if_neg w4, if_pos w5]
                    clear w5 w0 w1 w2 w3 w4
                    have hmx : p.ups.length + 1 ≤ maxLen := by unfold maxLen; omega
                    have hbt : (p.ups.length + 1) * 16 ≤ 140737488355328 := by omega
                    have hmx' : Hid (p.ups.length + 1 ≤ maxLen) := hmx
                    have hbt' : Hid ((p.ups.length + 1) * 16 ≤ 140737488355328) := hbt
                    clear hmx hbt
                    have HOB : Hid (∀ k, v.ownBlock = some k → w.heap.size + 2 ≤ k) := fun k hk => (HS.out.own.lt k hk).1
                    have HSZ : Hid (w.heap.size + 2 ≤ wr.heap.size) := cell_lt HS.out.nd.c0
                    go_wp2_with (first
                      | (go_at_call_of 9 rest; refine HC.out.mono ?_; rintro e w1 ⟨rfl, n, hw1⟩; rw [hw1]; clear hw1 w1)
                      | (go_at_call_of 9 line; refine (HC2.out _).mono ?_; rintro e w1 ⟨rfl, n2, hw1⟩; rw [hw1]; clear hw1 w1)
                      | (go_at_call 10; refine (HI.out _).mono ?_; rintro e w1 ⟨rfl, hw1⟩; rw [hw1]; clear hw1 w1)
                      | (at_builtin; refine wpList_append_own _ rfl _ _ 22 rfl (w.heap.size + 2) 9 i0 (.string ⟨#[]⟩) 1 16 Tryd.underlying22 hi hz0 hz1 hz2 rfl (by decide) v p.ups.length (p.ups.map Value.string) rfl (World.ownsRow.alloc (HS.out.drewN (n + n2)).own _) ⟨wr.heap.size, 0, none⟩ 1 1 [.string (bs tl)] rfl rfl (World.news_of_block (heap_alloc_new _ _)) (fun u hu => by simp at hu; subst hu; rfl) hmx'.out hbt'.out (by have h9 := HSZ.out; have h8 : ((wr.drewN n).drewN n2).heap.size = wr.heap.size := rfl; simp; omega) ?_; intro v' w9 hown9 hgrow9 _; obtain ⟨pa, pc, hv'⟩ := own_slice hown9; subst hv'; have k5 : w9.cell? ⟨w.heap.size + 1, 5, none⟩ = some v := hgrow9.cell (cell_alloc5 (HS.out.drewN (n + n2)).nd.c5) (fun e => by have := HOB.out _ e.symm; simp at this); have kz : w9.frozen? ⟨w.heap.size + 1, 5, none⟩ = false := (World.frozen?_of_block (hgrow9.block (w.heap.size + 1) (by have h9 := HSZ.out; have h8 : ((wr.drewN n).drewN n2).heap.size = wr.heap.size := rfl; simp; omega) (fun e => by have := HOB.out _ e.symm; omega))).trans (froz_alloc5 (HS.out.drewN (n + n2)).nd)))
                    go_roundw
                    case rel =>
                      refine ⟨bs more, step p line, .slice pa (p.ups.length + 1) pc, f', rfl, by omega, by rw [HP'.out]; show (p.ups ++ [bs tl]).length + _ ≤ 1000; rw [List.length_append]; show p.ups.length + 1 + _ ≤ 1000; omega, ?_, HM', by rw [HHD.out]; exact HR'⟩
                      rw [HP'.out]
                      exact SS.app (HS.out.drewN (n + n2)) HOB.out hown9 hgrow9 HSZ.out
                    case measure => exact hl2
                  · have e5 : ((bs wd).toList == ([117, 112] : List UInt8)) = false := by rw [ByteArray.toList_eq, bs_list]; simpa using w5
                    have hp' : step p line = p := by rw [HSTEP.out, if_neg w0, if_neg w1, if_neg w2, if_neg w3, if_neg w4, if_neg w5]
                    have HP' : Hid (step p line = p) := hp'
                    clear hp' w0 w1 w2 w3 w4 w5
                    go_wp2_with (first
                      | (go_at_call_of 9 rest; refine HC.out.mono ?_; rintro e w1 ⟨rfl, n, hw1⟩; rw [hw1]; clear hw1 w1)
                      | (go_at_call_of 9 line; refine (HC2.out _).mono ?_; rintro e w1 ⟨rfl, n2, hw1⟩; rw [hw1]; clear hw1 w1)
                      | (go_at_call 10; refine (HI.out _).mono ?_; rintro e w1 ⟨rfl, hw1⟩; rw [hw1]; clear hw1 w1))
                    go_roundw
                    case rel => exact ⟨bs more, step p line, v, f', rfl, by omega, by rw [HP'.out]; omega, by rw [HP'.out]; exact HS.out.drewN (n + n2), HM', by rw [HHD.out]; exact HR'⟩
                    case measure => exact hl2
end Go.Proofs.YtcaomoadkbdmgaaDoor
