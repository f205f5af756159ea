/-
  The program's files of a shelf. No condition but that sizes are small.
-/
import Derived.Test.YtbohaefmokbgbaaDkV
import Derived.Test.YtbohaefmokbgbaaDkG
import Derived.Test.YtbohaefmokbgbaaShelfJ
namespace Go.Proofs.Ytbohaefmokbgbaa
open Go.RowKit Go.Maps
set_option linter.unusedVariables false

theorem inter_nil : ∀ xs : List (List UInt8), Lib.join xs [] = xs.flatten
  | [] => rfl
  | x :: r => by
    rw [Lib.join_cons]
    unfold Lib.joinTail
    simp
theorem joinP_list (P : List ByteArray) : (joinP P).data.toList = (P.map (·.data.toList)).flatten := by
  have key : ∀ (P : List ByteArray) (a : ByteArray), (P.foldl (· ++ ·) a).data.toList = a.data.toList ++ (P.map (·.data.toList)).flatten := by
    intro P
    induction P with
    | nil => intro a; simp
    | cons x P ih =>
      intro a
      rw [List.foldl_cons, ih]
      simp
  have := key P ⟨#[]⟩
  simpa [joinP] using this
theorem join_is (P : List ByteArray) : (⟨(Lib.join (P.map (·.data.toList)) (⟨#[]⟩ : ByteArray).data.toList).toArray⟩ : ByteArray) = joinP P := by
  apply ba_ext
  rw [ByteArray.toList_eq, ByteArray.toList_eq, joinP_list]
  show (Lib.join (P.map (·.data.toList)) []).toArray.toList = _
  rw [inter_nil]
theorem join_len (P : List ByteArray) : (Lib.join (P.map (·.data.toList)) (⟨#[]⟩ : ByteArray).data.toList).length = (joinP P).size := by
  show (Lib.join (P.map (·.data.toList)) []).length = (joinP P).data.size
  rw [inter_nil, ← joinP_list, Array.length_toList]
theorem OwnS.cases {w : World} {base : Nat} {v : Value} {P : List ByteArray} (h : OwnS w base v P) : (P = [] ∧ v = .slice none 0 0) ∨ ∃ g cap, v = .slice (some ⟨g, 0, none⟩) P.length cap ∧ g < w.heap.size ∧ P.length ≤ cap ∧ cap ≤ 9223372036854775807 ∧ ∀ (j : Nat) x, P[j]? = some x → w.cell? ⟨g, 0 + j, none⟩ = some (.string x) := by
  rcases h.2 with ⟨h1, h2⟩ | ⟨g, cap, cur, hv, hg, hh, hnc, hcm, _⟩
  · left
    exact ⟨List.length_eq_zero_iff.1 h2, h1⟩
  · right
    unfold maxLen at hcm
    refine ⟨g, cap, hv, lt_of_block hh, hnc, by omega, fun j x hx => ?_⟩
    rw [hv] at h
    have hj : j < P.length := (List.getElem?_eq_some_iff.1 hx).1
    rw [Nat.zero_add, World.ownsRow.cellAt h j (by omega), List.getElem?_map, hx]
    rfl

set_option maxRecDepth 4000 in
set_option maxHeartbeats 2000000 in
theorem shFiles_any (base B c : Nat) (L : List Fl) (D : DataW Value) (p : Pi) (w : World) (h : Sh w base B c L D p) (hc : c ≤ 1000000) (hl : L.length ≤ 1000000) (hs : ∀ f ∈ L, f.n.size ≤ 1000000000 ∧ f.d.size ≤ 1000000000) :
    Calls Try.prog 44 #[.map (some B)] w fun e w' => ∃ v, e = .returned v ∧ OwnF w' w.heap.size v L ∧ Below w.heap.size w w' := by
  obtain ⟨i0, hi, hz0, hz1, hz2⟩ := info_parts infoF
  obtain ⟨n, hn⟩ : ∃ n, n = L.length := ⟨_, rfl⟩
  have HN : Hid (n = L.length ∧ n ≤ 1000000 ∧ c ≤ 1000000 ∧ ∀ f ∈ L, f.n.size ≤ 1000000000 ∧ f.d.size ≤ 1000000000) := ⟨hn, by omega, hc, hs⟩
  have HS := (show Hid _ from h)
  clear hn hl hs hc h
  go_enter Try.func44, Try.ntmps44
  go_wp2_with (first
    | (go_at_call 77; refine (Try.maps_Keys_S _ _).mono ?_; rintro e w' ⟨rfl, hw'⟩; rw [hw']; clear hw' w')
    | (go_at_call 76
       refine (sortedS HS.out HN.out.2.2.1).mono ?_
       rintro e w8 ⟨v8, rfl, hO8, hB8⟩
       have HB8 : Hid (Below w.heap.size w w8) := hB8
       have HS8 : Hid (Sh w8 base B c L D p) := HS.out.below hB8
       have hN8 : ∃ a cap, v8 = .slice a n cap ∧ n ≤ cap ∧ cap ≤ 9223372036854775807 ∧ (0 < n → ∃ b, a = some ⟨b, 0, none⟩ ∧ b < w8.heap.size ∧ ∀ k, k < n → w8.cell? ⟨b, k, none⟩ = some (.string (L.getD k flZ).n)) := by
         rcases hO8.cases with ⟨h1, h2⟩ | ⟨g, cap, h1, h2, h3, h4, h5⟩
         · have : L = [] := by simpa using h1
           have hn0 : n = 0 := by rw [HN.out.1, this]; rfl
           exact ⟨none, 0, by rw [h2, hn0], by omega, by omega, fun h => by omega⟩
         · rw [List.length_map, ← HN.out.1] at h1 h3
           refine ⟨_, cap, h1, h3, h4, fun _ => ⟨g, rfl, h2, fun k hk => ?_⟩⟩
           have := h5 k (L.getD k flZ).n (by rw [List.getElem?_map]; have : k < L.length := by rw [← HN.out.1]; exact hk
                                             simp [this])
           rw [Nat.zero_add] at this
           exact this
       obtain ⟨a8, cap8, hv8, hnc8, hcm8, hc8⟩ := hN8
       subst hv8
       clear hO8 hB8))
  have HC8 := (show Hid _ from hc8)
  clear hc8
  go_loopw [3, 10] (fun y i wr => ∃ (k : Nat) (v : Value), k ≤ n ∧ i = .int .i64 k ∧ v = y ∧ Hid (OwnF wr w8.heap.size v (L.take k) ∧ Below w8.heap.size w8 wr)) (fun _ i _ => n - (intOf i).toNat)
  case atStart => exact ⟨0, _, Nat.zero_le _, rfl, rfl, OwnF.nil _ _, Below.refl _ _⟩
  case round =>
    obtain ⟨k, v, hk, rfl, rfl, HI⟩ := hrel
    by_cases hlt : k < n
    · have hltI : (k : Int) < (n : Int) := by omega
      obtain ⟨b, rfl, hbs, hcell⟩ := HC8.out (by omega)
      have hkL : k < L.length := by rw [← HN.out.1]; exact hlt
      have d0 := (HI.out.2.cell (p := ⟨b, k, none⟩) hbs).trans (hcell k hlt)
      have hmem : L.getD k flZ ∈ L := by simp [hkL]
      have htk : L.take (k + 1) = L.take k ++ [L.getD k flZ] := by rw [List.take_succ_eq_append_getElem hkL]; simp [hkL]
      obtain ⟨f, hf⟩ : ∃ f, f = L.getD k flZ := ⟨_, rfl⟩
      rw [← hf] at d0 hmem htk
      have hSr := HS8.out.below HI.out.2
      have hget := getF_some hSr.up hmem
      have hsz := HN.out.2.2.2 f hmem
      have hlk := hSr.look f.n (by omega)
      rw [hget] at hlk
      obtain ⟨hpl, hjn, hpc0⟩ := hSr.pile f.n f.d hget
      obtain ⟨G, hG⟩ : ∃ G, G = p.G f.n.toList := ⟨_, rfl⟩
      obtain ⟨P, hP⟩ : ∃ P, P = p.P f.n.toList := ⟨_, rfl⟩
      obtain ⟨V, hV⟩ : ∃ V, V = p.V f.n.toList := ⟨_, rfl⟩
      rw [← hG, ← hP, ← hV] at hpl
      rw [← hG] at hlk
      rw [← hP] at hjn
      have c0 : wr.cell? ⟨G, 0, none⟩ = some V := cellN hpl.blk
      have hj1 := join_is P
      have hj2 := join_len P
      rw [hjn] at hj1 hj2
      have HJ : Hid ((⟨(Lib.join (P.map (·.data.toList)) (⟨#[]⟩ : ByteArray).data.toList).toArray⟩ : ByteArray) = f.d ∧ (Lib.join (P.map (·.data.toList)) (⟨#[]⟩ : ByteArray).data.toList).length ≤ 140737488355328) := ⟨hj1, by rw [hj2]; omega⟩
      have HF : Hid (L.take (k + 1) = L.take k ++ [f] ∧ (L.take k).length = k) := ⟨htk, by rw [List.length_take]; omega⟩
      have HR : Hid (wr.ownsRow w8.heap.size 68 2 v k (cellsF (L.take k)) ∧ Below w8.heap.size w8 wr) := by
        have := HI.out.1
        unfold OwnF at this
        rw [HF.out.2] at this
        exact ⟨this, HI.out.2⟩
      have HKN : Hid (k + 1 ≤ maxLen ∧ (k + 1) * 32 ≤ 140737488355328) := ⟨by unfold maxLen; have := HN.out.2.1; omega, by have := HN.out.2.1; omega⟩
      have hcs : (P = [] ∧ V = .slice none 0 0) ∨ ∃ g cap, V = .slice (some ⟨g, 0, none⟩) P.length cap ∧ g < wr.heap.size ∧ P.length ≤ cap ∧ cap ≤ 9223372036854775807 ∧ ∀ (j : Nat) x, P[j]? = some x → wr.cell? ⟨g, 0 + j, none⟩ = some (.string x) := hpl.own.cases
      have HPL : Hid (P.length ≤ 1000000) := by have := HN.out.2.2.1; have h9 := hpc0; rw [← hP] at h9; exact Nat.le_trans h9 this
      clear hcell hf hmem htk hSr hget hsz hpl hG hP hV hj1 hj2 hpc0
      have fin : ∀ (w4 w5 : World) (v5 : Value), Below wr.heap.size wr w4 → w5.ownsRow w8.heap.size 68 2 v5 (k + 1) (cellsF (L.take k) ++ [.string f.n, .string f.d]) → (w4.alloc (.cells #[.string f.n, .string f.d] 68)).grownBy w5 v.ownBlock → Hid (OwnF w5 w8.heap.size v5 (L.take (k + 1)) ∧ Below w8.heap.size w8 w5) := fun w4 w5 v5 hB4 ho hgr => by
        have hb4 : Below w8.heap.size w8 w4 := HR.out.2.trans (hB4.mono HR.out.2.size)
        refine ⟨?_, (hb4.alloc hb4.size _).grown hgr (by have := hb4.size; simp; omega) (fun q hq => (HR.out.1.lt q hq).1)⟩
        unfold OwnF
        rw [HF.out.1, List.length_append, HF.out.2, ← cellsF_snoc]
        exact ho
      have FIN := (show Hid _ from fin)
      clear fin
      rcases hcs with ⟨hP0, rfl⟩ | ⟨g, cap, rfl, hg, hpc, hcm, hcl⟩
      · have HD : Hid (f.d = ⟨#[]⟩) := by
          show _ = _
          rw [← hjn, hP0]
          rfl
        clear hjn hP0
        go_wp2_with (first
          | (go_at_call 78
             refine (Try.strings_Join_none _ _ _ _).mono ?_
             rintro e w' ⟨rfl, hw'⟩
             rw [hw', ← HD.out]
             clear hw' w')
          | (at_builtin
             refine wpList_append_own _ rfl _ _ 24 rfl w8.heap.size 68 i0 (.agg #[.string ⟨#[]⟩, .string ⟨#[]⟩]) 2 32 Try.underlying24 hi hz0 hz1 hz2 rfl (by decide) v k _ rfl (HR.out.1.alloc _) ⟨wr.heap.size, 0, none⟩ 1 1 [.string f.n, .string f.d] rfl rfl (by have := World.news_of_block (heap_alloc_new wr (.cells #[.string f.n, .string f.d] 68)); simpa using this) (oneF [f]) HKN.out.1 HKN.out.2 (by have := HR.out.2.size; simp; omega) ?_
             intro v5 w5 hown5 hgrow5 hnil5
             have HE := FIN.out wr w5 v5 (Below.refl _ _) hown5 hgrow5
             clear hown5 hgrow5 hnil5))
        go_roundw
        case rel => exact ⟨k + 1, _, by omega, by go_num, rfl, HE.out⟩
        case measure => simp [intOf]; omega
      · have HCL := (show Hid _ from hcl)
        have HPC : Hid (P.length ≤ cap ∧ g < wr.heap.size ∧ P.length ≤ 140737488355328) := ⟨hpc, hg, by
          have := HPL.out; omega⟩
        clear hjn hcl hpc hg hcm
        go_wp2_with (first
          | (go_at_call 78
             refine (Try.strings_Join g 0 cap P ⟨#[]⟩ wr HCL.out HPC.out.2.1 HPC.out.2.2 HPC.out.1 HJ.out.2).mono ?_
             rintro e w4 ⟨rfl, hB4⟩
             rw [HJ.out.1])
          | (at_builtin
             refine wpList_append_own _ rfl _ _ 24 rfl w8.heap.size 68 i0 (.agg #[.string ⟨#[]⟩, .string ⟨#[]⟩]) 2 32 Try.underlying24 hi hz0 hz1 hz2 rfl (by decide) v k _ rfl ((ownsRow_below HR.out.1 hB4).alloc _) ⟨w4.heap.size, 0, none⟩ 1 1 [.string f.n, .string f.d] rfl rfl (by have := World.news_of_block (heap_alloc_new w4 (.cells #[.string f.n, .string f.d] 68)); simpa using this) (oneF [f]) HKN.out.1 HKN.out.2 (by have := HR.out.2.size; have := hB4.size; simp; omega) ?_
             intro v5 w5 hown5 hgrow5 hnil5
             have HE := FIN.out w4 w5 v5 hB4 hown5 hgrow5
             clear hown5 hgrow5 hnil5))
        go_roundw
        case rel => exact ⟨k + 1, _, by omega, by go_num, rfl, HE.out⟩
        case measure => simp [intOf]; omega
    · have hke : k = n := by omega
      subst hke
      have HE : Hid (OwnF wr w.heap.size v L ∧ Below w.heap.size w wr) := by
        have := HI.out.1
        rw [HN.out.1, List.take_length] at this
        exact ⟨this.base HB8.out.size, HB8.out.trans (HI.out.2.mono HB8.out.size)⟩
      clear HC8
      go_wp2
      go_ret
      exact ⟨_, rfl, HE.out.1, HE.out.2⟩
end Go.Proofs.Ytbohaefmokbgbaa
