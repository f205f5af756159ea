/-
  The specification's l14Files: right files. No condition but that the slice reads and that the sizes are small.
-/
import Derived.Test.YtbohaefmokbgbaaDkP
namespace Go.Proofs.Ytbohaefmokbgbaa
open Go.RowKit
set_option linter.unusedVariables false

theorem bl_irr : ∀ x : List UInt8, Op.bytesLess x x = false
  | [] => rfl
  | a :: x => by
    rw [Op.bytesLess, bl_irr x]
    simp



theorem bl_tri : ∀ x y : List UInt8, Op.bytesLess x y = false → x ≠ y → Op.bytesLess y x = true
  | [], [], _, h => absurd rfl h
  | [], _ :: _, h, _ => by simp [Op.bytesLess] at h
  | _ :: _, [], _, _ => rfl
  | a :: x, b :: y, h, hne => by
    rw [Op.bytesLess] at h ⊢
    simp only [Bool.or_eq_false_iff, decide_eq_false_iff_not, Bool.and_eq_false_iff] at h
    obtain ⟨h1, h2⟩ := h
    by_cases e : a = b
    · subst e
      have h3 : Op.bytesLess x y = false := by
        rcases h2 with h2 | h2
        · simp at h2
        · exact h2
      have := bl_tri x y h3 (fun h => hne (by rw [h]))
      simp [this]
    · have : b < a := by
        rw [UInt8.lt_iff_toNat_lt] at h1 ⊢
        have hn : a.toNat ≠ b.toNat := fun h => e (UInt8.toNat_inj.1 h)
        omega
      simp [this]



theorem bl_trans : ∀ x y z : List UInt8, Op.bytesLess x y = true → Op.bytesLess y z = true → Op.bytesLess x z = true
  | [], [], _, h, _ => by simp [Op.bytesLess] at h
  | _ :: _, [], _, h, _ => by simp [Op.bytesLess] at h
  | _, _ :: _, [], _, h => by simp [Op.bytesLess] at h
  | [], _ :: _, _ :: _, _, _ => rfl
  | a :: x, b :: y, c :: z, h, h' => by
    rw [Op.bytesLess] at h h' ⊢
    simp only [Bool.or_eq_true, Bool.and_eq_true, decide_eq_true_eq, beq_iff_eq] at h h' ⊢
    rcases h with h | ⟨rfl, h⟩
    · rcases h' with h' | ⟨rfl, h'⟩
      · left
        rw [UInt8.lt_iff_toNat_lt] at h h' ⊢
        omega
      · exact .inl h
    · rcases h' with h' | ⟨rfl, h'⟩
      · exact .inl h'
      · exact .inr ⟨rfl, bl_trans x y z h h'⟩



theorem bl_asym {x y : List UInt8} (h : Op.bytesLess x y = true) : Op.bytesLess y x = false := by
  cases hq : Op.bytesLess y x with
  | false => rfl
  | true =>
    have := bl_trans _ _ _ h hq
    rw [bl_irr] at this
    cases this



def flB (L : List Fl) (k : Nat) : Bool := nmB (L.getD k flZ).n && (k == 0 || lessN (L.getD (k - 1) flZ).n (L.getD k flZ).n)
def flsB (L : List Fl) : Bool := (List.range L.length).all (flB L)
def tot (L : List Fl) : Nat := (L.map fun f => f.d.size).sum
theorem tot_take (L : List Fl) (k : Nat) (h : k < L.length) : tot (L.take (k + 1)) = tot (L.take k) + (L.getD k flZ).d.size := by
  have e : L.take (k + 1) = L.take k ++ [L.getD k flZ] := by rw [List.take_succ_eq_append_getElem h]; simp [h]
  unfold tot
  rw [e, List.map_append, List.sum_append]
  simp
theorem tot_mono (L : List Fl) (k : Nat) : tot (L.take k) ≤ tot L := by
  have e : tot L = tot (L.take k) + tot (L.drop k) := by
    unfold tot
    rw [← List.sum_append, ← List.map_append, List.take_append_drop]
  omega
/-- right files -/
def filesB (L : List Fl) : Bool := decide (L.length ≤ 60) && (flsB L && decide (tot L ≤ 200000))
theorem flsB_false {L : List Fl} {k : Nat} (hk : k < L.length) (h : flB L k = false) : flsB L = false := by
  cases hq : flsB L with
  | false => rfl
  | true =>
    unfold flsB at hq
    rw [List.all_eq_true] at hq
    rw [hq k (List.mem_range.2 hk)] at h
    cases h
theorem flsB_true {L : List Fl} (h : ∀ k, k < L.length → flB L k = true) : flsB L = true := by
  unfold flsB
  rw [List.all_eq_true]
  intro k hk
  exact h k (List.mem_range.1 hk)

set_option maxRecDepth 4000 in
set_option maxHeartbeats 4000000 in
theorem files_any (v : Value) (L : List Fl) (w : World) (h : RdF w v L) (hT : tot L ≤ 1000000000) (hS : ∀ k, k < L.length → (L.getD k flZ).n.size ≤ 1000000000) :
    Calls Try.prog 58 #[v] w fun e w' => e = .returned (.bool (filesB L)) ∧ Below w.heap.size w w' := by
  obtain ⟨a, cap, rfl, hlc, hcm, hc⟩ := h
  obtain ⟨n, hn⟩ : ∃ n, n = L.length := ⟨_, rfl⟩
  have HN : Hid (n = L.length) := hn
  have HT : Hid (tot L ≤ 1000000000) := hT
  have HS : Hid (∀ k, k < L.length → (L.getD k flZ).n.size ≤ 1000000000) := hS
  rw [← hn] at hlc hc ⊢
  clear hn hT hS
  by_cases h60 : n ≤ 60
  · have h60I : (n : Int) ≤ 60 := by omega
    go_enter Try.func58, Try.ntmps58
    go_wp2
    go_loopw [3, 4] (fun y i wr => ∃ (k z : Nat), k ≤ n ∧ i = .int .i64 k ∧ y = .int .i64 z ∧ z ≤ 1000000000 ∧ Hid (z = tot (L.take k) ∧ (∀ j, j < k → flB L j = true) ∧ Below w.heap.size w wr)) (fun _ i _ => n - (intOf i).toNat)
    case atStart => exact ⟨0, 0, Nat.zero_le _, rfl, rfl, Nat.zero_le _, rfl, (fun j hj => absurd hj (Nat.not_lt_zero _)), Below.refl _ _⟩
    case round =>
      obtain ⟨k, z, hk, rfl, rfl, hz, HI⟩ := hrel
      by_cases hlt : k < n
      · have hltI : (k : Int) < (n : Int) := by omega
        obtain ⟨b, off, rfl, hbs, hl⟩ := hc (by omega)
        have hkL : k < L.length := by rw [← HN.out]; exact hlt
        have hat := hl k hkL
        have d0 := (HI.out.2.2.cell (p := ⟨b, off + k * 2, none⟩) hbs).trans hat.c0
        have d1 := (HI.out.2.2.cell (p := ⟨b, off + k * 2 + 1, none⟩) hbs).trans hat.c1
        have hsz := HS.out k hkL
        have htk := tot_take L k hkL
        have htm := tot_mono L (k + 1)
        obtain ⟨k1, hk1⟩ : ∃ k1, k1 = k - 1 := ⟨_, rfl⟩
        have p0 : 0 < k → wr.cell? ⟨b, off + k1 * 2, none⟩ = some (.string (L.getD k1 flZ).n) := fun h0 => (HI.out.2.2.cell (p := ⟨b, off + k1 * 2, none⟩) hbs).trans (hl k1 (by omega)).c0
        have hfk : flB L k = (nmB (L.getD k flZ).n && (k == 0 || lessN (L.getD k1 flZ).n (L.getD k flZ).n)) := by rw [hk1]; rfl
        obtain ⟨f, hf⟩ : ∃ f, f = L.getD k flZ := ⟨_, rfl⟩
        obtain ⟨g, hg⟩ : ∃ g, g = L.getD k1 flZ := ⟨_, rfl⟩
        rw [← hf] at d0 d1 hsz htk hfk
        rw [← hg] at p0 hfk
        have HTK : Hid (z + f.d.size = tot (L.take (k + 1))) := by show _ = _; rw [htk, ← HI.out.1]
        have hzf : z + f.d.size ≤ 1000000000 := by rw [HTK.out]; have := HT.out; omega
        obtain ⟨m, hm⟩ : ∃ m, m = f.d.size := ⟨_, rfl⟩
        have hmI : (f.d.size : Int) = (m : Int) := by rw [hm]
        rw [← hm] at hzf HTK
        have s0 : ∀ s : Later wr, s.val.cell? ⟨b, off + k * 2, none⟩ = some (.string f.n) := fun s => s.cell d0
        have HX : Hid (∀ t : Later wr, Calls Try.prog 87 #[.string f.n] t.val fun e w' => e = .returned (.bool (nmB f.n)) ∧ Below t.val.heap.size t.val w') := fun t => by
          refine (name_any f.n (by omega) t.val).mono ?_
          rintro e w' ⟨rfl, hw⟩
          rw [hw]
          exact ⟨rfl, Below.refl _ _⟩
        have hne := Later.any wr
        have HFK := (show Hid _ from hfk)
        clear hl hc hf hg hat htk htm hfk hm
        cases hnm : nmB f.n with
        | false =>
          rw [hnm] at HX HFK
          have HR : Hid (filesB L = false) := by
            show _ = _
            unfold filesB
            rw [flsB_false hkL (by rw [HFK.out]; rfl)]
            simp
          clear p0 d1
          go_wp2
          refine wp_region_later (by kernel_rfl) (by kernel_rfl) ?_
          repeat (go_big_quiet_step (first | (rename_i t; with_reducible exact Calls.later (HX.out t))))
          refine wpQuiet_nil ?_
          rintro _ ⟨s5, rfl⟩
          have HB : Hid (Below w.heap.size w s5.val) := HI.out.2.2.trans (s5.ok.mono HI.out.2.2.size)
          obtain ⟨w6, hw6⟩ : ∃ w6, w6 = s5.val := ⟨_, rfl⟩
          rw [← hw6] at HB ⊢
          clear hw6 hne HX s5 s0
          go_wp2
          go_ret
          exact ⟨ret_bool HR.out.symm, HB.out⟩
        | true =>
          rw [hnm] at HX HFK
          by_cases h0 : 0 < k
          · have hg1 : decide ((0 : Int) < (k : Int)) = true := decide_eq_true (by omega)
            have hg2 : decide (0 < k) = true := decide_eq_true h0
            have q0 := p0 h0
            have s1 : ∀ s : Later wr, s.val.cell? ⟨b, off + k1 * 2, none⟩ = some (.string g.n) := fun s => s.cell q0
            have hk1I : IntKind.i64.wrap ((k : Int) - 1) = (k1 : Int) := by rw [IntKind.wrap_i64]; omega
            have hk1n : (k1 : Int) < (n : Int) := by omega
            have hk1m : k1 < n := by omega
            have hk0 : (k == 0) = false := by simp; omega
            rw [hk0] at HFK
            cases hls : Op.bytesLess g.n.toList f.n.toList with
            | true =>
              have HJ : Hid (∀ j, j < k + 1 → flB L j = true) := fun j hj => by
                rcases Nat.lt_succ_iff_lt_or_eq.1 hj with h | rfl
                · exact HI.out.2.1 j h
                · rw [HFK.out]; unfold lessN; rw [hls]; rfl
              have hA : Op.bytesLess f.n.toList g.n.toList = false := bl_asym hls
              have hE : (f.n.toList == g.n.toList) = false := by
                cases hq : (f.n.toList == g.n.toList) with
                | false => rfl
                | true => rw [eq_of_beq hq, bl_irr] at hls; cases hls
              clear p0 hk1
              go_wp2
              refine wp_region_later (by kernel_rfl) (by kernel_rfl) ?_
              repeat (go_big_quiet_step (first | (rename_i t; with_reducible exact Calls.later (HX.out t))))
              refine wpQuiet_nil ?_
              rintro _ ⟨s5, rfl⟩
              have e1 : s5.val.cell? ⟨b, off + k * 2 + 1, none⟩ = some (.string f.d) := s5.cell d1
              have HB : Hid (Below w.heap.size w s5.val) := HI.out.2.2.trans (s5.ok.mono HI.out.2.2.size)
              obtain ⟨w6, hw6⟩ : ∃ w6, w6 = s5.val := ⟨_, rfl⟩
              rw [← hw6] at HB e1 ⊢
              clear hw6 hne HX s5 s0 s1 d0 d1 q0
              go_wp2
              go_roundw
              case rel => exact ⟨k + 1, z + m, by omega, by go_num, by go_num, hzf, HTK.out, HJ.out, HB.out⟩
              case measure => simp [intOf]; omega
            | false =>
              have HR : Hid (filesB L = false) := by
                show _ = _
                unfold filesB
                rw [flsB_false hkL (by rw [HFK.out]; unfold lessN; rw [hls]; rfl)]
                simp
              clear p0 hk1 d1
              cases hA : Op.bytesLess f.n.toList g.n.toList with
              | true =>
                have hE : (f.n.toList == g.n.toList) = false := by
                  cases hq : (f.n.toList == g.n.toList) with
                  | false => rfl
                  | true => rw [eq_of_beq hq, bl_irr] at hA; cases hA
                go_wp2
                refine wp_region_later (by kernel_rfl) (by kernel_rfl) ?_
                repeat (go_big_quiet_step (first | (rename_i t; with_reducible exact Calls.later (HX.out t))))
                refine wpQuiet_nil ?_
                rintro _ ⟨s5, rfl⟩
                have HB : Hid (Below w.heap.size w s5.val) := HI.out.2.2.trans (s5.ok.mono HI.out.2.2.size)
                obtain ⟨w6, hw6⟩ : ∃ w6, w6 = s5.val := ⟨_, rfl⟩
                rw [← hw6] at HB ⊢
                clear hw6 hne HX s5 s0 s1 d0 q0
                go_wp2
                go_ret
                exact ⟨ret_bool HR.out.symm, HB.out⟩
              | false =>
                have hE : (f.n.toList == g.n.toList) = true := by
                  cases hq : (f.n.toList == g.n.toList) with
                  | true => rfl
                  | false => rw [bl_tri _ _ hA (fun e => by rw [e] at hq; simp at hq)] at hls; cases hls
                go_wp2
                refine wp_region_later (by kernel_rfl) (by kernel_rfl) ?_
                repeat (go_big_quiet_step (first | (rename_i t; with_reducible exact Calls.later (HX.out t))))
                refine wpQuiet_nil ?_
                rintro _ ⟨s5, rfl⟩
                have HB : Hid (Below w.heap.size w s5.val) := HI.out.2.2.trans (s5.ok.mono HI.out.2.2.size)
                obtain ⟨w6, hw6⟩ : ∃ w6, w6 = s5.val := ⟨_, rfl⟩
                rw [← hw6] at HB ⊢
                clear hw6 hne HX s5 s0 s1 d0 q0
                go_wp2
                go_ret
                exact ⟨ret_bool HR.out.symm, HB.out⟩
          · have hg1 : decide ((0 : Int) < (k : Int)) = false := decide_eq_false (by omega)
            have hg2 : decide (0 < k) = false := decide_eq_false h0
            have hk0 : (k == 0) = true := by simp; omega
            rw [hk0] at HFK
            have HJ : Hid (∀ j, j < k + 1 → flB L j = true) := fun j hj => by
              rcases Nat.lt_succ_iff_lt_or_eq.1 hj with h | rfl
              · exact HI.out.2.1 j h
              · rw [HFK.out]; rfl
            clear p0 hk1
            go_wp2
            refine wp_region_later (by kernel_rfl) (by kernel_rfl) ?_
            repeat (go_big_quiet_step (first | (rename_i t; with_reducible exact Calls.later (HX.out t))))
            refine wpQuiet_nil ?_
            rintro _ ⟨s5, rfl⟩
            have e1 : s5.val.cell? ⟨b, off + k * 2 + 1, none⟩ = some (.string f.d) := s5.cell d1
            have HB : Hid (Below w.heap.size w s5.val) := HI.out.2.2.trans (s5.ok.mono HI.out.2.2.size)
            obtain ⟨w6, hw6⟩ : ∃ w6, w6 = s5.val := ⟨_, rfl⟩
            rw [← hw6] at HB e1 ⊢
            clear hw6 hne HX s5 s0 d0 d1
            go_wp2
            go_roundw
            case rel => exact ⟨k + 1, z + m, by omega, by go_num, by go_num, hzf, HTK.out, HJ.out, HB.out⟩
            case measure => simp [intOf]; omega
      · have hke : k = n := by omega
        subst hke
        have HE : Hid (filesB L = decide ((z : Int) ≤ 200000)) := by
          have e : L.take k = L := by rw [HN.out]; exact List.take_length
          have hz' := HI.out.1
          rw [e] at hz'
          show _ = _
          unfold filesB
          rw [decide_eq_true (by rw [← HN.out]; exact h60), flsB_true (fun j hj => HI.out.2.1 j (by rw [HN.out]; exact hj)), ← hz', Bool.true_and, Bool.true_and]
          congr 1
          exact propext ⟨fun h => by omega, fun h => by omega⟩
        have HB : Hid (Below w.heap.size w wr) := HI.out.2.2
        clear hc
        go_wp2
        go_ret
        exact ⟨ret_bool HE.out.symm, HB.out⟩
  · have h60I : ¬ (n : Int) ≤ 60 := by omega
    have HR : Hid (filesB L = false) := by
      show _ = _
      unfold filesB
      rw [decide_eq_false (by rw [← HN.out]; exact h60)]
      rfl
    clear hc
    go_enter Try.func58, Try.ntmps58
    go_wp2
    go_ret
    exact ⟨ret_bool HR.out.symm, Below.refl _ _⟩
end Go.Proofs.Ytbohaefmokbgbaa
