/-
  The program's Crash. No condition but that the slices read and that the sizes are small.
-/
import Derived.Test.YtdlkokdhbffhpaaDkCs
namespace Go.Proofs.Ytdlkokdhbffhpaa
open Go.RowKit Go.Maps
set_option linter.unusedVariables false

theorem mAppT (a b : ByteArray) (w : World) : (method 285 103 (.agg #[.string a, .string b]) "loop.example/g00318/impl.torn").run Try.prog w = .ok (140, .agg #[.string a, .string b]) w := by kernel_rfl
theorem mRenT (a b : ByteArray) (w : World) : (method 285 105 (.agg #[.string a, .string b]) "loop.example/g00318/impl.torn").run Try.prog w = .ok (142, .agg #[.string a, .string b]) w := by kernel_rfl
theorem mRemT (a : ByteArray) (w : World) : (method 285 107 (.agg #[.string a]) "loop.example/g00318/impl.torn").run Try.prog w = .ok (144, .agg #[.string a]) w := by kernel_rfl

set_option maxRecDepth 4000 in
set_option maxHeartbeats 800000 in
theorem renT_any (n u : ByteArray) (t : Int) (w : World) :
    Calls Try.prog 142 #[.agg #[.string n, .string u], .int .i64 t] w fun e w' => e = .returned (.iface 105 (.agg #[.string n, .string u])) ∧ Below w.heap.size w w' := by
  obtain ⟨X, hX⟩ : ∃ X, X = w.alloc (.cells #[.string n, .string u] 105) := ⟨_, rfl⟩
  have hBX : Below w.heap.size w X := by rw [hX]; exact (Below.refl _ _).alloc (Nat.le_refl _) _
  have g : X.heap[w.heap.size]? = some (.cells #[.string n, .string u] 105 (0, 0)) := by rw [hX]; exact heap_alloc_new _ _
  have c0 : X.cell? ⟨w.heap.size, 0, none⟩ = some (.string n) := cellN g
  have c1 : X.cell? ⟨w.heap.size, 1, none⟩ = some (.string u) := cellN g
  rw [hX] at c0 c1
  have HB : Hid (Below w.heap.size w (w.alloc (.cells #[.string n, .string u] 105))) := by rw [← hX]; exact hBX
  clear g hX hBX X
  go_enter Try.func142, Try.ntmps142
  go_wp2
  go_ret
  exact ⟨rfl, HB.out⟩

set_option maxRecDepth 4000 in
set_option maxHeartbeats 800000 in
theorem remT_any (n : ByteArray) (t : Int) (w : World) :
    Calls Try.prog 144 #[.agg #[.string n], .int .i64 t] w fun e w' => e = .returned (.iface 107 (.agg #[.string n])) ∧ Below w.heap.size w w' := by
  obtain ⟨X, hX⟩ : ∃ X, X = w.alloc (.cells #[.string n] 107) := ⟨_, rfl⟩
  have hBX : Below w.heap.size w X := by rw [hX]; exact (Below.refl _ _).alloc (Nat.le_refl _) _
  have g : X.heap[w.heap.size]? = some (.cells #[.string n] 107 (0, 0)) := by rw [hX]; exact heap_alloc_new _ _
  have c0 : X.cell? ⟨w.heap.size, 0, none⟩ = some (.string n) := cellN g
  rw [hX] at c0
  have HB : Hid (Below w.heap.size w (w.alloc (.cells #[.string n] 107))) := by rw [← hX]; exact hBX
  clear g hX hBX X
  go_enter Try.func144, Try.ntmps144
  go_wp2
  go_ret
  exact ⟨rfl, HB.out⟩

set_option maxRecDepth 4000 in
set_option maxHeartbeats 800000 in
theorem appT_any (n d : ByteArray) (t : Nat) (w : World) (hd : d.size ≤ 1000000000) :
    Calls Try.prog 140 #[.agg #[.string n, .string d], .int .i64 (t : Int)] w fun e w' => e = .returned (.iface 103 (.agg #[.string n, .string (d.extract 0 (min t d.size))])) ∧ Below w.heap.size w w' := by
  obtain ⟨X, hX⟩ : ∃ X, X = w.alloc (.cells #[.string n, .string d] 103) := ⟨_, rfl⟩
  have hBX : Below w.heap.size w X := by rw [hX]; exact (Below.refl _ _).alloc (Nat.le_refl _) _
  have g : X.heap[w.heap.size]? = some (.cells #[.string n, .string d] 103 (0, 0)) := by rw [hX]; exact heap_alloc_new _ _
  have s0 : ∀ s : Later X, s.val.cell? ⟨w.heap.size, 0, none⟩ = some (.string n) := fun s => s.cell (cellN g)
  have s1 : ∀ s : Later X, s.val.cell? ⟨w.heap.size, 1, none⟩ = some (.string d) := fun s => s.cell (cellN g)
  have HB : Hid (Below w.heap.size w X) := hBX
  have hne := Later.any X
  have HX := (show Hid _ from hX)
  clear g hX hBX
  obtain ⟨m, hm⟩ : ∃ m, m = min t d.size := ⟨_, rfl⟩
  have hmI : min (t : Int) (d.size : Int) = (m : Int) := by omega
  have hmd : (m : Int) ≤ (d.size : Int) := by omega
  have hmn : m ≤ d.size := by omega
  rw [← hm]
  clear hm
  go_enter Try.func140, Try.ntmps140
  go_wp2
  rw [← HX.out]
  refine wp_region_later (by kernel_rfl) (by kernel_rfl) ?_
  repeat (go_big_quiet_step (fail))
  refine wpQuiet_nil ?_
  rintro _ ⟨s5, rfl⟩
  have HB5 : Hid (Below w.heap.size w s5.val) := HB.out.trans (s5.ok.mono HB.out.size)
  obtain ⟨w6, hw6⟩ : ∃ w6, w6 = s5.val := ⟨_, rfl⟩
  rw [← hw6] at HB5 ⊢
  clear hw6 hne s0 s1 s5
  go_wp2
  go_ret
  exact ⟨rfl, HB5.out⟩

theorem cutF_none {L : List Fl} {s : ByteArray} (h : getF L s = none) : cutF L s = L := by
  unfold cutF
  rw [List.filter_eq_self]
  intro f hf
  cases e : (f.n.toList == s.toList) with
  | false => rfl
  | true =>
    exfalso
    unfold getF at h
    rw [Option.map_eq_none_iff, List.find?_eq_none] at h
    exact h f hf e
theorem extract_all (d : ByteArray) {t : Nat} (h : d.size ≤ t) : d.extract 0 (min t d.size) = d := by
  rw [Nat.min_eq_right h]
  exact ByteArray.extract_zero_size

set_option maxRecDepth 10000 in
set_option maxHeartbeats 8000000 in
theorem implCrash_any (vL vS vO vK : Value) (L S : List Fl) (O : List Dop) (Z : List Int) (tn : Int) (w : World) (h : RdD w vL vS vO L S O) (hK : RdI w vK Z) (hz : SmallD L S O) (hn : L.length ≤ 1048576 ∧ S.length ≤ 1048576 ∧ O.length ≤ 1048576) (hkz : Z.length ≤ 1048576) :
    Calls Try.prog 21 #[.agg #[vL, vS, vO], vK, .int .i64 tn] w fun e w' => ∃ x y z, e = .returned (.tuple #[.agg #[x, y, z], .bool (crOk L S O Z tn)]) ∧ RdD w' x y z (crR L S O Z tn) (crR L S O Z tn) [] ∧ OwD w' w.heap.size x y z (crR L S O Z tn).length (crR L S O Z tn).length 0 ∧ Below w.heap.size w w' := by
  have HN : Hid (L.length ≤ 1048576 ∧ S.length ≤ 1048576 ∧ O.length ≤ 1048576) := hn
  have HZ : Hid (SmallD L S O) := hz
  have HA : Hid (∀ w', Below w.heap.size w w' → RdD w' vL vS vO L S O) := fun w' hB => h.below hB
  have HKR : Hid (∀ w', Below w.heap.size w w' → RdI w' vK Z) := fun w' hB => hK.below hB
  obtain ⟨aL, cL, eL⟩ := h.1.slice
  obtain ⟨nL, hnL⟩ : ∃ n, n = L.length := ⟨_, rfl⟩
  rw [← hnL] at eL
  obtain ⟨aS, cS, eS⟩ := h.2.1.slice
  obtain ⟨nS, hnS⟩ : ∃ n, n = S.length := ⟨_, rfl⟩
  rw [← hnS] at eS
  obtain ⟨aO, cO, eO⟩ := h.2.2.slice
  obtain ⟨nO, hnO⟩ : ∃ n, n = O.length := ⟨_, rfl⟩
  rw [← hnO] at eO
  subst eL eS eO
  have HE : Hid (nL = L.length ∧ nS = S.length ∧ nO = O.length) := ⟨hnL, hnS, hnO⟩
  have HCO : Hid (0 < nO → ∃ b off, aO = some ⟨b, off, none⟩ ∧ ∀ w', Below w.heap.size w w' → ∀ i, i < nO → ∀ t, t < 4 → w'.cell? ⟨b, off + i * 4 + t, none⟩ = (encO (O.getD i dopZ))[t]?) := fun hp => by
    obtain ⟨a', c', e', _, _, h3⟩ := h.2.2
    simp only [Value.slice.injEq] at e'
    obtain ⟨ea, _, _⟩ := e'
    obtain ⟨b, off, e, hb, hcc⟩ := h3 (by omega)
    exact ⟨b, off, ea.trans e, fun w' hB i hi t ht => (hB.cell (p := ⟨b, off + i * 4 + t, none⟩) hb).trans (hcc i (by omega) t ht)⟩
  obtain ⟨aK, cK, eK, hkc, hkm, hkk⟩ := hK
  obtain ⟨nK, hnK⟩ : ∃ n, n = Z.length := ⟨_, rfl⟩
  rw [← hnK] at eK hkc hkk
  subst eK
  have HNK : Hid (nK = Z.length) := hnK
  have HCK : Hid (0 < nK → ∃ b off, aK = some ⟨b, off, none⟩ ∧ ∀ w', Below w.heap.size w w' → ∀ i, i < nK → w'.cell? ⟨b, off + i, none⟩ = some (.int .i64 (Z.getD i 0))) := fun hp => by
    obtain ⟨b, off, e, hb, hcc⟩ := hkk hp
    exact ⟨b, off, e, fun w' hB i hi => (hB.cell (p := ⟨b, off + i, none⟩) hb).trans (hcc i hi)⟩
  have HKL : Hid (nK ≤ 1048576) := by show _ ≤ _; omega
  obtain ⟨X, hX⟩ : ∃ X, X = (w.alloc (.cells #[.slice aL nL cL, .slice aS nS cS, .slice aO nO cO] 30)).alloc (.cells #[.slice none 0 0, .slice none 0 0, .slice none 0 0] 30) := ⟨_, rfl⟩
  have hBX : Below w.heap.size w X := by rw [hX]; exact ((Below.refl _ _).alloc (Nat.le_refl _) _).alloc (by simp) _
  have gX : X.heap[w.heap.size]? = some (.cells #[.slice aL nL cL, .slice aS nS cS, .slice aO nO cO] 30 (0, 0)) := by rw [hX, Below.heap_alloc _ _ _ (by simp)]; exact heap_alloc_new _ _
  have gR : X.heap[w.heap.size + 1]? = some (.cells #[.slice none 0 0, .slice none 0 0, .slice none 0 0] 30 (0, 0)) := by
    rw [hX]
    have := heap_alloc_new (w.alloc (.cells #[.slice aL nL cL, .slice aS nS cS, .slice aO nO cO] 30)) (.cells #[.slice none 0 0, .slice none 0 0, .slice none 0 0] 30)
    simpa using this
  have HX := (show Hid _ from hX)
  have HBX : Hid (Below w.heap.size w X) := hBX
  have HG : Hid (∀ w', Below X.heap.size X w' → At3 w' w.heap.size 30 (.slice aL nL cL) (.slice aS nS cS) (.slice aO nO cO) ∧ At3 w' (w.heap.size + 1) 30 (.slice none 0 0) (.slice none 0 0) (.slice none 0 0) ∧ Below w.heap.size w w') := fun w' hB => ⟨(hB.block _ (lt_of_block gX)).trans gX, (hB.block _ (lt_of_block gR)).trans gR, hBX.trans (hB.mono hBX.size)⟩
  have c0 : X.cell? ⟨w.heap.size, 0, none⟩ = some (.slice aL nL cL) := cellN gX
  have c1 : X.cell? ⟨w.heap.size, 1, none⟩ = some (.slice aS nS cS) := cellN gX
  have c2 : X.cell? ⟨w.heap.size, 2, none⟩ = some (.slice aO nO cO) := cellN gX
  rw [hX] at c0 c1 c2
  clear hX hBX gX gR h hz hn hkz hkk hkc hkm hnL hnS hnO hnK
  go_enter Try.func21, Try.ntmps21
  go_wp2_with fail
  rw [← HX.out]
  have hAX := HA.out X HBX.out
  refine (implDisk_any _ _ _ L S O X hAX.1 hAX.2.1 hAX.2.2 HZ.out).mono ?_
  rintro e w1 ⟨rfl, hB1⟩
  have HB1 : Hid (Below X.heap.size X w1) := hB1
  clear c0 c1 c2 HX hB1 hAX
  cases hd : diskB L S O with
  | false =>
    have HD : Hid (crOk L S O Z tn = false) := by show _ = _; unfold crOk; rw [hd]; rfl
    clear hd
    have HR3 : Hid (At3 w1 (w.heap.size + 1) 30 (.slice none 0 0) (.slice none 0 0) (.slice none 0 0)) := (HG.out w1 HB1.out).2.1
    obtain ⟨q, hq, hi6, ho6, h16⟩ := row3 none none none 0 0 0 0 0 0
    go_wp2_with (refine wpList_store_row rfl 30 _ _ rfl (w.heap.size + 1) q rfl (congrArg Value.agg hq.symm) 30 _ HR3.out hi6 ho6 h16 ?_)
    subst hq
    refine bodyPost_ret (v := .tuple #[.agg #[.slice none 0 0, .slice none 0 0, .slice none 0 0], _]) (results_row_tmp rfl _ _ (w.heap.size + 1) 30 _ _ _ rfl (setRow_heap _ _ _ _ _ _ HR3.out) Try.underlying30 rfl hi6) rfl ⟨_, _, _, ret_val (by rw [HD.out]; rfl), ?_, ?_, ?_⟩
    · rw [cr_no HD.out]
      exact ⟨(HoldF.nil _ 0).1, (HoldF.nil _ 0).1, (HoldO.nil _ 0).1⟩
    · rw [cr_no HD.out]
      exact ⟨(HoldF.nil _ _).2, (HoldF.nil _ _).2, (HoldO.nil _ _).2, fun _ hb => by cases hb⟩
    · exact below_setRow (HG.out w1 HB1.out).2.2 (by omega) _
  | true =>
    have HDD : Hid (diskB L S O = true) := hd
    have c2 := (HG.out w1 HB1.out).1.c2
    have HPK : Hid (RdI w1 (.slice aK nK cK) Z) := HKR.out w1 (HG.out w1 HB1.out).2.2
    clear hd
    go_wp2_with fail
    refine (placesOk_any _ Z nO w1 HPK.out (by have := HN.out; have := HE.out; omega)).mono ?_
    rintro e w2 ⟨rfl, hB2⟩
    have HB2 : Hid (Below X.heap.size X w2) := HB1.out.trans (hB2.mono HB1.out.size)
    clear c2 hB2
    cases hp : placesB nO Z with
    | false =>
      have HD : Hid (crOk L S O Z tn = false) := by show _ = _; unfold crOk; rw [← HE.out.2.2, hp]; simp
      clear hp
      have HR3 : Hid (At3 w2 (w.heap.size + 1) 30 (.slice none 0 0) (.slice none 0 0) (.slice none 0 0)) := (HG.out w2 HB2.out).2.1
      obtain ⟨q, hq, hi6, ho6, h16⟩ := row3 none none none 0 0 0 0 0 0
      go_wp2_with (refine wpList_store_row rfl 30 _ _ rfl (w.heap.size + 1) q rfl (congrArg Value.agg hq.symm) 30 _ HR3.out hi6 ho6 h16 ?_)
      subst hq
      refine bodyPost_ret (v := .tuple #[.agg #[.slice none 0 0, .slice none 0 0, .slice none 0 0], _]) (results_row_tmp rfl _ _ (w.heap.size + 1) 30 _ _ _ rfl (setRow_heap _ _ _ _ _ _ HR3.out) Try.underlying30 rfl hi6) rfl ⟨_, _, _, ret_val (by rw [HD.out]; rfl), ?_, ?_, ?_⟩
      · rw [cr_no HD.out]
        exact ⟨(HoldF.nil _ 0).1, (HoldF.nil _ 0).1, (HoldO.nil _ 0).1⟩
      · rw [cr_no HD.out]
        exact ⟨(HoldF.nil _ _).2, (HoldF.nil _ _).2, (HoldO.nil _ _).2, fun _ hb => by cases hb⟩
      · exact below_setRow (HG.out w2 HB2.out).2.2 (by omega) _
    | true =>
      have HPB : Hid (placesB O.length Z = true) := by show _ = _; rw [← HE.out.2.2]; exact hp
      clear hp
      by_cases h0 : 0 ≤ tn
      · have HH : Hid (crOk L S O Z tn = filesB (crF S O Z tn.toNat Z.length)) := by
          show _ = _
          unfold crOk
          rw [HDD.out, HPB.out, decide_eq_true h0]
          rfl
        have h0n : ¬ tn < 0 := by omega
        obtain ⟨tt, htt⟩ : ∃ tt : Nat, tt = tn.toNat := ⟨_, rfl⟩
        have htI : tn = (tt : Int) := by omega
        have HDK : Hid (filesB S = true ∧ O.length ≤ 200) := ⟨(disk_live HDD.out).2.1, (disk_live HDD.out).2.2⟩
        have HF : Hid (∀ k, k ≤ nK → UpF (crF S O Z tt k) ∧ (∀ f ∈ crF S O Z tt k, nmB f.n = true) ∧ (crF S O Z tt k).length ≤ 260 ∧ tot (crF S O Z tt k) ≤ 50000000) := fun k hk => by
          have hl := places_len HPB.out
          have h60 := filesB_parts HDK.out.1
          obtain ⟨f1, f2, f3, f4⟩ := crF_facts (t := tt) HDD.out (filesB_up HDK.out.1) (filesB_names HDK.out.1) (disk_small HDD.out) HPB.out k (by rw [← HNK.out]; exact hk)
          have h200 := HDK.out.2
          have : k ≤ 200 := by have := HNK.out; omega
          exact ⟨f1, f2, by omega, by have : k * 200000 ≤ 200 * 200000 := Nat.mul_le_mul_right _ this; omega⟩
        have HNK2 : Hid (nK ≤ 200) := by show _ ≤ _; have := places_len HPB.out; have := HNK.out; have := HDK.out.2; omega
        rw [← htt] at HH
        have HTT : Hid (tt = tn.toNat) := htt
        subst htI
        clear htt
        have HUS : Hid (UpF S ∧ S.length ≤ 60 ∧ ∀ f ∈ S, f.n.size ≤ 1000000000 ∧ f.d.size ≤ 1000000000) := ⟨filesB_up HDK.out.1, (filesB_parts HDK.out.1).1, fun f hf => ⟨by have := (filesB_parts HDK.out.1).2.2 f hf; omega, by have := tot_mem hf; have := (filesB_parts HDK.out.1).2.1; omega⟩⟩
        have c1 := (HG.out w2 HB2.out).1.c1
        have HSR : Hid (RdF w2 (.slice aS nS cS) S) := (HA.out w2 (HG.out w2 HB2.out).2.2).2.1
        go_wp2_with (first
          | (go_at_call 45
             refine (shelfOf_any _ S w2 HSR.out HUS.out.1 (by have := HUS.out.2.1; omega) HUS.out.2.2).mono ?_
             rintro e w3 ⟨B, D0, p0, rfl, hS3, hB3⟩
             have HS3 : Hid (Sh w3 w2.heap.size B (2 * S.length) S D0 p0 ∧ Below w2.heap.size w2 w3) := ⟨hS3, hB3⟩
             clear c1 hS3 hB3))
        obtain ⟨bs, hbs⟩ : ∃ bs, bs = w2.heap.size := ⟨_, rfl⟩
        have HBS : Hid (bs = w2.heap.size) := hbs
        have HB2s : Hid (∀ wz, Below bs w2 wz → Below X.heap.size X wz) := fun wz hz => by
          rw [hbs] at hz
          exact HB2.out.trans (hz.mono HB2.out.size)
        rw [← hbs] at HS3
        clear hbs
        have HSL : Hid (S.length ≤ 60) := HUS.out.2.1
        go_loopw [34] (fun i wr => ∃ (k : Nat), k ≤ nK ∧ i = .int .i64 k ∧ Hid (∃ D p c, Sh wr bs B c (crF S O Z tt k) D p ∧ c ≤ 2 * S.length + 2 * k ∧ Below bs w2 wr)) (fun i _ => nK - (intOf i).toNat)
        case atStart => exact ⟨0, Nat.zero_le _, rfl, D0, p0, 2 * S.length, HS3.out.1, by omega, HS3.out.2⟩
        case round =>
          obtain ⟨k, hk, rfl, HI⟩ := hrel
          obtain ⟨D, p, c, hSr, hcc, hBr⟩ := HI.out
          have HBR : Hid (Below X.heap.size X wr) := HB2s.out wr hBr
          have HSr : Hid (Sh wr bs B c (crF S O Z tt k) D p ∧ c ≤ 2 * S.length + 2 * k ∧ Below bs w2 wr) := ⟨hSr, hcc, hBr⟩
          clear HI hSr hcc hBr
          by_cases hlt : k < nK
          · have hltI : (k : Int) < (nK : Int) := by omega
            obtain ⟨b, off, rfl, hl⟩ := HCK.out (by omega)
            have hg := HG.out wr HBR.out
            have d0 := hl wr hg.2.2 k hlt
            have hpl := placesB_at HPB.out (show k < Z.length by rw [← HNK.out]; exact hlt)
            obtain ⟨x, hx⟩ : ∃ x : Nat, (x : Int) = Z.getD k 0 := ⟨(Z.getD k 0).toNat, by omega⟩
            rw [← hx] at d0
            have hxn : x < nO := by have := HE.out; omega
            have hxI : (x : Int) < (nO : Int) := by omega
            obtain ⟨b2, off2, rfl, hl2⟩ := HCO.out (by omega)
            obtain ⟨o, ho⟩ : ∃ o, o = O.getD x dopZ := ⟨_, rfl⟩
            have d1 := hl2 wr hg.2.2 x hxn 0 (by omega)
            have d2 := hl2 wr hg.2.2 x hxn 1 (by omega)
            have d3 := hl2 wr hg.2.2 x hxn 2 (by omega)
            have d4 := hl2 wr hg.2.2 x hxn 3 (by omega)
            rw [← ho] at d1 d2 d3 d4
            have d1' : wr.cell? ⟨b2, off2 + x * 4, none⟩ = some (.int .i64 o.k) := d1
            have d2' : wr.cell? ⟨b2, off2 + x * 4 + 1, none⟩ = some (.string o.n) := d2
            have d3' : wr.cell? ⟨b2, off2 + x * 4 + 2, none⟩ = some (.string o.t) := d3
            have d4' : wr.cell? ⟨b2, off2 + x * 4 + 3, none⟩ = some (.string o.d) := d4
            have c2 := hg.1.c2
            have hom : o ∈ O := by rw [ho]; exact getD_mem (by have := HE.out; omega)
            have hsz := HZ.out.o1 o hom
            have HZO : Hid (o.n.size ≤ 1000000000 ∧ o.t.size ≤ 1000000000 ∧ o.d.size ≤ 200000) := ⟨by have := hsz.1; omega, by have := hsz.2.1; omega, disk_small HDD.out o hom⟩
            have HFO : Hid (formB o = true) := disk_forms HDD.out o hom
            have HOX : Hid (O.getD (Z.getD k 0).toNat dopZ = o) := by show _ = _; rw [← hx, ho]; rfl
            have HFK := (show Hid _ from HF.out k (by omega))
            obtain ⟨now, hnow⟩ : ∃ now, now = crF S O Z tt k := ⟨_, rfl⟩
            have HST : Hid (∀ o', opAt O Z tt k = o' → crF S O Z tt (k + 1) = (doF now o').1) := fun o' e => by show (doF _ _).1 = _; rw [e, hnow]
            rw [← hnow] at HSr HFK
            have HDS : Hid (∀ x, getF now o.n = some x → x.size ≤ 1000000000) := fun x hx => by
              obtain ⟨f, hf, hfx⟩ := getF_mem hx
              have := tot_mem hf
              have := HFK.out.2.2.2
              rw [← hfx]
              omega
            clear d1 d2 d3 d4 hl hl2 hpl hg hsz hom ho hx hnow
            obtain ⟨n1, hn1⟩ : ∃ n1, n1 = nK - 1 := ⟨_, rfl⟩
            have hnk := HNK2.out
            have hwK : IntKind.i64.wrap ((nK : Int) - 1) = (n1 : Int) := by rw [IntKind.wrap_i64]; omega
            have HN1 : Hid (n1 = nK - 1) := hn1
            obtain ⟨lb, hlb⟩ : ∃ b : Bool, b = decide (k = n1) := ⟨_, rfl⟩
            have hlI : ((k : Int) == (n1 : Int)) = lb := by rw [hlb]; by_cases h : k = n1 <;> simp [h]; omega
            have HLB : Hid (lb = decide (k = n1)) := hlb
            clear hlb hn1
            go_wp2_with fail
            refine (changeOf_any o wr HZO.out.1 HZO.out.2.1).mono ?_
            rintro e w5 ⟨ch, rfl, hch, hB5⟩
            have hcv := hch HFO.out
            subst hcv
            have HB5 : Hid (Below bs w2 w5) := HSr.out.2.2.trans (hB5.mono (Nat.le_trans (Nat.le_of_eq HBS.out) HSr.out.2.2.size))
            have HS5 : Hid (Sh w5 bs B c now D p) := HSr.out.1.below hB5
            have HZ5 : Hid (bs ≤ w5.heap.size ∧ c ≤ 100000 ∧ bs ≤ w2.heap.size) := ⟨Nat.le_trans (Nat.le_of_eq HBS.out) HB5.out.size, by have := HSr.out.2.1; have := HSL.out; have := HNK2.out; omega, Nat.le_of_eq HBS.out⟩
            have hkk := form_kind HFO.out
            clear hch hB5 d0 d1' d2' d3' d4' c2
            cases lb with
            | false =>
              have HOP : Hid (opAt O Z tt k = o) := by
                show _ = _
                unfold opAt
                rw [HOX.out, if_neg (fun h => absurd HLB.out.symm (by have := HNK.out; have := HN1.out; simp; omega))]
              rcases hkk with hk1 | hk1 | hk1
              · rw [chV_app hk1]
                have HK : Hid (o.k = 1) := hk1
                have HOO : Hid (opAt O Z tt k = ⟨1, o.n, o.t, o.d⟩) := by show _ = _; rw [HOP.out, ← HK.out]
                clear hk1
                have hm := mApp o.n o.d
                go_wp2_with fail
                refine (app_any o.n o.d bs B c now D p w5 HS5.out (Nat.le_trans HZ5.out.2.2 HB5.out.size) HZ5.out.2.1 HZO.out.1 (by have := HZO.out.2.2; omega) HDS.out).mono ?_
                rintro e w7 ⟨rfl, D', p', hS7, hB7⟩
                have HE : Hid (Sh w7 bs B (c + 2) (doF now ⟨1, o.n, o.t, o.d⟩).1 D' p' ∧ Below bs w2 w7) := by
                  have e : (doF now ⟨1, o.n, o.t, o.d⟩).1 = putR now o.n (match getF now o.n with | some x => x ++ o.d | none => o.d) := by
                    unfold doF
                    rw [if_pos rfl]
                    exact putF_eq HS5.out.up _ _
                  exact ⟨by rw [e]; exact hS7, HB5.out.trans hB7⟩
                clear hS7 hB7 hm
                go_wp2
                go_roundw
                case rel => exact ⟨k + 1, by omega, by go_num, D', p', c + 2, by rw [HST.out _ HOO.out]; exact HE.out.1, by have := HSr.out.2.1; omega, HE.out.2⟩
                case measure => simp [intOf]; omega
              · rw [chV_ren hk1]
                have HK : Hid (o.k = 2) := hk1
                clear hk1
                have hm := mRen o.n o.t
                go_wp2_with fail
                refine (ren_any o.n o.t bs B c now D p w5 HS5.out (Nat.le_trans HZ5.out.2.2 HB5.out.size) HZ5.out.2.1 HZO.out.1 HZO.out.2.1).mono ?_
                rintro e w7 ⟨rfl, D', p', hS7, hB7⟩
                have HE : Hid (Sh w7 bs B (c + 2) (doF now o).1 D' p' ∧ Below bs w2 w7) := by
                  refine ⟨?_, HB5.out.trans hB7⟩
                  have e : (doF now o).1 = (match getF now o.n with | some x => putR (cutF now o.n) o.t x | none => now) := by
                    unfold doF
                    rw [if_neg (by rw [HK.out]; decide)]
                    cases getF now o.n with
                    | none => rfl
                    | some x =>
                      simp only
                      rw [if_pos HK.out]
                      exact putF_eq (cutF_up HS5.out.up _) _ _
                  rw [e]
                  exact hS7.more (by omega)
                clear hS7 hB7 hm
                go_wp2
                go_roundw
                case rel => exact ⟨k + 1, by omega, by go_num, D', p', c + 2, by rw [HST.out _ HOP.out]; exact HE.out.1, by have := HSr.out.2.1; omega, HE.out.2⟩
                case measure => simp [intOf]; omega
              · rw [chV_rem hk1]
                have HK : Hid (o.k = 3) := hk1
                clear hk1
                have hm := mRem o.n
                go_wp2_with fail
                refine (rem_any o.n bs B c now D p w5 HS5.out (Nat.le_trans HZ5.out.2.2 HB5.out.size) HZO.out.1).mono ?_
                rintro e w7 ⟨rfl, D', p', hS7, hB7⟩
                have HE : Hid (Sh w7 bs B (c + 2) (doF now o).1 D' p' ∧ Below bs w2 w7) := by
                  refine ⟨?_, HB5.out.trans hB7⟩
                  have e : (doF now o).1 = cutF now o.n := by
                    unfold doF
                    rw [if_neg (by rw [HK.out]; decide)]
                    cases hg : getF now o.n with
                    | none => exact (cutF_none hg).symm
                    | some x =>
                      simp only
                      rw [if_neg (by rw [HK.out]; decide)]
                  rw [e]
                  exact hS7.more (by omega)
                clear hS7 hB7 hm
                go_wp2
                go_roundw
                case rel => exact ⟨k + 1, by omega, by go_num, D', p', c + 2, by rw [HST.out _ HOP.out]; exact HE.out.1, by have := HSr.out.2.1; omega, HE.out.2⟩
                case measure => simp [intOf]; omega
            | true =>
              have HLA : Hid (k + 1 = Z.length) := by
                show _ = _
                have := HLB.out.symm
                rw [decide_eq_true_eq] at this
                have := HNK.out
                have := HN1.out
                omega
              have HOQ : Hid (opAt O Z tt k = tornO o tt) := by
                show _ = _
                unfold opAt
                rw [HOX.out, if_pos HLA.out]
              rcases hkk with hk1 | hk1 | hk1
              · rw [chV_app hk1]
                have HK : Hid (o.k = 1) := hk1
                have hmt := mAppT o.n o.d
                clear hk1
                go_wp2_with fail
                refine (appT_any o.n o.d tt w5 (by have := HZO.out.2.2; omega)).mono ?_
                rintro e w6 ⟨rfl, hB6⟩
                obtain ⟨dd, hdd⟩ : ∃ dd, dd = o.d.extract 0 (min tt o.d.size) := ⟨_, rfl⟩
                have HOO : Hid (opAt O Z tt k = ⟨1, o.n, o.t, dd⟩) := by
                  show _ = _
                  rw [HOQ.out, hdd]
                  unfold tornO
                  by_cases ht : tt < o.d.size
                  · rw [if_pos ⟨HK.out, ht⟩, HK.out, Nat.min_eq_left (by omega)]
                  · rw [if_neg (fun h => ht h.2), extract_all _ (by omega), ← HK.out]
                have HDZ : Hid (dd.size ≤ 200000) := by show _ ≤ _; rw [hdd]; have := HZO.out.2.2; simp; omega
                rw [← hdd]
                clear hdd hmt
                have HBW : Hid (Below bs w2 w6) := HB5.out.trans (hB6.mono HZ5.out.1)
                have HSW : Hid (Sh w6 bs B c now D p) := HS5.out.below hB6
                clear hB6
                have hm := mApp o.n dd
                go_wp2_with fail
                refine (app_any o.n dd bs B c now D p w6 HSW.out (Nat.le_trans HZ5.out.2.2 HBW.out.size) HZ5.out.2.1 HZO.out.1 (by have := HDZ.out; omega) HDS.out).mono ?_
                rintro e w7 ⟨rfl, D', p', hS7, hB7⟩
                have HE : Hid (Sh w7 bs B (c + 2) (doF now ⟨1, o.n, o.t, dd⟩).1 D' p' ∧ Below bs w2 w7) := by
                  have e : (doF now ⟨1, o.n, o.t, dd⟩).1 = putR now o.n (match getF now o.n with | some x => x ++ dd | none => dd) := by
                    unfold doF
                    rw [if_pos rfl]
                    exact putF_eq HSW.out.up _ _
                  exact ⟨by rw [e]; exact hS7, HBW.out.trans hB7⟩
                clear hS7 hB7 hm
                go_wp2
                go_roundw
                case rel => exact ⟨k + 1, by omega, by go_num, D', p', c + 2, by rw [HST.out _ HOO.out]; exact HE.out.1, by have := HSr.out.2.1; omega, HE.out.2⟩
                case measure => simp [intOf]; omega
              · rw [chV_ren hk1]
                have HK : Hid (o.k = 2) := hk1
                have HOP : Hid (opAt O Z tt k = o) := by show _ = _; rw [HOQ.out]; unfold tornO; rw [if_neg (fun h => absurd h.1 (by rw [HK.out]; decide))]
                have hmt := mRenT o.n o.t
                clear hk1
                go_wp2_with fail
                refine (renT_any o.n o.t (tt : Int) w5).mono ?_
                rintro e w6 ⟨rfl, hB6⟩
                clear hmt
                have HBW : Hid (Below bs w2 w6) := HB5.out.trans (hB6.mono HZ5.out.1)
                have HSW : Hid (Sh w6 bs B c now D p) := HS5.out.below hB6
                clear hB6
                have hm := mRen o.n o.t
                go_wp2_with fail
                refine (ren_any o.n o.t bs B c now D p w6 HSW.out (Nat.le_trans HZ5.out.2.2 HBW.out.size) HZ5.out.2.1 HZO.out.1 HZO.out.2.1).mono ?_
                rintro e w7 ⟨rfl, D', p', hS7, hB7⟩
                have HE : Hid (Sh w7 bs B (c + 2) (doF now o).1 D' p' ∧ Below bs w2 w7) := by
                  refine ⟨?_, HBW.out.trans hB7⟩
                  have e : (doF now o).1 = (match getF now o.n with | some x => putR (cutF now o.n) o.t x | none => now) := by
                    unfold doF
                    rw [if_neg (by rw [HK.out]; decide)]
                    cases getF now o.n with
                    | none => rfl
                    | some x =>
                      simp only
                      rw [if_pos HK.out]
                      exact putF_eq (cutF_up HSW.out.up _) _ _
                  rw [e]
                  exact hS7.more (by omega)
                clear hS7 hB7 hm
                go_wp2
                go_roundw
                case rel => exact ⟨k + 1, by omega, by go_num, D', p', c + 2, by rw [HST.out _ HOP.out]; exact HE.out.1, by have := HSr.out.2.1; omega, HE.out.2⟩
                case measure => simp [intOf]; omega
              · rw [chV_rem hk1]
                have HK : Hid (o.k = 3) := hk1
                have HOP : Hid (opAt O Z tt k = o) := by show _ = _; rw [HOQ.out]; unfold tornO; rw [if_neg (fun h => absurd h.1 (by rw [HK.out]; decide))]
                have hmt := mRemT o.n
                clear hk1
                go_wp2_with fail
                refine (remT_any o.n (tt : Int) w5).mono ?_
                rintro e w6 ⟨rfl, hB6⟩
                clear hmt
                have HBW : Hid (Below bs w2 w6) := HB5.out.trans (hB6.mono HZ5.out.1)
                have HSW : Hid (Sh w6 bs B c now D p) := HS5.out.below hB6
                clear hB6
                have hm := mRem o.n
                go_wp2_with fail
                refine (rem_any o.n bs B c now D p w6 HSW.out (Nat.le_trans HZ5.out.2.2 HBW.out.size) HZO.out.1).mono ?_
                rintro e w7 ⟨rfl, D', p', hS7, hB7⟩
                have HE : Hid (Sh w7 bs B (c + 2) (doF now o).1 D' p' ∧ Below bs w2 w7) := by
                  refine ⟨?_, HBW.out.trans hB7⟩
                  have e : (doF now o).1 = cutF now o.n := by
                    unfold doF
                    rw [if_neg (by rw [HK.out]; decide)]
                    cases hg : getF now o.n with
                    | none => exact (cutF_none hg).symm
                    | some x =>
                      simp only
                      rw [if_neg (by rw [HK.out]; decide)]
                  rw [e]
                  exact hS7.more (by omega)
                clear hS7 hB7 hm
                go_wp2
                go_roundw
                case rel => exact ⟨k + 1, by omega, by go_num, D', p', c + 2, by rw [HST.out _ HOP.out]; exact HE.out.1, by have := HSr.out.2.1; omega, HE.out.2⟩
                case measure => simp [intOf]; omega
          · have hltI : ¬ (k : Int) < (nK : Int) := by omega
            have HFK := (show Hid _ from HF.out nK (Nat.le_refl _))
            have hkn : k = nK := by omega
            obtain ⟨R, hR⟩ : ∃ R, R = crF S O Z tt nK := ⟨_, rfl⟩
            rw [← hR] at HFK
            have HSR2 : Hid (Sh wr bs B c R D p ∧ c ≤ 1000000 ∧ Below bs w2 wr) := ⟨by rw [hR, ← hkn]; exact HSr.out.1, by have := HSr.out.2.1; have := HSL.out; have := HNK2.out; omega, HSr.out.2.2⟩
            have HOK : Hid (crOk L S O Z (tt : Int) = filesB R) := by show _ = _; rw [HH.out, hR, HNK.out]
            have HFB : Hid (filesB R = (decide (R.length ≤ 60) && decide (tot R ≤ 200000))) := filesB_of HFK.out.1 HFK.out.2.1
            have HRN : Hid (R = crF S O Z tt nK) := hR
            clear hkn hR HSr
            go_wp2_with fail
            refine (fits_any bs B c R D p wr HSR2.out.1 (by have := HFK.out.2.2.2; omega) (by have := HFK.out.2.2.1; omega)).mono ?_
            rintro e w9 ⟨rfl, hB9⟩
            rw [← HFB.out]
            have HB9 : Hid (Below X.heap.size X w9) := HBR.out.trans (hB9.mono HBR.out.size)
            have HS9 : Hid (Sh w9 bs B c R D p) := HSR2.out.1.below hB9
            clear hB9
            cases hf : filesB R with
            | false =>
              have HD : Hid (crOk L S O Z (tt : Int) = false) := by show _ = _; rw [HOK.out, hf]
              clear hf
              have HR3 : Hid (At3 w9 (w.heap.size + 1) 30 (.slice none 0 0) (.slice none 0 0) (.slice none 0 0)) := (HG.out w9 HB9.out).2.1
              obtain ⟨q, hq, hi6, ho6, h16⟩ := row3 none none none 0 0 0 0 0 0
              go_wp2_with (refine wpList_store_row rfl 30 _ _ rfl (w.heap.size + 1) q rfl (congrArg Value.agg hq.symm) 30 _ HR3.out hi6 ho6 h16 ?_)
              subst hq
              refine bodyPost_ret (v := .tuple #[.agg #[.slice none 0 0, .slice none 0 0, .slice none 0 0], _]) (results_row_tmp rfl _ _ (w.heap.size + 1) 30 _ _ _ rfl (setRow_heap _ _ _ _ _ _ HR3.out) Try.underlying30 rfl hi6) rfl ⟨_, _, _, ret_val (by rw [HD.out]; rfl), ?_, ?_, ?_⟩
              · rw [cr_no HD.out]
                exact ⟨(HoldF.nil _ 0).1, (HoldF.nil _ 0).1, (HoldO.nil _ 0).1⟩
              · rw [cr_no HD.out]
                exact ⟨(HoldF.nil _ _).2, (HoldF.nil _ _).2, (HoldO.nil _ _).2, fun _ hb => by cases hb⟩
              · exact below_setRow (HG.out w9 HB9.out).2.2 (by omega) _
            | true =>
              have HD : Hid (crOk L S O Z (tt : Int) = true ∧ crR L S O Z (tt : Int) = R) := by
                have e : crOk L S O Z (tt : Int) = true := by rw [HOK.out, hf]
                exact ⟨e, by rw [cr_yes e, HRN.out, ← HNK.out]; rfl⟩
              have HSM : Hid (∀ f ∈ R, f.n.size ≤ 1000000000 ∧ f.d.size ≤ 1000000000) := fun f hm => ⟨by
                have := HFK.out.2.1 f hm
                unfold nmB at this
                simp at this
                omega, by have := tot_mem hm; have := HFK.out.2.2.2; omega⟩
              clear hf
              go_wp2_with fail
              refine (shFiles_any bs B c R D p w9 HS9.out HSR2.out.2.1 (by have := HFK.out.2.2.1; omega) HSM.out).mono ?_
              rintro e wa ⟨va, rfl, hva, hBa⟩
              have HBA : Hid (Below X.heap.size X wa) := HB9.out.trans (hBa.mono HB9.out.size)
              have HSA : Hid (Sh wa bs B c R D p) := HS9.out.below hBa
              have HVA : Hid (HoldF wa w9.heap.size va R) := hva.hold
              clear hva hBa
              go_wp2_with fail
              refine (shFiles_any bs B c R D p wa HSA.out HSR2.out.2.1 (by have := HFK.out.2.2.1; omega) HSM.out).mono ?_
              rintro e wb ⟨vb, rfl, hvb, hBb⟩
              have HBB : Hid (Below X.heap.size X wb) := HBA.out.trans (hBb.mono HBA.out.size)
              have hap : ∀ q, va.ownBlock = some q → vb.ownBlock ≠ some q := fun q hq e => by
                have h1 := (HVA.out.2.lt q hq).2
                have h2 := (hvb.hold.2.lt q e).1
                omega
              have HVA2 : Hid (HoldF wb X.heap.size va R) := (HVA.out.below hBb).base HB9.out.size
              have HVB : Hid (HoldF wb X.heap.size vb R) := hvb.hold.base HBA.out.size
              obtain ⟨au, cu, eu⟩ := HVA2.out.1.slice
              obtain ⟨nR, hnR⟩ : ∃ n, n = R.length := ⟨_, rfl⟩
              rw [← hnR] at eu
              subst eu
              obtain ⟨ax, cx, ex⟩ := HVB.out.1.slice
              rw [← hnR] at ex
              subst ex
              have HAP := (show Hid _ from hap)
              clear hvb hBb hap hnR HVA
              have HR3 : Hid (At3 wb (w.heap.size + 1) 30 (.slice none 0 0) (.slice none 0 0) (.slice none 0 0)) := (HG.out wb HBB.out).2.1
              have HXS : Hid (w.heap.size + 1 < X.heap.size) := lt_of_block (HG.out X (Below.refl _ _)).2.1
              obtain ⟨q, hq, hi6, ho6, h16⟩ := row3 au ax none nR cu nR cx 0 0
              have HKQ : Hid (∀ v, HoldF wb X.heap.size v R → HoldF (wb.setRow (w.heap.size + 1) q) X.heap.size v R) := fun v hv => hv.kept (by simp [World.setRow]) (fun j hj _ => setRow_other _ _ _ _ (by have := HXS.out; omega))
              go_wp2_with (first | (refine wpList_build2 rfl _ _ rfl rfl rfl ?_) | (refine wpList_store_row rfl 30 _ _ rfl (w.heap.size + 1) q rfl (congrArg Value.agg hq.symm) 30 _ HR3.out hi6 ho6 h16 ?_))
              subst hq
              refine bodyPost_ret (v := .tuple #[.agg #[.slice au nR cu, .slice ax nR cx, .slice none 0 0], _]) (results_row_tmp rfl _ _ (w.heap.size + 1) 30 _ _ _ rfl (setRow_heap _ _ _ _ _ _ HR3.out) Try.underlying30 rfl hi6) rfl ⟨_, _, _, ret_val (by rw [HD.out.1]; rfl), ?_, ?_, ?_⟩
              · rw [HD.out.2]
                exact ⟨(HKQ.out _ HVA2.out).1, (HKQ.out _ HVB.out).1, (HoldO.nil _ 0).1⟩
              · rw [HD.out.2]
                exact ⟨(HKQ.out _ HVA2.out).2.base (by have := HXS.out; omega), (HKQ.out _ HVB.out).2.base (by have := HXS.out; omega), (HoldO.nil _ _).2, HAP.out⟩
              · exact below_setRow (HG.out wb HBB.out).2.2 (by omega) _
      · have HD : Hid (crOk L S O Z tn = false) := by show _ = _; unfold crOk; rw [decide_eq_false h0]; simp
        have h0n : tn < 0 := by omega
        have HR3 : Hid (At3 w2 (w.heap.size + 1) 30 (.slice none 0 0) (.slice none 0 0) (.slice none 0 0)) := (HG.out w2 HB2.out).2.1
        obtain ⟨q, hq, hi6, ho6, h16⟩ := row3 none none none 0 0 0 0 0 0
        go_wp2_with (refine wpList_store_row rfl 30 _ _ rfl (w.heap.size + 1) q rfl (congrArg Value.agg hq.symm) 30 _ HR3.out hi6 ho6 h16 ?_)
        subst hq
        refine bodyPost_ret (v := .tuple #[.agg #[.slice none 0 0, .slice none 0 0, .slice none 0 0], _]) (results_row_tmp rfl _ _ (w.heap.size + 1) 30 _ _ _ rfl (setRow_heap _ _ _ _ _ _ HR3.out) Try.underlying30 rfl hi6) rfl ⟨_, _, _, ret_val (by rw [HD.out]; rfl), ?_, ?_, ?_⟩
        · rw [cr_no HD.out]
          exact ⟨(HoldF.nil _ 0).1, (HoldF.nil _ 0).1, (HoldO.nil _ 0).1⟩
        · rw [cr_no HD.out]
          exact ⟨(HoldF.nil _ _).2, (HoldF.nil _ _).2, (HoldO.nil _ _).2, fun _ hb => by cases hb⟩
        · exact below_setRow (HG.out w2 HB2.out).2.2 (by omega) _
end Go.Proofs.Ytdlkokdhbffhpaa
