/-
  The program's DiskOk. No condition but that the slices read and that the sizes are small.
-/
import Derived.Test.YtbohaefmokbgbaaDkY
import Derived.Test.YtbohaefmokbgbaaRegR
import Derived.Test.YtbohaefmokbgbaaRegG
namespace Go.Proofs.Ytbohaefmokbgbaa
open Go.RowKit Go.Maps
set_option linter.unusedVariables false

theorem filesB_names {L : List Fl} (h : filesB L = true) : ∀ f ∈ L, nmB f.n = true := fun f hf => by
  unfold filesB at h
  simp only [Bool.and_eq_true, decide_eq_true_eq] at h
  obtain ⟨i, hi, e⟩ := List.getElem_of_mem hf
  have := h.2.1
  unfold flsB at this
  rw [List.all_eq_true] at this
  have := this i (List.mem_range.2 hi)
  unfold flB at this
  rw [Bool.and_eq_true] at this
  have := this.1
  rw [show L.getD i flZ = f by simp [hi, e]] at this
  exact this
theorem filesB_of {L : List Fl} (hu : UpF L) (hn : ∀ f ∈ L, nmB f.n = true) : filesB L = (decide (L.length ≤ 60) && decide (tot L ≤ 200000)) := by
  have : flsB L = true := by
    unfold flsB
    rw [List.all_eq_true]
    intro k hk
    have hk := List.mem_range.1 hk
    unfold flB
    rw [hn (L.getD k flZ) (by simp [hk]), Bool.true_and]
    rcases Nat.eq_zero_or_pos k with h0 | h0
    · subst h0; rfl
    · have := (List.pairwise_iff_getElem.1 hu) (k - 1) k (by omega) hk (by omega)
      have e1 : L.getD (k - 1) flZ = L[k - 1] := by simp [show k - 1 < L.length by omega]
      have e2 : L.getD k flZ = L[k] := by simp [hk]
      rw [e1, e2, this]
      simp
  unfold filesB
  rw [this, Bool.true_and]
theorem doF_up {K : List Fl} (h : UpF K) (o : Dop) : UpF (doF K o).1 := by
  unfold doF
  split
  · show UpF (putF _ _ _)
    rw [putF_eq h]
    exact putR_up h _ _
  · cases getF K o.n with
    | none => exact h
    | some x =>
      simp only
      split
      · show UpF (putF _ _ _)
        rw [putF_eq (cutF_up h _)]
        exact putR_up (cutF_up h _) _ _
      · exact cutF_up h _
theorem formB_parts {o : Dop} (h : formB o = true) : nmB o.n = true ∧ (o.k = 2 → nmB o.t = true) ∧ inB 1 3 o.k = true := by
  unfold formB at h
  simp only [Bool.and_eq_true] at h
  refine ⟨h.2.1, fun hk => ?_, h.1⟩
  have := h.2.2
  rw [if_pos hk] at this
  simp only [Bool.and_eq_true] at this
  exact this.1
theorem form_kind {o : Dop} (h : formB o = true) : o.k = 1 ∨ o.k = 2 ∨ o.k = 3 := by
  have := (formB_parts h).2.2
  unfold inB at this
  simp at this
  omega
theorem doF_names {K : List Fl} {o : Dop} (hn : ∀ f ∈ K, nmB f.n = true) (hf : formB o = true) : ∀ f ∈ (doF K o).1, nmB f.n = true := by
  obtain ⟨h1, h2, _⟩ := formB_parts hf
  unfold doF
  split
  · intro f hm
    rcases mem_putF hm with h | h
    · exact hn f h
    · rw [h]; exact h1
  · cases getF K o.n with
    | none => exact hn
    | some x =>
      simp only
      split
      · rename_i hk
        intro f hm
        rcases mem_putF hm with h | h
        · exact hn f (List.mem_filter.1 h).1
        · rw [h]; exact h2 hk
      · intro f hm
        exact hn f (List.mem_filter.1 hm).1
theorem putfold_len (s d : ByteArray) : ∀ (M : List Fl) (A : List Fl) (b : Bool), (M.foldl (putS s d) (A, b)).1.length ≤ A.length + 2 * M.length
  | [], A, b => by simp
  | x :: M, A, b => by
    rw [List.foldl_cons]
    have := putfold_len s d M (putS s d (A, b) x).1 (putS s d (A, b) x).2
    have h2 : (putS s d (A, b) x).1.length ≤ A.length + 2 := by
      unfold putS
      cases b <;> cases h1 : (x.n.toList == s.toList) <;> cases h2 : lessN x.n s <;> simp
    have e : ((putS s d (A, b) x).1, (putS s d (A, b) x).2) = putS s d (A, b) x := rfl
    rw [e] at this
    simp
    omega
theorem putF_len (L : List Fl) (s d : ByteArray) : (putF L s d).length ≤ 2 * L.length + 1 := by
  have := putfold_len s d L [] false
  have e : putTo L s d L.length = L.foldl (putS s d) ([], false) := by unfold putTo; rw [List.take_length]
  rw [← e] at this
  simp at this
  unfold putF
  split
  · omega
  · simp
    omega
theorem doF_len (K : List Fl) (o : Dop) : (doF K o).1.length ≤ 2 * K.length + 1 := by
  unfold doF
  split
  · exact putF_len _ _ _
  · cases getF K o.n with
    | none => show K.length ≤ _; omega
    | some x =>
      simp only
      have hc := cutF_len K o.n
      split
      · have := putF_len (cutF K o.n) o.t x
        show (putF (cutF K o.n) o.t x).length ≤ _
        omega
      · show (cutF K o.n).length ≤ _
        omega
theorem chV_app {o : Dop} (h : o.k = 1) : chV o = .iface 111 (.agg #[.string o.n, .string o.d]) := by unfold chV; rw [if_pos h]
theorem chV_ren {o : Dop} (h : o.k = 2) : chV o = .iface 114 (.agg #[.string o.n, .string o.t]) := by unfold chV; rw [if_neg (by rw [h]; decide), if_pos h]
theorem chV_rem {o : Dop} (h : o.k = 3) : chV o = .iface 116 (.agg #[.string o.n]) := by unfold chV; rw [if_neg (by rw [h]; decide), if_neg (by rw [h]; decide)]
theorem mApp (a b : ByteArray) (w : World) : (method 286 111 (.agg #[.string a, .string b]) "loop.example/g00318/impl.doneOn").run Try.prog w = .ok (74, .agg #[.string a, .string b]) w := by kernel_rfl
theorem mRen (a b : ByteArray) (w : World) : (method 286 114 (.agg #[.string a, .string b]) "loop.example/g00318/impl.doneOn").run Try.prog w = .ok (141, .agg #[.string a, .string b]) w := by kernel_rfl
theorem mRem (a : ByteArray) (w : World) : (method 286 116 (.agg #[.string a]) "loop.example/g00318/impl.doneOn").run Try.prog w = .ok (143, .agg #[.string a]) w := by kernel_rfl

theorem q_call1I (ev : Operand → Value) (o : Oper) (w : World) (f : FuncId) (he : ∀ args w, (callFunc f args).run Try.prog w = .ok (.enter f args) w) (x : Operand) (ts : Array TypeId) (h : o.op = .call { callee := .value (.func f), args := #[x], argTypes := ts }) (hf : ev (.func f) = .func (.func f) #[] #[]) : (execOp ev o).run Try.prog w = .ok (.enter f #[ev x]) w := by
  simp [execOp, h, resolve, invoke, hf, Deferred.ofValue, he]
theorem q_fieldD (ev : Operand → Value) (o : Oper) (w : World) (x : Operand) (k : Nat) (h : o.op = .fieldAddr 27 x 0) (hx : ev x = .pointer (some ⟨k, 0, none⟩)) : (execOp ev o).run Try.prog w = .ok (.value (.pointer (some ⟨k, 0, none⟩))) w := by
  simp [execOp, h, hx]
  go_simp
theorem q_loadV (ev : Operand → Value) (o : Oper) (w : World) (x : Operand) (p k : Nat) {a : Option Addr} {m c : Nat} (h : o.op = .load 24 x) (hx : ev x = .pointer (some ⟨p, k, none⟩)) (hc : w.cell? ⟨p, k, none⟩ = some (.slice a m c)) : (execOp ev o).run Try.prog w = .ok (.value (.slice a m c)) w := by
  simp [execOp, h, hx]
  go_simp
def dsI : List Nat := [53, 54, 55, 56, 57, 2]
def slotI (j : Nat) : Nat := dsI.getD j 0
theorem slotI_inj (i j : Nat) (hi : i < 6) (hj : j < 6) (q : slotI i = slotI j) : i = j := by
  have h : ∀ i : Fin 6, ∀ j : Fin 6, slotI i.val = slotI j.val → i.val = j.val := by decide
  exact h ⟨i, hi⟩ ⟨j, hj⟩ q
theorem slotI_mem (i : Nat) (hi : i < 6) : slotI i ∈ dsI := by
  have h : ∀ i : Fin 6, slotI i.val ∈ dsI := by decide
  exact h ⟨i, hi⟩
def IF (g B : Nat) (now : List Fl) (vL : Value) (r : Bool) : Nat → Value → World → Prop
  | 0, v, _ => v = .map (some B)
  | 1, v, w => RdF w v now
  | 2, v, _ => v = .pointer (some ⟨g, 0, none⟩)
  | 3, v, _ => v = vL
  | 4, v, _ => v = .bool r
  | 5, v, _ => v = .bool r
  | _, _, _ => True
theorem IF.below {g B : Nat} {now : List Fl} {vL : Value} {r : Bool} {j : Nat} {v : Value} {w w' : World} (h : IF g B now vL r j v w) (hB : Below w.heap.size w w') : IF g B now vL r j v w' := by
  match j, h with
  | 0, h => exact h
  | 1, h => exact RdF.below h hB
  | 2, h => exact h
  | 3, h => exact h
  | 4, h => exact h
  | 5, h => exact h
  | (m + 6), _ => trivial

set_option maxRecDepth 10000 in
set_option maxHeartbeats 2000000 in
theorem implDisk_any (vL vS vO : Value) (L S : List Fl) (O : List Dop) (w : World) (hL : RdF w vL L) (hS : RdF w vS S) (hO : RdO w vO O) (hz : SmallD L S O) :
    Calls Try.prog 31 #[.agg #[vL, vS, vO]] w fun e w' => e = .returned (.bool (diskB L S O)) ∧ Below w.heap.size w w' := by
  have HL : Hid (∀ w', Below w.heap.size w w' → RdF w' vL L) := fun w' hB => hL.below hB
  have HS : Hid (∀ w', Below w.heap.size w w' → RdF w' vS S) := fun w' hB => hS.below hB
  have HZ : Hid (SmallD L S O) := hz
  obtain ⟨aL, cL, eL, _⟩ := hL
  obtain ⟨nL, hnL⟩ : ∃ n, n = L.length := ⟨_, rfl⟩
  rw [← hnL] at eL
  subst eL
  obtain ⟨aS, cS, eS, _⟩ := hS
  obtain ⟨nS, hnS⟩ : ∃ n, n = S.length := ⟨_, rfl⟩
  rw [← hnS] at eS
  subst eS
  obtain ⟨a, cap, rfl, hlc, hcm, hc⟩ := hO
  obtain ⟨n, hn⟩ : ∃ n, n = O.length := ⟨_, rfl⟩
  have HN : Hid (n = O.length) := hn
  rw [← hn] at hlc hc ⊢
  have HC : Hid (0 < n → ∃ b off, a = some ⟨b, off, none⟩ ∧ ∀ w', Below w.heap.size w w' → ∀ i, i < n → ∀ t, t < 4 → w'.cell? ⟨b, off + i * 4 + t, none⟩ = (encO (O.getD i dopZ))[t]?) := fun hp => by
    obtain ⟨b, off, e, hb, hcc⟩ := hc hp
    exact ⟨b, off, e, fun w' hB i hi t ht => (hB.cell (p := ⟨b, off + i * 4 + t, none⟩) hb).trans (hcc i hi t ht)⟩
  obtain ⟨X, hX⟩ : ∃ X, X = w.alloc (.cells #[.slice aL nL cL, .slice aS nS cS, .slice a n cap] 27) := ⟨_, rfl⟩
  have hBX : Below w.heap.size w X := by rw [hX]; exact (Below.refl _ _).alloc (Nat.le_refl _) _
  have gX : X.heap[w.heap.size]? = some (.cells #[.slice aL nL cL, .slice aS nS cS, .slice a n cap] 27 (0, 0)) := by rw [hX]; exact heap_alloc_new _ _
  have HG : Hid (∀ w', Below X.heap.size X w' → w'.cell? ⟨w.heap.size, 0, none⟩ = some (.slice aL nL cL) ∧ w'.cell? ⟨w.heap.size, 1, none⟩ = some (.slice aS nS cS) ∧ w'.cell? ⟨w.heap.size, 2, none⟩ = some (.slice a n cap) ∧ Below w.heap.size w w') := fun w' hB => by
    have g := (hB.block _ (lt_of_block gX)).trans gX
    exact ⟨cellN g, cellN g, cellN g, hBX.trans (hB.mono hBX.size)⟩
  have hg := HG.out X (Below.refl _ _)
  rw [hX] at hg
  obtain ⟨c0, c1, c2, _⟩ := hg
  have HX := (show Hid _ from hX)
  clear hn hX hBX gX hc hnL hnS hz
  have en1 : ∀ args w, (callFunc 44 args).run Try.prog w = .ok (.enter 44 args) w := enters_of Try.func44 (by kernel_rfl) rfl
  have en2 : ∀ args w, (callFunc 64 args).run Try.prog w = .ok (.enter 64 args) w := enters_of Try.func64 (by kernel_rfl) rfl
  have HEN1 := (show Hid _ from en1)
  have HEN2 := (show Hid _ from en2)
  clear en1 en2
  go_enter Try.func31, Try.ntmps31
  go_wp2_with fail
  rw [← HX.out]
  refine (filesOk_any _ L X (HL.out X (HG.out X (Below.refl _ _)).2.2.2) (by have := HZ.out.l1; omega) (small_at HZ.out.l2 (by omega))).mono ?_
  rintro e w1 ⟨rfl, hB1⟩
  clear c0 c1 c2 HX
  have HB1 := (show Hid _ from hB1)
  obtain ⟨c0, c1, c2, hBw1⟩ := HG.out w1 hB1
  have HBW1 := (show Hid _ from hBw1)
  clear hB1 hBw1
  cases hfl : filesB L with
  | false =>
    have HR : Hid (diskB L S O = false) := by show _ = _; unfold diskB; rw [hfl]; rfl
    go_wp2
    go_ret
    exact ⟨ret_bool HR.out.symm, HBW1.out⟩
  | true =>
    go_wp2_with fail
    refine (filesOk_any _ S w1 (HS.out w1 HBW1.out) (by have := HZ.out.s1; omega) (small_at HZ.out.s2 (by omega))).mono ?_
    rintro e w2 ⟨rfl, hB2⟩
    clear c0 c1 c2
    have HB2 : Hid (Below X.heap.size X w2) := HB1.out.trans (hB2.mono HB1.out.size)
    obtain ⟨c0, c1, c2, hBw2⟩ := HG.out w2 HB2.out
    have HBW2 := (show Hid _ from hBw2)
    clear hB2 hBw2
    cases hfs : filesB S with
    | false =>
      have HR : Hid (diskB L S O = false) := by show _ = _; unfold diskB; rw [hfl, hfs]; rfl
      go_wp2
      go_ret
      exact ⟨ret_bool HR.out.symm, HBW2.out⟩
    | true =>
      by_cases h200 : n ≤ 200
      · have h200I : (n : Int) ≤ 200 := by omega
        have HD : Hid (diskB L S O = (match runB S O with | some n => sameF n L | none => false)) := by
          show _ = _
          unfold diskB
          rw [hfl, hfs, decide_eq_true (by rw [← HN.out]; exact h200)]
          rfl
        have HFS : Hid (filesB S = true) := hfs
        clear hfl hfs
        have HUS : Hid (UpF S ∧ S.length ≤ 60 ∧ ∀ f ∈ S, f.n.size ≤ 1000000000 ∧ f.d.size ≤ 1000000000) := ⟨filesB_up HFS.out, (filesB_parts HFS.out).1, fun f hf => ⟨by have := (filesB_parts HFS.out).2.2 f hf; omega, by have := tot_mem hf; have := (filesB_parts HFS.out).2.1; omega⟩⟩
        go_wp2_with (first
          | (go_at_call 41
             refine (shelfOf_any _ S w2 (HS.out w2 HBW2.out) HUS.out.1 (by have := HUS.out.2.1; omega) HUS.out.2.2).mono ?_
             rintro e w3 ⟨B, D0, p0, rfl, hS3, hB3⟩
             have HS3 : Hid (Sh w3 w2.heap.size B (2 * S.length) S D0 p0 ∧ Below w2.heap.size w2 w3) := ⟨hS3, hB3⟩
             clear c0 c1 c2
             obtain ⟨c0, c1, c2, hBw3⟩ := HG.out w3 (HB2.out.trans (hB3.mono HB2.out.size))
             clear hS3 hB3 hBw3))
        obtain ⟨bs, hbs⟩ : ∃ bs, bs = w2.heap.size := ⟨_, rfl⟩
        have HBS : Hid (bs = w2.heap.size) := hbs
        have HB2s : Hid (∀ wz, Below bs w2 wz → Below X.heap.size X wz ∧ Below w.heap.size w wz) := fun wz hz => by
          rw [hbs] at hz
          exact ⟨HB2.out.trans (hz.mono HB2.out.size), HBW2.out.trans (hz.mono HBW2.out.size)⟩
        rw [← hbs] at HS3
        clear hbs
        have HSL : Hid (S.length ≤ 60) := HUS.out.2.1
        go_loopw [30] (fun i wr => ∃ (k : Nat), k ≤ n ∧ i = .int .i64 k ∧ Hid (∃ now D p c, runB S (O.take k) = some now ∧ filesB now = true ∧ Sh wr bs B c now D p ∧ c ≤ 2 * S.length + 2 * k ∧ Below bs w2 wr)) (fun i _ => n - (intOf i).toNat)
        case atStart => exact ⟨0, Nat.zero_le _, rfl, S, D0, p0, 2 * S.length, rfl, HFS.out, HS3.out.1, by omega, HS3.out.2⟩
        case round =>
          obtain ⟨k, hk, rfl, HI⟩ := hrel
          obtain ⟨now, D, p, c, hr, hnow, hSr, hcc, hBr⟩ := HI.out
          clear HI c0 c1 c2
          obtain ⟨hBXr, hBwr⟩ := HB2s.out wr hBr
          obtain ⟨c0, c1, c2, _⟩ := HG.out wr hBXr
          by_cases hlt : k < n
          · have hltI : (k : Int) < (n : Int) := by omega
            obtain ⟨b, off, rfl, hl⟩ := HC.out (by omega)
            have hkO : k < O.length := by rw [← HN.out]; exact hlt
            have hsz := HZ.out.o1 (O.getD k dopZ) (by simp [hkO])
            have hst := runB_take hkO hr
            obtain ⟨o, ho⟩ : ∃ o, o = O.getD k dopZ := ⟨_, rfl⟩
            rw [← ho] at hsz hst
            have e0 : wr.cell? ⟨b, off + k * 4, none⟩ = some (.int .i64 o.k) := by rw [ho]; exact hl wr hBwr k hlt 0 (by omega)
            have e1 : wr.cell? ⟨b, off + k * 4 + 1, none⟩ = some (.string o.n) := by rw [ho]; exact hl wr hBwr k hlt 1 (by omega)
            have e2 : wr.cell? ⟨b, off + k * 4 + 2, none⟩ = some (.string o.t) := by rw [ho]; exact hl wr hBwr k hlt 2 (by omega)
            have e3 : wr.cell? ⟨b, off + k * 4 + 3, none⟩ = some (.string o.d) := by rw [ho]; exact hl wr hBwr k hlt 3 (by omega)
            have hp := filesB_parts hnow
            have hsm := doF_small (K := now) (o := o) (z := 100000000) (fun f hf => Nat.le_trans (hp.2.2 f hf) (by omega)) hsz.1 hsz.2.1
            have hln := doF_len now o
            have HSM : Hid (tot (doF now o).1 ≤ 1000000000 ∧ (doF now o).1.length ≤ 1000000) := ⟨by have := hsm.2; have := hp.2.1; have := hsz.2.2; omega, by omega⟩
            have HZO : Hid (o.n.size ≤ 1000000000 ∧ o.t.size ≤ 1000000000 ∧ o.d.size ≤ 1000000000 ∧ ∀ f ∈ now, f.d.size ≤ 200000) := ⟨by have := hsz.1; omega, by have := hsz.2.1; omega, by have := hsz.2.2; omega, fun f hf => by have := tot_mem hf; have := hp.2.1; omega⟩
            have HST := (show Hid _ from hst)
            have HCC : Hid (c ≤ 2 * S.length + 2 * k) := hcc
            have hx4 : Below wr.heap.size wr (wr.alloc (.cells #[.int .i64 o.k, .string o.n, .string o.t, .string o.d] 49)) := (Below.refl _ _).alloc (Nat.le_refl _) _
            obtain ⟨X4, hX4⟩ : ∃ X4, X4 = wr.alloc (.cells #[.int .i64 o.k, .string o.n, .string o.t, .string o.d] 49) := ⟨_, rfl⟩
            have g4 : X4.heap[wr.heap.size]? = some (.cells #[.int .i64 o.k, .string o.n, .string o.t, .string o.d] 49 (0, 0)) := by rw [hX4]; exact heap_alloc_new _ _
            have k0 : X4.cell? ⟨wr.heap.size, 0, none⟩ = some (.int .i64 o.k) := cellN g4
            have k1 : X4.cell? ⟨wr.heap.size, 1, none⟩ = some (.string o.n) := cellN g4
            have k2 : X4.cell? ⟨wr.heap.size, 2, none⟩ = some (.string o.t) := cellN g4
            have k3 : X4.cell? ⟨wr.heap.size, 3, none⟩ = some (.string o.d) := cellN g4
            rw [hX4] at k0 k1 k2 k3
            rw [← hX4] at hx4
            have HX4 := (show Hid _ from hX4)
            have HS4 : Hid (Sh wr bs B c now D p ∧ Below wr.heap.size wr X4 ∧ Below bs w2 wr) := ⟨hSr, hx4, hBr⟩
            have HNW : Hid (∀ f ∈ now, nmB f.n = true) := filesB_names hnow
            clear hl hsz hst ho hp hsm hln hr hnow hSr hcc hBr hBXr hBwr hX4 hx4 g4
            go_wp2_with fail
            rw [← HX4.out]
            refine (changeOf_any o X4 HZO.out.1 HZO.out.2.1).mono ?_
            rintro e w5 ⟨ch, rfl, hch, hB5⟩
            have HW5 : Hid (Below wr.heap.size wr w5) := HS4.out.2.1.trans (hB5.mono HS4.out.2.1.size)
            have HB5 : Hid (Below bs w2 w5) := HS4.out.2.2.trans (HW5.out.mono (Nat.le_trans (Nat.le_of_eq HBS.out) HS4.out.2.2.size))
            have HS5 : Hid (Sh w5 bs B c now D p) := HS4.out.1.below HW5.out
            clear hB5 k0 k1 k2 k3 e0 e1 e2 e3 c0 c1 c2
            cases hfo : formB o with
            | false =>
              have HR : Hid (diskB L S O = false) := by show _ = _; rw [HD.out, runB_none (k := k + 1) (by rw [HST.out, hfo]; simp)]
              have HB : Hid (Below w.heap.size w w5) := (HB2s.out w5 HB5.out).2
              clear hch
              go_wp2
              go_ret
              exact ⟨ret_bool HR.out.symm, HB.out⟩
            | true =>
            have hcv := hch hfo
            subst hcv
            have HFO : Hid (formB o = true) := hfo
            have HZ5 : Hid (bs ≤ w5.heap.size ∧ c ≤ 100000 ∧ bs ≤ w2.heap.size) := ⟨Nat.le_trans (Nat.le_of_eq HBS.out) HB5.out.size, by have := HCC.out; have := HSL.out; omega, Nat.le_of_eq HBS.out⟩
            have HFB : Hid (filesB (doF now o).1 = (decide ((doF now o).1.length ≤ 60) && decide (tot (doF now o).1 ≤ 200000))) := filesB_of (doF_up HS5.out.up o) (doF_names HNW.out HFO.out)
            have hkk := form_kind hfo
            clear hch hfo
            rcases hkk with hk | hk | hk
            · rw [chV_app hk]
              have hm := mApp o.n o.d
              have HK : Hid (o.k = 1) := hk
              clear hk
              go_wp2_with fail
              refine (app_any o.n o.d bs B c now D p w5 HS5.out HZ5.out.1 HZ5.out.2.1 HZO.out.1 HZO.out.2.2.1 (fun x hx => by
                obtain ⟨f, hf, hfx⟩ := getF_mem hx
                have := HZO.out.2.2.2 f hf
                rw [← hfx]
                omega)).mono ?_
              rintro e w6 ⟨rfl, D', p', hS6, hB6⟩
              have HE : Hid (Sh w6 bs B (c + 2) (doF now o).1 D' p' ∧ Below bs w2 w6 ∧ (doF now o).2 = true) := by
                have e : (doF now o).1 = putR now o.n (match getF now o.n with | some x => x ++ o.d | none => o.d) := by
                  unfold doF
                  rw [if_pos HK.out]
                  exact putF_eq HS5.out.up _ _
                refine ⟨by rw [e]; exact hS6, HB5.out.trans hB6, ?_⟩
                unfold doF
                rw [if_pos HK.out]
              clear hS6 hB6
              go_wp2_with fail
              refine (fits_any bs B (c + 2) _ D' p' w6 HE.out.1 HSM.out.1 HSM.out.2).mono ?_
              rintro e w7 ⟨rfl, hB7⟩
              rw [← HFB.out]
              have HE7 : Hid (Sh w7 bs B (c + 2) (doF now o).1 D' p' ∧ Below bs w2 w7) := ⟨HE.out.1.below hB7, HE.out.2.1.trans (hB7.mono (Nat.le_trans HZ5.out.2.2 HE.out.2.1.size))⟩
              clear hB7
              cases hfi : filesB (doF now o).1 with
              | false =>
                have HR : Hid (diskB L S O = false) := by show _ = _; rw [HD.out, runB_none (k := k + 1) (by rw [HST.out, HE.out.2.2, HFO.out, hfi]; rfl)]
                have HB : Hid (Below w.heap.size w w7) := (HB2s.out w7 HE7.out.2).2
                go_wp2
                go_ret
                exact ⟨ret_bool HR.out.symm, HB.out⟩
              | true =>
                have HR : Hid (runB S (O.take (k + 1)) = some (doF now o).1 ∧ filesB (doF now o).1 = true) := ⟨by rw [HST.out, HE.out.2.2, HFO.out, hfi]; rfl, hfi⟩
                clear hfi hm
                go_wp2
                go_roundw
                case rel => exact ⟨k + 1, by omega, by go_num, (doF now o).1, D', p', c + 2, HR.out.1, HR.out.2, HE7.out.1, by have := HCC.out; omega, HE7.out.2⟩
                case measure => simp [intOf]; omega
            · rw [chV_ren hk]
              have hm := mRen o.n o.t
              have HK : Hid (o.k = 2) := hk
              clear hk
              go_wp2_with fail
              refine (ren_any o.n o.t bs B c now D p w5 HS5.out HZ5.out.1 HZ5.out.2.1 HZO.out.1 HZO.out.2.1).mono ?_
              rintro e w6 ⟨rfl, D', p', hS6, hB6⟩
              cases hg : getF now o.n with
              | none =>
                have HR : Hid (diskB L S O = false) := by
                  have : (doF now o).2 = false := by
                    unfold doF
                    rw [if_neg (by rw [HK.out]; decide), hg]
                  show _ = _
                  rw [HD.out, runB_none (k := k + 1) (by rw [HST.out, this]; rfl)]
                have HE : Hid (Below w.heap.size w w6) := (HB2s.out w6 (HB5.out.trans hB6)).2
                clear hS6 hB6
                go_wp2
                go_ret
                exact ⟨ret_bool HR.out.symm, HE.out⟩
              | some x =>
              rw [hg] at hS6
              have HE : Hid (Sh w6 bs B (c + 2) (doF now o).1 D' p' ∧ Below bs w2 w6 ∧ (doF now o).2 = true) := by
                have e : doF now o = (putF (cutF now o.n) o.t x, true) := by
                  unfold doF
                  rw [if_neg (by rw [HK.out]; decide), hg]
                  simp only
                  rw [if_pos HK.out]
                refine ⟨?_, HB5.out.trans hB6, by rw [e]⟩
                rw [e]
                show Sh w6 bs B (c + 2) (putF (cutF now o.n) o.t x) D' p'
                rw [putF_eq (cutF_up HS5.out.up _)]
                exact hS6.more (by omega)
              clear hg
              clear hS6 hB6
              go_wp2_with fail
              refine (fits_any bs B (c + 2) _ D' p' w6 HE.out.1 HSM.out.1 HSM.out.2).mono ?_
              rintro e w7 ⟨rfl, hB7⟩
              rw [← HFB.out]
              have HE7 : Hid (Sh w7 bs B (c + 2) (doF now o).1 D' p' ∧ Below bs w2 w7) := ⟨HE.out.1.below hB7, HE.out.2.1.trans (hB7.mono (Nat.le_trans HZ5.out.2.2 HE.out.2.1.size))⟩
              clear hB7
              cases hfi : filesB (doF now o).1 with
              | false =>
                have HR : Hid (diskB L S O = false) := by show _ = _; rw [HD.out, runB_none (k := k + 1) (by rw [HST.out, HE.out.2.2, HFO.out, hfi]; rfl)]
                have HB : Hid (Below w.heap.size w w7) := (HB2s.out w7 HE7.out.2).2
                go_wp2
                go_ret
                exact ⟨ret_bool HR.out.symm, HB.out⟩
              | true =>
                have HR : Hid (runB S (O.take (k + 1)) = some (doF now o).1 ∧ filesB (doF now o).1 = true) := ⟨by rw [HST.out, HE.out.2.2, HFO.out, hfi]; rfl, hfi⟩
                clear hfi hm
                go_wp2
                go_roundw
                case rel => exact ⟨k + 1, by omega, by go_num, (doF now o).1, D', p', c + 2, HR.out.1, HR.out.2, HE7.out.1, by have := HCC.out; omega, HE7.out.2⟩
                case measure => simp [intOf]; omega
            · rw [chV_rem hk]
              have hm := mRem o.n
              have HK : Hid (o.k = 3) := hk
              clear hk
              go_wp2_with fail
              refine (rem_any o.n bs B c now D p w5 HS5.out HZ5.out.1 HZO.out.1).mono ?_
              rintro e w6 ⟨rfl, D', p', hS6, hB6⟩
              cases hg : getF now o.n with
              | none =>
                have HR : Hid (diskB L S O = false) := by
                  have : (doF now o).2 = false := by
                    unfold doF
                    rw [if_neg (by rw [HK.out]; decide), hg]
                  show _ = _
                  rw [HD.out, runB_none (k := k + 1) (by rw [HST.out, this]; rfl)]
                have HE : Hid (Below w.heap.size w w6) := (HB2s.out w6 (HB5.out.trans hB6)).2
                clear hS6 hB6
                go_wp2
                go_ret
                exact ⟨ret_bool HR.out.symm, HE.out⟩
              | some x =>
              have HE : Hid (Sh w6 bs B (c + 2) (doF now o).1 D' p' ∧ Below bs w2 w6 ∧ (doF now o).2 = true) := by
                have e : doF now o = (cutF now o.n, true) := by
                  unfold doF
                  rw [if_neg (by rw [HK.out]; decide), hg]
                  simp only
                  rw [if_neg (by rw [HK.out]; decide)]
                refine ⟨?_, HB5.out.trans hB6, by rw [e]⟩
                rw [e]
                exact hS6.more (by omega)
              clear hg
              clear hS6 hB6
              go_wp2_with fail
              refine (fits_any bs B (c + 2) _ D' p' w6 HE.out.1 HSM.out.1 HSM.out.2).mono ?_
              rintro e w7 ⟨rfl, hB7⟩
              rw [← HFB.out]
              have HE7 : Hid (Sh w7 bs B (c + 2) (doF now o).1 D' p' ∧ Below bs w2 w7) := ⟨HE.out.1.below hB7, HE.out.2.1.trans (hB7.mono (Nat.le_trans HZ5.out.2.2 HE.out.2.1.size))⟩
              clear hB7
              cases hfi : filesB (doF now o).1 with
              | false =>
                have HR : Hid (diskB L S O = false) := by show _ = _; rw [HD.out, runB_none (k := k + 1) (by rw [HST.out, HE.out.2.2, HFO.out, hfi]; rfl)]
                have HB : Hid (Below w.heap.size w w7) := (HB2s.out w7 HE7.out.2).2
                go_wp2
                go_ret
                exact ⟨ret_bool HR.out.symm, HB.out⟩
              | true =>
                have HR : Hid (runB S (O.take (k + 1)) = some (doF now o).1 ∧ filesB (doF now o).1 = true) := ⟨by rw [HST.out, HE.out.2.2, HFO.out, hfi]; rfl, hfi⟩
                clear hfi hm
                go_wp2
                go_roundw
                case rel => exact ⟨k + 1, by omega, by go_num, (doF now o).1, D', p', c + 2, HR.out.1, HR.out.2, HE7.out.1, by have := HCC.out; omega, HE7.out.2⟩
                case measure => simp [intOf]; omega
          · have hke : k = n := by omega
            subst hke
            have HR : Hid (diskB L S O = sameF now L) := by
              show _ = _
              rw [HD.out]
              rw [HN.out, List.take_length] at hr
              rw [hr]
            have hp := filesB_parts hnow
            have HSR : Hid (Sh wr bs B c now D p ∧ c ≤ 1000000 ∧ now.length ≤ 1000000 ∧ ∀ f ∈ now, f.n.size ≤ 1000000000 ∧ f.d.size ≤ 1000000000) := ⟨hSr, by have := HSL.out; omega, by omega, fun f hf => ⟨by have := hp.2.2 f hf; omega, by have := tot_mem hf; have := hp.2.1; omega⟩⟩
            have HBR : Hid (Below X.heap.size X wr ∧ Below w.heap.size w wr) := ⟨hBXr, hBwr⟩
            have HCL : Hid (∀ wy, Below wr.heap.size wr wy → wy.cell? ⟨w.heap.size, 0, none⟩ = some (.slice aL nL cL) ∧ RdF wy (.slice aL nL cL) L) := fun wy hy => ⟨(HG.out wy (HBR.out.1.trans (hy.mono HBR.out.1.size))).1, HL.out wy (HBR.out.2.trans (hy.mono HBR.out.2.size))⟩
            clear hr hnow hSr hcc hBr hBXr hBwr hp c0 c1 c2
            go_wp2
            refine wp_cut_to (fun a0 t w' => ∃ f, t = canon a0 dsI f ∧ f 2 = .bool (sameF now L) ∧ Below wr.heap.size wr w') ?_ ?_
            · rintro _ w5 ⟨f, rfl, h5, hB5⟩
              simp only [canon, dsI, List.foldl, Act.put, List.setIfInBounds_toArray, List.set_cons_succ, List.set_cons_zero]
              rw [h5]
              have HE : Hid (Below w.heap.size w w5) := HBR.out.2.trans (hB5.mono HBR.out.2.size)
              clear h5 hB5
              go_wp2
              go_ret
              exact ⟨ret_bool HR.out.symm, HE.out⟩
            · intro J K' hJ hK
              refine wp_letter ?_
              intro fr hfr
              have hs7 : 57 < fr.tmps.size := by rw [hfr]; exact Nat.le_of_ble_eq_true rfl
              have t3 : fr.eval (.tmp 3) = .map (some B) := by rw [hfr]; rfl
              have t1 : fr.eval (.tmp 1) = .pointer (some ⟨w.heap.size, 0, none⟩) := by rw [hfr]; rfl
              have HFR := (show Hid _ from hfr)
              clear hfr
              refine wp_region_rel (Rel := fun v v' => Below v.heap.size v v') (fun v => Below.refl _ _) (fun h k => h.trans (k.mono h.size)) (fun v => (Below.refl _ _).drew) (by kernel_rfl) (by kernel_rfl) dsI slotI (IF w.heap.size B now (.slice aL nL cL) (sameF now L)) (fun _ _ _ _ h hB => h.below hB) ?_ ?_ ?_ ?_
              · intro i hi
                exact slotI_mem i hi
              · intro i j hi hj q
                exact slotI_inj i j hi hj q
              · intro ops hops f wy j oo hy ho hd
                have ho2 := ho
                rw [hops] at ho
                have N1 := (canon_eval_ne fr dsI f 1 (by decide)).trans t1
                have N3 := (canon_eval_ne fr dsI f 3 (by decide)).trans t3
                have hi : j < 6 := by
                  rcases Nat.lt_or_ge j 6 with h | h
                  · exact h
                  · rw [Array.getElem?_eq_none (by simpa using h)] at ho; cases ho
                have hi' : j = 0 ∨ j = 1 ∨ j = 2 ∨ j = 3 ∨ j = 4 ∨ j = 5 := by omega
                rcases hi' with rfl | rfl | rfl | rfl | rfl | rfl <;> simp only [List.getElem?_toArray, List.getElem?_cons_succ, List.getElem?_cons_zero, Option.some.injEq] at ho <;> subst ho
                · refine wpOp_runG ho2 (wanted_none rfl) (q_move (canon fr dsI f).eval _ wy _ rfl) ?_
                  exact ⟨_, rfl, N3, Below.refl _ _⟩
                · refine wpOp_enterG ho2 (wanted_none rfl) (q_call1I (canon fr dsI f).eval _ wy _ HEN1.out _ _ rfl rfl) ?_
                  rw [(canon_eval fr dsI f 53 (by decide) (Nat.lt_of_le_of_lt (by decide) hs7)).trans (hd ⟨0, .data⟩ (by simp) rfl)]
                  refine (shFiles_any bs B c now D p wy (HSR.out.1.below hy) HSR.out.2.1 HSR.out.2.2.1 HSR.out.2.2.2).mono ?_
                  rintro e wz ⟨u, rfl, hu, hBz⟩
                  exact ⟨_, rfl, _, rfl, hu.rd, hBz⟩
                · refine wpOp_runG ho2 (wanted_none rfl) (q_fieldD (canon fr dsI f).eval _ wy _ w.heap.size rfl N1) ?_
                  exact ⟨_, rfl, rfl, Below.refl _ _⟩
                · refine wpOp_runG ho2 (wanted_none rfl) (q_loadV (canon fr dsI f).eval _ wy _ w.heap.size 0 rfl ((canon_eval fr dsI f 55 (by decide) (Nat.lt_of_le_of_lt (by decide) hs7)).trans (hd ⟨2, .data⟩ (by simp) rfl)) (HCL.out wy hy).1) ?_
                  exact ⟨_, rfl, rfl, Below.refl _ _⟩
                · have h1 := hd ⟨1, .data⟩ (by simp) rfl
                  refine wpOp_enterG ho2 (wanted_none rfl) (q_call2 (canon fr dsI f).eval _ wy _ HEN2.out _ _ _ rfl rfl) ?_
                  rw [(canon_eval fr dsI f 54 (by decide) (Nat.lt_of_le_of_lt (by decide) hs7)), (canon_eval fr dsI f 56 (by decide) (Nat.lt_of_le_of_lt (by decide) hs7)).trans (hd ⟨3, .data⟩ (by simp) rfl)]
                  refine (equal_any _ _ now L wy h1 (HCL.out wy hy).2).mono ?_
                  rintro e wz ⟨rfl, hBz⟩
                  exact ⟨_, rfl, _, rfl, rfl, hBz⟩
                · refine wpOp_runG ho2 (wanted_none rfl) (q_assign (canon fr dsI f).eval _ wy _ rfl) ?_
                  refine ⟨_, rfl, ?_, Below.refl _ _⟩
                  exact (canon_eval fr dsI f 57 (by decide) (Nat.lt_of_le_of_lt (by decide) hs7)).trans (hd ⟨4, .data⟩ (by simp) rfl)
              · intro f wy hy hall
                exact hK _ _ (Met.intro (hJ _ _ ⟨f, congrArg (fun z => canon z dsI f) HFR.out, hall 5 (by decide), hy⟩))
      · have h200I : ¬ (n : Int) ≤ 200 := by omega
        have h200J : (200 : Int) < (n : Int) := by omega
        have HR : Hid (diskB L S O = false) := by show _ = _; unfold diskB; rw [hfl, hfs, decide_eq_false (by rw [← HN.out]; exact h200)]; rfl
        go_wp2
        go_ret
        exact ⟨ret_bool HR.out.symm, HBW2.out⟩
end Go.Proofs.Ytbohaefmokbgbaa
