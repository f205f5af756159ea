/-
  The program's shelfOf and fits. No condition but that sizes are small.
-/
import Derived.Test.YtbohaefmokbgbaaDkW
namespace Go.Proofs.Ytbohaefmokbgbaa
open Go.RowKit Go.Maps
set_option linter.unusedVariables false

theorem take_up {S : List Fl} (h : UpF S) (k : Nat) : UpF (S.take k) := List.Pairwise.sublist (List.take_sublist k S) h
theorem take_put {S : List Fl} (h : UpF S) {k : Nat} (hk : k < S.length) : putR (S.take k) (S.getD k flZ).n (S.getD k flZ).d = S.take (k + 1) ∧ getF (S.take k) (S.getD k flZ).n = none := by
  have e : S.take (k + 1) = S.take k ++ [S.getD k flZ] := by rw [List.take_succ_eq_append_getElem hk]; simp [hk]
  have hu := take_up h (k + 1)
  rw [e] at hu
  obtain ⟨h1, h2⟩ := putR_last hu
  exact ⟨h1.trans e.symm, h2⟩

set_option maxRecDepth 4000 in
set_option maxHeartbeats 2000000 in
theorem shelfOf_any (v : Value) (S : List Fl) (w : World) (h : RdF w v S) (hu : UpF S) (hl : S.length ≤ 1000) (hs : ∀ f ∈ S, f.n.size ≤ 1000000000 ∧ f.d.size ≤ 1000000000) :
    Calls Try.prog 41 #[v] w fun e w' => ∃ B D p, e = .returned (.map (some B)) ∧ Sh w' w.heap.size B (2 * S.length) S D p ∧ Below w.heap.size w w' := by
  obtain ⟨a, cap, rfl, hlc, hcm, hc⟩ := h
  obtain ⟨n, hn⟩ : ∃ n, n = S.length := ⟨_, rfl⟩
  have HN : Hid (n = S.length) := hn
  have HU : Hid (UpF S ∧ n ≤ 1000 ∧ ∀ f ∈ S, f.n.size ≤ 1000000000 ∧ f.d.size ≤ 1000000000) := ⟨hu, by omega, hs⟩
  rw [← hn] at hlc hc ⊢
  clear hn hu hs hl
  have hmm := @run_makeMap Try.prog
  go_enter Try.func41, Try.ntmps41
  go_wp2
  go_loopw [9] (fun i wr => ∃ (k : Nat), k ≤ n ∧ i = .int .i64 k ∧ Hid (∃ D p, Sh wr w.heap.size w.heap.size (2 * k) (S.take k) D p ∧ Below w.heap.size w wr)) (fun i _ => n - (intOf i).toNat)
  case atStart => exact ⟨0, Nat.zero_le _, rfl, _, _, Sh.empty w w.heap.size (Nat.le_refl _), (Below.refl _ _).alloc (Nat.le_refl _) _⟩
  case round =>
    obtain ⟨k, hk, rfl, HI⟩ := hrel
    obtain ⟨D, p, hS, hB⟩ := HI.out
    clear HI
    by_cases hlt : k < n
    · have hltI : (k : Int) < (n : Int) := by omega
      obtain ⟨b, off, rfl, hbs, hl⟩ := hc (by omega)
      have hkS : k < S.length := by rw [← HN.out]; exact hlt
      have hat := hl k hkS
      have d0 := (hB.cell (p := ⟨b, off + k * 2, none⟩) hbs).trans hat.c0
      have d1 := (hB.cell (p := ⟨b, off + k * 2 + 1, none⟩) hbs).trans hat.c1
      have htp := take_put HU.out.1 hkS
      have hsz := HU.out.2.2 (S.getD k flZ) (by simp [hkS])
      obtain ⟨f, hf⟩ : ∃ f, f = S.getD k flZ := ⟨_, rfl⟩
      rw [← hf] at d0 d1 htp hsz
      obtain ⟨X, hX⟩ : ∃ X, X = wr.alloc (.cells #[.string f.n, .string f.d] 68) := ⟨_, rfl⟩
      have hBX : Below wr.heap.size wr X := by rw [hX]; exact (Below.refl _ _).alloc (Nat.le_refl _) _
      have gX : X.heap[wr.heap.size]? = some (.cells #[.string f.n, .string f.d] 68 (0, 0)) := by rw [hX]; exact heap_alloc_new _ _
      have c0 : X.cell? ⟨wr.heap.size, 0, none⟩ = some (.string f.n) := cellN gX
      have c1 : X.cell? ⟨wr.heap.size, 1, none⟩ = some (.string f.d) := cellN gX
      rw [hX] at c0 c1
      have HX := (show Hid _ from hX)
      have HS : Hid (Sh X w.heap.size w.heap.size (2 * k) (S.take k) D p ∧ Below w.heap.size w X) := ⟨hS.below hBX, hB.trans (hBX.mono hB.size)⟩
      have HTP := (show Hid _ from htp)
      have HSZ := (show Hid _ from hsz)
      clear hX hBX gX hS hB htp hsz hf hat hl hc
      go_wp2_with fail
      rw [← HX.out]
      refine (app_any f.n f.d w.heap.size w.heap.size (2 * k) (S.take k) D p X HS.out.1 HS.out.2.size (by have := HU.out.2.1; omega) HSZ.out.1 HSZ.out.2 (fun x hx => by rw [HTP.out.2] at hx; cases hx)).mono ?_
      rintro e w4 ⟨rfl, D', p', hS4, hB4⟩
      have HE : Hid (∃ D p, Sh w4 w.heap.size w.heap.size (2 * (k + 1)) (S.take (k + 1)) D p ∧ Below w.heap.size w w4) := by
        simp only [HTP.out.2] at hS4
        rw [HTP.out.1] at hS4
        exact ⟨D', p', hS4.more (by omega), HS.out.2.trans hB4⟩
      clear hS4 hB4 c0 c1 d0 d1 HX
      go_wp2
      go_roundw
      case rel => exact ⟨k + 1, by omega, by go_num, HE.out⟩
      case measure => simp [intOf]; omega
    · have hke : k = n := by omega
      subst hke
      have HE : Hid (Sh wr w.heap.size w.heap.size (2 * S.length) S D p ∧ Below w.heap.size w wr) := by
        rw [HN.out, List.take_length] at hS
        exact ⟨hS, hB⟩
      clear hS hB hc
      go_wp2
      go_ret
      exact ⟨_, _, _, rfl, by rw [HN.out]; exact HE.out.1, HE.out.2⟩

/-- the bytes of the files that are not left -/
def sumL (left : Lit → Bool) (L : List Fl) : Nat := (L.map fun f => if left (keyL f.n) = true then 0 else f.d.size).sum
theorem sumL_cons (left : Lit → Bool) (f : Fl) (L : List Fl) : sumL left (f :: L) = (if left (keyL f.n) = true then 0 else f.d.size) + sumL left L := by unfold sumL; simp
theorem sumL_le (left : Lit → Bool) : ∀ L : List Fl, sumL left L ≤ tot L
  | [] => Nat.le_refl _
  | f :: L => by
    rw [sumL_cons, tot_cons]
    have := sumL_le left L
    split <;> omega
theorem sumL_all {left : Lit → Bool} : ∀ {L : List Fl}, (∀ f ∈ L, left (keyL f.n) = false) → sumL left L = tot L
  | [], _ => rfl
  | f :: L, h => by
    rw [sumL_cons, tot_cons, h f List.mem_cons_self, sumL_all (fun g hg => h g (List.mem_cons_of_mem _ hg))]
    simp
theorem sumL_none {left : Lit → Bool} : ∀ {L : List Fl}, (∀ f ∈ L, left (keyL f.n) = true) → sumL left L = 0
  | [], _ => rfl
  | f :: L, h => by
    rw [sumL_cons, h f List.mem_cons_self, sumL_none (fun g hg => h g (List.mem_cons_of_mem _ hg))]
    simp
theorem sumL_same {left left' : Lit → Bool} : ∀ {L : List Fl}, (∀ f ∈ L, left' (keyL f.n) = left (keyL f.n)) → sumL left' L = sumL left L
  | [], _ => rfl
  | f :: L, h => by rw [sumL_cons, sumL_cons, h f List.mem_cons_self, sumL_same (fun g hg => h g (List.mem_cons_of_mem _ hg))]
theorem sumL_step {left : Lit → Bool} {x d : ByteArray} (hl : left (keyL x) = true) : ∀ {L : List Fl}, UpF L → getF L x = some d → sumL (fun z => left z && !z.sameKey (keyL x)) L = sumL left L + d.size
  | [], _, h => by cases h
  | f :: L, hu, h => by
    obtain ⟨h1, h2⟩ := List.pairwise_cons.1 hu
    have off : ∀ g : Fl, g.n.toList ≠ x.toList → (left (keyL g.n) && !(keyL g.n).sameKey (keyL x)) = left (keyL g.n) := fun g hg => by
      have : (keyL g.n).sameKey (keyL x) = false := by
        cases hq : (keyL g.n).sameKey (keyL x) with
        | false => rfl
        | true => exact absurd (keyL_inj (WideAt.sameKey_eq hq)) hg
      rw [this]; simp
    rw [sumL_cons, sumL_cons]
    rw [getF_cons] at h
    cases he : (f.n.toList == x.toList) with
    | true =>
      rw [he] at h
      have hd : f.d = d := by simpa using h
      have hk := keyL_eq (eq_of_beq he)
      rw [hk, hl, WideAt.sameKey_self (keyL_is x), sumL_same (left := left) (fun g hg => off g (fun q => lessN_ne (lessN_congr (eq_of_beq he) (h1 g hg)) q.symm)), hd]
      simp
      omega
    | false =>
      rw [he] at h
      rw [off f (by simpa using he), sumL_step hl h2 (by simpa using h)]
      omega

set_option maxRecDepth 4000 in
set_option maxHeartbeats 2000000 in
theorem fits_any (base B c : Nat) (L : List Fl) (D : DataW Value) (p : Pi) (w : World) (h : Sh w base B c L D p) (hT : tot L ≤ 1000000000) (hl : L.length ≤ 1000000) :
    Calls Try.prog 43 #[.map (some B)] w fun e w' => e = .returned (.bool (decide (L.length ≤ 60) && decide (tot L ≤ 200000))) ∧ Below w.heap.size w w' := by
  have HS := (show Hid _ from h)
  have hown := h.own
  obtain ⟨n, hn⟩ : ∃ n, n = L.length := ⟨_, rfl⟩
  obtain ⟨T, hT'⟩ : ∃ T, T = tot L := ⟨_, rfl⟩
  have HN : Hid (n = L.length ∧ T = tot L ∧ Maps.size D = n) := ⟨hn, hT', by rw [h.sz, hn]⟩
  rw [← hn, ← hT']
  obtain ⟨r, hr⟩ : ∃ r, r = (decide (n ≤ 60) && decide (T ≤ 200000)) := ⟨_, rfl⟩
  have HRR : Hid (r = (decide (n ≤ 60) && decide (T ≤ 200000))) := hr
  rw [← hr]
  clear hr
  rw [← hT'] at hT
  rw [← hn] at hl
  clear hn hT' h
  go_enter Try.func43, Try.ntmps43
  go_wp2_with (at_range; refine wpList_range_own _ rfl _ 74 rfl 9 117 lawS Try.underlying74 PR B c D rfl hown ?_; intro w0 hrg0 hg0 hs0)
  have HB0 : Hid (Below w.heap.size w w0) := (Below.refl _ _).grown hg0 (Nat.le_refl _) (fun j hj => by cases hj)
  clear hown
  go_frame
  go_loopw [3, 5] (fun y _ wr => ∃ (left : Lit → Bool) (cnt z : Nat), y = .int .i64 z ∧ z ≤ 1000000000 ∧ wr.ranges Try.prog 9 PR B w.heap.size c D left cnt ∧ Hid (z = sumL left L ∧ Below w.heap.size w wr))
    (fun _ _ wr => wr.rangeLeft B w.heap.size)
  case atStart => exact ⟨_, _, 0, rfl, Nat.zero_le _, hrg0, (sumL_none fun f hf => by rw [HS.out.hask, getF_some HS.out.up hf]; rfl).symm, HB0.out⟩
  case round =>
    obtain ⟨left, cnt, z, rfl, hz, hrg, HI⟩ := hrel
    have HG : Hid (wr.ranges Try.prog 9 PR B w.heap.size c D left cnt) := hrg
    go_wp2_with (first
      | (at_next; refine wpList_next_ranges _ rfl _ rfl 9 lawS PR Value.string Value.pointer keyS_inv PR_inv B w.heap.size c _ _ _ rfl hrg ?_ ?_))
    · intro _ hl0
      have HZ : Hid (z = T) := by
        show _ = _
        rw [HI.out.1, HN.out.2.1]
        exact sumL_all fun f _ => hl0 _
      have hzT := HZ.out
      subst hzT
      have HOW : Hid (wr.ownsMap Try.prog 9 PR B c D) := HG.out.owns
      have HB := (show Hid _ from HI.out.2)
      clear hrg hl0 HI HG
      by_cases h60 : n ≤ 60
      · have h60I : (n : Int) ≤ 60 := by omega
        have HD : Hid ((decide (n ≤ 60) && decide (z ≤ 200000)) = decide ((z : Int) ≤ 200000)) := by
          show _ = _
          rw [decide_eq_true h60, Bool.true_and]
          congr 1
          exact propext ⟨fun h => by omega, fun h => by omega⟩
        go_wp2_with (first
          | (at_len; refine wpList_len_own _ rfl _ 74 rfl 9 117 Try.underlying74 PR B c D rfl HOW.out ?_; rw [HN.out.2.2]))
        go_ret
        exact ⟨ret_bool (HD.out.symm.trans HRR.out.symm), HB.out⟩
      · have h60I : ¬ (n : Int) ≤ 60 := by omega
        have HD : Hid ((decide (n ≤ 60) && decide (z ≤ 200000)) = false) := by
          show _ = _
          rw [decide_eq_false h60]
          rfl
        go_wp2_with (first
          | (at_len; refine wpList_len_own _ rfl _ 74 rfl 9 117 Try.underlying74 PR B c D rfl HOW.out ?_; rw [HN.out.2.2]))
        go_ret
        exact ⟨ret_bool (HD.out.symm.trans HRR.out.symm), HB.out⟩
    · intro x q kl y ps w1 cnt1 hkx hlk hRv hat hrg1 hlt1 hg1 hs1 hen
      have hkl := keyS_lit hkx
      subst hkl
      have hB1 : Below w.heap.size w w1 := HI.out.2.grown hg1 HI.out.2.size (fun j hj => by cases hj; exact Nat.le_refl _)
      obtain ⟨d, hgd, hq⟩ : ∃ d, getF L x = some d ∧ q = some ⟨p.G x.toList, 0, none⟩ := by
        have hy : y = .held (.pointer q) := by
          simp only [PR, Option.some.injEq, Prod.mk.injEq] at hRv
          exact hRv.1.symm
        have h1 := hat .nil
        rw [HS.out.atk, hy] at h1
        cases hg : getF L x with
        | none => rw [hg] at h1; cases h1
        | some d =>
          rw [hg] at h1
          simp only [ptrP, DataW.held.injEq, Value.pointer.injEq] at h1
          exact ⟨d, rfl, h1.symm⟩
      subst hq
      have hpl := ((HS.out.below hB1).pile x d hgd).1
      have c1 : w1.cell? ⟨p.G x.toList, 1, none⟩ = some (.int .i64 d.size) := cellN hpl.blk
      have hst := sumL_step hlk HS.out.up hgd
      have hle := sumL_le (fun z => left z && !z.sameKey (keyL x)) L
      obtain ⟨m, hm⟩ : ∃ m, m = d.size := ⟨_, rfl⟩
      rw [← hm] at c1 hst
      have hzm : z + m ≤ 1000000000 := by
        have := HI.out.1
        have := HN.out.2.1
        omega
      have HE : Hid (z + m = sumL (fun z => left z && !z.sameKey (keyL x)) L ∧ Below w.heap.size w w1 ∧ w1.ranges Try.prog 9 PR B w.heap.size c D (fun z => left z && !z.sameKey (keyL x)) cnt1 ∧ cnt1 < cnt) := ⟨by rw [hst, ← HI.out.1], hB1, hrg1, hlt1⟩
      obtain ⟨g, hgg⟩ : ∃ g, g = p.G x.toList := ⟨_, rfl⟩
      rw [← hgg] at c1 hen ⊢
      clear hrg hrg1 hRv hat hkx hlk hg1 hs1 hB1 hlt1 hpl hst hle hm hgg hgd HI
      go_wp2
      go_roundw
      case rel => exact ⟨_, cnt1, z + m, by go_num, hzm, HE.out.2.2.1, HE.out.1, HE.out.2.1⟩
      case measure => rw [HE.out.2.2.1.left_eq, HG.out.left_eq]; exact HE.out.2.2.2
end Go.Proofs.Ytbohaefmokbgbaa
