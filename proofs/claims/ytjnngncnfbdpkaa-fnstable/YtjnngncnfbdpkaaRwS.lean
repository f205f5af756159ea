/-
  The specification's test of rows. No condition but that the slices read.
-/
import Derived.Test.YtjnngncnfbdpkaaRwB
import Derived.Lib.Small
import Derived.Handy
namespace Go.Proofs.Ytjnngncnfbdpkaa
open Go.RowKit
set_option linter.unusedVariables false

def inB (lo hi x : Int) : Bool := decide (lo ≤ x) && decide (x ≤ hi)
def allB (p : Nat → Bool) (n : Nat) : Bool := (List.range n).all p
theorem allB_succ (p : Nat → Bool) (n : Nat) : allB p (n + 1) = (allB p n && p n) := by
  unfold allB
  rw [List.range_succ, List.all_append]
  simp
theorem allB_at {p : Nat → Bool} {n k : Nat} (h : allB p n = true) (hk : k < n) : p k = true := by
  unfold allB at h
  rw [List.all_eq_true] at h
  exact h k (List.mem_range.2 hk)
theorem allB_false {p : Nat → Bool} {n k : Nat} (hk : k < n) (h : p k = false) : allB p n = false := by
  have : ¬ (allB p n = true) := fun h' => by rw [allB_at h' hk] at h; cases h
  simpa using this

theorem in_any (n lo hi : Int) (b : Bool) (hb : inB lo hi n = b) (w : World) : Calls Try.prog 36 #[.int .i64 n, .int .i64 lo, .int .i64 hi] w fun e w' => e = .returned (.bool b) ∧ w' = w := by
  subst hb
  by_cases h1 : lo ≤ n
  · have hr : Hid (inB lo hi n = decide (n ≤ hi)) := by show _ = _; unfold inB; simp [h1]
    go_enter Try.func36, Try.ntmps36
    go_wp2
    go_ret
    exact ⟨ret_bool hr.out.symm, rfl⟩
  · have hr : Hid (inB lo hi n = false) := by show _ = _; unfold inB; simp [h1]
    have h1' : decide (lo ≤ n) = false := by simpa using h1
    go_enter Try.func36, Try.ntmps36
    go_wp2
    go_ret
    exact ⟨ret_bool hr.out.symm, rfl⟩
theorem in_later {n lo hi : Int} {b : Bool} (hb : inB lo hi n = b) {w : World} (t : Later w) : Calls Try.prog 36 #[.int .i64 n, .int .i64 lo, .int .i64 hi] t.val fun e w'' => e = .returned (.bool b) ∧ ∃ s' : Later w, w'' = s'.val :=
  (in_any n lo hi b hb t.val).mono fun e w' ⟨h1, h2⟩ => ⟨h1, t, h2⟩

/-- a number of a row -/
def cAt (cs : List Int) (i : Nat) : Bool := inB 0 1000000 (cs.getD i 0)
/-- the numbers of a row are right -/
def csB (cs : List Int) : Bool := decide (cs.length = 9) && allB (cAt cs) cs.length
/-- the row at place i is right by itself and stands behind the one ahead of it -/
def okR (L : List Rw) (i : Nat) : Bool := (inB 1 9 (L.getD i rwZ).who && (i == 0 || decide ((L.getD (i - 1) rwZ).who < (L.getD i rwZ).who))) && csB (L.getD i rwZ).cs
def rowsB (L : List Rw) : Bool := allB (okR L) L.length
theorem rowsB_false {L : List Rw} {k : Nat} (hk : k < L.length) (h : okR L k = false) : rowsB L = false := allB_false hk h

theorem IL_at {w : World} {a : Option Addr} {n cap : Nat} {L : List Int} (h : RdI w (.slice a n cap) L) : n = L.length := by
  obtain ⟨a', c', e, _⟩ := h
  simp at e
  exact e.2.1
set_option maxRecDepth 10000 in
set_option maxHeartbeats 4000000 in
theorem specRows_any (v : Value) (L : List Rw) (w : World) (h : RdR w v L) :
    Calls Try.prog 17 #[v] w fun e w' => e = .returned (.bool (rowsB L)) ∧ Below w.heap.size w w' := by
  obtain ⟨a, cap, rfl, hlc, hcm, hc⟩ := h
  obtain ⟨n, hn⟩ : ∃ n, n = L.length := ⟨_, rfl⟩
  have HN : Hid (n = L.length) := hn
  rw [← hn] at hlc hc ⊢
  clear hn
  go_enter Try.func17, Try.ntmps17
  go_wp2
  go_loopw [3] (fun i wr => ∃ (k : Nat), k ≤ n ∧ i = .int .i64 k ∧ Hid (allB (okR L) k = true) ∧ Hid (Below w.heap.size w wr)) (fun i _ => n - (intOf i).toNat)
  case atStart => exact ⟨0, Nat.zero_le _, rfl, rfl, Below.refl _ _⟩
  case round =>
    obtain ⟨k, hk, rfl, HA, HB⟩ := hrel
    by_cases hlt : k < n
    · have hltI : (k : Int) < (n : Int) := by omega
      obtain ⟨b, off, rfl, hbs, hcell⟩ := hc (by omega)
      obtain ⟨c0, u, c1, c2⟩ := hcell k hlt
      obtain ⟨au, cu, hu, _⟩ := c2.shape
      subst hu
      obtain ⟨y, hy⟩ : ∃ y, y = L.getD k rwZ := ⟨_, rfl⟩
      rw [← hy] at c0 c1 c2
      have HU0 : Hid (∀ w', Below w.heap.size w w' → RdI w' (.slice au y.cs.length cu) y.cs) := fun w' h => c2.below h
      obtain ⟨m, hm⟩ : ∃ m, m = y.cs.length := ⟨_, rfl⟩
      have HML : Hid (m = y.cs.length) := hm
      have HU : Hid (∀ w', Below w.heap.size w w' → RdI w' (.slice au m cu) y.cs) := by rw [hm]; exact HU0
      rw [← hm] at c1
      have HD : Hid (w.cell? ⟨b, off + k * 2, none⟩ = some (.int .i64 y.who) ∧ w.cell? ⟨b, off + k * 2 + 1, none⟩ = some (.slice au m cu)) := ⟨c0, c1⟩
      have HY : Hid (y = L.getD k rwZ) := hy
      have d0 := (HB.out.cell (p := ⟨b, off + k * 2, none⟩) hbs).trans c0
      have d1 := (HB.out.cell (p := ⟨b, off + k * 2 + 1, none⟩) hbs).trans c1
      clear c0 c1 c2 hy hm HU0
      by_cases hk0 : k = 0
      · have HK0 : Hid ((k == 0) = true) := by show _ = _; simpa using hk0
        have hk0n : ¬ (0 < k) := by omega
        have hk0i : (k : Int) ≤ 0 := by omega
        have hk0d : decide ((0 : Int) < (k : Int)) = false := by simp; omega
        clear hcell hc hk0
        have hne := Later.any wr
        have p0 : ∀ s : Later wr, s.val.cell? ⟨b, off + (k) * 2, none⟩ = some (.int .i64 y.who) := fun s => s.cell d0
        have p1 : ∀ s : Later wr, s.val.cell? ⟨b, off + (k) * 2 + 1, none⟩ = some (.slice au m cu) := fun s => s.cell d1
        cases hw : inB 1 9 y.who with
        | false =>
          have HR : Hid (rowsB L = false) := rowsB_false (by rw [← HN.out]; exact hlt) (by unfold okR; rw [← HY.out, hw]; rfl)
          go_wp2
          refine wp_region_later (by kernel_rfl) (by kernel_rfl) ?_
          repeat (go_big_quiet_step ((rename_i t; first | with_reducible exact in_later hw t)))
          refine wpQuiet_nil ?_
          rintro w2 ⟨s, hs⟩
          have HB2 : Hid (Below w.heap.size w w2) := by rw [hs]; exact HB.out.trans (s.ok.mono HB.out.size)
          clear hs s
          go_wp2
          go_ret
          exact ⟨ret_bool HR.out.symm, HB2.out⟩
        | true =>
          by_cases h9 : m = 9
          · subst h9
            have hm9 : ((9 : Int) != 9) = false := by decide
            have HL9 : Hid (decide (y.cs.length = 9) = true) := by show _ = _; rw [← HML.out]; rfl
            go_wp2
            refine wp_region_later (by kernel_rfl) (by kernel_rfl) ?_
            repeat (go_big_quiet_step ((rename_i t; first | with_reducible exact in_later hw t)))
            refine wpQuiet_nil ?_
            rintro w2 ⟨s, hs⟩
            have HB2 : Hid (Below w.heap.size w w2) := by rw [hs]; exact HB.out.trans (s.ok.mono HB.out.size)
            clear hs s
            have HI : Hid (∀ w', Below w.heap.size w w' → RdI w' (.slice au 9 cu) y.cs) := fun w' h => HU.out w' h
            clear p0 p1 hne
            go_wp2
            try go_simp
            go_loopw [4] (fun j wq => ∃ (q : Nat), q ≤ 9 ∧ j = .int .i64 q ∧ Hid (allB (cAt y.cs) q = true) ∧ Hid (Below w.heap.size w wq)) (fun j _ => 9 - (intOf j).toNat)
            case atStart => exact ⟨0, Nat.zero_le _, rfl, rfl, HB2⟩
            case round =>
              obtain ⟨q, hq, rfl, HC, HBq⟩ := hrel
              by_cases hq9 : q < 9
              · have hqI : (q : Int) < 9 := by omega
                obtain ⟨a', c', e', hl1, hl2, hcc⟩ := HI.out wr HBq.out
                simp at e'
                obtain ⟨rfl, hml, rfl⟩ := e'
                obtain ⟨bu, ou, rfl, hbu, hcu⟩ := hcc (by omega)
                have dq := hcu q (by omega)
                obtain ⟨z, hz⟩ : ∃ z, z = y.cs.getD q 0 := ⟨_, rfl⟩
                rw [← hz] at dq
                have hcz : cAt y.cs q = inB 0 1000000 z := by rw [hz]; rfl
                have hne := Later.any wr
                have p0 : ∀ s : Later wr, s.val.cell? ⟨b, off + (k) * 2, none⟩ = some (.int .i64 y.who) := fun s => s.cell ((HBq.out.cell (p := ⟨b, _, none⟩) hbs).trans HD.out.1)
                have p1 : ∀ s : Later wr, s.val.cell? ⟨b, off + (k) * 2 + 1, none⟩ = some (.slice (some ⟨bu, ou, none⟩) 9 cu) := fun s => s.cell ((HBq.out.cell (p := ⟨b, _, none⟩) hbs).trans HD.out.2)
                have p3 : ∀ s : Later wr, s.val.cell? ⟨bu, ou + q, none⟩ = some (.int .i64 z) := fun s => s.cell dq
                have o0 := (HBq.out.cell (p := ⟨b, off + (k) * 2, none⟩) hbs).trans HD.out.1
                have o1 := (HBq.out.cell (p := ⟨b, off + (k) * 2 + 1, none⟩) hbs).trans HD.out.2
                have HML9 : Hid (9 = y.cs.length) := hml
                clear hcu hcc hz p0 p1 p3 hne hml
                cases hin : inB 0 1000000 z with
                | false =>
                  have HR : Hid (rowsB L = false) := rowsB_false (by rw [← HN.out]; exact hlt) (by unfold okR; rw [show csB (L.getD (k) rwZ).cs = false by rw [← HY.out]; unfold csB; rw [allB_false (p := cAt y.cs) (k := q) (by have := HML9.out; omega) (by rw [hcz, hin])]; simp]; simp)
                  clear hcz
                  go_wp2_with fail
                  refine (in_any z 0 1000000 _ hin _).mono ?_
                  rintro e w2 ⟨rfl, hw2⟩
                  rw [hw2]
                  clear hw2 w2
                  have HB2 : Hid (Below w.heap.size w wr) := HBq
                  go_wp2
                  go_ret
                  exact ⟨ret_bool HR.out.symm, HB2.out⟩
                | true =>
                  have HC' : Hid (allB (cAt y.cs) (q + 1) = true) := by show _ = _; rw [allB_succ, HC.out, hcz, hin]; rfl
                  clear hcz
                  go_wp2_with fail
                  refine (in_any z 0 1000000 _ hin _).mono ?_
                  rintro e w2 ⟨rfl, hw2⟩
                  rw [hw2]
                  clear hw2 w2
                  have HB2 : Hid (Below w.heap.size w wr) := HBq
                  go_wp2
                  go_roundw
                  case rel => first | exact ⟨q + 1, by omega, by go_num, HC', HB2⟩ | (repeat (refine Exists.intro _ ?_); refine ⟨?_, rfl⟩; exact ⟨q + 1, by omega, by go_num, HC', HB2⟩)
                  case measure => simp [intOf]; omega
              · have hqe : q = 9 := by omega
                subst hqe
                have o0 := (HBq.out.cell (p := ⟨b, off + (k) * 2, none⟩) hbs).trans HD.out.1
                have o1 := (HBq.out.cell (p := ⟨b, off + (k) * 2 + 1, none⟩) hbs).trans HD.out.2
                have HK : Hid (allB (okR L) (k + 1) = true) := by
                  show _ = _
                  rw [allB_succ, HA.out]
                  show okR L (k) = true
                  unfold okR
                  rw [show csB (L.getD (k) rwZ).cs = true by rw [← HY.out]; unfold csB; rw [HL9.out, show y.cs.length = 9 from HML.out.symm, HC.out]; rfl]
                  rw [← HY.out, hw, HK0.out]; rfl
                go_wp2
                go_roundw
                case rel => exact ⟨k + 1, by omega, by go_num, HK, HBq⟩
                case measure => simp [intOf]; omega
          · have hm9 : ((m : Int) != 9) = true := by simp; omega
            have HR : Hid (rowsB L = false) := rowsB_false (by rw [← HN.out]; exact hlt) (by unfold okR; rw [show csB (L.getD (k) rwZ).cs = false by rw [← HY.out]; unfold csB; rw [← HML.out, decide_eq_false h9]; rfl]; simp)
            go_wp2
            refine wp_region_later (by kernel_rfl) (by kernel_rfl) ?_
            repeat (go_big_quiet_step ((rename_i t; first | with_reducible exact in_later hw t)))
            refine wpQuiet_nil ?_
            rintro w2 ⟨s, hs⟩
            have HB2 : Hid (Below w.heap.size w w2) := by rw [hs]; exact HB.out.trans (s.ok.mono HB.out.size)
            clear hs s
            go_wp2
            go_ret
            exact ⟨ret_bool HR.out.symm, HB2.out⟩
      · obtain ⟨j, rfl⟩ : ∃ j, k = j + 1 := ⟨k - 1, by omega⟩
        obtain ⟨z, hz0⟩ : ∃ z, z = (L.getD j rwZ).who := ⟨_, rfl⟩
        have dz := (HB.out.cell (p := ⟨b, off + j * 2, none⟩) hbs).trans (hcell j (by omega)).1
        rw [← hz0] at dz
        have HZ : Hid (z = (L.getD j rwZ).who) := hz0
        clear hcell hc hk0 hz0
        have hne := Later.any wr
        have p0 : ∀ s : Later wr, s.val.cell? ⟨b, off + (j + 1) * 2, none⟩ = some (.int .i64 y.who) := fun s => s.cell d0
        have p1 : ∀ s : Later wr, s.val.cell? ⟨b, off + (j + 1) * 2 + 1, none⟩ = some (.slice au m cu) := fun s => s.cell d1
        have p2 : ∀ s : Later wr, s.val.cell? ⟨b, off + j * 2, none⟩ = some (.int .i64 z) := fun s => s.cell dz
        cases hw : inB 1 9 y.who with
        | false =>
          have HR : Hid (rowsB L = false) := rowsB_false (by rw [← HN.out]; exact hlt) (by unfold okR; rw [← HY.out, hw]; rfl)
          go_wp2
          refine wp_region_later (by kernel_rfl) (by kernel_rfl) ?_
          repeat (go_big_quiet_step ((rename_i t; first | with_reducible exact in_later hw t)))
          refine wpQuiet_nil ?_
          rintro w2 ⟨s, hs⟩
          have HB2 : Hid (Below w.heap.size w w2) := by rw [hs]; exact HB.out.trans (s.ok.mono HB.out.size)
          clear hs s
          go_wp2
          go_ret
          exact ⟨ret_bool HR.out.symm, HB2.out⟩
        | true =>
          by_cases hz : z < y.who
          · have hzd : decide (y.who ≤ z) = false := decide_eq_false (by omega)
            by_cases h9 : m = 9
            · subst h9
              have hm9 : ((9 : Int) != 9) = false := by decide
              have HL9 : Hid (decide (y.cs.length = 9) = true) := by show _ = _; rw [← HML.out]; rfl
              go_wp2
              refine wp_region_later (by kernel_rfl) (by kernel_rfl) ?_
              repeat (go_big_quiet_step ((rename_i t; first | with_reducible exact in_later hw t)))
              refine wpQuiet_nil ?_
              rintro w2 ⟨s, hs⟩
              have HB2 : Hid (Below w.heap.size w w2) := by rw [hs]; exact HB.out.trans (s.ok.mono HB.out.size)
              clear hs s
              have HP : Hid ((inB 1 9 (L.getD (j + 1) rwZ).who && (j + 1 == 0 || decide ((L.getD (j + 1 - 1) rwZ).who < (L.getD (j + 1) rwZ).who))) = true) := by show _ = _; rw [← HY.out, hw, show (j + 1 == 0) = false from rfl]; simp only [Nat.add_sub_cancel]; rw [← HZ.out, decide_eq_true hz]; rfl
              clear hz hzd p2 dz hw HZ d0 d1 p0 p1
              generalize hKJ : j + 1 = k at *
              have HKJ : Hid (j + 1 = k) := hKJ
              clear hKJ
              have HI : Hid (∀ w', Below w.heap.size w w' → RdI w' (.slice au 9 cu) y.cs) := fun w' h => HU.out w' h
              clear hne
              go_wp2
              try go_simp
              go_loopw [4] (fun j wq => ∃ (q : Nat), q ≤ 9 ∧ j = .int .i64 q ∧ Hid (allB (cAt y.cs) q = true) ∧ Hid (Below w.heap.size w wq)) (fun j _ => 9 - (intOf j).toNat)
              case atStart => exact ⟨0, Nat.zero_le _, rfl, rfl, HB2⟩
              case round =>
                obtain ⟨q, hq, rfl, HC, HBq⟩ := hrel
                by_cases hq9 : q < 9
                · have hqI : (q : Int) < 9 := by omega
                  obtain ⟨a', c', e', hl1, hl2, hcc⟩ := HI.out wr HBq.out
                  simp at e'
                  obtain ⟨rfl, hml, rfl⟩ := e'
                  obtain ⟨bu, ou, rfl, hbu, hcu⟩ := hcc (by omega)
                  have dq := hcu q (by omega)
                  obtain ⟨z, hz⟩ : ∃ z, z = y.cs.getD q 0 := ⟨_, rfl⟩
                  rw [← hz] at dq
                  have hcz : cAt y.cs q = inB 0 1000000 z := by rw [hz]; rfl
                  have hne := Later.any wr
                  have p0 : ∀ s : Later wr, s.val.cell? ⟨b, off + (k) * 2, none⟩ = some (.int .i64 y.who) := fun s => s.cell ((HBq.out.cell (p := ⟨b, _, none⟩) hbs).trans HD.out.1)
                  have p1 : ∀ s : Later wr, s.val.cell? ⟨b, off + (k) * 2 + 1, none⟩ = some (.slice (some ⟨bu, ou, none⟩) 9 cu) := fun s => s.cell ((HBq.out.cell (p := ⟨b, _, none⟩) hbs).trans HD.out.2)
                  have p3 : ∀ s : Later wr, s.val.cell? ⟨bu, ou + q, none⟩ = some (.int .i64 z) := fun s => s.cell dq
                  have o0 := (HBq.out.cell (p := ⟨b, off + (k) * 2, none⟩) hbs).trans HD.out.1
                  have o1 := (HBq.out.cell (p := ⟨b, off + (k) * 2 + 1, none⟩) hbs).trans HD.out.2
                  have HML9 : Hid (9 = y.cs.length) := hml
                  clear hcu hcc hz p0 p1 p3 hne hml
                  cases hin : inB 0 1000000 z with
                  | false =>
                    have HR : Hid (rowsB L = false) := rowsB_false (by rw [← HN.out]; exact hlt) (by unfold okR; rw [show csB (L.getD (k) rwZ).cs = false by rw [← HY.out]; unfold csB; rw [allB_false (p := cAt y.cs) (k := q) (by have := HML9.out; omega) (by rw [hcz, hin])]; simp]; simp)
                    clear hcz
                    go_wp2_with fail
                    refine (in_any z 0 1000000 _ hin _).mono ?_
                    rintro e w2 ⟨rfl, hw2⟩
                    rw [hw2]
                    clear hw2 w2
                    have HB2 : Hid (Below w.heap.size w wr) := HBq
                    go_wp2
                    go_ret
                    exact ⟨ret_bool HR.out.symm, HB2.out⟩
                  | true =>
                    have HC' : Hid (allB (cAt y.cs) (q + 1) = true) := by show _ = _; rw [allB_succ, HC.out, hcz, hin]; rfl
                    clear hcz
                    go_wp2_with fail
                    refine (in_any z 0 1000000 _ hin _).mono ?_
                    rintro e w2 ⟨rfl, hw2⟩
                    rw [hw2]
                    clear hw2 w2
                    have HB2 : Hid (Below w.heap.size w wr) := HBq
                    go_wp2
                    go_roundw
                    case rel => first | exact ⟨q + 1, by omega, by go_num, HC', HB2⟩ | (repeat (refine Exists.intro _ ?_); refine ⟨?_, rfl⟩; exact ⟨q + 1, by omega, by go_num, HC', HB2⟩)
                    case measure => simp [intOf]; omega
                · have hqe : q = 9 := by omega
                  subst hqe
                  have o0 := (HBq.out.cell (p := ⟨b, off + (k) * 2, none⟩) hbs).trans HD.out.1
                  have o1 := (HBq.out.cell (p := ⟨b, off + (k) * 2 + 1, none⟩) hbs).trans HD.out.2
                  have HK : Hid (allB (okR L) (k + 1) = true) := by
                    show _ = _
                    rw [allB_succ, HA.out]
                    show okR L (k) = true
                    unfold okR
                    rw [show csB (L.getD (k) rwZ).cs = true by rw [← HY.out]; unfold csB; rw [HL9.out, show y.cs.length = 9 from HML.out.symm, HC.out]; rfl]
                    rw [HP.out]; rfl
                  go_wp2
                  go_roundw
                  case rel => exact ⟨k + 1, by omega, by go_num, HK, HBq⟩
                  case measure => have := HKJ.out; simp [intOf]; omega
            · have hm9 : ((m : Int) != 9) = true := by simp; omega
              have HR : Hid (rowsB L = false) := rowsB_false (by rw [← HN.out]; exact hlt) (by unfold okR; rw [show csB (L.getD (j + 1) rwZ).cs = false by rw [← HY.out]; unfold csB; rw [← HML.out, decide_eq_false h9]; rfl]; simp)
              go_wp2
              refine wp_region_later (by kernel_rfl) (by kernel_rfl) ?_
              repeat (go_big_quiet_step ((rename_i t; first | with_reducible exact in_later hw t)))
              refine wpQuiet_nil ?_
              rintro w2 ⟨s, hs⟩
              have HB2 : Hid (Below w.heap.size w w2) := by rw [hs]; exact HB.out.trans (s.ok.mono HB.out.size)
              clear hs s
              go_wp2
              go_ret
              exact ⟨ret_bool HR.out.symm, HB2.out⟩
          · have hzd : y.who ≤ z := by omega
            have HR : Hid (rowsB L = false) := rowsB_false (by rw [← HN.out]; exact hlt) (by unfold okR; rw [← HY.out, hw, show (j + 1 == 0) = false from rfl]; simp only [Nat.add_sub_cancel]; rw [← HZ.out, decide_eq_false hz]; rfl)
            go_wp2
            refine wp_region_later (by kernel_rfl) (by kernel_rfl) ?_
            repeat (go_big_quiet_step ((rename_i t; first | with_reducible exact in_later hw t)))
            refine wpQuiet_nil ?_
            rintro w2 ⟨s, hs⟩
            have HB2 : Hid (Below w.heap.size w w2) := by rw [hs]; exact HB.out.trans (s.ok.mono HB.out.size)
            clear hs s
            go_wp2
            go_ret
            exact ⟨ret_bool HR.out.symm, HB2.out⟩
    · have hke : k = n := by omega
      subst hke
      have HR : Hid (rowsB L = true) := by show _ = _; unfold rowsB; rw [← HN.out]; exact HA.out
      clear hc
      go_wp2
      go_ret
      exact ⟨ret_bool HR.out.symm, HB.out⟩
end Go.Proofs.Ytjnngncnfbdpkaa
