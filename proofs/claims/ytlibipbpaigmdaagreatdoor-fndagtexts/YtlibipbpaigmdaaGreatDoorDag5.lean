/-
  The specification's test of a dag. No condition but that the slice reads.
-/
import Derived.Test.YtlibipbpaigmdaaGreatDoorDag4
namespace Go.Proofs.YtlibipbpaigmdaaGreatDoor
open Go.RowKit
set_option linter.unusedVariables false

def Nd.ok (d : Nd) : Bool := nodeB d.a d.s d.k d.key d.text d.S d.n
/-- the ids of the nodes -/
def ids (D : Nat → Nd) : Nat → ByteArray := fun i => (D i).id
/-- the ups of the first m nodes are there -/
def upsB' (D : Nat → Nd) (len m : Nat) : Bool := allB (fun i => hasB (ids D) len (D i).S (D i).n) m
/-- the dag is right -/
def dagB (D : Nat → Nd) (len : Nat) : Bool := decide (len ≤ 30) && (allB (fun i => (D i).ok) len && (riseB (ids D) len && upsB' D len len))

theorem upsB'_succ (D : Nat → Nd) (len m : Nat) : upsB' D len (m + 1) = (upsB' D len m && hasB (ids D) len (D m).S (D m).n) := allB_succ _ _

set_option maxHeartbeats 2000000 in
theorem specDagOk_any (a : Option Addr) (len cap : Nat) (D : Nat → Nd) (w : World) (h : IsNds w a len cap D) (hf : Fine D len) :
    Calls Tryz.prog 46 #[.slice a len cap] w fun e w' => e = .returned (.bool (dagB D len)) ∧ Below w.heap.size w w' := by
  have HN := (show Hid _ from h)
  have HF := (show Hid _ from hf)
  obtain ⟨hlc, hcm, hc⟩ := h
  by_cases h30 : 30 < len
  · have hr : Hid (dagB D len = false) := by
      show _ = _
      unfold dagB
      rw [decide_eq_false (by omega)]; rfl
    have h30' : (30 : Int) < (len : Int) := by omega
    clear hc hf
    go_enter Tryz.func46, Tryz.ntmps46
    go_wp2
    go_ret
    exact ⟨ret_bool hr.out.symm, Below.refl _ _⟩
  have hle : len ≤ 30 := by omega
  have hleI : decide ((30 : Int) < (len : Int)) = false := by simp; omega
  have HC : Hid (∀ wr, Below w.heap.size w wr → ∀ k, k < len → Calls Tryz.prog 114 #[.agg #[.int .i64 (D k).a, .int .i64 (D k).s, .int .i64 (D k).k, .string (D k).key, .string (D k).text, .slice (D k).u (D k).n (D k).cap]] wr fun e w' => e = .returned (.bool (D k).ok) ∧ Below wr.heap.size wr w') := fun wr hB k hlt => by
    obtain ⟨b, off, rfl, hbs, hcell⟩ := hc (by omega)
    exact specNodeOk_any _ _ _ _ _ _ _ _ (D k).S wr ((hcell k hlt).i.below hB) (hf k hlt).2.2 (hf k hlt).1 (hf k hlt).2.1
  clear hf
  go_enter Tryz.func46, Tryz.ntmps46
  go_wp2
  clear h30
  go_loopw [3] (fun i wr => ∃ (k : Nat), k ≤ len ∧ i = .int .i64 k ∧ Hid (allB (fun i => (D i).ok) k = true) ∧ Below w.heap.size w wr) (fun i _ => len - (intOf i).toNat)
  case atStart => exact ⟨0, Nat.zero_le _, rfl, rfl, Below.refl _ _⟩
  case round =>
    obtain ⟨k, hk, rfl, HR, hB⟩ := hrel
    by_cases hlt : k < len
    · obtain ⟨b, off, rfl, hbs, hcell⟩ := hc (by omega)
      have hltI : (k : Int) < (len : Int) := by omega
      obtain ⟨c0, c1, c2, c3, c4, c5, ci⟩ : NdAt wr b (off + k * 6) (D k) := by
        have n1 := hcell k hlt
        exact ⟨(hB.cell (p := ⟨b, _, none⟩) hbs).trans n1.c0, (hB.cell (p := ⟨b, _, none⟩) hbs).trans n1.c1, (hB.cell (p := ⟨b, _, none⟩) hbs).trans n1.c2, (hB.cell (p := ⟨b, _, none⟩) hbs).trans n1.c3, (hB.cell (p := ⟨b, _, none⟩) hbs).trans n1.c4, (hB.cell (p := ⟨b, _, none⟩) hbs).trans n1.c5, n1.i.below hB⟩
      clear hcell hc ci
      cases hq : (D k).ok with
      | true =>
        have HR' : Hid (allB (fun i => (D i).ok) (k + 1) = true) := by
          show _ = _
          rw [allB_succ, HR.out, hq]; rfl
        go_wp2_with (go_at_call 114; refine (HC.out wr hB k hlt).mono ?_; rintro e w1 ⟨rfl, hB1⟩; rw [hq])
        go_roundw
        case rel => exact ⟨k + 1, by omega, by go_num, HR', hB.trans (hB1.mono hB.size)⟩
        case measure => simp [intOf]; omega
      | false =>
        have hr : Hid (dagB D len = false) := by
          show _ = _
          unfold dagB
          rw [allB_false hlt hq]; simp
        go_wp2_with (go_at_call 114; refine (HC.out wr hB k hlt).mono ?_; rintro e w1 ⟨rfl, hB1⟩; rw [hq])
        go_ret
        exact ⟨ret_bool hr.out.symm, hB.trans (hB1.mono hB.size)⟩
    · have hke : k = len := by omega
      subst hke
      have HL : Hid (Calls Tryz.prog 84 #[.slice a k cap] wr fun e w' => ∃ g gc, e = .returned (.slice g k gc) ∧ IsStrs w' g k gc (ids D) ∧ Below wr.heap.size wr w') := l6All_any a k cap D wr (show IsNds wr a k cap D from by
        refine ⟨hlc, hcm, fun hp => ?_⟩
        obtain ⟨b, off, e, hbs, hcell⟩ := hc hp
        have hs := hB.size
        refine ⟨b, off, e, by omega, fun i hi => ?_⟩
        have n1 := hcell i hi
        exact ⟨(hB.cell (p := ⟨b, _, none⟩) hbs).trans n1.c0, (hB.cell (p := ⟨b, _, none⟩) hbs).trans n1.c1, (hB.cell (p := ⟨b, _, none⟩) hbs).trans n1.c2, (hB.cell (p := ⟨b, _, none⟩) hbs).trans n1.c3, (hB.cell (p := ⟨b, _, none⟩) hbs).trans n1.c4, (hB.cell (p := ⟨b, _, none⟩) hbs).trans n1.c5, n1.i.below hB⟩) HF.out hle
      have HOK := HR
      clear HR
      go_wp2_with (go_at_call 84; refine HL.out.mono ?_; rintro e w2 ⟨g, gc, rfl, hI, hB2⟩)
      have hB0 := hB.trans (hB2.mono hB.size)
      have HI2 : Hid (IsStrs w2 g k gc (ids D)) := hI
      have HNd : Hid (IsNds w2 a k cap D) := by
        refine ⟨hlc, hcm, fun hp => ?_⟩
        obtain ⟨b, off, e, hbs, hcell⟩ := hc hp
        have hs := hB0.size
        refine ⟨b, off, e, by omega, fun i hi => ?_⟩
        have n1 := hcell i hi
        exact ⟨(hB0.cell (p := ⟨b, _, none⟩) hbs).trans n1.c0, (hB0.cell (p := ⟨b, _, none⟩) hbs).trans n1.c1, (hB0.cell (p := ⟨b, _, none⟩) hbs).trans n1.c2, (hB0.cell (p := ⟨b, _, none⟩) hbs).trans n1.c3, (hB0.cell (p := ⟨b, _, none⟩) hbs).trans n1.c4, (hB0.cell (p := ⟨b, _, none⟩) hbs).trans n1.c5, n1.i.below hB0⟩
      have HB0 : Hid (Below w.heap.size w w2) := hB0
      clear hB hB2 hB0 hc HL HC HN HF hI
      go_loopw [5] (fun i wr => ∃ (j : Nat), j ≤ k ∧ i = .int .i64 j ∧ Hid (riseB (ids D) j = true ∧ upsB' D k j = true) ∧ Below w2.heap.size w2 wr) (fun i _ => k - (intOf i).toNat)
      case atStart => exact ⟨0, Nat.zero_le _, rfl, ⟨rfl, rfl⟩, Below.refl _ _⟩
      case round =>
        obtain ⟨j, hj, rfl, HR, hB⟩ := hrel
        by_cases hjk : j < k
        · obtain ⟨b, off, rfl, hbs, hcell⟩ := HNd.out.2.2 (by omega)
          obtain ⟨gb, goff, rfl, hgs, hgcell⟩ := HI2.out.2.2 (by omega)
          have m1 : NdAt wr b (off + j * 6) (D j) := (hcell j hjk).below hB
          have hjI : (j : Int) < (k : Int) := by omega
          have hne := Later.any wr
          have q0 : ∀ s : Later wr, s.val.cell? ⟨b, off + j * 6, none⟩ = some (.int .i64 (D j).a) := fun s => (m1.below s.ok).c0
          have q1 : ∀ s : Later wr, s.val.cell? ⟨b, off + j * 6 + 1, none⟩ = some (.int .i64 (D j).s) := fun s => (m1.below s.ok).c1
          have q2 : ∀ s : Later wr, s.val.cell? ⟨b, off + j * 6 + 2, none⟩ = some (.int .i64 (D j).k) := fun s => (m1.below s.ok).c2
          have q3 : ∀ s : Later wr, s.val.cell? ⟨b, off + j * 6 + 3, none⟩ = some (.string (D j).key) := fun s => (m1.below s.ok).c3
          have q4 : ∀ s : Later wr, s.val.cell? ⟨b, off + j * 6 + 4, none⟩ = some (.string (D j).text) := fun s => (m1.below s.ok).c4
          have q5 : ∀ s : Later wr, s.val.cell? ⟨b, off + j * 6 + 5, none⟩ = some (.slice (D j).u (D j).n (D j).cap) := fun s => (m1.below s.ok).c5
          have p1 : ∀ s : Later wr, s.val.cell? ⟨gb, goff + j, none⟩ = some (.string (ids D j)) := fun s => s.cell ((hB.cell (p := ⟨gb, goff + j, none⟩) hgs).trans (hgcell j hjk))
          have HX : Hid (∀ s : Later wr, Calls Tryz.prog 115 #[.slice (some ⟨gb, goff, none⟩) k gc, .agg #[.int .i64 (D j).a, .int .i64 (D j).s, .int .i64 (D j).k, .string (D j).key, .string (D j).text, .slice (D j).u (D j).n (D j).cap]] s.val fun e w' => e = .returned (.bool (hasB (ids D) k (D j).S (D j).n)) ∧ Below s.val.heap.size s.val w') := fun s => l6Has_any _ _ _ (ids D) _ _ _ _ _ _ _ _ (D j).S s.val ((HI2.out.below hB).below s.ok) (m1.below s.ok).i
          have hBB : Hid (Below w2.heap.size w2 wr) := hB
          clear m1
          have hU : ∀ x, hasB (ids D) k (D j).S (D j).n = x → x = false → Hid (dagB D k = false) := fun x hx hxf => by
            show _ = _
            unfold dagB upsB'
            rw [allB_false (p := fun i => hasB (ids D) k (D i).S (D i).n) hjk (hx.trans hxf)]; simp
          have HU : Hid (∀ x, hasB (ids D) k (D j).S (D j).n = x → x = false → Hid (dagB D k = false)) := hU
          clear hU
          rcases Nat.eq_zero_or_pos j with hj0 | hpos
          · have HR1 : Hid (riseB (ids D) (j + 1) = true) := by rw [hj0]; exact (rfl : riseB (ids D) 1 = true)
            have hkd : decide ((0 : Int) < (j : Int)) = false := by simp; omega
            have hkn : decide (0 < j) = false := by simp; omega
            clear hcell hgcell hj0 hB
            cases hq : hasB (ids D) k (D j).S (D j).n with
            | true =>
              have HR' : Hid (riseB (ids D) (j + 1) = true ∧ upsB' D k (j + 1) = true) := ⟨HR1.out, by rw [upsB'_succ, HR.out.2, hq]; rfl⟩
              rw [hq] at HX
              clear HR HR1 HU hq
              go_wp2
              refine wp_region_later (by kernel_rfl) (by kernel_rfl) ?_
              repeat (go_big_quiet_step ((rename_i s; exact Calls.later (HX.out s))))
              refine wpQuiet_nil ?_
              rintro _ ⟨⟨w', hB2⟩, rfl⟩
              go_wp2
              go_roundw
              case rel => exact ⟨j + 1, by omega, by go_num, HR', hBB.out.trans (hB2.mono hBB.out.size)⟩
              case measure => simp [intOf]; omega
            | false =>
              have hr := HU.out _ hq rfl
              rw [hq] at HX
              clear HR HR1 HU hq
              go_wp2
              refine wp_region_later (by kernel_rfl) (by kernel_rfl) ?_
              repeat (go_big_quiet_step ((rename_i s; exact Calls.later (HX.out s))))
              refine wpQuiet_nil ?_
              rintro _ ⟨⟨w', hB2⟩, rfl⟩
              go_wp2
              go_ret
              exact ⟨ret_bool hr.out.symm, HB0.out.trans ((hBB.out.trans (hB2.mono hBB.out.size)).mono HB0.out.size)⟩
          · obtain ⟨p, rfl⟩ : ∃ p, j = p + 1 := ⟨j - 1, by omega⟩
            have p2 : ∀ s : Later wr, s.val.cell? ⟨gb, goff + p, none⟩ = some (.string (ids D p)) := fun s => s.cell ((hB.cell (p := ⟨gb, goff + p, none⟩) hgs).trans (hgcell p (by omega)))
            have g1 : (0 : Int) < ((p + 1 : Nat) : Int) := by omega
            have hup : upB (ids D) (p + 1) = Op.bytesLess (ids D p).toList (ids D (p + 1)).toList := rfl
            clear hcell hgcell hB
            cases hu : upB (ids D) (p + 1) with
            | false =>
              rw [hu] at hup
              have hup' := hup.symm
              have hr : Hid (dagB D k = false) := by
                show _ = _
                unfold dagB
                rw [riseB_false hjk (by omega) hu]; simp
              clear hup hu HU HR HX
              go_wp2
              refine wp_region_later (by kernel_rfl) (by kernel_rfl) ?_
              repeat (go_big_quiet_step (fail))
              refine wpQuiet_nil ?_
              rintro _ ⟨⟨w', hB2⟩, rfl⟩
              go_wp2
              go_ret
              exact ⟨ret_bool hr.out.symm, HB0.out.trans ((hBB.out.trans (hB2.mono hBB.out.size)).mono HB0.out.size)⟩
            | true =>
              rw [hu] at hup
              have hup' := hup.symm
              have HR1 : Hid (riseB (ids D) (p + 1 + 1) = true) := by show _ = _; rw [riseB_succ, HR.out.1, hu]; simp
              clear hup hu
              cases hq : hasB (ids D) k (D (p + 1)).S (D (p + 1)).n with
              | true =>
                have HR' : Hid (riseB (ids D) (p + 1 + 1) = true ∧ upsB' D k (p + 1 + 1) = true) := ⟨HR1.out, by rw [upsB'_succ, HR.out.2, hq]; rfl⟩
                rw [hq] at HX
                clear HR HR1 HU hq
                go_wp2
                refine wp_region_later (by kernel_rfl) (by kernel_rfl) ?_
                repeat (go_big_quiet_step ((rename_i s; exact Calls.later (HX.out s))))
                refine wpQuiet_nil ?_
                rintro _ ⟨⟨w', hB2⟩, rfl⟩
                go_wp2
                go_roundw
                case rel => exact ⟨p + 1 + 1, by omega, by go_num, HR', hBB.out.trans (hB2.mono hBB.out.size)⟩
                case measure => simp [intOf]; omega
              | false =>
                have hr := HU.out _ hq rfl
                rw [hq] at HX
                clear HR HR1 HU hq
                go_wp2
                refine wp_region_later (by kernel_rfl) (by kernel_rfl) ?_
                repeat (go_big_quiet_step ((rename_i s; exact Calls.later (HX.out s))))
                refine wpQuiet_nil ?_
                rintro _ ⟨⟨w', hB2⟩, rfl⟩
                go_wp2
                go_ret
                exact ⟨ret_bool hr.out.symm, HB0.out.trans ((hBB.out.trans (hB2.mono hBB.out.size)).mono HB0.out.size)⟩
        · have hje : j = k := by omega
          have hr : Hid (dagB D k = true) := by
            show _ = _
            rw [hje] at HR
            unfold dagB
            rw [HOK.out, HR.out.1, HR.out.2, decide_eq_true hle]; rfl
          go_wp2
          go_ret
          exact ⟨ret_bool hr.out.symm, HB0.out.trans (hB.mono HB0.out.size)⟩
end Go.Proofs.YtlibipbpaigmdaaGreatDoor
