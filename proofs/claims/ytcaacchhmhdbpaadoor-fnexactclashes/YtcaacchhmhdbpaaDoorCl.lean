/-
  Commitments that clash: when two have the same heads, and the specification's list of those who clash. No condition but that the slices read.
-/
import Derived.Test.YtcaacchhmhdbpaaDoorCm3
import Derived.Laws.AppendOwn
import Derived.Deep.AppendLies
namespace Go.Proofs.YtcaacchhmhdbpaaDoor
open Go.RowKit
set_option linter.unusedVariables false

/-- the same texts -/
def sameB (S : Nat → ByteArray) (n : Nat) (S' : Nat → ByteArray) (n' : Nat) : Bool := decide (n = n') && allB (fun i => (S i).toList == (S' i).toList) n

set_option maxHeartbeats 1000000 in
theorem l9Same_any (a a' : Option Addr) (n cap n' cap' : Nat) (S S' : Nat → ByteArray) (w : World) (h : IsStrs w a n cap S) (h' : IsStrs w a' n' cap' S') :
    Calls Tryd.prog 24 #[.slice a n cap, .slice a' n' cap'] w fun e w' => e = .returned (.bool (sameB S n S' n')) ∧ Below w.heap.size w w' := by
  obtain ⟨hlc, hcm, hc⟩ := h
  obtain ⟨hlc', hcm', hc'⟩ := h'
  by_cases hnn : n = n'
  · subst hnn
    have hbn : ((n : Int) != (n : Int)) = false := by simp
    go_enter Tryd.func24, Tryd.ntmps24
    go_wp2
    go_loopw [5] (fun i wr => ∃ (k : Nat), k ≤ n ∧ i = .int .i64 k ∧ Hid (allB (fun i => (S i).toList == (S' i).toList) k = true) ∧ Below w.heap.size w wr)
      (fun i _ => n - (intOf i).toNat)
    case atStart => exact ⟨0, Nat.zero_le _, rfl, rfl, Below.refl _ _⟩
    case round =>
      obtain ⟨k, hk, rfl, HR, hB⟩ := hrel
      by_cases hlt : k < n
      · obtain ⟨b, off, rfl, hbs, hcell⟩ := hc (by omega)
        obtain ⟨b', off', rfl, hbs', hcell'⟩ := hc' (by omega)
        have hltI : (k : Int) < (n : Int) := by omega
        have d1 := (hB.cell (p := ⟨b, off + k, none⟩) hbs).trans (hcell k hlt)
        have d1' := (hB.cell (p := ⟨b', off' + k, none⟩) hbs').trans (hcell' k hlt)
        clear hcell hc hcell' hc'
        cases hq : ((S k).toList == (S' k).toList) with
        | true =>
          have hss : ((S k).toList != (S' k).toList) = false := by simp only [bne, hq]; rfl
          have HR' : Hid (allB (fun i => (S i).toList == (S' i).toList) (k + 1) = true) := by
            show _ = _
            rw [allB_succ, HR.out, hq]; rfl
          clear HR
          go_wp2
          go_quiet (fail)
          go_wp2
          go_roundw
          case rel => exact ⟨k + 1, by omega, by go_num, HR', hB.trans ⟨rfl, rfl, rfl, Nat.le_refl _, fun _ _ => rfl⟩⟩
          case measure => simp [intOf]; omega
        | false =>
          have hss : ((S k).toList != (S' k).toList) = true := by simp only [bne, hq]; rfl
          have hr : Hid (sameB S n S' n = false) := by
            show _ = _
            unfold sameB
            rw [allB_false (p := fun i => (S i).toList == (S' i).toList) hlt hq]; simp
          clear HR
          go_wp2
          go_quiet (fail)
          go_wp2
          go_ret
          exact ⟨ret_bool hr.out.symm, hB.trans ⟨rfl, rfl, rfl, Nat.le_refl _, fun _ _ => rfl⟩⟩
      · have hke : k = n := by omega
        subst hke
        have hr : Hid (sameB S k S' k = true) := by
          show _ = _
          unfold sameB
          rw [HR.out]; simp
        clear HR
        go_wp2
        go_ret
        exact ⟨ret_bool hr.out.symm, hB⟩
  · have hbn : ((n : Int) != (n' : Int)) = true := by simp; omega
    have hr : Hid (sameB S n S' n' = false) := by
      show _ = _
      unfold sameB
      rw [decide_eq_false hnn]; rfl
    clear hc hc'
    go_enter Tryd.func24, Tryd.ntmps24
    go_wp2
    go_ret
    exact ⟨ret_bool hr.out.symm, Below.refl _ _⟩

set_option maxHeartbeats 1000000 in
theorem equal_any (a a' : Option Addr) (n cap n' cap' : Nat) (S S' : Nat → ByteArray) (w : World) (h : IsStrs w a n cap S) (h' : IsStrs w a' n' cap' S') :
    Calls Tryd.prog 25 #[.slice a n cap, .slice a' n' cap'] w fun e w' => e = .returned (.bool (sameB S n S' n')) ∧ Below w.heap.size w w' := by
  obtain ⟨hlc, hcm, hc⟩ := h
  obtain ⟨hlc', hcm', hc'⟩ := h'
  by_cases hnn : n = n'
  · subst hnn
    have hbn : ((n : Int) != (n : Int)) = false := by simp
    go_enter Tryd.func25, Tryd.ntmps25
    go_wp2
    go_loopw [13] (fun i wr => ∃ (k : Nat), k ≤ n ∧ i = .int .i64 k ∧ Hid (allB (fun i => (S i).toList == (S' i).toList) k = true) ∧ Below w.heap.size w wr)
      (fun i _ => n - (intOf i).toNat)
    case atStart => exact ⟨0, Nat.zero_le _, rfl, rfl, Below.refl _ _⟩
    case round =>
      obtain ⟨k, hk, rfl, HR, hB⟩ := hrel
      by_cases hlt : k < n
      · obtain ⟨b, off, rfl, hbs, hcell⟩ := hc (by omega)
        obtain ⟨b', off', rfl, hbs', hcell'⟩ := hc' (by omega)
        have hltI : (k : Int) < (n : Int) := by omega
        have d1 := (hB.cell (p := ⟨b, off + k, none⟩) hbs).trans (hcell k hlt)
        have d1' := (hB.cell (p := ⟨b', off' + k, none⟩) hbs').trans (hcell' k hlt)
        clear hcell hc hcell' hc'
        cases hq : ((S k).toList == (S' k).toList) with
        | true =>
          have hss : ((S k).toList != (S' k).toList) = false := by simp only [bne, hq]; rfl
          have HR' : Hid (allB (fun i => (S i).toList == (S' i).toList) (k + 1) = true) := by
            show _ = _
            rw [allB_succ, HR.out, hq]; rfl
          clear HR
          go_wp2
          go_quiet (fail)
          go_wp2
          go_roundw
          case rel => exact ⟨k + 1, by omega, by go_num, HR', hB.trans ⟨rfl, rfl, rfl, Nat.le_refl _, fun _ _ => rfl⟩⟩
          case measure => simp [intOf]; omega
        | false =>
          have hss : ((S k).toList != (S' k).toList) = true := by simp only [bne, hq]; rfl
          have hr : Hid (sameB S n S' n = false) := by
            show _ = _
            unfold sameB
            rw [allB_false (p := fun i => (S i).toList == (S' i).toList) hlt hq]; simp
          clear HR
          go_wp2
          go_quiet (fail)
          go_wp2
          go_ret
          exact ⟨ret_bool hr.out.symm, hB.trans ⟨rfl, rfl, rfl, Nat.le_refl _, fun _ _ => rfl⟩⟩
      · have hke : k = n := by omega
        subst hke
        have hr : Hid (sameB S k S' k = true) := by
          show _ = _
          unfold sameB
          rw [HR.out]; simp
        clear HR
        go_wp2
        go_ret
        exact ⟨ret_bool hr.out.symm, hB⟩
  · have hbn : ((n : Int) != (n' : Int)) = true := by simp; omega
    have hr : Hid (sameB S n S' n' = false) := by
      show _ = _
      unfold sameB
      rw [decide_eq_false hnn]; rfl
    clear hc hc'
    go_enter Tryd.func25, Tryd.ntmps25
    go_wp2
    go_ret
    exact ⟨ret_bool hr.out.symm, Below.refl _ _⟩

/-- commitments i and k are of that author, have one number and unlike heads -/
def pairB (C : Nat → Cm) (who : Int) (i k : Nat) : Bool := ((C i).a == who) && (((C k).a == who) && (((C i).c == (C k).c) && !sameB (C i).S (C i).n (C k).S (C k).n))
def rowB (C : Nat → Cm) (who : Int) (i : Nat) : Nat → Bool
  | 0 => false
  | k + 1 => rowB C who i k || pairB C who i k
def hitB (C : Nat → Cm) (who : Int) : Nat → Bool
  | 0 => false
  | i + 1 => hitB C who i || rowB C who i i
/-- of the authors 1 .. q those who clash -/
def clL (C : Nat → Cm) (m : Nat) : Nat → List Int
  | 0 => []
  | q + 1 => if hitB C ((q + 1 : Nat) : Int) m = true then clL C m q ++ [((q + 1 : Nat) : Int)] else clL C m q
/-- those who clash; none where the commitments are not right -/
def clR (C : Nat → Cm) (m : Nat) : List Int := if cmsB C m = true then clL C m 9 else []
def encI (z : Int) : Value := .int .i64 z
theorem clL_len (C : Nat → Cm) (m : Nat) : ∀ q, (clL C m q).length ≤ q
  | 0 => Nat.le_refl _
  | q + 1 => by
    have ih := clL_len C m q
    unfold clL
    split
    · simp; omega
    · omega
theorem clR_len (C : Nat → Cm) (m : Nat) : (clR C m).length ≤ 9 := by
  unfold clR
  split
  · exact clL_len C m 9
  · simp

/-- v is a slice of the numbers L that this call laid -/
def OwnI (w : World) (base : Nat) (v : Value) (L : List Int) : Prop := w.ownsRow base 2 1 v L.length (L.map encI)
theorem OwnI.below {w w' : World} {base : Nat} {v : Value} {L : List Int} (h : OwnI w base v L) (hB : Below w.heap.size w w') : OwnI w' base v L := ownsRow_below h hB
theorem mono_base {w : World} {base base' : Nat} {e : TypeId} {size : Nat} {v : Value} {n : Nat} {xs : List Value} (h : w.ownsRow base e size v n xs) (hb : base' ≤ base) : w.ownsRow base' e size v n xs := by
  obtain ⟨h1, h2⟩ := h
  refine ⟨h1, ?_⟩
  rcases h2 with h2 | ⟨g, cap, cur, hv, hg, r⟩
  · exact Or.inl h2
  · exact Or.inr ⟨g, cap, cur, hv, Nat.le_trans hb hg, r⟩

theorem info_i : (Tryd.prog.info? 2).map (fun i => (i.zero, i.size, i.bytes)) = some (some (.int .i64 0), 1, 8) := by kernel_rfl

theorem cms_at {w : World} {a : Option Addr} {len cap : Nat} {D : Nat → Cm} {b off : Nat} (h : IsCms w a len cap D) (ha : a = some ⟨b, off, none⟩) (i : Nat) (hi : i < len) : CmAt w b (off + i * 3) (D i) := by
  obtain ⟨_, _, h3⟩ := h
  obtain ⟨b', off', e, _, hc⟩ := h3 (by omega)
  rw [ha] at e
  simp only [Option.some.injEq, Addr.mk.injEq, and_true] at e
  obtain ⟨rfl, rfl⟩ := e
  exact hc i hi

set_option maxHeartbeats 8000000 in
theorem specClashes_any (a : Option Addr) (m cap : Nat) (C : Nat → Cm) (w : World) (h : IsCms w a m cap C) (hf : CFine C m) :
    Calls Tryd.prog 10 #[.slice a m cap] w fun e w' => ∃ v, e = .returned v ∧ OwnI w' w.heap.size v (clR C m) ∧ Below w.heap.size w w' := by
  have HC : Hid (IsCms w a m cap C) := h
  have hBa : Below w.heap.size w (w.alloc (.cells #[] 2)) := (Below.refl _ _).alloc (Nat.le_refl _) _
  have HT : Hid (Calls Tryd.prog 6 #[.slice a m cap] (w.alloc (.cells #[] 2)) fun e w' => e = .returned (.bool (cmsB C m)) ∧ Below (w.alloc (.cells #[] 2)).heap.size (w.alloc (.cells #[] 2)) w') := specCms_any a m cap C _ (h.below hBa) hf
  have HM : Hid (OwnI (w.alloc (.cells #[] 2)) w.heap.size (.slice (some ⟨w.heap.size, 0, none⟩) 0 0) []) := World.ownsRow_made w #[] 0 (Nat.le_refl _) (by decide) rfl
  have HBa : Hid (Below w.heap.size w (w.alloc (.cells #[] 2))) := hBa
  obtain ⟨hlc, hcm, hc⟩ := h
  obtain ⟨i0, hi, hz0, hz1, hz2⟩ := info_parts info_i
  clear hf hBa
  cases hq : cmsB C m with
  | false =>
    have HR : Hid (clR C m = []) := by show _ = _; unfold clR; rw [if_neg (by rw [hq]; decide)]
    rw [hq] at HT
    go_enter Tryd.func10, Tryd.ntmps10
    go_wp2_with (go_at_call 6; refine HT.out.mono ?_; rintro e w1 ⟨rfl, hB1⟩; have HB1 : Hid (Below w.heap.size w w1) := HBa.out.trans (hB1.mono HBa.out.size); have HO1 : Hid (OwnI w1 w.heap.size (.slice (some ⟨w.heap.size, 0, none⟩) 0 0) []) := HM.out.below hB1; clear hB1)
    go_ret
    refine ⟨_, rfl, ?_, HB1.out⟩
    rw [HR.out]
    exact HO1.out
  | true =>
  have HR : Hid (clR C m = clL C m 9) := by show _ = _; unfold clR; rw [if_pos hq]
  rw [hq] at HT
  clear hq
  go_enter Tryd.func10, Tryd.ntmps10
  go_wp2_with (go_at_call 6; refine HT.out.mono ?_; rintro e w1 ⟨rfl, hB1⟩; have HB1 : Hid (Below w.heap.size w w1) := HBa.out.trans (hB1.mono HBa.out.size); have HO1 : Hid (OwnI w1 w.heap.size (.slice (some ⟨w.heap.size, 0, none⟩) 0 0) []) := HM.out.below hB1; clear hB1)
  clear HT
  go_loopw [4, 3] (fun z v wr => ∃ (q : Nat), q ≤ 9 ∧ z = .int .i64 ((q + 1 : Nat) : Int) ∧ wr.ownsRow w.heap.size 2 1 v (clL C m q).length ((clL C m q).map encI) ∧ Below w.heap.size w wr)
    (fun z _ _ => 10 - (intOf z).toNat)
  case atStart => exact ⟨0, by omega, rfl, HO1.out, HB1.out⟩
  case round =>
    obtain ⟨q, hq9, rfl, how, hB⟩ := hrel
    have HO := (show Hid _ from how)
    have HB : Hid (Below w.heap.size w wr) := hB
    clear how hB
    by_cases hlq : q < 9
    · have hqI : ((q + 1 : Nat) : Int) ≤ 9 := by omega
      obtain ⟨who, hwho⟩ : ∃ who : Int, who = ((q + 1 : Nat) : Int) := ⟨_, rfl⟩
      have HWHO : Hid (who = ((q + 1 : Nat) : Int)) := hwho
      have hwlo : (1 : Int) ≤ who := by omega
      rw [← hwho] at hqI ⊢
      clear hwho
      obtain ⟨wq, hwq⟩ : ∃ wq, wq = wr := ⟨_, rfl⟩
      have HBq : Hid (Below w.heap.size w wq) := by show Below _ _ _; rw [hwq]; exact HB.out
      have HWQ : Hid (wq = wr) := hwq
      rw [← hwq] at HO
      clear hwq HB
      go_wp2
      go_loopw [6, 5] (fun x u wi => ∃ (i : Nat) (c : Bool), i ≤ m ∧ x = .int .i64 i ∧ u = .bool c ∧ Hid (hitB C who i = c) ∧ Below wq.heap.size wq wi)
        (fun x _ _ => m - (intOf x).toNat)
      case atStart => exact ⟨0, false, Nat.zero_le _, rfl, rfl, rfl, by rw [← HWQ.out]; exact Below.refl _ _⟩
      case round =>
        obtain ⟨i, c, hi', rfl, rfl, HH, hBi⟩ := hrel
        have HBi : Hid (Below wq.heap.size wq wr) := hBi
        clear hBi HWQ
        by_cases hlt : i < m
        · have hltI : (i : Int) < (m : Int) := by omega
          obtain ⟨b, off, ea, hbs, _⟩ := hc (by omega)
          subst ea
          have HD : Hid (∀ v, Below wq.heap.size wq v → ∀ t, t < m → CmAt v b (off + t * 3) (C t)) := fun v hv t ht => cms_at (HC.out.below (HBq.out.trans (hv.mono HBq.out.size))) rfl t ht
          go_wp2
          go_loopw [7, 5] (fun x u wi => ∃ (k : Nat) (c : Bool), k ≤ i ∧ x = .int .i64 k ∧ u = .bool c ∧ Hid ((hitB C who i || rowB C who i k) = c) ∧ Below wq.heap.size wq wi)
            (fun x _ _ => i - (intOf x).toNat)
          case atStart => exact ⟨0, c, Nat.zero_le _, rfl, rfl, (by show (hitB C who i || false) = c; rw [HH.out]; simp), HBi.out⟩
          case round =>
            obtain ⟨k, c', hk, rfl, rfl, HK, hBk⟩ := hrel
            have HBk : Hid (Below wq.heap.size wq wr) := hBk
            have hrs : rowB C who i (k + 1) = (rowB C who i k || pairB C who i k) := rfl
            by_cases hkt : k < i
            · have hkI : (k : Int) < (i : Int) := by omega
              have m1 := HD.out wr hBk i hlt
              have m2 := HD.out wr hBk k (by omega)
              have hkmI : (k : Int) < (m : Int) := by omega
              have hne := Later.any wr
              have p0 : ∀ s : Later wr, s.val.cell? ⟨b, off + i * 3, none⟩ = some (.int .i64 (C i).a) := fun s => (m1.below s.ok).c0
              have p1 : ∀ s : Later wr, s.val.cell? ⟨b, off + i * 3 + 1, none⟩ = some (.int .i64 (C i).c) := fun s => (m1.below s.ok).c1
              have p2 : ∀ s : Later wr, s.val.cell? ⟨b, off + i * 3 + 2, none⟩ = some (.slice (C i).u (C i).n (C i).cap) := fun s => (m1.below s.ok).c2
              have r0 : ∀ s : Later wr, s.val.cell? ⟨b, off + k * 3, none⟩ = some (.int .i64 (C k).a) := fun s => (m2.below s.ok).c0
              have r1 : ∀ s : Later wr, s.val.cell? ⟨b, off + k * 3 + 1, none⟩ = some (.int .i64 (C k).c) := fun s => (m2.below s.ok).c1
              have r2 : ∀ s : Later wr, s.val.cell? ⟨b, off + k * 3 + 2, none⟩ = some (.slice (C k).u (C k).n (C k).cap) := fun s => (m2.below s.ok).c2
              have HX0 : Hid (∀ x, sameB (C i).S (C i).n (C k).S (C k).n = x → ∀ s : Later wr, Calls Tryd.prog 24 #[.slice (C i).u (C i).n (C i).cap, .slice (C k).u (C k).n (C k).cap] s.val fun e w' => e = .returned (.bool x) ∧ Below s.val.heap.size s.val w') := fun x hx s => by rw [← hx]; exact l9Same_any _ _ _ _ _ _ (C i).S (C k).S s.val (m1.below s.ok).i (m2.below s.ok).i
              clear m1 m2 hBk
              have hq := HK.out
              cases c' with
              | true =>
                have HS : Hid ((hitB C who i || rowB C who i (k + 1)) = true) := by show _ = _; rw [hrs, ← Bool.or_assoc, hq]; rfl
                clear hrs hq HK HX0
                go_wp2
                refine wp_region_later (by kernel_rfl) (by kernel_rfl) ?_
                repeat (go_big_quiet_step (fail))
                refine wpQuiet_nil ?_
                rintro _ ⟨⟨w', hB2⟩, rfl⟩
                go_wp2
                go_roundw
                case rel => exact ⟨k + 1, true, by omega, by go_num, rfl, HS.out, HBk.out.trans (hB2.mono HBk.out.size)⟩
                case measure => simp [intOf]; omega
              | false =>
                cases h1 : ((C i).a == who) with
                | false =>
                  have hp : pairB C who i k = false := by unfold pairB; rw [h1]; rfl
                  have HS : Hid ((hitB C who i || rowB C who i (k + 1)) = false) := by show _ = _; rw [hrs, ← Bool.or_assoc, hq, hp]; rfl
                  clear hrs hq HK HX0 hp
                  go_wp2
                  refine wp_region_later (by kernel_rfl) (by kernel_rfl) ?_
                  repeat (go_big_quiet_step (fail))
                  refine wpQuiet_nil ?_
                  rintro _ ⟨⟨w', hB2⟩, rfl⟩
                  go_wp2
                  go_roundw
                  case rel => exact ⟨k + 1, false, by omega, by go_num, rfl, HS.out, HBk.out.trans (hB2.mono HBk.out.size)⟩
                  case measure => simp [intOf]; omega
                | true =>
                  cases h2 : ((C k).a == who) with
                  | false =>
                    have hp : pairB C who i k = false := by unfold pairB; rw [h1, h2]; rfl
                    have HS : Hid ((hitB C who i || rowB C who i (k + 1)) = false) := by show _ = _; rw [hrs, ← Bool.or_assoc, hq, hp]; rfl
                    clear hrs hq HK HX0 hp
                    go_wp2
                    refine wp_region_later (by kernel_rfl) (by kernel_rfl) ?_
                    repeat (go_big_quiet_step (fail))
                    refine wpQuiet_nil ?_
                    rintro _ ⟨⟨w', hB2⟩, rfl⟩
                    go_wp2
                    go_roundw
                    case rel => exact ⟨k + 1, false, by omega, by go_num, rfl, HS.out, HBk.out.trans (hB2.mono HBk.out.size)⟩
                    case measure => simp [intOf]; omega
                  | true =>
                    cases h3 : ((C i).c == (C k).c) with
                    | false =>
                      have hp : pairB C who i k = false := by unfold pairB; rw [h1, h2, h3]; rfl
                      have HS : Hid ((hitB C who i || rowB C who i (k + 1)) = false) := by show _ = _; rw [hrs, ← Bool.or_assoc, hq, hp]; rfl
                      clear hrs hq HK HX0 hp
                      go_wp2
                      refine wp_region_later (by kernel_rfl) (by kernel_rfl) ?_
                      repeat (go_big_quiet_step (fail))
                      refine wpQuiet_nil ?_
                      rintro _ ⟨⟨w', hB2⟩, rfl⟩
                      go_wp2
                      go_roundw
                      case rel => exact ⟨k + 1, false, by omega, by go_num, rfl, HS.out, HBk.out.trans (hB2.mono HBk.out.size)⟩
                      case measure => simp [intOf]; omega
                    | true =>
                      cases h4 : sameB (C i).S (C i).n (C k).S (C k).n with
                      | true =>
                        have hp : pairB C who i k = false := by unfold pairB; rw [h1, h2, h3, h4]; rfl
                        have HS : Hid ((hitB C who i || rowB C who i (k + 1)) = false) := by show _ = _; rw [hrs, ← Bool.or_assoc, hq, hp]; rfl
                        have HX := (show Hid (∀ s : Later wr, Calls Tryd.prog 24 #[.slice (C i).u (C i).n (C i).cap, .slice (C k).u (C k).n (C k).cap] s.val fun e w' => e = .returned (.bool _) ∧ Below s.val.heap.size s.val w') from HX0.out _ h4)
                        clear hrs hq HK HX0 hp h4
                        go_wp2
                        refine wp_region_later (by kernel_rfl) (by kernel_rfl) ?_
                        repeat (go_big_quiet_step ((rename_i t; exact Calls.later (HX.out t))))
                        refine wpQuiet_nil ?_
                        rintro _ ⟨⟨w', hB2⟩, rfl⟩
                        go_wp2
                        go_roundw
                        case rel => exact ⟨k + 1, false, by omega, by go_num, rfl, HS.out, HBk.out.trans (hB2.mono HBk.out.size)⟩
                        case measure => simp [intOf]; omega
                      | false =>
                        have hp : pairB C who i k = true := by unfold pairB; rw [h1, h2, h3, h4]; rfl
                        have HS : Hid ((hitB C who i || rowB C who i (k + 1)) = true) := by show _ = _; rw [hrs, ← Bool.or_assoc, hq, hp]; rfl
                        have HX := (show Hid (∀ s : Later wr, Calls Tryd.prog 24 #[.slice (C i).u (C i).n (C i).cap, .slice (C k).u (C k).n (C k).cap] s.val fun e w' => e = .returned (.bool _) ∧ Below s.val.heap.size s.val w') from HX0.out _ h4)
                        clear hrs hq HK HX0 hp h4
                        go_wp2
                        refine wp_region_later (by kernel_rfl) (by kernel_rfl) ?_
                        repeat (go_big_quiet_step ((rename_i t; exact Calls.later (HX.out t))))
                        refine wpQuiet_nil ?_
                        rintro _ ⟨⟨w', hB2⟩, rfl⟩
                        go_wp2
                        go_roundw
                        case rel => exact ⟨k + 1, true, by omega, by go_num, rfl, HS.out, HBk.out.trans (hB2.mono HBk.out.size)⟩
                        case measure => simp [intOf]; omega
            · have hke : k = i := by omega
              have hkn : ¬ ((k : Int) < (i : Int)) := by omega
              have HS : Hid (hitB C who (i + 1) = c') := by show (hitB C who i || rowB C who i i) = c'; rw [← hke, show (hitB C who k || rowB C who k k) = (hitB C who i || rowB C who i k) by rw [hke]]; exact HK.out
              clear hBk hrs
              go_wp2
              go_roundw
              case rel => exact ⟨i + 1, c', by omega, by go_num, rfl, HS, HBk.out⟩
              case measure => simp [intOf]; omega
        · have hie : i = m := by omega
          subst hie
          have HO2 := (show Hid _ from ownsRow_below HO.out HBi.out)
          have HB2 : Hid (Below w.heap.size w wr) := HBq.out.trans (HBi.out.mono HBq.out.size)
          have hln := clL_len C i q
          have hq := HH.out
          have hbs : Hid (w.heap.size ≤ wr.heap.size) := HB2.out.size
          cases c with
          | false =>
            have HS : Hid (clL C i (q + 1) = clL C i q) := by show _ = _; rw [clL, if_neg (by rw [← HWHO.out, hq]; decide)]
            clear hln hq HH
            go_wp2
            go_roundw
            case rel => exact ⟨q + 1, by omega, by rw [HWHO.out]; go_num, by rw [HS.out]; exact HO2.out, HB2.out⟩
            case measure => rw [HWHO.out]; simp [intOf]; omega
          | true =>
            have HS : Hid (clL C i (q + 1) = clL C i q ++ [who]) := by show _ = _; rw [clL, if_pos (by rw [← HWHO.out, hq]), HWHO.out]
            have hc1 : Hid ((clL C i q).length + 1 ≤ maxLen) := by show _ ≤ _; unfold maxLen; omega
            have hc2 : Hid (((clL C i q).length + 1) * 8 ≤ 140737488355328) := by show _ ≤ _; omega
            clear hln hq HH
            go_wp2_with (at_builtin; refine wpList_append_own _ rfl _ _ 29 rfl w.heap.size 2 i0 (.int .i64 0) 1 8 Tryd.underlying29 hi hz0 hz1 hz2 rfl (by decide) _ _ _ rfl (World.ownsRow.alloc HO2.out _) ⟨wr.heap.size, 0, none⟩ 1 1 [.int .i64 who] rfl rfl (World.news_of_block (heap_alloc_new _ _)) (fun u hu => by simp at hu; subst hu; rfl) hc1.out hc2.out (by have := hbs.out; simp; omega) ?_; intro v' w3 hown hgrow _)
            go_roundw
            case rel =>
              refine ⟨q + 1, by omega, by rw [HWHO.out]; go_num, ?_, ?_⟩
              · rw [HS.out, List.length_append, List.map_append, List.map_cons, List.map_nil]
                exact hown
              · refine (HB2.out.alloc HB2.out.size _).grown hgrow (by have := HB2.out.size; simp; omega) (fun x hx => (World.ownsRow.lt HO2.out x hx).1)
            case measure => rw [HWHO.out]; simp [intOf]; omega
    · have hqe : q = 9 := by omega
      subst hqe
      go_wp2
      go_ret
      refine ⟨_, rfl, ?_, HB.out⟩
      rw [HR.out]
      exact HO.out
end Go.Proofs.YtcaacchhmhdbpaaDoor
