/-
  The specification's heads of a dag. No condition but that the slice reads.
-/
import Derived.Test.YtlibipbpaigmdaaGreatDoorSPut
namespace Go.Proofs.YtlibipbpaigmdaaGreatDoor
open Go.RowKit
set_option linter.unusedVariables false

/-- x is among the ups of none of the first m nodes -/
def freeB (D : Nat → Nd) (m : Nat) (x : ByteArray) : Bool := allB (fun t => outB (D t).S (D t).n x) m
theorem freeB_succ (D : Nat → Nd) (m : Nat) (x : ByteArray) : freeB D (m + 1) x = (freeB D m x && outB (D m).S (D m).n x) := allB_succ _ _
/-- the heads among the first k nodes -/
def headsL (D : Nat → Nd) (len k : Nat) : List (List UInt8) := ((List.range k).filter fun i => freeB D len (ids D i)).map fun i => (ids D i).toList
theorem headsL_yes {D : Nat → Nd} {len k : Nat} (h : freeB D len (ids D k) = true) : headsL D len (k + 1) = headsL D len k ++ [(ids D k).toList] := by
  unfold headsL
  rw [List.range_succ, List.filter_append, List.map_append]
  simp [h]
theorem headsL_no {D : Nat → Nd} {len k : Nat} (h : freeB D len (ids D k) = false) : headsL D len (k + 1) = headsL D len k := by
  unfold headsL
  rw [List.range_succ, List.filter_append, List.map_append]
  simp [h]
theorem headsL_len (D : Nat → Nd) (len : Nat) : ∀ k, (headsL D len k).length ≤ k
  | 0 => by simp [headsL]
  | k + 1 => by
    have := headsL_len D len k
    cases h : freeB D len (ids D k) with
    | true => rw [headsL_yes h, List.length_append]; simp; omega
    | false => rw [headsL_no h]; omega
theorem headsL_mem (D : Nat → Nd) (len k : Nat) (x : List UInt8) : x ∈ headsL D len k ↔ ∃ i, i < k ∧ freeB D len (ids D i) = true ∧ (ids D i).toList = x := by
  unfold headsL
  rw [List.mem_map]
  constructor
  · rintro ⟨i, hi, rfl⟩
    rw [List.mem_filter, List.mem_range] at hi
    exact ⟨i, hi.1, hi.2, rfl⟩
  · rintro ⟨i, hi, hf, rfl⟩
    exact ⟨i, by rw [List.mem_filter, List.mem_range]; exact ⟨hi, hf⟩, rfl⟩
theorem headsL_up {D : Nat → Nd} {n : Nat} (hr : riseB (ids D) n = true) (len : Nat) : ∀ k, k ≤ n → Up (headsL D len k)
  | 0, _ => by simp [headsL, Up]
  | k + 1, hk => by
    have ih := headsL_up hr len k (by omega)
    cases h : freeB D len (ids D k) with
    | false => rw [headsL_no h]; exact ih
    | true =>
      rw [headsL_yes h]
      unfold Up
      rw [List.pairwise_append]
      refine ⟨ih, by simp, fun x hx y hy => ?_⟩
      obtain ⟨i, hi, _, rfl⟩ := (headsL_mem D len k x).1 hx
      simp at hy
      subst hy
      obtain ⟨d, rfl⟩ : ∃ d, k = i + d + 1 := ⟨k - i - 1, by omega⟩
      exact rise_less hr i d (by omega)

theorem dag_at {w : World} {a : Option Addr} {len cap : Nat} {D : Nat → Nd} {b off : Nat} (h : IsNds w a len cap D) (ha : a = some ⟨b, off, none⟩) (i : Nat) (hi : i < len) : NdAt w b (off + i * 6) (D i) := by
  obtain ⟨_, _, h3⟩ := h
  obtain ⟨b', off', e, _, hc⟩ := h3 (by omega)
  rw [ha] at e
  simp only [Option.some.injEq, Addr.mk.injEq, and_true] at e
  obtain ⟨rfl, rfl⟩ := e
  exact hc i hi

set_option maxHeartbeats 4000000 in
theorem l6Heads_any (a : Option Addr) (len cap : Nat) (D : Nat → Nd) (w : World) (h : IsNds w a len cap D) (hf : Fine D len) (hl : len ≤ 30) :
    Calls Tryz.prog 119 #[.slice a len cap] w fun e w' => ∃ v, e = .returned v ∧ OwnL w' w.heap.size v (headsL D len len) ∧ Below w.heap.size w w' := by
  have HN : Hid (IsNds w a len cap D) := h
  obtain ⟨hlc, hcm, hc⟩ := h
  obtain ⟨i0, hi, hz0, hz1, hz2⟩ := info_parts info9
  have HA : Hid (∀ v, Below w.heap.size w v → Calls Tryz.prog 84 #[.slice a len cap] v fun e w' => ∃ g gc, e = .returned (.slice g len gc) ∧ IsStrs w' g len gc (fun i => (D i).id) ∧ Below v.heap.size v w') := fun v hB => l6All_any a len cap D v (HN.out.below hB) hf hl
  clear hf
  go_enter Tryz.func119, Tryz.ntmps119
  go_wp2_with (go_at_call 84; refine (HA.out w (Below.refl _ _)).mono ?_; rintro e w1 ⟨g, gc, rfl, hI, hB1⟩)
  have HI : Hid (IsStrs w1 g len gc (ids D)) := hI
  have HB1 : Hid (Below w.heap.size w w1) := hB1
  obtain ⟨hglc, hgcm, _⟩ := hI
  clear HA hB1
  go_loopw [5, 4] (fun i v wr => ∃ (k : Nat) (xs : List Value), k ≤ len ∧ i = .int .i64 k ∧ wr.ownsRow w1.heap.size 9 1 v (headsL D len k).length ((headsL D len k).map encStr) ∧ Below w1.heap.size w1 wr)
    (fun i _ _ => len - (intOf i).toNat)
  case atStart => exact ⟨0, [], Nat.zero_le _, rfl, World.ownsRow_made w1 #[] 0 (Nat.le_refl _) (by decide) rfl, (Below.refl _ _).alloc (Nat.le_refl _) _⟩
  case round =>
    obtain ⟨k, _, hk, rfl, how, hB⟩ := hrel
    have HO := (show Hid _ from how)
    have HB : Hid (Below w1.heap.size w1 wr) := hB
    clear how hB
    by_cases hlt : k < len
    · have hltI : (k : Int) < (len : Int) := by omega
      obtain ⟨b, off, ea, hbs, _⟩ := hc (by omega)
      subst ea
      obtain ⟨gb, goff, eg, hgs, hgc⟩ := HI.out.2.2 (by omega)
      subst eg
      have HG : Hid (∀ v, Below w1.heap.size w1 v → v.cell? ⟨gb, goff + k, none⟩ = some (.string (ids D k))) := fun v hB => (hB.cell (p := ⟨gb, goff + k, none⟩) hgs).trans (hgc k hlt)
      have HD : Hid (∀ v, Below w1.heap.size w1 v → ∀ t, t < len → NdAt v b (off + t * 6) (D t)) := fun v hB t ht => dag_at ((HN.out.below HB1.out).below hB) rfl t ht
      clear hgc hc
      go_wp2
      go_loopw [6, 7] (fun u x wi => ∃ (m : Nat) (c : Bool), m ≤ len ∧ x = .int .i64 m ∧ u = .bool c ∧ Hid (freeB D m (ids D k) = !c) ∧ Below wr.heap.size wr wi)
        (fun _ x _ => len - (intOf x).toNat)
      case atStart => exact ⟨0, false, Nat.zero_le _, rfl, rfl, rfl, Below.refl _ _⟩
      case round =>
        obtain ⟨m, c, hm, rfl, rfl, HF, hBi⟩ := hrel
        have hB2 : Below w1.heap.size w1 wr := HB.out.trans (hBi.mono HB.out.size)
        have HBi := (show Hid _ from hBi)
        clear hBi
        by_cases hmt : m < len
        · have hmI : (m : Int) < (len : Int) := by omega
          have p1 : ∀ s : Later wr, s.val.cell? ⟨gb, goff + k, none⟩ = some (.string (ids D k)) := fun s => HG.out _ (hB2.trans (s.ok.mono hB2.size))
          have q5 : ∀ s : Later wr, s.val.cell? ⟨b, off + m * 6 + 5, none⟩ = some (.slice (D m).u (D m).n (D m).cap) := fun s => (HD.out _ (hB2.trans (s.ok.mono hB2.size)) m hmt).c5
          have HX : ∀ c2 : Bool, outB (D m).S (D m).n (ids D k) = !c2 → Hid (∀ s : Later wr, Calls Tryz.prog 86 #[.slice (D m).u (D m).n (D m).cap, .string (ids D k)] s.val fun e w' => e = .returned (.bool c2) ∧ Below s.val.heap.size s.val w') := fun c2 hc2 s => l1Has_below _ _ _ (D m).S _ _ (HD.out _ (hB2.trans (s.ok.mono hB2.size)) m hmt).i _ (by rw [hc2]; simp)
          have hne := Later.any wr
          have hfs := freeB_succ D m (ids D k)
          clear hB2
          have hq := HF.out
          cases c with
          | true =>
            have HS : Hid (freeB D (m + 1) (ids D k) = false) := by show _ = _; rw [hfs, hq]; rfl
            clear hfs hq HF HX
            go_wp2
            refine wp_region_later (by kernel_rfl) (by kernel_rfl) ?_
            repeat (go_big_quiet_step (fail))
            refine wpQuiet_nil ?_
            rintro _ ⟨⟨w', hB2⟩, rfl⟩
            go_wp2
            go_roundw
            case rel => exact ⟨m + 1, true, by omega, by go_num, rfl, HS.out, HBi.out.trans (hB2.mono HBi.out.size)⟩
            case measure => simp [intOf]; omega
          | false =>
            cases hr : outB (D m).S (D m).n (ids D k) with
            | true =>
              have HS : Hid (freeB D (m + 1) (ids D k) = true) := by show _ = _; rw [hfs, hq, hr]; rfl
              have HY := HX false hr
              clear hfs hq hr HF HX
              go_wp2
              refine wp_region_later (by kernel_rfl) (by kernel_rfl) ?_
              repeat (go_big_quiet_step ((rename_i s; exact Calls.later (HY.out s))))
              refine wpQuiet_nil ?_
              rintro _ ⟨⟨w', hB2⟩, rfl⟩
              go_wp2
              go_roundw
              case rel => exact ⟨m + 1, false, by omega, by go_num, rfl, HS.out, HBi.out.trans (hB2.mono HBi.out.size)⟩
              case measure => simp [intOf]; omega
            | false =>
              have HS : Hid (freeB D (m + 1) (ids D k) = false) := by show _ = _; rw [hfs, hq, hr]; rfl
              have HY := HX true hr
              clear hfs hq hr HF HX
              go_wp2
              refine wp_region_later (by kernel_rfl) (by kernel_rfl) ?_
              repeat (go_big_quiet_step ((rename_i s; exact Calls.later (HY.out s))))
              refine wpQuiet_nil ?_
              rintro _ ⟨⟨w', hB2⟩, rfl⟩
              go_wp2
              go_roundw
              case rel => exact ⟨m + 1, true, by omega, by go_num, rfl, HS.out, HBi.out.trans (hB2.mono HBi.out.size)⟩
              case measure => simp [intOf]; omega
        · have hme : m = len := by omega
          subst hme
          have p1 := HG.out _ hB2
          have HO2 := (show Hid _ from ownsRow_below HO.out HBi.out)
          have HB2 : Hid (Below w1.heap.size w1 wr) := hB2
          have hln := headsL_len D m k
          clear hB2
          have hq := HF.out
          cases c with
          | true =>
            have HS : Hid (headsL D m (k + 1) = headsL D m k) := headsL_no hq
            clear hln hq HF
            go_wp2
            go_roundw
            case rel => exact ⟨k + 1, [], by omega, by go_num, by rw [HS.out]; exact HO2.out, HB2.out⟩
            case measure => simp [intOf]; omega
          | false =>
            have HS : Hid (headsL D m (k + 1) = headsL D m k ++ [(ids D k).toList]) := headsL_yes hq
            have hc1 : Hid ((headsL D m k).length + 1 ≤ maxLen) := by show _ ≤ _; unfold maxLen; omega
            have hc2 : Hid (((headsL D m k).length + 1) * 16 ≤ 140737488355328) := by show _ ≤ _; omega
            have hsz : Hid (w1.heap.size ≤ wr.heap.size) := HB2.out.size
            clear hln hq HF
            go_wp2_with (at_builtin; refine wpList_append_own _ rfl _ _ 25 rfl w1.heap.size 9 i0 (.string ⟨#[]⟩) 1 16 Tryz.underlying25 hi hz0 hz1 hz2 rfl (by decide) _ _ _ rfl (World.ownsRow.alloc HO2.out _) ⟨wr.heap.size, 0, none⟩ 1 1 [.string (ids D k)] rfl rfl (World.news_of_block (heap_alloc_new _ _)) (fun u hu => by simp at hu; subst hu; rfl) hc1.out hc2.out (by have := hsz.out; simp; omega) ?_; intro v' w3 hown hgrow _)
            go_roundw
            case rel =>
              refine ⟨k + 1, [], by omega, by go_num, ?_, ?_⟩
              · rw [HS.out, List.length_append, List.map_append, List.map_cons, List.map_nil, enc_str]
                exact hown
              · refine (HB2.out.alloc HB2.out.size _).grown hgrow (by have := HB2.out.size; simp; omega) (fun x hx => (World.ownsRow.lt HO2.out x hx).1)
            case measure => simp [intOf]; omega
    · have hke : k = len := by omega
      subst hke
      go_wp2
      go_ret
      exact ⟨_, rfl, mono_base HO.out HB1.out.size, HB1.out.trans (HB.out.mono HB1.out.size)⟩

/-- the heads of a dag; none where it is not right -/
def headsR (D : Nat → Nd) (len : Nat) : List (List UInt8) := if dagB D len = true then headsL D len len else []
theorem headsR_len (D : Nat → Nd) (len : Nat) : (headsR D len).length ≤ 1000000 := by
  unfold headsR
  split
  · rename_i h
    have h1 := headsL_len D len len
    unfold dagB at h
    simp only [Bool.and_eq_true, decide_eq_true_eq] at h
    omega
  · simp
theorem dagB_parts {D : Nat → Nd} {len : Nat} (h : dagB D len = true) : len ≤ 30 ∧ (∀ i, i < len → (D i).ok = true) ∧ riseB (ids D) len = true ∧ ∀ i, i < len → hasB (ids D) len (D i).S (D i).n = true := by
  unfold dagB at h
  simp only [Bool.and_eq_true, decide_eq_true_eq] at h
  obtain ⟨h1, h2, h3, h4⟩ := h
  have key : ∀ (p : Nat → Bool) (n : Nat), allB p n = true → ∀ i, i < n → p i = true := fun p n ha i hi => by
    cases hq : p i with
    | true => rfl
    | false => rw [allB_false hi hq] at ha; cases ha
  exact ⟨h1, key _ _ h2, h3, key _ _ h4⟩

set_option maxHeartbeats 1000000 in
theorem specHeadsOf_any (a : Option Addr) (len cap : Nat) (D : Nat → Nd) (w : World) (h : IsNds w a len cap D) (hf : Fine D len) :
    Calls Tryz.prog 52 #[.slice a len cap] w fun e w' => ∃ v, e = .returned v ∧ OwnL w' w.heap.size v (headsR D len) ∧ Below w.heap.size w w' := by
  have HS : Hid (Calls Tryz.prog 46 #[.slice a len cap] w fun e w' => e = .returned (.bool (dagB D len)) ∧ Below w.heap.size w w') := specDagOk_any a len cap D w h hf
  cases hq : dagB D len with
  | false =>
    have HR : Hid (headsR D len = []) := by show _ = _; unfold headsR; rw [if_neg (by rw [hq]; decide)]
    rw [hq] at HS
    go_enter Tryz.func52, Tryz.ntmps52
    go_wp2_with (go_at_call 46; refine HS.out.mono ?_; rintro e w1 ⟨rfl, hB1⟩)
    go_ret
    refine ⟨_, rfl, ?_, hB1.alloc hB1.size _⟩
    rw [HR.out]
    exact World.ownsRow_made w1 #[] 0 hB1.size (by decide) rfl
  | true =>
    have HR : Hid (headsR D len = headsL D len len) := by show _ = _; unfold headsR; rw [if_pos hq]
    have HH : Hid (∀ v, Below w.heap.size w v → Calls Tryz.prog 119 #[.slice a len cap] v fun e w' => ∃ x, e = .returned x ∧ OwnL w' v.heap.size x (headsL D len len) ∧ Below v.heap.size v w') := fun v hB => l6Heads_any a len cap D v (h.below hB) hf (dagB_parts hq).1
    rw [hq] at HS
    clear h hf
    go_enter Tryz.func52, Tryz.ntmps52
    go_wp2_with (first
      | (go_at_call 46; refine HS.out.mono ?_; rintro e w1 ⟨rfl, hB1⟩)
      | (go_at_call 119; refine (HH.out w1 hB1).mono ?_; rintro e w2 ⟨x, rfl, ho, hB2⟩))
    go_ret
    refine ⟨_, rfl, ?_, hB1.trans (hB2.mono hB1.size)⟩
    rw [HR.out]
    exact mono_base ho hB1.size
end Go.Proofs.YtlibipbpaigmdaaGreatDoor
