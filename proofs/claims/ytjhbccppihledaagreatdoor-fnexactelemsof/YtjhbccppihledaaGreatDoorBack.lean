/-
  The specification's ids that stand behind some: the closure as plain data. No condition but that the dag is right and lies.
  Behind: the specification's and the program's list of ids are one. No condition but that the slices read and that the tables lie.
-/
import Derived.Test.YtjhbccppihledaaGreatDoorWay
import Derived.Test.YtjhbccppihledaaGreatDoorLawS
namespace Go.Proofs.YtjhbccppihledaaGreatDoor
open Go.RowKit
set_option linter.unusedVariables false

theorem putL_new (s : List UInt8) : ∀ L : List (List UInt8), s ∉ L → (putL L s).length = L.length + 1
  | [], _ => by simp [putL]
  | x :: l, h => by
    have h1 : s ∉ l := fun hh => h (List.mem_cons_of_mem _ hh)
    have h2 : ¬ x = s := fun e => h (by rw [e]; exact List.mem_cons_self)
    have ih := putL_new s l h1
    unfold putL
    split
    · simp [ih]
    · simp

/-- with each id of L its ups are in L -/
def Closed (D : Nat → Nd) (k : Nat) (L : List (List UInt8)) : Prop := ∀ i, i < k → (ids D i).toList ∈ L → ∀ j, j < (D i).n → ((D i).S j).toList ∈ L
/-- L rises and holds only what is behind T, and all of T that is there -/
structure Beh (D : Nat → Nd) (len : Nat) (T : Nat → ByteArray) (m : Nat) (L : List (List UInt8)) : Prop where
  up : Up L
  no : ∀ x, x ∈ L → Reach D len T m x
  all : ∀ j, j < m → IsId D len (T j).toList → (T j).toList ∈ L
theorem Beh.put {D : Nat → Nd} {len : Nat} {T : Nat → ByteArray} {m : Nat} {L : List (List UInt8)} (h : Beh D len T m L) {s : List UInt8} (hs : Reach D len T m s) : Beh D len T m (putL L s) :=
  ⟨putL_up _ _ h.up, fun x hx => by
    rcases (putL_mem s x L).1 hx with h1 | rfl
    · exact h.no x h1
    · exact hs, fun j hj hid => (putL_mem s _ L).2 (.inl (h.all j hj hid))⟩
theorem Beh.len {D : Nat → Nd} {len : Nat} {T : Nat → ByteArray} {m : Nat} {L : List (List UInt8)} (hq : dagB D len = true) (h : Beh D len T m L) : L.length ≤ len := up_len h.up (fun x hx => (h.no x hx).isId hq)
theorem Beh.done {D : Nat → Nd} {len : Nat} {T : Nat → ByteArray} {m : Nat} {L : List (List UInt8)} (h : Beh D len T m L) (hc : Closed D len L) (x : List UInt8) : x ∈ L ↔ Reach D len T m x := by
  refine ⟨h.no x, fun hx => ?_⟩
  exact hx (fun y => y ∈ L) (fun j i hj hi e => h.all j hj ⟨i, hi, e⟩) (fun i j hi ih hj => hc i hi ih j hj)

theorem l1Has_lit (a : Option Addr) (len cap : Nat) (I : Nat → ByteArray) (id : ByteArray) (w : World) (h : IsStrs w a len cap I) (b : Bool) (hb : outB I len id = !b) :
    Calls Tryz.prog 62 #[.slice a len cap, .string id] w fun e w' => e = .returned (.bool b) ∧ w' = w := by
  refine (l1Has_any a len cap I id w h).mono ?_
  rintro e w' ⟨rfl, rfl⟩
  exact ⟨ret_bool (by rw [hb]; simp), rfl⟩
theorem l6At_lit (a : Option Addr) (len cap : Nat) (I : Nat → ByteArray) (id : ByteArray) (w : World) (h : IsStrs w a len cap I) (b : Bool) (hb : outB I len id = b) :
    Calls Tryz.prog 72 #[.slice a len cap, .string id] w fun e w' => ∃ r : Int, e = .returned (.int .i64 r) ∧ decide (r < 0) = b ∧ w' = w := by
  refine (l6At_any a len cap I id w h).mono ?_
  rintro e w' ⟨r, rfl, h1, rfl⟩
  exact ⟨r, rfl, by rw [h1, hb], rfl⟩

def lenOf : Value → Nat
  | .slice _ n _ => n
  | _ => 0
def boolOf : Value → Nat
  | .bool true => 1
  | _ => 0

set_option maxHeartbeats 4000000 in
theorem l6Behind_any (a : Option Addr) (len cap : Nat) (D : Nat → Nd) (g : Option Addr) (gc : Nat) (u : Option Addr) (m uc : Nat) (T : Nat → ByteArray) (w : World) (hq : dagB D len = true) (h : IsNds w a len cap D) (hg : IsStrs w g len gc (ids D)) (hT : IsStrs w u m uc T) :
    Calls Tryz.prog 55 #[.slice a len cap, .slice g len gc, .slice u m uc] w fun e w' => ∃ go oc L, e = .returned (.slice (some ⟨go, 0, none⟩) L.length oc) ∧ OwnS w' w.heap.size go oc L ∧ Up L ∧ (∀ x, x ∈ L ↔ Reach D len T m x) ∧ Below w.heap.size w w' := by
  have HQ : Hid (dagB D len = true) := hq
  have HN : Hid (IsNds w a len cap D) := h
  have HG : Hid (IsStrs w g len gc (ids D)) := hg
  have HT : Hid (IsStrs w u m uc T) := hT
  have HLE : Hid (len ≤ 30) := (dagB_parts hq).1
  obtain ⟨hlc, hcm, _⟩ := h
  obtain ⟨hglc, hgcm, _⟩ := hg
  obtain ⟨htlc, htcm, _⟩ := hT
  clear hq
  go_enter Tryz.func55, Tryz.ntmps55
  go_wp2
  go_loopw [8, 7] (fun q v wr => ∃ (k g1 c1 : Nat) (L : List (List UInt8)), k ≤ m ∧ q = .int .i64 k ∧ v = .slice (some ⟨g1, 0, none⟩) L.length c1 ∧ OwnS wr w.heap.size g1 c1 L ∧ Hid (Beh D len T k L) ∧ Below w.heap.size w wr) (fun q _ _ => m - (intOf q).toNat)
  case atStart => exact ⟨0, w.heap.size, 0, [], Nat.zero_le _, rfl, rfl, World.ownsRow_made w #[] 0 (Nat.le_refl _) (by decide) rfl, ⟨by simp [Up], fun x hx => by simp at hx, fun j hj => absurd hj (Nat.not_lt_zero _)⟩, (Below.refl _ _).alloc (Nat.le_refl _) _⟩
  case round =>
    obtain ⟨k, g1, c1, L, hk, rfl, rfl, ho, HB, hB⟩ := hrel
    have HO : Hid (OwnS wr w.heap.size g1 c1 L) := ho
    have HBW : Hid (Below w.heap.size w wr) := hB
    have HLL : Hid (L.length ≤ 1000000) := by
      have h1 := HB.out.len HQ.out
      have h2 := HLE.out
      show _ ≤ _
      omega
    have hcap := ho.caps
    have HGr : Hid (IsStrs wr g len gc (ids D)) := HG.out.below hB
    have HTr : Hid (IsStrs wr u m uc T) := HT.out.below hB
    clear ho
    by_cases hkt : k < m
    · have hkI : (k : Int) < (m : Int) := by omega
      obtain ⟨ub, uo, hu, hubs, hucell⟩ := HTr.out.2.2 (by omega)
      have d1 := hucell k hkt
      subst hu
      clear hucell hB
      cases hx : outB (ids D) len (T k) with
      | true =>
        have HA : Hid (Calls Tryz.prog 72 #[.slice g len gc, .string (T k)] wr fun e w' => ∃ r : Int, e = .returned (.int .i64 r) ∧ decide (r < 0) = true ∧ w' = wr) := l6At_lit _ _ _ _ _ _ HGr.out _ hx
        have HB' : Hid (Beh D len T (k + 1) L) := ⟨HB.out.up, fun x h => (HB.out.no x h).mono (by omega), fun j hj hid => by
          rcases Nat.lt_succ_iff_lt_or_eq.1 hj with h1 | rfl
          · exact HB.out.all j h1 hid
          · obtain ⟨i, hi, e⟩ := hid
            have := (outB_iff (ids D) (T j) len).2 ⟨i, hi, e⟩
            rw [hx] at this
            cases this⟩
        clear hx HB
        go_wp2_with fail
        refine HA.out.mono ?_
        rintro e w1 ⟨r, rfl, hr, hw⟩
        rw [hw]
        clear hw w1
        have hr1 : r < 0 := by simpa using hr
        have hr2 : decide ((0 : Int) ≤ r) = false := by simp; omega
        go_wp2
        go_roundw
        case rel => exact ⟨k + 1, g1, c1, L, by omega, by go_num, rfl, HO.out, HB', HBW.out⟩
        case measure => simp [intOf]; omega
      | false =>
        have HA : Hid (Calls Tryz.prog 72 #[.slice g len gc, .string (T k)] wr fun e w' => ∃ r : Int, e = .returned (.int .i64 r) ∧ decide (r < 0) = false ∧ w' = wr) := l6At_lit _ _ _ _ _ _ HGr.out _ hx
        have HP : Hid (Calls Tryz.prog 52 #[.slice (some ⟨g1, 0, none⟩) L.length c1, .string (T k)] wr fun e w' => ∃ g' gc', e = .returned (.slice (some ⟨g', 0, none⟩) (putL L (T k).toList).length gc') ∧ OwnS w' wr.heap.size g' gc' (putL L (T k).toList) ∧ Below wr.heap.size wr w') := l1Put_any g1 0 c1 L (T k) wr HO.out.lies.1 HO.out.lies.2.1 HO.out.caps.1 HO.out.caps.2 HLL.out
        have HB' : Hid (Beh D len T (k + 1) (putL L (T k).toList)) := by
          obtain ⟨i, hi, e⟩ := (outB_iff (ids D) (T k) len).1 hx
          refine ⟨putL_up _ _ HB.out.up, fun x h => ?_, fun j hj hid => ?_⟩
          · rcases (putL_mem _ x L).1 h with h1 | rfl
            · exact (HB.out.no x h1).mono (by omega)
            · exact .base k i (Nat.lt_succ_self _) hi e
          · rcases Nat.lt_succ_iff_lt_or_eq.1 hj with h1 | rfl
            · exact (putL_mem _ _ L).2 (.inl (HB.out.all j h1 hid))
            · exact (putL_mem _ _ L).2 (.inr rfl)
        clear hx HB
        go_wp2_with fail
        refine HA.out.mono ?_
        rintro e w1 ⟨r, rfl, hr, hw⟩
        rw [hw]
        clear hw w1
        have hr1 : ¬ r < 0 := by simpa using hr
        have hr2 : (0 : Int) ≤ r := by omega
        clear hr1 hr
        go_wp2_with fail
        refine HP.out.mono ?_
        rintro e w2 ⟨g', gc', rfl, ho2, hB2⟩
        have HF : Hid (OwnS w2 w.heap.size g' gc' (putL L (T k).toList) ∧ Below w.heap.size w w2) := ⟨mono_base ho2 HBW.out.size, HBW.out.trans (hB2.mono HBW.out.size)⟩
        clear ho2 hB2
        go_wp2
        go_roundw
        case rel => exact ⟨k + 1, g', gc', _, by omega, by go_num, rfl, HF.out.1, HB', HF.out.2⟩
        case measure => simp [intOf]; omega
    · have hke : k = m := by omega
      subst hke
      clear hB hkt
      go_wp2
      go_loopw [9, 7] (fun mo v wr => ∃ (c : Bool) (g1 c1 : Nat) (L : List (List UInt8)), mo = .bool c ∧ v = .slice (some ⟨g1, 0, none⟩) L.length c1 ∧ OwnS wr w.heap.size g1 c1 L ∧ Hid (Beh D len T k L) ∧ Hid (c = false → Closed D len L) ∧ Below w.heap.size w wr) (fun mo v _ => 2 * (len - lenOf v) + boolOf mo)
      case atStart => exact ⟨true, g1, c1, L, rfl, rfl, HO.out, HB.out, (fun h => by cases h), HBW.out⟩
      case round =>
        clear HO HB HBW HLL hcap HGr HTr
        obtain ⟨c, g0, c0, L0, rfl, rfl, ho, HB0, HCL, hB⟩ := hrel
        have HO0 := (show Hid _ from ho)
        have HBW0 := (show Hid _ from hB)
        clear ho hB
        cases c with
        | false =>
          go_wp2
          go_ret
          exact ⟨g0, c0, L0, rfl, HO0.out, HB0.out.up, HB0.out.done (HCL.out (by trivial)), HBW0.out⟩
        | true =>
          clear HCL
          go_wp2
          go_loopw [9, 7, 10] (fun mo v q wr => ∃ (c : Bool) (g1 c1 : Nat) (L : List (List UInt8)) (i : Nat), mo = .bool c ∧ v = .slice (some ⟨g1, 0, none⟩) L.length c1 ∧ q = .int .i64 i ∧ i ≤ len ∧ OwnS wr w.heap.size g1 c1 L ∧ Hid (Beh D len T k L) ∧ Hid (c = false → L = L0 ∧ Closed D i L) ∧ Hid (c = true → L0.length < L.length) ∧ Below w.heap.size w wr) (fun _ _ q _ => len - (intOf q).toNat)
          case atStart => exact ⟨false, g0, c0, L0, 0, rfl, rfl, rfl, Nat.zero_le _, HO0.out, HB0.out, (fun _ => ⟨rfl, fun i hi => absurd hi (Nat.not_lt_zero _)⟩), (fun h => by cases h), HBW0.out⟩
          case round =>
            obtain ⟨c, g1, c1, L, i, rfl, rfl, rfl, hi, ho, HB1, HCF, HCT, hB⟩ := hrel
            have HO1 := (show Hid _ from ho)
            have HBW1 := (show Hid _ from hB)
            clear ho hB
            by_cases hit : i < len
            · have hiI : (i : Int) < (len : Int) := by omega
              go_wp2
              go_loopw [9, 7, 11] (fun mo v q wr => ∃ (c : Bool) (g1 c1 : Nat) (L : List (List UInt8)) (t : Nat), mo = .bool c ∧ v = .slice (some ⟨g1, 0, none⟩) L.length c1 ∧ q = .int .i64 t ∧ t ≤ (D i).n ∧ OwnS wr w.heap.size g1 c1 L ∧ Hid (Beh D len T k L) ∧ Hid (c = false → L = L0 ∧ Closed D i L) ∧ Hid (∀ j, j < t → ((D i).S j).toList ∈ L) ∧ Hid (c = true → L0.length < L.length) ∧ Below w.heap.size w wr) (fun _ _ q _ => (D i).n - (intOf q).toNat)
              case atStart => exact ⟨c, g1, c1, L, 0, rfl, rfl, rfl, Nat.zero_le _, HO1.out, HB1.out, HCF.out, (fun j hj => absurd hj (Nat.not_lt_zero _)), HCT.out, HBW1.out⟩
              case round =>
                clear HO1 HB1 HCF HCT HBW1
                obtain ⟨c, g1, c1, L, t, rfl, rfl, rfl, ht, ho, HB1, HCF, HU, HCT, hB⟩ := hrel
                have HO1 : Hid (OwnS wr w.heap.size g1 c1 L) := ho
                have HBW1 : Hid (Below w.heap.size w wr) := hB
                have hcap := ho.caps
                have HLL : Hid (L.length ≤ 1000000) := by
                  have h1 := HB1.out.len HQ.out
                  have h2 := HLE.out
                  show _ ≤ _
                  omega
                obtain ⟨gb, goff, hge, hgs, hgcell⟩ := (HG.out.below hB).2.2 (by omega)
                have p1 := hgcell i hit
                subst hge
                obtain ⟨b, off, ea, hbs, _⟩ := HN.out.2.2 (by omega)
                subst ea
                have nd := dag_at (HN.out.below hB) rfl i hit
                have c5 := nd.c5
                have hu1 := nd.i.1
                have hu2 := nd.i.2.1
                have HUI : Hid (IsStrs wr (D i).u (D i).n (D i).cap (D i).S) := nd.i
                clear ho hgcell nd hB
                cases hx : outB (atL L) L.length (ids D i) with
                | true =>
                  have HA : Hid (Calls Tryz.prog 62 #[.slice (some ⟨g1, 0, none⟩) L.length c1, .string (ids D i)] wr fun e w' => e = .returned (.bool false) ∧ w' = wr) := l1Has_lit _ _ _ _ _ _ HO1.out.strs false hx
                  have hni : ¬ (ids D i).toList ∈ L := fun hm => by
                    have := (out_mem L (ids D i)).2 hm
                    rw [hx] at this
                    cases this
                  have HCF' : Hid (c = false → L = L0 ∧ Closed D (i + 1) L) := fun hc => ⟨(HCF.out hc).1, fun i' hi' hm j hj => by
                    rcases Nat.lt_succ_iff_lt_or_eq.1 hi' with h1 | rfl
                    · exact (HCF.out hc).2 i' h1 hm j hj
                    · exact absurd hm hni⟩
                  clear hx hni HCF
                  go_wp2_with fail
                  refine HA.out.mono ?_
                  rintro e w1 ⟨rfl, hw⟩
                  rw [hw]
                  clear hw w1
                  go_wp2
                  go_roundw
                  case rel => exact ⟨c, g1, c1, L, i + 1, rfl, rfl, by go_num, by omega, HO1.out, HB1.out, HCF'.out, HCT.out, HBW1.out⟩
                  case measure => simp [intOf]; omega
                | false =>
                  have HA : Hid (Calls Tryz.prog 62 #[.slice (some ⟨g1, 0, none⟩) L.length c1, .string (ids D i)] wr fun e w' => e = .returned (.bool true) ∧ w' = wr) := l1Has_lit _ _ _ _ _ _ HO1.out.strs true hx
                  have HMI : Hid ((ids D i).toList ∈ L) := (out_mem L (ids D i)).1 hx
                  clear hx
                  go_wp2_with fail
                  refine HA.out.mono ?_
                  rintro e w1 ⟨rfl, hw⟩
                  rw [hw]
                  clear hw w1
                  by_cases htt : t < (D i).n
                  · have htI : (t : Int) < ((D i).n : Int) := by omega
                    obtain ⟨ub, uo, hu, hubs, hucell⟩ := HUI.out.2.2 (by omega)
                    have d1 := hucell t htt
                    rw [hu] at c5
                    clear hucell
                    cases hy : outB (atL L) L.length ((D i).S t) with
                    | false =>
                      have HC : Hid (Calls Tryz.prog 62 #[.slice (some ⟨g1, 0, none⟩) L.length c1, .string ((D i).S t)] wr fun e w' => e = .returned (.bool true) ∧ w' = wr) := l1Has_lit _ _ _ _ _ _ HO1.out.strs true hy
                      have HU' : Hid (∀ j, j < t + 1 → ((D i).S j).toList ∈ L) := by
                        intro j hj
                        rcases Nat.lt_succ_iff_lt_or_eq.1 hj with h1 | rfl
                        · exact HU.out j h1
                        · exact (out_mem L _).1 hy
                      clear hy HU
                      go_wp2_with fail
                      refine HC.out.mono ?_
                      rintro e w1 ⟨rfl, hw⟩
                      rw [hw]
                      clear hw w1
                      go_wp2
                      go_roundw
                      case rel => exact ⟨c, g1, c1, L, t + 1, rfl, rfl, by go_num, by omega, HO1.out, HB1.out, HCF.out, HU'.out, HCT.out, HBW1.out⟩
                      case measure => simp [intOf]; omega
                    | true =>
                      have HC : Hid (Calls Tryz.prog 62 #[.slice (some ⟨g1, 0, none⟩) L.length c1, .string ((D i).S t)] wr fun e w' => e = .returned (.bool false) ∧ w' = wr) := l1Has_lit _ _ _ _ _ _ HO1.out.strs false hy
                      have HP : Hid (Calls Tryz.prog 52 #[.slice (some ⟨g1, 0, none⟩) L.length c1, .string ((D i).S t)] wr fun e w' => ∃ g' gc', e = .returned (.slice (some ⟨g', 0, none⟩) (putL L ((D i).S t).toList).length gc') ∧ OwnS w' wr.heap.size g' gc' (putL L ((D i).S t).toList) ∧ Below wr.heap.size wr w') := l1Put_any g1 0 c1 L ((D i).S t) wr HO1.out.lies.1 HO1.out.lies.2.1 HO1.out.caps.1 HO1.out.caps.2 HLL.out
                      have hno : ((D i).S t).toList ∉ L := fun hm => by
                        have := (out_mem L ((D i).S t)).2 hm
                        rw [hy] at this
                        cases this
                      have HR : Hid (Beh D len T k (putL L ((D i).S t).toList)) := HB1.out.put (.step i t hit (HB1.out.no _ HMI.out) htt)
                      have HT' : Hid (L0.length < (putL L ((D i).S t).toList).length) := by
                        show _ < _
                        rw [putL_new _ _ hno]
                        cases c with
                        | true => have := HCT.out rfl; omega
                        | false => rw [(HCF.out rfl).1]; omega
                      have HU' : Hid (∀ j, j < t + 1 → ((D i).S j).toList ∈ putL L ((D i).S t).toList) := by
                        intro j hj
                        rcases Nat.lt_succ_iff_lt_or_eq.1 hj with h1 | rfl
                        · exact (putL_mem _ _ L).2 (.inl (HU.out j h1))
                        · exact (putL_mem _ _ L).2 (.inr rfl)
                      clear hy hno HU HCF HCT
                      go_wp2_with fail
                      refine HC.out.mono ?_
                      rintro e w1 ⟨rfl, hw⟩
                      rw [hw]
                      clear hw w1
                      go_wp2_with fail
                      refine HP.out.mono ?_
                      rintro e w2 ⟨g', gc', rfl, ho2, hB2⟩
                      have HF : Hid (OwnS w2 w.heap.size g' gc' (putL L ((D i).S t).toList) ∧ Below w.heap.size w w2) := ⟨mono_base ho2 HBW1.out.size, HBW1.out.trans (hB2.mono HBW1.out.size)⟩
                      clear ho2 hB2
                      go_wp2
                      go_roundw
                      case rel => exact ⟨true, g', gc', _, t + 1, rfl, rfl, by go_num, by omega, HF.out.1, HR.out, (fun h => by cases h), HU'.out, (fun _ => HT'.out), HF.out.2⟩
                      case measure => simp [intOf]; omega
                  · have hte : t = (D i).n := by omega
                    have HCF' : Hid (c = false → L = L0 ∧ Closed D (i + 1) L) := fun hc => ⟨(HCF.out hc).1, fun i' hi' hm j hj => by
                      rcases Nat.lt_succ_iff_lt_or_eq.1 hi' with h1 | rfl
                      · exact (HCF.out hc).2 i' h1 hm j hj
                      · exact HU.out j (by omega)⟩
                    have htI : ¬ ((t : Int) < ((D i).n : Int)) := by omega
                    clear htt hte HCF ht
                    go_wp2
                    go_roundw
                    case rel => exact ⟨c, g1, c1, L, i + 1, rfl, rfl, by go_num, by omega, HO1.out, HB1.out, HCF'.out, HCT.out, HBW1.out⟩
                    case measure => simp [intOf]; omega
            · have hie : i = len := by omega
              subst hie
              clear hit
              go_wp2
              go_roundw
              case rel => exact ⟨c, g1, c1, L, rfl, rfl, HO1.out, HB1.out, (fun hc => (HCF.out hc).2), HBW1.out⟩
              case measure =>
                have h1 := HB1.out.len HQ.out
                cases c with
                | true =>
                  have := HCT.out rfl
                  simp [lenOf, boolOf]
                  omega
                | false =>
                  rw [(HCF.out rfl).1]
                  simp [lenOf, boolOf]
end Go.Proofs.YtjhbccppihledaaGreatDoor

namespace Go.Proofs.YtjhbccppihledaaGreatDoor
open Go.RowKit Go.Maps
set_option linter.unusedVariables false

set_option maxHeartbeats 1000000 in
theorem szNodeS_top (a : Option Addr) (len cap : Nat) (D : Nat → Nd) (w : World) (h : IsNds w a len cap D) (hF : Fine D len) :
    Calls Tryz.prog 10 #[.slice a len cap, .int .i64 1048576] w fun e w' => ∃ r : Int, e = .returned (.int .i64 r) ∧ (r < 0 ∨ (0 ≤ r ∧ r ≤ 1048576 ∧ len ≤ 1048576 ∧ ∀ i, i < len → (D i).n ≤ 1048576)) ∧ Below w.heap.size w w' := by
  obtain ⟨hlc, hcm, hc⟩ := h
  by_cases hneg : (1048576 : Int) - (len : Int) < 0
  · go_enter Tryz.func10, Tryz.ntmps10
    go_wp2
    go_ret
    exact ⟨_, rfl, .inl (by decide), Below.refl _ _⟩
  have hlen : len ≤ 1048576 := by omega
  go_enter Tryz.func10, Tryz.ntmps10
  go_wp2
  go_loopw [1, 5] (fun x i wr => ∃ (k : Nat) (r : Int), k ≤ len ∧ i = .int .i64 k ∧ x = .int .i64 r ∧ 0 ≤ r ∧ r ≤ 1048576 ∧ Hid (∀ j, j < k → (D j).n ≤ 1048576) ∧ Below w.heap.size w wr) (fun _ i _ => len - (intOf i).toNat)
  case atStart => exact ⟨0, _, Nat.zero_le _, rfl, rfl, by omega, by omega, fun j hj => absurd hj (Nat.not_lt_zero _), Below.refl _ _⟩
  case round =>
    obtain ⟨k, r, hk, rfl, rfl, hr0, hr1, HA, hB⟩ := hrel
    by_cases hlt : k < len
    · obtain ⟨b, off, rfl, hbs, hcell⟩ := hc (by omega)
      obtain ⟨c0, c1, c2, c3, c4, c5, ci⟩ : NdAt wr b (off + k * 6) (D k) := by
        have := hcell k hlt
        refine ⟨(hB.cell (p := ⟨b, _, none⟩) hbs).trans this.c0, (hB.cell (p := ⟨b, _, none⟩) hbs).trans this.c1, (hB.cell (p := ⟨b, _, none⟩) hbs).trans this.c2, (hB.cell (p := ⟨b, _, none⟩) hbs).trans this.c3, (hB.cell (p := ⟨b, _, none⟩) hbs).trans this.c4, (hB.cell (p := ⟨b, _, none⟩) hbs).trans this.c5, this.i.below hB⟩
      have hltI : (k : Int) < (len : Int) := by omega
      have hf := hF k hlt
      have HI : Hid (IsStrs wr (D k).u (D k).n (D k).cap (D k).S) := ci
      clear hcell hc ci hF
      go_wp2_with fail
      refine (szNode2 _ _ _ _ _ _ _ _ (D k).S _ HI.out hf.2.2 hf.1 hf.2.1 r hr0 hr1).mono ?_
      rintro e w1 ⟨r1, rfl, hq, hB1⟩
      have HB1 : Hid (Below w.heap.size w w1) := hB.trans (hB1.mono hB.size)
      clear hB1
      rcases hq with hq | ⟨hq0, hq1, _, _, hq2, _⟩
      · go_wp2
        go_ret
        exact ⟨_, rfl, .inl (by decide), HB1.out⟩
      · have HA' : Hid (∀ j, j < k + 1 → (D j).n ≤ 1048576) := by
          intro j hj
          rcases Nat.lt_succ_iff_lt_or_eq.1 hj with h1 | rfl
          · exact HA.out j h1
          · exact hq2
        go_wp2
        go_roundw
        case rel => exact ⟨k + 1, _, by omega, by go_num, rfl, by omega, by omega, HA', HB1.out⟩
        case measure => simp [intOf]; omega
    · have hke : k = len := by omega
      subst hke
      go_wp2
      go_ret
      exact ⟨_, rfl, .inr ⟨hr0, hr1, hlen, HA.out⟩, hB⟩

/-- lo gives the rising list of all texts for which M holds, where there is one, else none -/
def IsLo (lo : (List UInt8 → Prop) → List (List UInt8)) : Prop := ∀ M : List UInt8 → Prop, (∀ L, Up L → (∀ x, x ∈ L ↔ M x) → L = lo M) ∧ ((¬ ∃ L, Up L ∧ ∀ x, x ∈ L ↔ M x) → lo M = [])
open Classical in
theorem isLo_ex : ∃ lo, IsLo lo := by
  refine ⟨fun M => if h : ∃ L, Up L ∧ ∀ x, x ∈ L ↔ M x then h.choose else [], fun M => ⟨fun L hU hM => ?_, fun h => dif_neg h⟩⟩
  have h : ∃ L, Up L ∧ ∀ x, x ∈ L ↔ M x := ⟨L, hU, hM⟩
  show L = dite _ _ _
  rw [dif_pos h]
  exact up_unique hU h.choose_spec.1 (fun x => by rw [hM x, h.choose_spec.2 x])
theorem listOf_is {lo : (List UInt8 → Prop) → List (List UInt8)} (hlo : IsLo lo) {M : List UInt8 → Prop} {L : List (List UInt8)} (hU : Up L) (hM : ∀ x, x ∈ L ↔ M x) : L = lo M := (hlo M).1 L hU hM
theorem listOf_len {lo : (List UInt8 → Prop) → List (List UInt8)} (hlo : IsLo lo) {M : List UInt8 → Prop} {n : Nat} (l : List (List UInt8)) (hl : l.length ≤ n) (hs : ∀ x, M x → x ∈ l) : (lo M).length ≤ n := by
  by_cases h : ∃ L, Up L ∧ ∀ x, x ∈ L ↔ M x
  · obtain ⟨L, hU, hM⟩ := h
    rw [← listOf_is hlo hU hM]
    have := len_le L l hU.nodup (fun x hx => hs x ((hM x).1 hx))
    omega
  · rw [(hlo M).2 h]; simp
theorem listOf_congr {lo : (List UInt8 → Prop) → List (List UInt8)} {M M' : List UInt8 → Prop} (h : ∀ x, M x ↔ M' x) : lo M = lo M' := by
  have : M = M' := funext fun x => propext (h x)
  rw [this]

def behR (lo : (List UInt8 → Prop) → List (List UInt8)) (D : Nat → Nd) (len : Nat) (T : Nat → ByteArray) (m : Nat) : List (List UInt8) := lo fun x => dagB D len = true ∧ m ≤ 30 ∧ Reach D len T m x
theorem behR_len {lo : (List UInt8 → Prop) → List (List UInt8)} (hlo : IsLo lo) (D : Nat → Nd) (len : Nat) (T : Nat → ByteArray) (m : Nat) : (behR lo D len T m).length ≤ 1000000 := by
  by_cases hq : dagB D len = true
  · exact listOf_len hlo (idsL D len) (by rw [idsL_len]; have := (dagB_parts hq).1; omega) (fun x hx => (idsL_mem D len x).2 (hx.2.2.isId hq))
  · exact listOf_len hlo [] (by simp) (fun x hx => absurd hx.1 hq)
theorem reach_at (D : Nat → Nd) (G : Nat → Nat) (len : Nat) (T : Nat → ByteArray) (m : Nat) (x : List UInt8) : Reach (fun i => (D i).at (G i)) len T m x ↔ Reach D len T m x := by
  constructor
  · intro h
    exact h (Reach D len T m) (fun j i hj hi e => .base j i hj hi e) (fun i j hi ih hj => .step i j hi ih hj)
  · intro h
    exact h (Reach (fun i => (D i).at (G i)) len T m) (fun j i hj hi e => .base (D := fun i => (D i).at (G i)) j i hj hi e) (fun i j hi ih hj => .step (D := fun i => (D i).at (G i)) i j hi ih hj)
theorem behR_at (lo : (List UInt8 → Prop) → List (List UInt8)) (D : Nat → Nd) (G : Nat → Nat) (len : Nat) (T : Nat → ByteArray) (m : Nat) : behR lo (fun i => (D i).at (G i)) len T m = behR lo D len T m := by
  unfold behR
  exact listOf_congr (fun x => by rw [reach_at]; rfl)

theorem implBehind_R (lo : (List UInt8 → Prop) → List (List UInt8)) (hlo : IsLo lo) (a : Option Addr) (len cap : Nat) (D : Nat → Nd) (u : Option Addr) (m uc : Nat) (T : Nat → ByteArray) (w : World) (h : IsNds w a len cap D) (hf : Fine D len) (hT : IsStrs w u m uc T) (hTs : ∀ j, j < m → (T j).size ≤ 9223372036854775807) (hP : AllT w) :
    Calls Tryz.prog 26 #[.slice a len cap, .slice u m uc] w fun e w' => ∃ v, e = .returned v ∧ OwnL w' w.heap.size v (behR lo D len T m) ∧ Below w.heap.size w w' := by
  refine (implBehind_any a len cap D u m uc T w h hf hT hTs hP).mono ?_
  rintro e w' ⟨v, L, rfl, ho, hU, hM, hB⟩
  exact ⟨v, rfl, by unfold behR; rw [← listOf_is hlo hU hM]; exact ho, hB⟩

set_option maxHeartbeats 1000000 in
theorem specBehind_R (lo : (List UInt8 → Prop) → List (List UInt8)) (hlo : IsLo lo) (a : Option Addr) (len cap : Nat) (D : Nat → Nd) (u : Option Addr) (m uc : Nat) (T : Nat → ByteArray) (w : World) (h : IsNds w a len cap D) (hf : Fine D len) (hT : IsStrs w u m uc T) :
    Calls Tryz.prog 24 #[.slice a len cap, .slice u m uc] w fun e w' => ∃ v, e = .returned v ∧ OwnL w' w.heap.size v (behR lo D len T m) ∧ Below w.heap.size w w' := by
  have HN : Hid (IsNds w a len cap D) := h
  have HF : Hid (Fine D len) := hf
  have HT : Hid (IsStrs w u m uc T) := hT
  obtain ⟨hlc, hcm, _⟩ := hT
  have HS : Hid (Calls Tryz.prog 11 #[.slice a len cap] w fun e w' => e = .returned (.bool (dagB D len)) ∧ Below w.heap.size w w') := specDagOk_any a len cap D w h hf
  clear h hf
  cases hq : dagB D len with
  | false =>
    have HR : Hid (behR lo D len T m = []) := (listOf_is hlo (M := fun x => dagB D len = true ∧ m ≤ 30 ∧ Reach D len T m x) (L := []) (by simp [Up]) (fun x => by simp [hq])).symm
    rw [hq] at HS
    go_enter Tryz.func24, Tryz.ntmps24
    go_wp2_with (go_at_call 11; refine HS.out.mono ?_; rintro e w1 ⟨rfl, hB1⟩)
    go_ret
    refine ⟨_, rfl, ?_, hB1.alloc hB1.size _⟩
    rw [HR.out]
    exact World.ownsRow_made w1 #[] 0 hB1.size (by decide) rfl
  | true =>
    have HQ : Hid (dagB D len = true) := hq
    rw [hq] at HS
    by_cases hm : 30 < m
    · have hmI : (30 : Int) < (m : Int) := by omega
      have HR : Hid (behR lo D len T m = []) := (listOf_is hlo (M := fun x => dagB D len = true ∧ m ≤ 30 ∧ Reach D len T m x) (L := []) (by simp [Up]) (fun x => by simp; omega)).symm
      clear hm
      go_enter Tryz.func24, Tryz.ntmps24
      go_wp2_with (go_at_call 11; refine HS.out.mono ?_; rintro e w1 ⟨rfl, hB1⟩)
      go_ret
      refine ⟨_, rfl, ?_, hB1.alloc hB1.size _⟩
      rw [HR.out]
      exact World.ownsRow_made w1 #[] 0 hB1.size (by decide) rfl
    · have hmI : decide ((30 : Int) < (m : Int)) = false := by simp; omega
      have HM : Hid (m ≤ 30) := by show _ ≤ _; omega
      clear hm
      go_enter Tryz.func24, Tryz.ntmps24
      go_wp2_with (first
        | (go_at_call 11
           refine HS.out.mono ?_
           rintro e w1 ⟨rfl, hB1⟩
           have HB1 : Hid (Below w.heap.size w w1) := hB1
           have HA : Hid (Calls Tryz.prog 42 #[.slice a len cap] w1 fun e w' => ∃ g gc, e = .returned (.slice g len gc) ∧ IsStrs w' g len gc (fun i => (D i).id) ∧ Below w1.heap.size w1 w') := l6All_any a len cap D w1 (HN.out.below hB1) HF.out (dagB_parts HQ.out).1
           clear hB1)
        | (go_at_call 42
           refine HA.out.mono ?_
           rintro e w2 ⟨g, gc, rfl, hI, hB2⟩
           have HB2 : Hid (Below w.heap.size w w2) := HB1.out.trans (hB2.mono HB1.out.size)
           have HK : Hid (Calls Tryz.prog 55 #[.slice a len cap, .slice g len gc, .slice u m uc] w2 fun e w' => ∃ go oc L, e = .returned (.slice (some ⟨go, 0, none⟩) L.length oc) ∧ OwnS w' w2.heap.size go oc L ∧ Up L ∧ (∀ x, x ∈ L ↔ Reach D len T m x) ∧ Below w2.heap.size w2 w') := l6Behind_any a len cap D g gc u m uc T w2 HQ.out (HN.out.below HB2.out) hI (HT.out.below HB2.out)
           clear hI hB2)
        | (go_at_call 55
           refine HK.out.mono ?_
           rintro e w3 ⟨go, oc, L, rfl, ho, hU, hM, hB3⟩))
      go_ret
      refine ⟨_, rfl, ?_, HB2.out.trans (hB3.mono HB2.out.size)⟩
      have e1 : L = behR lo D len T m := listOf_is hlo hU (fun x => by rw [hM x]; simp [HQ.out, HM.out])
      rw [← e1]
      exact mono_base ho HB2.out.size
end Go.Proofs.YtjhbccppihledaaGreatDoor
