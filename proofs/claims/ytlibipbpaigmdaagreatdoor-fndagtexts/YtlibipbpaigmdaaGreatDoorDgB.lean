/-
  What stands behind some ids: a closure, as plain data; sets of texts that hold ids alone. No condition.
  The specification's ids that stand behind some: the closure as plain data. No condition but that the dag is right and lies.
  The program's closure that goes through a dag. No condition but that the dag is right and lies.
  The program's ids that stand behind some: the closure as plain data. No condition but that the dag is right and lies.
  Copies of dags that the call owns, and marks written into them. No condition but that the slices read.
  Marks written into a dag that the call owns. No condition but that the dag is not too long.
  Small laws for the laws over a dag that answer texts. No condition.
  Behind: the specification's and the program's list of ids are one. No condition but that the slices read and that the tables lie.
-/
import Derived.Test.YtlibipbpaigmdaaGreatDoorDgA
import Derived.Deep.RegionWith
import Derived.Laws.EntriesVeiled
import Derived.Test.YtlibipbpaigmdaaGreatDoorDag2
namespace Go.Proofs.YtlibipbpaigmdaaGreatDoor
open Go.RowKit Go.Maps
set_option linter.unusedVariables false

/-- those of the first m of T that are ids of the dag, and all that they stand behind: what lies in every set that has the former and with each node its ups -/
def Reach (D : Nat → Nd) (len : Nat) (T : Nat → ByteArray) (m : Nat) (x : List UInt8) : Prop :=
  ∀ Q : List UInt8 → Prop, (∀ j i, j < m → i < len → (ids D i).toList = (T j).toList → Q (T j).toList) → (∀ i j, i < len → Q (ids D i).toList → j < (D i).n → Q ((D i).S j).toList) → Q x
theorem Reach.base {D : Nat → Nd} {len : Nat} {T : Nat → ByteArray} {m : Nat} (j i : Nat) (hj : j < m) (hi : i < len) (e : (ids D i).toList = (T j).toList) : Reach D len T m (T j).toList := fun Q hb _ => hb j i hj hi e
theorem Reach.step {D : Nat → Nd} {len : Nat} {T : Nat → ByteArray} {m : Nat} (i j : Nat) (hi : i < len) (h : Reach D len T m (ids D i).toList) (hj : j < (D i).n) : Reach D len T m ((D i).S j).toList := fun Q hb hs => hs i j hi (h Q hb hs) hj

theorem Reach.more {D : Nat → Nd} {len : Nat} {T : Nat → ByteArray} {m i : Nat} (hi : i < len) (h : Reach D len T m (ids D i).toList) {x : List UInt8} (hx : Reach D len (D i).S (D i).n x) : Reach D len T m x :=
  hx (Reach D len T m) (fun j i' hj hi' e => .step i j hi h hj) (fun i' j hi' ih hj => .step i' j hi' ih hj)
theorem Reach.mono {D : Nat → Nd} {len : Nat} {T : Nat → ByteArray} {m m' : Nat} (hm : m ≤ m') {x : List UInt8} (hx : Reach D len T m x) : Reach D len T m' x :=
  hx (Reach D len T m') (fun j i' hj hi' e => .base j i' (by omega) hi' e) (fun i' j hi' ih hj => .step i' j hi' ih hj)

/-- x is the id of a node -/
def IsId (D : Nat → Nd) (len : Nat) (x : List UInt8) : Prop := ∃ i, i < len ∧ (ids D i).toList = x
theorem ups_ids {D : Nat → Nd} {len : Nat} (hq : dagB D len = true) {i j : Nat} (hi : i < len) (hj : j < (D i).n) : IsId D len ((D i).S j).toList := by
  have h := (dagB_parts hq).2.2.2 i hi
  unfold hasB at h
  rw [allB_iff] at h
  have h1 := h j hj
  have h2 : outB (ids D) len ((D i).S j) = false := by simpa using h1
  obtain ⟨i', hi', e⟩ := (outB_iff (ids D) _ len).1 h2
  exact ⟨i', hi', e⟩
theorem Reach.isId {D : Nat → Nd} {len : Nat} (hq : dagB D len = true) {T : Nat → ByteArray} {m : Nat} {x : List UInt8} (h : Reach D len T m x) : IsId D len x :=
  h (IsId D len) (fun j i hj hi e => ⟨i, hi, e⟩) (fun i j hi _ hj => ups_ids hq hi hj)

theorem len_le {α : Type} [DecidableEq α] : ∀ (l l' : List α), l.Nodup → (∀ x, x ∈ l → x ∈ l') → l.length ≤ l'.length
  | [], _, _, _ => Nat.zero_le _
  | a :: l, l', hn, hs => by
    obtain ⟨h1, h2⟩ := List.nodup_cons.1 hn
    have ha : a ∈ l' := hs a List.mem_cons_self
    have ih := len_le l (l'.erase a) h2 (fun x hx => (List.mem_erase_of_ne (fun e => h1 (by rw [← e]; exact hx))).2 (hs x (List.mem_cons_of_mem _ hx)))
    rw [List.length_erase_of_mem ha] at ih
    have : 0 < l'.length := List.length_pos_of_mem ha
    simp
    omega
/-- the ids as a list -/
def idsL (D : Nat → Nd) (len : Nat) : List (List UInt8) := (List.range len).map fun i => (ids D i).toList
theorem idsL_len (D : Nat → Nd) (len : Nat) : (idsL D len).length = len := by simp [idsL]
theorem idsL_mem (D : Nat → Nd) (len : Nat) (x : List UInt8) : x ∈ idsL D len ↔ IsId D len x := by
  unfold idsL IsId
  rw [List.mem_map]
  constructor
  · rintro ⟨i, hi, e⟩
    exact ⟨i, List.mem_range.1 hi, e⟩
  · rintro ⟨i, hi, e⟩
    exact ⟨i, List.mem_range.2 hi, e⟩
theorem up_len {D : Nat → Nd} {len : Nat} {L : List (List UInt8)} (hU : Up L) (hI : ∀ x, x ∈ L → IsId D len x) : L.length ≤ len := by
  have := len_le L (idsL D len) hU.nodup (fun x hx => (idsL_mem D len x).2 (hI x hx))
  rw [idsL_len] at this
  exact this

/-- E holds texts that are ids alone -/
def IdSet (D : Nat → Nd) (len : Nat) (E : DataW Value) : Prop := ∀ x, has E (.string x) = true → IsId D len x
theorem SetOf.tidy {w : World} {B n : Nat} {E : DataW Value} (h : SetOf w B n E) : Tidy E := World.ownsMap.tidy h lawS
theorem strKeys_size (E : DataW Value) (h : IsMap E) : (strKeys E).length = Maps.size E := by
  obtain ⟨es, rfl⟩ := h
  simp [strKeys, Maps.size]
theorem SetOf.size_le {w : World} {B n : Nat} {E : DataW Value} (h : SetOf w B n E) {D : Nat → Nd} {len : Nat} (hI : IdSet D len E) : Maps.size E ≤ len := by
  obtain ⟨hnd, hmem⟩ := strKeys_spec h lawS Tryz.underlying9
  have := len_le (strKeys E) (idsL D len) hnd (fun x hx => (idsL_mem D len x).2 (hI x ((hmem x).1 hx)))
  rw [idsL_len, strKeys_size E h.isMap] at this
  exact this
theorem SetOf.tight {w : World} {B n : Nat} {E : DataW Value} (h : SetOf w B n E) {k : Nat} (hk : Maps.size E ≤ k) : SetOf w B k E := by
  obtain ⟨es, clock, hb, F, hs, hD⟩ := h
  refine ⟨es, clock, hb, F, ?_, hD⟩
  have : Maps.size E = es.size := by
    rw [hD]
    exact length_read es
  omega
theorem putE_size {w : World} {B n : Nat} {E : DataW Value} (h : SetOf w B n E) {s : ByteArray} (hs : has E (.string s.toList) = false) : Maps.size (putE E s) = Maps.size E + 1 := by
  unfold putE
  rw [size_put h.tidy, keyL_list, hs]
  rfl
theorem putE_id {D : Nat → Nd} {len : Nat} {E : DataW Value} (hM : IsMap E) (hI : IdSet D len E) {s : ByteArray} (hs : IsId D len s.toList) : IdSet D len (putE E s) := by
  intro x hx
  rcases (putE_has hM s x).1 hx with h | rfl
  · exact hI x h
  · exact hs

theorem zeroU (w : World) : (zeroValue 117).run Tryz.prog w = .ok (.agg #[]) w := by kernel_rfl

set_option maxHeartbeats 400000 in
theorem has71_any (B n : Nat) (E : DataW Value) (s : ByteArray) (w : World) (h : SetOf w B n E) (hs : s.size ≤ 9223372036854775807) :
    Calls Tryz.prog 153 #[.map (some B), .string s] w fun e w' => e = .returned (.bool (has E (.string s.toList))) ∧ Below w.heap.size w w' := by
  have HO : Hid (w.ownsMap Tryz.prog 9 unitElem B n E) := h
  have hkey : keyOf Tryz.prog 9 (.string s) = some (keyL s) := keyS hs
  rw [← keyL_list]
  clear h
  go_enter Tryz.func153, Tryz.ntmps153
  go_wp2_with (at_lookup; refine wpList_lookup_own_unit _ rfl _ _ 97 rfl 9 117 lawS Tryz.underlying97 (zeroU _) B n E rfl HO.out _ _ rfl hkey ?_)
  go_ret
  exact ⟨rfl, (Below.refl _ _).alloc (Nat.le_refl _) _⟩
end Go.Proofs.YtlibipbpaigmdaaGreatDoor

namespace Go.Proofs.YtlibipbpaigmdaaGreatDoor
open Go.RowKit
set_option linter.unusedVariables false

theorem putL_new (s : List UInt8) : ∀ L : List (List UInt8), s ∉ L → (putL L s).length = L.length + 1
  | [], _ => by simp [putL]
  | x :: l, h => by
    have h1 : s ∉ l := fun hh => h (List.mem_cons_of_mem _ hh)
    have h2 : ¬ x = s := fun e => h (by rw [e]; exact List.mem_cons_self)
    have ih := putL_new s l h1
    unfold putL
    split
    · simp [ih]
    · simp

/-- with each id of L its ups are in L -/
def Closed (D : Nat → Nd) (k : Nat) (L : List (List UInt8)) : Prop := ∀ i, i < k → (ids D i).toList ∈ L → ∀ j, j < (D i).n → ((D i).S j).toList ∈ L
/-- L rises and holds only what is behind T, and all of T that is there -/
structure Beh (D : Nat → Nd) (len : Nat) (T : Nat → ByteArray) (m : Nat) (L : List (List UInt8)) : Prop where
  up : Up L
  no : ∀ x, x ∈ L → Reach D len T m x
  all : ∀ j, j < m → IsId D len (T j).toList → (T j).toList ∈ L
theorem Beh.put {D : Nat → Nd} {len : Nat} {T : Nat → ByteArray} {m : Nat} {L : List (List UInt8)} (h : Beh D len T m L) {s : List UInt8} (hs : Reach D len T m s) : Beh D len T m (putL L s) :=
  ⟨putL_up _ _ h.up, fun x hx => by
    rcases (putL_mem s x L).1 hx with h1 | rfl
    · exact h.no x h1
    · exact hs, fun j hj hid => (putL_mem s _ L).2 (.inl (h.all j hj hid))⟩
theorem Beh.len {D : Nat → Nd} {len : Nat} {T : Nat → ByteArray} {m : Nat} {L : List (List UInt8)} (hq : dagB D len = true) (h : Beh D len T m L) : L.length ≤ len := up_len h.up (fun x hx => (h.no x hx).isId hq)
theorem Beh.done {D : Nat → Nd} {len : Nat} {T : Nat → ByteArray} {m : Nat} {L : List (List UInt8)} (h : Beh D len T m L) (hc : Closed D len L) (x : List UInt8) : x ∈ L ↔ Reach D len T m x := by
  refine ⟨h.no x, fun hx => ?_⟩
  exact hx (fun y => y ∈ L) (fun j i hj hi e => h.all j hj ⟨i, hi, e⟩) (fun i j hi ih hj => hc i hi ih j hj)

theorem l1Has_lit (a : Option Addr) (len cap : Nat) (I : Nat → ByteArray) (id : ByteArray) (w : World) (h : IsStrs w a len cap I) (b : Bool) (hb : outB I len id = !b) :
    Calls Tryz.prog 86 #[.slice a len cap, .string id] w fun e w' => e = .returned (.bool b) ∧ w' = w := by
  refine (l1Has_any a len cap I id w h).mono ?_
  rintro e w' ⟨rfl, rfl⟩
  exact ⟨ret_bool (by rw [hb]; simp), rfl⟩
theorem l6At_lit (a : Option Addr) (len cap : Nat) (I : Nat → ByteArray) (id : ByteArray) (w : World) (h : IsStrs w a len cap I) (b : Bool) (hb : outB I len id = b) :
    Calls Tryz.prog 95 #[.slice a len cap, .string id] w fun e w' => ∃ r : Int, e = .returned (.int .i64 r) ∧ decide (r < 0) = b ∧ w' = w := by
  refine (l6At_any a len cap I id w h).mono ?_
  rintro e w' ⟨r, rfl, h1, rfl⟩
  exact ⟨r, rfl, by rw [h1, hb], rfl⟩

def lenOf : Value → Nat
  | .slice _ n _ => n
  | _ => 0
def boolOf : Value → Nat
  | .bool true => 1
  | _ => 0

set_option maxHeartbeats 4000000 in
theorem l6Behind_any (a : Option Addr) (len cap : Nat) (D : Nat → Nd) (g : Option Addr) (gc : Nat) (u : Option Addr) (m uc : Nat) (T : Nat → ByteArray) (w : World) (hq : dagB D len = true) (h : IsNds w a len cap D) (hg : IsStrs w g len gc (ids D)) (hT : IsStrs w u m uc T) :
    Calls Tryz.prog 85 #[.slice a len cap, .slice g len gc, .slice u m uc] w fun e w' => ∃ go oc L, e = .returned (.slice (some ⟨go, 0, none⟩) L.length oc) ∧ OwnS w' w.heap.size go oc L ∧ Up L ∧ (∀ x, x ∈ L ↔ Reach D len T m x) ∧ Below w.heap.size w w' := by
  have HQ : Hid (dagB D len = true) := hq
  have HN : Hid (IsNds w a len cap D) := h
  have HG : Hid (IsStrs w g len gc (ids D)) := hg
  have HT : Hid (IsStrs w u m uc T) := hT
  have HLE : Hid (len ≤ 30) := (dagB_parts hq).1
  obtain ⟨hlc, hcm, _⟩ := h
  obtain ⟨hglc, hgcm, _⟩ := hg
  obtain ⟨htlc, htcm, _⟩ := hT
  clear hq
  go_enter Tryz.func85, Tryz.ntmps85
  go_wp2
  go_loopw [8, 7] (fun q v wr => ∃ (k g1 c1 : Nat) (L : List (List UInt8)), k ≤ m ∧ q = .int .i64 k ∧ v = .slice (some ⟨g1, 0, none⟩) L.length c1 ∧ OwnS wr w.heap.size g1 c1 L ∧ Hid (Beh D len T k L) ∧ Below w.heap.size w wr) (fun q _ _ => m - (intOf q).toNat)
  case atStart => exact ⟨0, w.heap.size, 0, [], Nat.zero_le _, rfl, rfl, World.ownsRow_made w #[] 0 (Nat.le_refl _) (by decide) rfl, ⟨by simp [Up], fun x hx => by simp at hx, fun j hj => absurd hj (Nat.not_lt_zero _)⟩, (Below.refl _ _).alloc (Nat.le_refl _) _⟩
  case round =>
    obtain ⟨k, g1, c1, L, hk, rfl, rfl, ho, HB, hB⟩ := hrel
    have HO : Hid (OwnS wr w.heap.size g1 c1 L) := ho
    have HBW : Hid (Below w.heap.size w wr) := hB
    have HLL : Hid (L.length ≤ 1000000) := by
      have h1 := HB.out.len HQ.out
      have h2 := HLE.out
      show _ ≤ _
      omega
    have hcap := ho.caps
    have HGr : Hid (IsStrs wr g len gc (ids D)) := HG.out.below hB
    have HTr : Hid (IsStrs wr u m uc T) := HT.out.below hB
    clear ho
    by_cases hkt : k < m
    · have hkI : (k : Int) < (m : Int) := by omega
      obtain ⟨ub, uo, hu, hubs, hucell⟩ := HTr.out.2.2 (by omega)
      have d1 := hucell k hkt
      subst hu
      clear hucell hB
      cases hx : outB (ids D) len (T k) with
      | true =>
        have HA : Hid (Calls Tryz.prog 95 #[.slice g len gc, .string (T k)] wr fun e w' => ∃ r : Int, e = .returned (.int .i64 r) ∧ decide (r < 0) = true ∧ w' = wr) := l6At_lit _ _ _ _ _ _ HGr.out _ hx
        have HB' : Hid (Beh D len T (k + 1) L) := ⟨HB.out.up, fun x h => (HB.out.no x h).mono (by omega), fun j hj hid => by
          rcases Nat.lt_succ_iff_lt_or_eq.1 hj with h1 | rfl
          · exact HB.out.all j h1 hid
          · obtain ⟨i, hi, e⟩ := hid
            have := (outB_iff (ids D) (T j) len).2 ⟨i, hi, e⟩
            rw [hx] at this
            cases this⟩
        clear hx HB
        go_wp2_with fail
        refine HA.out.mono ?_
        rintro e w1 ⟨r, rfl, hr, hw⟩
        rw [hw]
        clear hw w1
        have hr1 : r < 0 := by simpa using hr
        have hr2 : decide ((0 : Int) ≤ r) = false := by simp; omega
        go_wp2
        go_roundw
        case rel => exact ⟨k + 1, g1, c1, L, by omega, by go_num, rfl, HO.out, HB', HBW.out⟩
        case measure => simp [intOf]; omega
      | false =>
        have HA : Hid (Calls Tryz.prog 95 #[.slice g len gc, .string (T k)] wr fun e w' => ∃ r : Int, e = .returned (.int .i64 r) ∧ decide (r < 0) = false ∧ w' = wr) := l6At_lit _ _ _ _ _ _ HGr.out _ hx
        have HP : Hid (Calls Tryz.prog 113 #[.slice (some ⟨g1, 0, none⟩) L.length c1, .string (T k)] wr fun e w' => ∃ g' gc', e = .returned (.slice (some ⟨g', 0, none⟩) (putL L (T k).toList).length gc') ∧ OwnS w' wr.heap.size g' gc' (putL L (T k).toList) ∧ Below wr.heap.size wr w') := l1Put_any g1 0 c1 L (T k) wr HO.out.lies.1 HO.out.lies.2.1 HO.out.caps.1 HO.out.caps.2 HLL.out
        have HB' : Hid (Beh D len T (k + 1) (putL L (T k).toList)) := by
          obtain ⟨i, hi, e⟩ := (outB_iff (ids D) (T k) len).1 hx
          refine ⟨putL_up _ _ HB.out.up, fun x h => ?_, fun j hj hid => ?_⟩
          · rcases (putL_mem _ x L).1 h with h1 | rfl
            · exact (HB.out.no x h1).mono (by omega)
            · exact .base k i (Nat.lt_succ_self _) hi e
          · rcases Nat.lt_succ_iff_lt_or_eq.1 hj with h1 | rfl
            · exact (putL_mem _ _ L).2 (.inl (HB.out.all j h1 hid))
            · exact (putL_mem _ _ L).2 (.inr rfl)
        clear hx HB
        go_wp2_with fail
        refine HA.out.mono ?_
        rintro e w1 ⟨r, rfl, hr, hw⟩
        rw [hw]
        clear hw w1
        have hr1 : ¬ r < 0 := by simpa using hr
        have hr2 : (0 : Int) ≤ r := by omega
        clear hr1 hr
        go_wp2_with fail
        refine HP.out.mono ?_
        rintro e w2 ⟨g', gc', rfl, ho2, hB2⟩
        have HF : Hid (OwnS w2 w.heap.size g' gc' (putL L (T k).toList) ∧ Below w.heap.size w w2) := ⟨mono_base ho2 HBW.out.size, HBW.out.trans (hB2.mono HBW.out.size)⟩
        clear ho2 hB2
        go_wp2
        go_roundw
        case rel => exact ⟨k + 1, g', gc', _, by omega, by go_num, rfl, HF.out.1, HB', HF.out.2⟩
        case measure => simp [intOf]; omega
    · have hke : k = m := by omega
      subst hke
      clear hB hkt
      go_wp2
      go_loopw [9, 7] (fun mo v wr => ∃ (c : Bool) (g1 c1 : Nat) (L : List (List UInt8)), mo = .bool c ∧ v = .slice (some ⟨g1, 0, none⟩) L.length c1 ∧ OwnS wr w.heap.size g1 c1 L ∧ Hid (Beh D len T k L) ∧ Hid (c = false → Closed D len L) ∧ Below w.heap.size w wr) (fun mo v _ => 2 * (len - lenOf v) + boolOf mo)
      case atStart => exact ⟨true, g1, c1, L, rfl, rfl, HO.out, HB.out, (fun h => by cases h), HBW.out⟩
      case round =>
        clear HO HB HBW HLL hcap HGr HTr
        obtain ⟨c, g0, c0, L0, rfl, rfl, ho, HB0, HCL, hB⟩ := hrel
        have HO0 := (show Hid _ from ho)
        have HBW0 := (show Hid _ from hB)
        clear ho hB
        cases c with
        | false =>
          go_wp2
          go_ret
          exact ⟨g0, c0, L0, rfl, HO0.out, HB0.out.up, HB0.out.done (HCL.out (by trivial)), HBW0.out⟩
        | true =>
          clear HCL
          go_wp2
          go_loopw [9, 7, 10] (fun mo v q wr => ∃ (c : Bool) (g1 c1 : Nat) (L : List (List UInt8)) (i : Nat), mo = .bool c ∧ v = .slice (some ⟨g1, 0, none⟩) L.length c1 ∧ q = .int .i64 i ∧ i ≤ len ∧ OwnS wr w.heap.size g1 c1 L ∧ Hid (Beh D len T k L) ∧ Hid (c = false → L = L0 ∧ Closed D i L) ∧ Hid (c = true → L0.length < L.length) ∧ Below w.heap.size w wr) (fun _ _ q _ => len - (intOf q).toNat)
          case atStart => exact ⟨false, g0, c0, L0, 0, rfl, rfl, rfl, Nat.zero_le _, HO0.out, HB0.out, (fun _ => ⟨rfl, fun i hi => absurd hi (Nat.not_lt_zero _)⟩), (fun h => by cases h), HBW0.out⟩
          case round =>
            obtain ⟨c, g1, c1, L, i, rfl, rfl, rfl, hi, ho, HB1, HCF, HCT, hB⟩ := hrel
            have HO1 := (show Hid _ from ho)
            have HBW1 := (show Hid _ from hB)
            clear ho hB
            by_cases hit : i < len
            · have hiI : (i : Int) < (len : Int) := by omega
              go_wp2
              go_loopw [9, 7, 11] (fun mo v q wr => ∃ (c : Bool) (g1 c1 : Nat) (L : List (List UInt8)) (t : Nat), mo = .bool c ∧ v = .slice (some ⟨g1, 0, none⟩) L.length c1 ∧ q = .int .i64 t ∧ t ≤ (D i).n ∧ OwnS wr w.heap.size g1 c1 L ∧ Hid (Beh D len T k L) ∧ Hid (c = false → L = L0 ∧ Closed D i L) ∧ Hid (∀ j, j < t → ((D i).S j).toList ∈ L) ∧ Hid (c = true → L0.length < L.length) ∧ Below w.heap.size w wr) (fun _ _ q _ => (D i).n - (intOf q).toNat)
              case atStart => exact ⟨c, g1, c1, L, 0, rfl, rfl, rfl, Nat.zero_le _, HO1.out, HB1.out, HCF.out, (fun j hj => absurd hj (Nat.not_lt_zero _)), HCT.out, HBW1.out⟩
              case round =>
                clear HO1 HB1 HCF HCT HBW1
                obtain ⟨c, g1, c1, L, t, rfl, rfl, rfl, ht, ho, HB1, HCF, HU, HCT, hB⟩ := hrel
                have HO1 : Hid (OwnS wr w.heap.size g1 c1 L) := ho
                have HBW1 : Hid (Below w.heap.size w wr) := hB
                have hcap := ho.caps
                have HLL : Hid (L.length ≤ 1000000) := by
                  have h1 := HB1.out.len HQ.out
                  have h2 := HLE.out
                  show _ ≤ _
                  omega
                obtain ⟨gb, goff, hge, hgs, hgcell⟩ := (HG.out.below hB).2.2 (by omega)
                have p1 := hgcell i hit
                subst hge
                obtain ⟨b, off, ea, hbs, _⟩ := HN.out.2.2 (by omega)
                subst ea
                have nd := dag_at (HN.out.below hB) rfl i hit
                have c5 := nd.c5
                have hu1 := nd.i.1
                have hu2 := nd.i.2.1
                have HUI : Hid (IsStrs wr (D i).u (D i).n (D i).cap (D i).S) := nd.i
                clear ho hgcell nd hB
                cases hx : outB (atL L) L.length (ids D i) with
                | true =>
                  have HA : Hid (Calls Tryz.prog 86 #[.slice (some ⟨g1, 0, none⟩) L.length c1, .string (ids D i)] wr fun e w' => e = .returned (.bool false) ∧ w' = wr) := l1Has_lit _ _ _ _ _ _ HO1.out.strs false hx
                  have hni : ¬ (ids D i).toList ∈ L := fun hm => by
                    have := (out_mem L (ids D i)).2 hm
                    rw [hx] at this
                    cases this
                  have HCF' : Hid (c = false → L = L0 ∧ Closed D (i + 1) L) := fun hc => ⟨(HCF.out hc).1, fun i' hi' hm j hj => by
                    rcases Nat.lt_succ_iff_lt_or_eq.1 hi' with h1 | rfl
                    · exact (HCF.out hc).2 i' h1 hm j hj
                    · exact absurd hm hni⟩
                  clear hx hni HCF
                  go_wp2_with fail
                  refine HA.out.mono ?_
                  rintro e w1 ⟨rfl, hw⟩
                  rw [hw]
                  clear hw w1
                  go_wp2
                  go_roundw
                  case rel => exact ⟨c, g1, c1, L, i + 1, rfl, rfl, by go_num, by omega, HO1.out, HB1.out, HCF'.out, HCT.out, HBW1.out⟩
                  case measure => simp [intOf]; omega
                | false =>
                  have HA : Hid (Calls Tryz.prog 86 #[.slice (some ⟨g1, 0, none⟩) L.length c1, .string (ids D i)] wr fun e w' => e = .returned (.bool true) ∧ w' = wr) := l1Has_lit _ _ _ _ _ _ HO1.out.strs true hx
                  have HMI : Hid ((ids D i).toList ∈ L) := (out_mem L (ids D i)).1 hx
                  clear hx
                  go_wp2_with fail
                  refine HA.out.mono ?_
                  rintro e w1 ⟨rfl, hw⟩
                  rw [hw]
                  clear hw w1
                  by_cases htt : t < (D i).n
                  · have htI : (t : Int) < ((D i).n : Int) := by omega
                    obtain ⟨ub, uo, hu, hubs, hucell⟩ := HUI.out.2.2 (by omega)
                    have d1 := hucell t htt
                    rw [hu] at c5
                    clear hucell
                    cases hy : outB (atL L) L.length ((D i).S t) with
                    | false =>
                      have HC : Hid (Calls Tryz.prog 86 #[.slice (some ⟨g1, 0, none⟩) L.length c1, .string ((D i).S t)] wr fun e w' => e = .returned (.bool true) ∧ w' = wr) := l1Has_lit _ _ _ _ _ _ HO1.out.strs true hy
                      have HU' : Hid (∀ j, j < t + 1 → ((D i).S j).toList ∈ L) := by
                        intro j hj
                        rcases Nat.lt_succ_iff_lt_or_eq.1 hj with h1 | rfl
                        · exact HU.out j h1
                        · exact (out_mem L _).1 hy
                      clear hy HU
                      go_wp2_with fail
                      refine HC.out.mono ?_
                      rintro e w1 ⟨rfl, hw⟩
                      rw [hw]
                      clear hw w1
                      go_wp2
                      go_roundw
                      case rel => exact ⟨c, g1, c1, L, t + 1, rfl, rfl, by go_num, by omega, HO1.out, HB1.out, HCF.out, HU'.out, HCT.out, HBW1.out⟩
                      case measure => simp [intOf]; omega
                    | true =>
                      have HC : Hid (Calls Tryz.prog 86 #[.slice (some ⟨g1, 0, none⟩) L.length c1, .string ((D i).S t)] wr fun e w' => e = .returned (.bool false) ∧ w' = wr) := l1Has_lit _ _ _ _ _ _ HO1.out.strs false hy
                      have HP : Hid (Calls Tryz.prog 113 #[.slice (some ⟨g1, 0, none⟩) L.length c1, .string ((D i).S t)] wr fun e w' => ∃ g' gc', e = .returned (.slice (some ⟨g', 0, none⟩) (putL L ((D i).S t).toList).length gc') ∧ OwnS w' wr.heap.size g' gc' (putL L ((D i).S t).toList) ∧ Below wr.heap.size wr w') := l1Put_any g1 0 c1 L ((D i).S t) wr HO1.out.lies.1 HO1.out.lies.2.1 HO1.out.caps.1 HO1.out.caps.2 HLL.out
                      have hno : ((D i).S t).toList ∉ L := fun hm => by
                        have := (out_mem L ((D i).S t)).2 hm
                        rw [hy] at this
                        cases this
                      have HR : Hid (Beh D len T k (putL L ((D i).S t).toList)) := HB1.out.put (.step i t hit (HB1.out.no _ HMI.out) htt)
                      have HT' : Hid (L0.length < (putL L ((D i).S t).toList).length) := by
                        show _ < _
                        rw [putL_new _ _ hno]
                        cases c with
                        | true => have := HCT.out rfl; omega
                        | false => rw [(HCF.out rfl).1]; omega
                      have HU' : Hid (∀ j, j < t + 1 → ((D i).S j).toList ∈ putL L ((D i).S t).toList) := by
                        intro j hj
                        rcases Nat.lt_succ_iff_lt_or_eq.1 hj with h1 | rfl
                        · exact (putL_mem _ _ L).2 (.inl (HU.out j h1))
                        · exact (putL_mem _ _ L).2 (.inr rfl)
                      clear hy hno HU HCF HCT
                      go_wp2_with fail
                      refine HC.out.mono ?_
                      rintro e w1 ⟨rfl, hw⟩
                      rw [hw]
                      clear hw w1
                      go_wp2_with fail
                      refine HP.out.mono ?_
                      rintro e w2 ⟨g', gc', rfl, ho2, hB2⟩
                      have HF : Hid (OwnS w2 w.heap.size g' gc' (putL L ((D i).S t).toList) ∧ Below w.heap.size w w2) := ⟨mono_base ho2 HBW1.out.size, HBW1.out.trans (hB2.mono HBW1.out.size)⟩
                      clear ho2 hB2
                      go_wp2
                      go_roundw
                      case rel => exact ⟨true, g', gc', _, t + 1, rfl, rfl, by go_num, by omega, HF.out.1, HR.out, (fun h => by cases h), HU'.out, (fun _ => HT'.out), HF.out.2⟩
                      case measure => simp [intOf]; omega
                  · have hte : t = (D i).n := by omega
                    have HCF' : Hid (c = false → L = L0 ∧ Closed D (i + 1) L) := fun hc => ⟨(HCF.out hc).1, fun i' hi' hm j hj => by
                      rcases Nat.lt_succ_iff_lt_or_eq.1 hi' with h1 | rfl
                      · exact (HCF.out hc).2 i' h1 hm j hj
                      · exact HU.out j (by omega)⟩
                    have htI : ¬ ((t : Int) < ((D i).n : Int)) := by omega
                    clear htt hte HCF ht
                    go_wp2
                    go_roundw
                    case rel => exact ⟨c, g1, c1, L, i + 1, rfl, rfl, by go_num, by omega, HO1.out, HB1.out, HCF'.out, HCT.out, HBW1.out⟩
                    case measure => simp [intOf]; omega
            · have hie : i = len := by omega
              subst hie
              clear hit
              go_wp2
              go_roundw
              case rel => exact ⟨c, g1, c1, L, rfl, rfl, HO1.out, HB1.out, (fun hc => (HCF.out hc).2), HBW1.out⟩
              case measure =>
                have h1 := HB1.out.len HQ.out
                cases c with
                | true =>
                  have := HCT.out rfl
                  simp [lenOf, boolOf]
                  omega
                | false =>
                  rw [(HCF.out rfl).1]
                  simp [lenOf, boolOf]
end Go.Proofs.YtlibipbpaigmdaaGreatDoor

namespace Go.Proofs.YtlibipbpaigmdaaGreatDoor
open Go.RowKit Go.Maps
set_option linter.unusedVariables false

/-- what the closure leans on: the dag at b, off; its map of nodes at B; the boxes of the map, of the set (the set itself at F) and of the closure; all but F lie still -/
structure Ctx (w : World) (D : Nat → Nd) (len b off B F bN bF bf : Nat) : Prop where
  nd : ∀ i, i < len → NdAt w b (off + i * 6) (D i) ∧ b ≠ F ∧ ∀ ub uo, (D i).u = some ⟨ub, uo, none⟩ → 0 < (D i).n → ub ≠ F
  map : w.ownsMap Tryz.prog 9 PR B len (mapD D b off len)
  cN : w.cell? ⟨bN, 0, none⟩ = some (.map (some B))
  cF : w.cell? ⟨bF, 0, none⟩ = some (.map (some F))
  cf : w.cell? ⟨bf, 0, none⟩ = some (.func (.func 152) #[] #[.pointer (some ⟨bN, 0, none⟩), .pointer (some ⟨bF, 0, none⟩), .pointer (some ⟨bf, 0, none⟩)])
  ne : B ≠ F ∧ bN ≠ F ∧ bF ≠ F ∧ bf ≠ F

theorem strs_grown {w w' : World} {a : Option Addr} {len cap F : Nat} {S : Nat → ByteArray} (h : IsStrs w a len cap S) (hg : w.grownBy w' (some F)) (hne : ∀ ub uo, a = some ⟨ub, uo, none⟩ → 0 < len → ub ≠ F) : IsStrs w' a len cap S := by
  obtain ⟨h1, h2, h3⟩ := h
  refine ⟨h1, h2, fun hp => ?_⟩
  obtain ⟨b, off, e, hb, hc⟩ := h3 hp
  have hn := hne b off e hp
  exact ⟨b, off, e, by have := hg.size; omega, fun i hi => hg.cell (hc i hi) (by simpa using hn)⟩

theorem Ctx.grown {w w' : World} {D : Nat → Nd} {len b off B F bN bF bf : Nat} (h : Ctx w D len b off B F bN bF bf) (hg : w.grownBy w' (some F)) : Ctx w' D len b off B F bN bF bf := by
  obtain ⟨h1, h2, h3, h4, h5, n1, n2, n3, n4⟩ := h
  refine ⟨fun i hi => ?_, h2.kept hg (by simpa using n1), hg.cell h3 (by simpa using n2), hg.cell h4 (by simpa using n3), hg.cell h5 (by simpa using n4), n1, n2, n3, n4⟩
  obtain ⟨d, hb, hu⟩ := h1 i hi
  have hne : some b ≠ some F := by simpa using hb
  exact ⟨⟨hg.cell d.c0 hne, hg.cell d.c1 hne, hg.cell d.c2 hne, hg.cell d.c3 hne, hg.cell d.c4 hne, hg.cell d.c5 hne, strs_grown d.i hg hu⟩, hb, hu⟩

/-- E grew to E' by going through the first m of T -/
structure Went (D : Nat → Nd) (len : Nat) (T : Nat → ByteArray) (m : Nat) (E E' : DataW Value) : Prop where
  idz : IdSet D len E'
  old : ∀ x, has E (.string x) = true → has E' (.string x) = true
  all : ∀ j, j < m → IsId D len (T j).toList → has E' (.string (T j).toList) = true
  ups : ∀ i, i < len → has E' (.string (ids D i).toList) = true → has E (.string (ids D i).toList) = false → ∀ j, j < (D i).n → has E' (.string ((D i).S j).toList) = true
  no : ∀ x, has E' (.string x) = true → has E (.string x) = true ∨ Reach D len T m x

theorem Went.refl {D : Nat → Nd} {len : Nat} {T : Nat → ByteArray} {E : DataW Value} (h : IdSet D len E) : Went D len T 0 E E :=
  ⟨h, fun _ hx => hx, fun j hj => absurd hj (Nat.not_lt_zero _), fun i hi h1 h2 => (by rw [h1] at h2; cases h2), fun x hx => .inl hx⟩
/-- nothing to do at place m -/
theorem Went.skip {D : Nat → Nd} {len : Nat} {T : Nat → ByteArray} {m : Nat} {E E' : DataW Value} (h : Went D len T m E E') (hs : IsId D len (T m).toList → has E' (.string (T m).toList) = true) : Went D len T (m + 1) E E' := by
  refine ⟨h.idz, h.old, fun j hj hid => ?_, h.ups, fun x hx => ?_⟩
  · rcases Nat.lt_succ_iff_lt_or_eq.1 hj with h1 | rfl
    · exact h.all j h1 hid
    · exact hs hid
  · rcases h.no x hx with h1 | h1
    · exact .inl h1
    · exact .inr (h1.mono (by omega))
/-- a new id at place m, and all behind it -/
theorem Went.go {D : Nat → Nd} {len : Nat} {T : Nat → ByteArray} {m i : Nat} {E E1 E2 : DataW Value} (hq : dagB D len = true) (hM : IsMap E1) (h : Went D len T m E E1) (hi : i < len) (hix : (ids D i).toList = (T m).toList) (h2 : Went D len (D i).S (D i).n (putE E1 (T m)) E2) : Went D len T (m + 1) E E2 := by
  have hp := putE_has hM (T m)
  have hbase : Reach D len T (m + 1) (T m).toList := .base m i (Nat.lt_succ_self _) hi hix
  refine ⟨h2.idz, fun x hx => h2.old x ((hp x).2 (.inl (h.old x hx))), fun j hj hid => ?_, fun i' hi' h3 h4 j hj => ?_, fun x hx => ?_⟩
  · rcases Nat.lt_succ_iff_lt_or_eq.1 hj with h1 | rfl
    · exact h2.old _ ((hp _).2 (.inl (h.all j h1 hid)))
    · exact h2.old _ ((hp _).2 (.inr rfl))
  · cases hh : has (putE E1 (T m)) (.string (ids D i').toList) with
    | false => exact h2.ups i' hi' h3 hh j hj
    | true =>
      rcases (hp _).1 hh with h5 | h5
      · exact h2.old _ ((hp _).2 (.inl (h.ups i' hi' h5 h4 j hj)))
      · obtain rfl := rise_inj (dagB_parts hq).2.2.1 hi' hi (h5.symm.trans hix.symm)
        exact h2.all j hj (ups_ids hq hi hj)
  · rcases h2.no x hx with h1 | h1
    · rcases (hp x).1 h1 with h5 | rfl
      · rcases h.no x h5 with h6 | h6
        · exact .inl h6
        · exact .inr (h6.mono (by omega))
      · exact .inr hbase
    · exact .inr (Reach.more hi (by rw [hix]; exact hbase) h1)

theorem look_node {w : World} {B n : Nat} {D : Nat → Nd} {b off k : Nat} (h : w.ownsMap Tryz.prog 9 PR B n (mapD D b off k)) (id : ByteArray) (hs : id.size ≤ 9223372036854775807) :
    ∃ p : Option Addr, (Instr.lookup 81 (.map (some B)) (.string id) false).run Tryz.prog w = .ok (.pointer p) w ∧ (outB (ids D) k id = true → p = none) ∧ (outB (ids D) k id = false → ∃ i, i < k ∧ (ids D i).toList = id.toList ∧ p = some ⟨b, off + i * 6, none⟩) := by
  obtain ⟨v, ps, hrun, hv⟩ := h.lookup (e := 92) lawS Tryz.underlying81 (zeroP w) (zd := .held (.pointer none)) (zp := []) rfl (keyS hs)
  obtain ⟨p, rfl⟩ := PR_inv _ _ hv
  have hp : DataW.held (Value.pointer p) = (mapD D b off k).atKey (keyL id) (.held (.pointer none)) := by
    simp only [PR, Option.some.injEq, Prod.mk.injEq] at hv
    exact hv.1
  refine ⟨p, hrun, fun ho => ?_, fun ho => ?_⟩
  · rw [(mapD_at D b off id k).1 ho] at hp
    simpa using hp
  · obtain ⟨i, hi, e, ha⟩ := (mapD_at D b off id k).2 ho
    rw [ha] at hp
    simp only [ptr, DataW.held.injEq, Value.pointer.injEq] at hp
    exact ⟨i, hi, e, hp⟩

theorem grown_below {w w' : World} {row : Option Nat} (h : Below w.heap.size w w') : w.grownBy w' row := ⟨h.os, h.tape, h.output, h.size, fun k hk _ => h.block k hk⟩
theorem SetOf.kept {w w' : World} {B n : Nat} {E : DataW Value} (h : SetOf w B n E) (he : w'.heap[B]? = w.heap[B]?) : SetOf w' B n E := by
  obtain ⟨es, clock, hb, F, hs, hD⟩ := h
  exact ⟨es, clock, he.trans hb, F, hs, hD⟩

set_option maxHeartbeats 2000000 in
theorem find_any (D : Nat → Nd) (len b off B F bN bF bf : Nat) (hq : dagB D len = true) (hfin : Fine D len) : ∀ (f : Nat) (a : Option Addr) (m cap : Nat) (T : Nat → ByteArray) (E : DataW Value) (w : World), Ctx w D len b off B F bN bF bf → SetOf w F len E → IdSet D len E → IsStrs w a m cap T → (∀ ub uo, a = some ⟨ub, uo, none⟩ → 0 < m → ub ≠ F) → (∀ j, j < m → (T j).size ≤ 9223372036854775807) → len ≤ Maps.size E + f →
    Calls Tryz.prog 152 #[.slice a m cap, .pointer (some ⟨bN, 0, none⟩), .pointer (some ⟨bF, 0, none⟩), .pointer (some ⟨bf, 0, none⟩)] w fun e w' => e = .returned (.tuple #[]) ∧ ∃ E', SetOf w' F len E' ∧ Went D len T m E E' ∧ Maps.size E ≤ Maps.size E' ∧ w.grownBy w' (some F) := by
  intro f
  induction f using Nat.strongRecOn with
  | ind f ih =>
    intro a m cap T E w hC hS hI hT hTn hTs hfu
    have HIH := (show Hid _ from ih)
    have HC : Hid (Ctx w D len b off B F bN bF bf) := hC
    have HT : Hid (IsStrs w a m cap T) := hT
    have HTN : Hid (∀ ub uo, a = some ⟨ub, uo, none⟩ → 0 < m → ub ≠ F) := hTn
    have HFU : Hid (len ≤ Maps.size E + f) := hfu
    have HQ : Hid (dagB D len = true) := hq
    obtain ⟨hlc, hcm, _⟩ := hT
    have hle := (dagB_parts hq).1
    clear ih hC hTn hfu hq
    go_enter Tryz.func152, Tryz.ntmps152
    go_wp2
    go_loopw [10] (fun q wr => ∃ (j : Nat) (E1 : DataW Value), j ≤ m ∧ q = .int .i64 j ∧ SetOf wr F len E1 ∧ Hid (Went D len T j E E1) ∧ Hid (Maps.size E ≤ Maps.size E1) ∧ w.grownBy wr (some F)) (fun q _ => m - (intOf q).toNat)
    case atStart => exact ⟨0, E, Nat.zero_le _, rfl, hS, Went.refl hI, Nat.le_refl _, World.grownBy.refl _ _⟩
    case round =>
      obtain ⟨j, E1, hj, rfl, hS1, HW, HZ, hG⟩ := hrel
      have HS1 : Hid (SetOf wr F len E1) := hS1
      have HG : Hid (w.grownBy wr (some F)) := hG
      have C1 := HC.out.grown hG
      have HC1 : Hid (Ctx wr D len b off B F bN bF bf) := C1
      clear hS hS1
      by_cases hjt : j < m
      · have hjI : (j : Int) < (m : Int) := by omega
        obtain ⟨ub, uo, hu, hubs, hucell⟩ := HT.out.2.2 (by omega)
        have hTj := hTs j hjt
        have d1 : wr.cell? ⟨ub, uo + j, none⟩ = some (.string (T j)) := hG.cell (hucell j hjt) (by simpa using HTN.out ub uo hu (by omega))
        obtain ⟨p, hrun, ho1, ho2⟩ := look_node C1.map (T j) hTj
        have cN := C1.cN
        have cF := C1.cF
        subst hu
        clear hucell hG C1
        cases ho : outB (ids D) len (T j) with
        | true =>
          have hp := ho1 ho
          subst hp
          have HW' : Hid (Went D len T (j + 1) E E1) := HW.out.skip (fun hid => by
            obtain ⟨i, hi, e⟩ := hid
            have := (outB_iff (ids D) (T j) len).2 ⟨i, hi, e⟩
            rw [ho] at this
            cases this)
          clear ho1 ho2 ho HW
          go_wp2
          go_roundw
          case rel => exact ⟨j + 1, E1, by omega, by go_num, HS1.out, HW', HZ, HG.out⟩
          case measure => simp [intOf]; omega
        | false =>
          obtain ⟨i, hi, hix, hp⟩ := ho2 ho
          subst hp
          have HH : Hid (Calls Tryz.prog 153 #[.map (some F), .string (T j)] wr fun e w' => e = .returned (.bool (has E1 (.string (T j).toList))) ∧ Below wr.heap.size wr w') := has71_any F len E1 (T j) wr HS1.out hTj
          clear ho1 ho2 ho
          cases hh : has E1 (.string (T j).toList) with
          | true =>
            have HW' : Hid (Went D len T (j + 1) E E1) := HW.out.skip (fun _ => hh)
            rw [hh] at HH
            clear hh HW
            go_wp2_with (go_at_call 153; refine HH.out.mono ?_; rintro e w2 ⟨rfl, hB2⟩; have HB2 : Hid (Below wr.heap.size wr w2) := hB2; clear hB2)
            go_roundw
            case rel => exact ⟨j + 1, E1, by omega, by go_num, HS1.out.below HB2.out, HW', HZ, HG.out.trans (grown_below HB2.out)⟩
            case measure => simp [intOf]; omega
          | false =>
            rw [hh] at HH
            have hkey : keyOf Tryz.prog 9 (.string (T j)) = some (keyL (T j)) := keyS hTj
            have HM : Hid (IsMap E1) := SetOf.isMap HS1.out
            have HSZ : Hid (Maps.size (putE E1 (T j)) = Maps.size E1 + 1) := putE_size HS1.out hh
            have HIX : Hid ((ids D i).toList = (T j).toList) := hix
            have HI2 : Hid (IdSet D len (putE E1 (T j))) := putE_id (SetOf.isMap HS1.out) HW.out.idz ⟨i, hi, hix⟩
            clear hh hix
            go_wp2_with (first
              | (go_at_call 153
                 refine HH.out.mono ?_
                 rintro e w2 ⟨rfl, hB2⟩
                 have HB2 : Hid (Below wr.heap.size wr w2) := hB2
                 have HS2 : Hid (w2.ownsMap Tryz.prog 9 unitElem F len E1) := HS1.out.below hB2
                 have cF2 : w2.cell? ⟨bF, 0, none⟩ = some (.map (some F)) := (hB2.cell (p := ⟨bF, 0, none⟩) (cell_lt cF)).trans cF
                 clear hB2)
              | (at_mapUpdate
                 refine wpList_mapUpdate_own _ rfl _ _ _ 97 rfl 9 117 lawS Tryz.underlying97 unitElem F len E1 rfl HS2.out (by unfold maxLen; omega) _ _ _ rfl rfl hkey (.agg []) [] unitElem_mk ?_
                 intro w3 hown3 hgrow3))
            have hG23 : wr.grownBy w3 (some F) := (grown_below HB2.out).trans hgrow3
            have C3 := HC1.out.grown hG23
            have HS3 : Hid (SetOf w3 F (len + 1) (putE E1 (T j))) := hown3
            have HG3 : Hid (wr.grownBy w3 (some F)) := hG23
            have HC3 : Hid (Ctx w3 D len b off B F bN bF bf) := C3
            have cf3 := C3.cf
            have c53 := (C3.nd i hi).1.c5
            clear hown3 hgrow3 hG23 C3 cN cF cF2 d1 hrun
            have HDG : Hid (w3.grownBy w3.drew (some F)) := ⟨rfl, rfl, rfl, Nat.le_refl _, fun _ _ _ => rfl⟩
            have hnd := HC3.out.nd i hi
            have HV : Hid (Calls Tryz.prog 152 #[.slice (D i).u (D i).n (D i).cap, .pointer (some ⟨bN, 0, none⟩), .pointer (some ⟨bF, 0, none⟩), .pointer (some ⟨bf, 0, none⟩)] w3.drew fun e w' => e = .returned (.tuple #[]) ∧ ∃ E', SetOf w' F len E' ∧ Went D len (D i).S (D i).n (putE E1 (T j)) E' ∧ Maps.size (putE E1 (T j)) ≤ Maps.size E' ∧ w3.drew.grownBy w' (some F)) := by
              have hz1 := HSZ.out
              have hz2 := HZ.out
              have hz3 := HFU.out
              have hz4 := SetOf.size_le HS3.out HI2.out
              exact HIH.out (len - Maps.size (putE E1 (T j))) (by omega) (D i).u (D i).n (D i).cap (D i).S (putE E1 (T j)) w3.drew (HC3.out.grown HDG.out) (SetOf.tight (SetOf.kept HS3.out rfl) hz4) HI2.out (strs_grown hnd.1.i HDG.out hnd.2.2) hnd.2.2 (hfin i hi).2.2 (by omega)
            have HZZ : Hid (Maps.size E ≤ Maps.size (putE E1 (T j))) := by show _ ≤ _; have := HSZ.out; have := HZ.out; omega
            clear hnd
            go_region_with ((go_at_call 152; refine HV.out.mono ?_; rintro e w4 ⟨rfl, E2, hS4, hW4, hZ4, hG4⟩))
            all_goals
              have HF : Hid (SetOf w4 F len E2 ∧ Went D len T (j + 1) E E2 ∧ Maps.size E ≤ Maps.size E2 ∧ w.grownBy w4 (some F)) := ⟨hS4, Went.go HQ.out HM.out HW.out hi HIX.out hW4, Nat.le_trans HZZ.out hZ4, (HG.out.trans HG3.out).trans (HDG.out.trans hG4)⟩
              clear hS4 hW4 hZ4 hG4 cf3 c53
              go_wp2
              go_roundw
              case rel => exact ⟨j + 1, E2, by omega, by go_num, HF.out.1, HF.out.2.1, HF.out.2.2.1, HF.out.2.2.2⟩
              case measure => simp [intOf]; omega
      · have hje : j = m := by omega
        subst hje
        clear hG C1
        go_wp2
        go_end0
        exact ⟨rfl, E1, HS1.out, HW.out, HZ.out, HG.out⟩
end Go.Proofs.YtlibipbpaigmdaaGreatDoor

namespace Go.Proofs.YtlibipbpaigmdaaGreatDoor
open Go.RowKit Go.Maps Go.MapKept Go.ChangeMaps
set_option linter.unusedVariables false

theorem reach_of_went {D : Nat → Nd} {len : Nat} {T : Nat → ByteArray} {m : Nat} {E : DataW Value} (hq : dagB D len = true) (h : Went D len T m (.map []) E) (x : List UInt8) : has E (.string x) = true ↔ Reach D len T m x := by
  constructor
  · intro hx
    rcases h.no x hx with h1 | h1
    · simp [has_eq] at h1
    · exact h1
  · intro hx
    exact hx (fun y => has E (.string y) = true) (fun j i hj hi e => h.all j hj ⟨i, hi, e⟩) (fun i j hi ihx hj => h.ups i hi ihx (by simp [has_eq]) j hj)

set_option maxHeartbeats 1000000 in
theorem idsBehind_any (D : Nat → Nd) (len b off B : Nat) (a : Option Addr) (m cap : Nat) (T : Nat → ByteArray) (w : World) (hq : dagB D len = true) (hfin : Fine D len) (hnd : ∀ i, i < len → NdAt w b (off + i * 6) (D i)) (hmap : w.ownsMap Tryz.prog 9 PR B len (mapD D b off len)) (hT : IsStrs w a m cap T) (hTs : ∀ j, j < m → (T j).size ≤ 9223372036854775807) :
    Calls Tryz.prog 98 #[.map (some B), .slice a m cap] w fun e w' => ∃ F E, e = .returned (.map (some F)) ∧ w.heap.size ≤ F ∧ SetOf w' F len E ∧ (∀ x, has E (.string x) = true ↔ Reach D len T m x) ∧ Below w.heap.size w w' := by
  have hmm := @run_makeMap Tryz.prog
  obtain ⟨W, hW⟩ : ∃ W, W = (((w.alloc (.cells #[.map (some B)] 81)).alloc (.map #[] 0)).alloc (.cells #[.map (some (w.heap.size + 1))] 97)).alloc (.cells #[(.func (.func 152) #[] #[.pointer (some ⟨w.heap.size, 0, none⟩), .pointer (some ⟨w.heap.size + 1 + 1, 0, none⟩), .pointer (some ⟨w.heap.size + 1 + 1 + 1, 0, none⟩)])] 151) := ⟨_, rfl⟩
  have s1 : (w.alloc (.cells #[.map (some B)] 81)).heap.size = w.heap.size + 1 := by simp
  have s2 : ((w.alloc (.cells #[.map (some B)] 81)).alloc (.map #[] 0)).heap.size = w.heap.size + 1 + 1 := by simp
  have s3 : (((w.alloc (.cells #[.map (some B)] 81)).alloc (.map #[] 0)).alloc (.cells #[.map (some (w.heap.size + 1))] 97)).heap.size = w.heap.size + 1 + 1 + 1 := by simp
  have g3 : W.heap[w.heap.size + 1 + 1 + 1]? = some (.cells #[(.func (.func 152) #[] #[.pointer (some ⟨w.heap.size, 0, none⟩), .pointer (some ⟨w.heap.size + 1 + 1, 0, none⟩), .pointer (some ⟨w.heap.size + 1 + 1 + 1, 0, none⟩)])] 151) := by rw [hW, ← s3]; exact heap_alloc_new _ _
  have g2 : W.heap[w.heap.size + 1 + 1]? = some (.cells #[.map (some (w.heap.size + 1))] 97) := by
    rw [hW, Below.heap_alloc _ _ _ (by rw [s3]; omega), ← s2]; exact heap_alloc_new _ _
  have g1 : W.heap[w.heap.size + 1]? = some (.map #[] 0) := by
    rw [hW, Below.heap_alloc _ _ _ (by rw [s3]; omega), Below.heap_alloc _ _ _ (by rw [s2]; omega), ← s1]; exact heap_alloc_new _ _
  have g0 : W.heap[w.heap.size]? = some (.cells #[.map (some B)] 81) := by
    rw [hW, Below.heap_alloc _ _ _ (by rw [s3]; omega), Below.heap_alloc _ _ _ (by rw [s2]; omega), Below.heap_alloc _ _ _ (by rw [s1]; omega)]; exact heap_alloc_new _ _
  have hBW : Below w.heap.size w W := by
    rw [hW]
    exact ((((Below.refl _ _).alloc (Nat.le_refl _) _).alloc (by rw [s1]; omega) _).alloc (by rw [s2]; omega) _).alloc (by rw [s3]; omega) _
  have hC : Ctx W D len b off B (w.heap.size + 1) w.heap.size (w.heap.size + 1 + 1) (w.heap.size + 1 + 1 + 1) := by
    refine ⟨fun i hi => ⟨(hnd i hi).below hBW, ?_, fun ub uo hu hp => ?_⟩, ownsMap_below hmap hBW, cellN g0, cellN g2, cellN g3, ?_, by omega, by omega, by omega⟩
    · have := cell_lt (hnd i hi).c0
      omega
    · obtain ⟨b', o', e, hb', _⟩ := (hnd i hi).i.2.2 hp
      rw [hu] at e
      simp only [Option.some.injEq, Addr.mk.injEq, and_true] at e
      have := e.1
      omega
    · have := hmap.lt
      omega
  have hS : SetOf W (w.heap.size + 1) len (.map []) := World.ownsMap.mono (n := 0) ⟨#[], 0, g1, ⟨by simp, stamped_empty 0, by simp⟩, Nat.le_refl _, rfl⟩ (Nat.zero_le _)
  have hI : IdSet D len (.map []) := fun x hx => by simp [has_eq] at hx
  have HK : Hid (Calls Tryz.prog 152 #[.slice a m cap, .pointer (some ⟨w.heap.size, 0, none⟩), .pointer (some ⟨w.heap.size + 1 + 1, 0, none⟩), .pointer (some ⟨w.heap.size + 1 + 1 + 1, 0, none⟩)] W fun e w' => e = .returned (.tuple #[]) ∧ ∃ E', SetOf w' (w.heap.size + 1) len E' ∧ Went D len T m (.map []) E' ∧ Maps.size (.map [] : DataW Value) ≤ Maps.size E' ∧ W.grownBy w' (some (w.heap.size + 1))) :=
    find_any D len b off B _ _ _ _ hq hfin len a m cap T _ W hC hS hI (hT.below hBW) (fun ub uo hu hp => by
      obtain ⟨b', o', e, hb', _⟩ := hT.2.2 hp
      rw [hu] at e
      simp only [Option.some.injEq, Addr.mk.injEq, and_true] at e
      have := e.1
      omega) hTs (by omega)
  have HG2 : Hid (W.cell? ⟨w.heap.size + 1 + 1, 0, none⟩ = some (.map (some (w.heap.size + 1)))) := cellN g2
  have HBW : Hid (Below w.heap.size w W) := hBW
  have HW : Hid (W = (((w.alloc (.cells #[.map (some B)] 81)).alloc (.map #[] 0)).alloc (.cells #[.map (some (w.heap.size + 1))] 97)).alloc (.cells #[(.func (.func 152) #[] #[.pointer (some ⟨w.heap.size, 0, none⟩), .pointer (some ⟨w.heap.size + 1 + 1, 0, none⟩), .pointer (some ⟨w.heap.size + 1 + 1 + 1, 0, none⟩)])] 151)) := hW
  clear s1 s2 s3 g0 g1 g2 g3 hBW hC hS hI hT hTs hnd hmap hW
  go_enter Tryz.func98, Tryz.ntmps98
  go_wp2_with fail
  rw [← HW.out]
  refine HK.out.mono ?_
  rintro e w2 ⟨rfl, E, hS2, hW2, _, hG2⟩
  have c2 : w2.cell? ⟨w.heap.size + 1 + 1, 0, none⟩ = some (.map (some (w.heap.size + 1))) := hG2.cell HG2.out (by simp)
  have HF : Hid (SetOf w2 (w.heap.size + 1) len E ∧ Went D len T m (.map []) E ∧ Below w.heap.size w w2) := ⟨hS2, hW2, HBW.out.grown hG2 HBW.out.size (fun k hk => by cases hk; omega)⟩
  clear hS2 hW2 hG2
  go_wp2
  go_ret
  exact ⟨w.heap.size + 1, E, rfl, by omega, HF.out.1, reach_of_went hq HF.out.2.1, HF.out.2.2⟩

set_option maxHeartbeats 1000000 in
theorem implBehind_any (a : Option Addr) (len cap : Nat) (D : Nat → Nd) (u : Option Addr) (m uc : Nat) (T : Nat → ByteArray) (w : World) (h : IsNds w a len cap D) (hf : Fine D len) (hT : IsStrs w u m uc T) (hTs : ∀ j, j < m → (T j).size ≤ 9223372036854775807) (hP : AllT w) :
    Calls Tryz.prog 48 #[.slice a len cap, .slice u m uc] w fun e w' => ∃ v L, e = .returned v ∧ OwnL w' w.heap.size v L ∧ Up L ∧ (∀ x, x ∈ L ↔ dagB D len = true ∧ m ≤ 30 ∧ Reach D len T m x) ∧ Below w.heap.size w w' := by
  have HN : Hid (IsNds w a len cap D) := h
  have HF : Hid (Fine D len) := hf
  have HT : Hid (IsStrs w u m uc T) := hT
  have HTS : Hid (∀ j, j < m → (T j).size ≤ 9223372036854775807) := hTs
  obtain ⟨hlc, hcm, _⟩ := hT
  have HD : Hid (Calls Tryz.prog 88 #[.slice a len cap] w fun e w' => ∃ v, e = .returned (.tuple #[v, .bool (dagB D len)]) ∧ (dagB D len = true → ∃ B b off, v = .map (some B) ∧ w.heap.size ≤ B ∧ (0 < len → a = some ⟨b, off, none⟩) ∧ w'.ownsMap Tryz.prog 9 PR B len (mapD D b off len)) ∧ Below w.heap.size w w') := dagOf_any a len cap D w h hf hP
  clear h hf hTs
  cases hq : dagB D len with
  | false =>
    rw [hq] at HD
    go_enter Tryz.func48, Tryz.ntmps48
    go_wp2_with (go_at_call 88; refine HD.out.mono ?_; rintro e w1 ⟨v, rfl, _, hB1⟩)
    go_ret
    exact ⟨_, [], rfl, World.ownsRow_nil _ _ _ _, by simp [Up], fun x => by simp, hB1⟩
  | true =>
    have HQ : Hid (dagB D len = true) := hq
    rw [hq] at HD
    by_cases hm : 30 < m
    · have hmI : (30 : Int) < (m : Int) := by omega
      have HM : Hid (¬ m ≤ 30) := by show ¬ _; omega
      clear hm
      go_enter Tryz.func48, Tryz.ntmps48
      go_wp2_with (go_at_call 88; refine HD.out.mono ?_; rintro e w1 ⟨v, rfl, _, hB1⟩)
      go_ret
      exact ⟨_, [], rfl, World.ownsRow_nil _ _ _ _, by simp [Up], fun x => by simp [HM.out], hB1⟩
    · have hmI : decide ((30 : Int) < (m : Int)) = false := by simp; omega
      have HM : Hid (m ≤ 30) := by show _ ≤ _; omega
      clear hm
      go_enter Tryz.func48, Tryz.ntmps48
      go_wp2_with (first
        | (go_at_call 88
           refine HD.out.mono ?_
           rintro e w1 ⟨v, rfl, hmp, hB1⟩
           obtain ⟨B, b, off, rfl, hBB, hab, hown⟩ := hmp rfl
           have HB1 : Hid (Below w.heap.size w w1) := hB1
           have HK : Hid (Calls Tryz.prog 98 #[.map (some B), .slice u m uc] w1 fun e w' => ∃ F E, e = .returned (.map (some F)) ∧ w1.heap.size ≤ F ∧ SetOf w' F len E ∧ (∀ x, has E (.string x) = true ↔ Reach D len T m x) ∧ Below w1.heap.size w1 w') := idsBehind_any D len b off B u m uc T w1 HQ.out HF.out (fun i hi => dag_at (HN.out.below hB1) (hab (by omega)) i hi) hown (HT.out.below hB1) HTS.out
           clear hown hB1 hab hmp)
        | (go_at_call 98
           refine HK.out.mono ?_
           rintro e w2 ⟨F, E, rfl, hF, hS, hR, hB2⟩
           have HS : Hid (w2.ownsMap Tryz.prog 9 unitElem F len E) := hS
           have HR : Hid (∀ x, has E (.string x) = true ↔ Reach D len T m x) := hR
           have HB2 : Hid (Below w.heap.size w w2) := HB1.out.trans (hB2.mono HB1.out.size)
           clear hS hR hB2)
        | (go_at_call 117; refine (Tryz.maps_Keys_44 _ _).mono ?_; rintro e w' ⟨rfl, hw'⟩; rw [hw']; clear hw' w')
        | (go_at_call 90; refine (sorted44 F len E unitElem _ HS.out (by have := (dagB_parts HQ.out).1; omega)).mono ?_; rintro e w4 ⟨v, L, rfl, hU, hM, hO4, hB4⟩))
      go_ret
      refine ⟨v, L, rfl, mono_base hO4 HB2.out.size, hU, fun x => ?_, HB2.out.trans (hB4.mono HB2.out.size)⟩
      rw [hM x, HR.out x]
      simp [HM.out]
end Go.Proofs.YtlibipbpaigmdaaGreatDoor

namespace Go.Proofs.YtlibipbpaigmdaaGreatDoor
open Go.RowKit
set_option linter.unusedVariables false

theorem ownsRow_zero {w : World} {base : Nat} {e : TypeId} {size : Nat} {v : Value} {n : Nat} {xs : List Value} (h : w.ownsRow base e size v n xs) : w.ownsRow 0 e size v n xs := by
  obtain ⟨h1, h2⟩ := h
  refine ⟨h1, ?_⟩
  rcases h2 with h2 | ⟨g, cap, cur, hv, hg, r⟩
  · exact Or.inl h2
  · exact Or.inr ⟨g, cap, cur, hv, Nat.zero_le _, r⟩

/-- a row of n texts that can be written -/
def Rw (w : World) (g n : Nat) : Prop := ∃ xs, w.ownsRow 0 9 1 (.slice (some ⟨g, 0, none⟩) n n) n xs
theorem Rw.kept {w w' : World} {g n : Nat} (h : Rw w g n) (he : w'.heap[g]? = w.heap[g]?) : Rw w' g n := by
  obtain ⟨xs, h1, h2⟩ := h
  refine ⟨xs, h1, ?_⟩
  rcases h2 with h2 | ⟨g', cap, cur, hv, hg, hh, r⟩
  · exact Or.inl h2
  · have hv' := hv
    simp only [Value.slice.injEq, Option.some.injEq, Addr.mk.injEq, and_true, true_and] at hv'
    obtain ⟨rfl, rfl⟩ := hv'
    exact Or.inr ⟨g, _, cur, hv, hg, he.trans hh, r⟩
theorem Rw.lt {w : World} {g n : Nat} (h : Rw w g n) : g < w.heap.size := by
  obtain ⟨xs, h⟩ := h
  exact own_live h
theorem Rw.below {w w' : World} {g n : Nat} (h : Rw w g n) (hB : Below w.heap.size w w') : Rw w' g n := h.kept (hB.block _ h.lt)
theorem Rw.setCell {w : World} {g n B o : Nat} {v : Value} (h : Rw w g n) (hne : g ≠ B) : Rw (w.setCell ⟨B, o, none⟩ v) g n := h.kept (Below.heap_setCell _ _ _ _ hne)

/-- a row of len nodes at block g that can be written, their ups at blocks G i; none of these blocks is below base -/
def NOwn (w : World) (base g len : Nat) (G n : Nat → Nat) : Prop :=
  base ≤ g ∧ ∃ ys, w.ownsRow 0 50 6 (.slice (some ⟨g, 0, none⟩) len len) len ys ∧ ∀ i, i < len → ys[i * 6 + 5]? = some (.slice (some ⟨G i, 0, none⟩) (n i) (n i)) ∧ Rw w (G i) (n i) ∧ base ≤ G i

set_option maxHeartbeats 1000000 in
theorem toStrs_own (a : Option Addr) (len cap : Nat) (S : Nat → ByteArray) (w : World) (h : IsStrs w a len cap S) (hl : len ≤ 1048576) :
    Calls Tryz.prog 29 #[.slice a len cap] w fun e w' => ∃ g, e = .returned (.slice (some ⟨g, 0, none⟩) len len) ∧ IsStrs w' (some ⟨g, 0, none⟩) len len S ∧ Below w.heap.size w w' ∧ w.heap.size ≤ g ∧ Rw w' g len := by
  obtain ⟨hlc, hcm, hc⟩ := h
  obtain ⟨i0, hi, hz0, hz1, hz2⟩ := info_parts info9
  have hb2 : i0.bytes * len ≤ 281474976710656 := by rw [hz2]; omega
  have hb3 : len ≤ maxLen := by unfold maxLen; omega
  go_enter Tryz.func29, Tryz.ntmps29
  go_wp2_with (at_make; refine wpList_make_full _ rfl _ _ 25 rfl w.heap.size 9 i0 (.string ⟨#[]⟩) 1 Tryz.underlying25 hi hz0 hz1 .i64 .i64 _ _ len rfl rfl rfl rfl hb2 hb3 (Nat.le_refl _) ?_; intro w1 hown hgrow)
  have hB1 : Below w.heap.size w w1 := (Below.refl _ w).grown hgrow (Nat.le_refl _) (fun k hk => by cases hk)
  clear hgrow
  go_loopw [4] (fun i wr => ∃ (k : Nat) (xs : List Value), k ≤ len ∧ i = .int .i64 k ∧ wr.ownsRow w.heap.size 9 1 (.slice (some ⟨w.heap.size, 0, none⟩) len len) len xs ∧ Hid (∀ j, j < k → xs[j]? = some (.string (S j))) ∧ Below w.heap.size w wr)
    (fun i _ => len - (intOf i).toNat)
  case atStart => exact ⟨0, _, Nat.zero_le _, rfl, hown, fun j hj => absurd hj (Nat.not_lt_zero _), hB1⟩
  case round =>
    obtain ⟨k, xs, hk, rfl, how, HA, hB⟩ := hrel
    by_cases hlt : k < len
    · obtain ⟨b, off, rfl, hbs, hcell⟩ := hc (by omega)
      have d1 := (hB.cell (p := ⟨b, off + k, none⟩) hbs).trans (hcell k hlt)
      clear hcell hc
      have hxl : xs.length = len * 1 := how.1
      have f1 := how.frozenAt k
      obtain ⟨v1, e1⟩ := own_some how k (by omega)
      have HO := (show Hid _ from how)
      clear how hown
      go_wp2
      go_roundw
      case rel =>
        refine ⟨k + 1, xs.set k (.string (S k)), by omega, by go_num, (World.ownsRow.stored HO.out _ _).1, ?_, hB.setCell (Nat.le_refl _) _⟩
        intro j hj
        rcases Nat.lt_succ_iff_lt_or_eq.1 hj with h1 | rfl
        · rw [List.getElem?_set_ne (by omega)]
          exact HA.out j h1
        · rw [List.getElem?_set_self (by omega)]
      case measure => simp [intOf]; omega
    · have hke : k = len := by omega
      subst hke
      have hfin : IsStrs wr (some ⟨w.heap.size, 0, none⟩) k k S := by
        refine ⟨Nat.le_refl _, by omega, fun hp => ?_⟩
        refine ⟨w.heap.size, 0, rfl, own_live how, fun j hj => ?_⟩
        rw [Nat.zero_add, how.cellAt _ (by omega)]
        exact HA.out j hj
      have HRW : Hid (Rw wr w.heap.size k) := ⟨xs, ownsRow_zero how⟩
      clear how hown hB1 HA
      go_wp2
      go_ret
      exact ⟨_, rfl, hfin, hB, Nat.le_refl _, HRW.out⟩

set_option maxHeartbeats 1000000 in
theorem toNode_own (a s k : Int) (key text : ByteArray) (u : Option Addr) (len cap : Nat) (S : Nat → ByteArray) (w : World) (h : IsStrs w u len cap S) (hl : len ≤ 1048576) :
    Calls Tryz.prog 87 #[.agg #[.int .i64 a, .int .i64 s, .int .i64 k, .string key, .string text, .slice u len cap]] w fun e w' => ∃ g, e = .returned (.agg #[.int .i64 a, .int .i64 s, .int .i64 k, .string key, .string text, .slice (some ⟨g, 0, none⟩) len len]) ∧ IsStrs w' (some ⟨g, 0, none⟩) len len S ∧ Below w.heap.size w w' ∧ w.heap.size ≤ g ∧ Rw w' g len := by
  go_enter Tryz.func87, Tryz.ntmps87
  go_wp2_with fail
  obtain ⟨W3, hW3⟩ : ∃ W3, W3 = ((w.alloc (.cells #[.int .i64 a, .int .i64 s, .int .i64 k, .string key, .string text, .slice u len cap] 74)).alloc (.cells #[.int .i64 0, .int .i64 0, .int .i64 0, .string ⟨#[]⟩, .string ⟨#[]⟩, .slice none 0 0] 50)).alloc (.cells #[.int .i64 a, .int .i64 s, .int .i64 k, .string key, .string text, .slice none 0 0] 50) := ⟨_, rfl⟩
  rw [← hW3]
  have hB3 : Below w.heap.size w W3 := by rw [hW3]; exact (((Below.refl _ _).alloc (Nat.le_refl _) _).alloc (by simp) _).alloc (by simp; omega) _
  have g2 : W3.heap[w.heap.size + 1]? = some (.cells #[.int .i64 0, .int .i64 0, .int .i64 0, .string ⟨#[]⟩, .string ⟨#[]⟩, .slice none 0 0] 50) := by
    rw [hW3, Below.heap_alloc _ _ _ (by simp)]
    have := heap_alloc_new (w.alloc (.cells #[.int .i64 a, .int .i64 s, .int .i64 k, .string key, .string text, .slice u len cap] 74)) (.cells #[.int .i64 0, .int .i64 0, .int .i64 0, .string ⟨#[]⟩, .string ⟨#[]⟩, .slice none 0 0] 50)
    simpa using this
  have g3 : W3.heap[w.heap.size + 2]? = some (.cells #[.int .i64 a, .int .i64 s, .int .i64 k, .string key, .string text, .slice none 0 0] 50) := by
    rw [hW3]
    have := heap_alloc_new ((w.alloc (.cells #[.int .i64 a, .int .i64 s, .int .i64 k, .string key, .string text, .slice u len cap] 74)).alloc (.cells #[.int .i64 0, .int .i64 0, .int .i64 0, .string ⟨#[]⟩, .string ⟨#[]⟩, .slice none 0 0] 50)) (.cells #[.int .i64 a, .int .i64 s, .int .i64 k, .string key, .string text, .slice none 0 0] 50)
    simpa using this
  clear hW3
  refine (toStrs_own u len cap S _ (h.below hB3) hl).mono ?_
  rintro e w1 ⟨g, rfl, hI, hB, hge, hrw⟩
  have HRW : Hid (Rw w1 g len) := hrw
  clear hrw
  have HG2 : Hid (w.heap.size + 2 < g) := Nat.lt_of_lt_of_le (lt_of_block g3) hge
  clear hge
  have h2 : w1.heap[w.heap.size + 1]? = some (.cells #[.int .i64 0, .int .i64 0, .int .i64 0, .string ⟨#[]⟩, .string ⟨#[]⟩, .slice none 0 0] 50) := (hB.block _ (lt_of_block g2)).trans g2
  have h3 : w1.heap[w.heap.size + 2]? = some (.cells #[.int .i64 a, .int .i64 s, .int .i64 k, .string key, .string text, .slice none 0 0] 50) := (hB.block _ (lt_of_block g3)).trans g3
  have c0 : w1.cell? ⟨w.heap.size + 2, 0, none⟩ = some (.int .i64 a) := cellN h3
  have cf0 : w1.frozen? ⟨w.heap.size + 2, 0, none⟩ = false := frozN h3
  have c1 : w1.cell? ⟨w.heap.size + 2, 1, none⟩ = some (.int .i64 s) := cellN h3
  have cf1 : w1.frozen? ⟨w.heap.size + 2, 1, none⟩ = false := frozN h3
  have c2 : w1.cell? ⟨w.heap.size + 2, 2, none⟩ = some (.int .i64 k) := cellN h3
  have cf2 : w1.frozen? ⟨w.heap.size + 2, 2, none⟩ = false := frozN h3
  have c3 : w1.cell? ⟨w.heap.size + 2, 3, none⟩ = some (.string key) := cellN h3
  have cf3 : w1.frozen? ⟨w.heap.size + 2, 3, none⟩ = false := frozN h3
  have c4 : w1.cell? ⟨w.heap.size + 2, 4, none⟩ = some (.string text) := cellN h3
  have cf4 : w1.frozen? ⟨w.heap.size + 2, 4, none⟩ = false := frozN h3
  have c5 : w1.cell? ⟨w.heap.size + 2, 5, none⟩ = some (.slice none 0 0) := cellN h3
  have cf5 : w1.frozen? ⟨w.heap.size + 2, 5, none⟩ = false := frozN h3
  have HB1 : Hid (Below w.heap.size w w1) := hB3.trans (hB.mono hB3.size)
  have HI : Hid (_) := hI
  have H2 : Hid ((w1.setCell ⟨w.heap.size + 1 + 1, 5, none⟩ (.slice (some ⟨g, 0, none⟩) len len)).heap[w.heap.size + 1]? = some (.cells #[.int .i64 0, .int .i64 0, .int .i64 0, .string ⟨#[]⟩, .string ⟨#[]⟩, .slice none 0 0] 50)) := by
    show _ = _
    rw [Below.heap_setCell _ _ _ _ (by simp)]
    exact h2
  obtain ⟨q, hq⟩ : ∃ q, q = #[Value.int .i64 a, .int .i64 s, .int .i64 k, .string key, .string text, .slice (some ⟨g, 0, none⟩) len len] := ⟨_, rfl⟩
  have hi6 : (Tryz.prog.info? 50).map (·.size) = some q.size := by rw [hq]; exact info50
  have ho6 : (#[Value.int .i64 0, .int .i64 0, .int .i64 0, .string ⟨#[]⟩, .string ⟨#[]⟩, .slice none 0 0] : Array Value).size = q.size := by rw [hq]; rfl
  have h16 : q.all (·.oneCell') = true := by rw [hq]; simp [Value.oneCell']
  have HQ : Hid (q = #[Value.int .i64 a, .int .i64 s, .int .i64 k, .string key, .string text, .slice (some ⟨g, 0, none⟩) len len]) := hq
  clear h2 h3 g2 g3 hB hB3 hI h
  go_wp2_with (refine wpList_store_row rfl 50 _ _ rfl (w.heap.size + 1) q rfl (congrArg Value.agg hq.symm) 50 _ H2.out hi6 ho6 h16 ?_)
  refine bodyPost_ret (v := .agg q) (results_cell_row rfl _ _ (w.heap.size + 1) 50 _ _ _ rfl (setRow_heap _ _ _ _ _ _ H2.out) Tryz.underlying50 rfl hi6) rfl ⟨g, ret_val (by rw [HQ.out]), ?_, ?_, Nat.le_of_lt (Nat.lt_trans (by omega) HG2.out), HRW.out.kept (by have := HG2.out; rw [setRow_other _ _ _ _ (by omega), Below.heap_setCell _ _ _ _ (by simp <;> omega)])⟩
  · obtain ⟨i1, i2, i3⟩ := HI.out
    refine ⟨i1, i2, fun hp => ?_⟩
    obtain ⟨b, off, e1, e2, e3⟩ := i3 hp
    simp only [Option.some.injEq, Addr.mk.injEq, and_true] at e1
    obtain ⟨rfl, rfl⟩ := e1
    have hg2 := HG2.out
    refine ⟨g, 0, rfl, by simpa using e2, fun i hi => ?_⟩
    rw [cell_setRow_other _ _ _ _ (by simp <;> omega), World.cell?_setCell_other _ _ _ _ (by simp <;> omega)]
    exact e3 i hi
  · exact below_setRow (HB1.out.setCell (p := ⟨w.heap.size + 1 + 1, 5, none⟩) (by show w.heap.size ≤ w.heap.size + 1 + 1; omega) _) (by omega) _

set_option maxRecDepth 10000 in
set_option maxHeartbeats 2000000 in
theorem toNodeS_own (a : Option Addr) (len cap : Nat) (D : Nat → Nd) (w : World) (h : IsNds w a len cap D) (hl : len ≤ 1048576) (hn : ∀ i, i < len → (D i).n ≤ 1048576) :
    Calls Tryz.prog 17 #[.slice a len cap] w fun e w' => ∃ (g : Nat) (G : Nat → Nat), e = .returned (.slice (some ⟨g, 0, none⟩) len len) ∧ IsNds w' (some ⟨g, 0, none⟩) len len (fun i => (D i).at (G i)) ∧ Below w.heap.size w w' ∧ NOwn w' w.heap.size g len G (fun i => (D i).n) := by
  obtain ⟨hlc, hcm, hc⟩ := h
  obtain ⟨i0, hi, hz0, hz1, hz2⟩ := info_parts infoN50
  have hb2 : i0.bytes * len ≤ 281474976710656 := by rw [hz2]; omega
  have hb3 : len ≤ maxLen := by unfold maxLen; omega
  go_enter Tryz.func17, Tryz.ntmps17
  go_wp2_with (at_make; refine wpList_make_full _ rfl _ _ 28 rfl w.heap.size 50 i0 (.agg #[.int .i64 0, .int .i64 0, .int .i64 0, .string ⟨#[]⟩, .string ⟨#[]⟩, .slice none 0 0]) 6 Tryz.underlying28 hi hz0 hz1 .i64 .i64 _ _ len rfl rfl rfl rfl hb2 hb3 (Nat.le_refl _) ?_; intro w1 hown hgrow)
  have hB1 : Below w.heap.size w w1 := (Below.refl _ w).grown hgrow (Nat.le_refl _) (fun k hk => by cases hk)
  clear hgrow
  go_loopw [4] (fun i wr => ∃ (k : Nat) (xs : List Value) (G : Nat → Nat), k ≤ len ∧ i = .int .i64 k ∧ wr.ownsRow w.heap.size 50 6 (.slice (some ⟨w.heap.size, 0, none⟩) len len) len xs ∧ Hid (∀ j, j < k → Laid6 xs D G j ∧ w.heap.size < G j ∧ IsStrs wr (some ⟨G j, 0, none⟩) (D j).n (D j).n (D j).S ∧ Rw wr (G j) (D j).n) ∧ Below w.heap.size w wr)
    (fun i _ => len - (intOf i).toNat)
  case atStart => exact ⟨0, _, fun _ => 0, Nat.zero_le _, rfl, hown, fun j hj => absurd hj (Nat.not_lt_zero _), hB1⟩
  case round =>
    obtain ⟨k, xs, G, hk, rfl, how, HA, hB⟩ := hrel
    by_cases hlt : k < len
    · obtain ⟨b, off, rfl, hbs, hcell⟩ := hc (by omega)
      have hnk := hn k hlt
      obtain ⟨c0, c1, c2, c3, c4, c5, ci⟩ : NdAt wr b (off + k * 6) (D k) := by
        have := hcell k hlt
        refine ⟨(hB.cell (p := ⟨b, _, none⟩) hbs).trans this.c0, (hB.cell (p := ⟨b, _, none⟩) hbs).trans this.c1, (hB.cell (p := ⟨b, _, none⟩) hbs).trans this.c2, (hB.cell (p := ⟨b, _, none⟩) hbs).trans this.c3, (hB.cell (p := ⟨b, _, none⟩) hbs).trans this.c4, (hB.cell (p := ⟨b, _, none⟩) hbs).trans this.c5, this.i.below hB⟩
      have hltI : (k : Int) < (len : Int) := by omega
      have hws : w.heap.size < wr.heap.size := own_live how
      have HI : Hid (IsStrs wr (D k).u (D k).n (D k).cap (D k).S) := ci
      have HO : Hid (_) := how
      clear hcell hc ci hn how hown hB1
      go_wp2_with fail
      refine (toNode_own _ _ _ _ _ _ _ _ (D k).S _ HI.out hnk).mono ?_
      rintro e w2 ⟨g2, rfl, i2, hB2, hg2, hrw2⟩
      have HRW2 : Hid (Rw w2 g2 (D k).n) := hrw2
      clear hrw2
      have hxl : xs.length = len * 6 := HO.out.1
      have f0 := (ownsRow_below HO.out hB2).frozenAt (k * 6)
      obtain ⟨z0, y0⟩ := own_some (ownsRow_below HO.out hB2) (k * 6) (by omega)
      have f1 := (ownsRow_below HO.out hB2).frozenAt (k * 6 + 1)
      obtain ⟨z1, y1⟩ := own_some (ownsRow_below HO.out hB2) (k * 6 + 1) (by omega)
      have f2 := (ownsRow_below HO.out hB2).frozenAt (k * 6 + 2)
      obtain ⟨z2, y2⟩ := own_some (ownsRow_below HO.out hB2) (k * 6 + 2) (by omega)
      have f3 := (ownsRow_below HO.out hB2).frozenAt (k * 6 + 3)
      obtain ⟨z3, y3⟩ := own_some (ownsRow_below HO.out hB2) (k * 6 + 3) (by omega)
      have f4 := (ownsRow_below HO.out hB2).frozenAt (k * 6 + 4)
      obtain ⟨z4, y4⟩ := own_some (ownsRow_below HO.out hB2) (k * 6 + 4) (by omega)
      have f5 := (ownsRow_below HO.out hB2).frozenAt (k * 6 + 5)
      obtain ⟨z5, y5⟩ := own_some (ownsRow_below HO.out hB2) (k * 6 + 5) (by omega)
      have HB2 : Hid (Below wr.heap.size wr w2) := hB2
      have HI2 : Hid (IsStrs w2 (some ⟨g2, 0, none⟩) (D k).n (D k).n (D k).S) := i2
      have HG2 : Hid (w.heap.size < g2) := Nat.lt_of_lt_of_le hws hg2
      clear i2 hg2 c0 c1 c2 c3 c4 c5
      go_wp2
      go_roundw
      case rel =>
        have hB2 := HB2.out
        refine ⟨k + 1, ((((((xs).set (k * 6) (.int .i64 (D k).a)).set (k * 6 + 1) (.int .i64 (D k).s)).set (k * 6 + 2) (.int .i64 (D k).k)).set (k * 6 + 3) (.string (D k).key)).set (k * 6 + 4) (.string (D k).text)).set (k * 6 + 5) (.slice (some ⟨g2, 0, none⟩) (D k).n (D k).n), fun j => if j = k then g2 else G j, by omega, by go_num, ?_, ?_, ?_⟩
        · exact (((((((((((((ownsRow_below HO.out hB2).stored _ _).1).stored _ _).1).stored _ _).1).stored _ _).1).stored _ _).1).stored _ _).1)
        · intro j hj
          have hne : ∀ j, w.heap.size < j → j ≠ w.heap.size := fun j h => by omega
          rcases Nat.lt_succ_iff_lt_or_eq.1 hj with h1 | rfl
          · obtain ⟨p1, p2, p3, p4⟩ := HA.out j h1
            have e1 : (if j = k then g2 else G j) = G j := if_neg (by omega)
            refine ⟨?_, by show w.heap.size < (if j = k then g2 else G j); rw [e1]; exact p2, ?_, ?_⟩
            · unfold Laid6
              rw [get_set6 xs k j 0 _ _ _ _ _ _ h1 (by omega), get_set6 xs k j 1 _ _ _ _ _ _ h1 (by omega), get_set6 xs k j 2 _ _ _ _ _ _ h1 (by omega), get_set6 xs k j 3 _ _ _ _ _ _ h1 (by omega), get_set6 xs k j 4 _ _ _ _ _ _ h1 (by omega), get_set6 xs k j 5 _ _ _ _ _ _ h1 (by omega)]
              show _ ∧ _ ∧ _ ∧ _ ∧ _ ∧ _ = some (Value.slice (some ⟨if j = k then g2 else G j, 0, none⟩) _ _)
              rw [e1]
              exact p1
            · show IsStrs _ (some ⟨if j = k then g2 else G j, 0, none⟩) _ _ _
              rw [e1]
              exact ((((((p3.below hB2).setCell (hne _ p2)).setCell (hne _ p2)).setCell (hne _ p2)).setCell (hne _ p2)).setCell (hne _ p2)).setCell (hne _ p2)
            · show Rw _ (if j = k then g2 else G j) _
              rw [e1]
              exact ((((((p4.below hB2).setCell (hne _ p2)).setCell (hne _ p2)).setCell (hne _ p2)).setCell (hne _ p2)).setCell (hne _ p2)).setCell (hne _ p2)
          · have e1 : (if j = j then g2 else G j) = g2 := if_pos rfl
            refine ⟨?_, by show w.heap.size < (if j = j then g2 else G j); rw [e1]; exact HG2.out, ?_, ?_⟩
            · unfold Laid6
              refine ⟨?_, ?_, ?_, ?_, ?_, ?_⟩
              · rw [List.getElem?_set_ne (by omega), List.getElem?_set_ne (by omega), List.getElem?_set_ne (by omega), List.getElem?_set_ne (by omega), List.getElem?_set_ne (by omega), Nat.add_zero, List.getElem?_set_self (by omega)]
              · rw [List.getElem?_set_ne (by omega), List.getElem?_set_ne (by omega), List.getElem?_set_ne (by omega), List.getElem?_set_ne (by omega), List.getElem?_set_self (by simp; omega)]
              · rw [List.getElem?_set_ne (by omega), List.getElem?_set_ne (by omega), List.getElem?_set_ne (by omega), List.getElem?_set_self (by simp; omega)]
              · rw [List.getElem?_set_ne (by omega), List.getElem?_set_ne (by omega), List.getElem?_set_self (by simp; omega)]
              · rw [List.getElem?_set_ne (by omega), List.getElem?_set_self (by simp; omega)]
              · rw [List.getElem?_set_self (by simp; omega)]
                simp
            · show IsStrs _ (some ⟨if j = j then g2 else G j, 0, none⟩) _ _ _
              rw [e1]
              have hn2 := hne _ HG2.out
              exact (((((HI2.out.setCell hn2).setCell hn2).setCell hn2).setCell hn2).setCell hn2).setCell hn2
            · show Rw _ (if j = j then g2 else G j) _
              rw [e1]
              have hn2 := hne _ HG2.out
              exact (((((HRW2.out.setCell hn2).setCell hn2).setCell hn2).setCell hn2).setCell hn2).setCell hn2
        · exact (((((((hB.trans (hB2.mono hB.size)).setCell (Nat.le_refl _) _).setCell (Nat.le_refl _) _).setCell (Nat.le_refl _) _).setCell (Nat.le_refl _) _).setCell (Nat.le_refl _) _).setCell (Nat.le_refl _) _)
      case measure => simp [intOf]; omega
    · have hke : k = len := by omega
      subst hke
      have hfin : IsNds wr (some ⟨w.heap.size, 0, none⟩) k k (fun i => (D i).at (G i)) := by
        refine ⟨Nat.le_refl _, by omega, fun hp => ?_⟩
        refine ⟨w.heap.size, 0, rfl, own_live how, fun j hj => ?_⟩
        obtain ⟨⟨g0, g1, g2, g3, g4, g5⟩, _, q, _⟩ := HA.out j hj
        refine ⟨?_, ?_, ?_, ?_, ?_, ?_, q⟩
        · rw [Nat.zero_add, how.cellAt _ (by omega)]; exact g0
        · rw [Nat.zero_add, how.cellAt _ (by omega)]; exact g1
        · rw [Nat.zero_add, how.cellAt _ (by omega)]; exact g2
        · rw [Nat.zero_add, how.cellAt _ (by omega)]; exact g3
        · rw [Nat.zero_add, how.cellAt _ (by omega)]; exact g4
        · rw [Nat.zero_add, how.cellAt _ (by omega)]; exact g5
      have HNO : Hid (NOwn wr w.heap.size w.heap.size k G (fun i => (D i).n)) := ⟨Nat.le_refl _, xs, ownsRow_zero how, fun j hj => ⟨(HA.out j hj).1.2.2.2.2.2, (HA.out j hj).2.2.2, Nat.le_of_lt (HA.out j hj).2.1⟩⟩
      clear how hown hB1 HA
      go_wp2
      go_ret
      exact ⟨_, G, rfl, hfin, hB, HNO.out⟩

end Go.Proofs.YtlibipbpaigmdaaGreatDoor

namespace Go.Proofs.YtlibipbpaigmdaaGreatDoor
open Go.RowKit
set_option linter.unusedVariables false

theorem NOwn.below {w w' : World} {base g len : Nat} {G n : Nat → Nat} (h : NOwn w base g len G n) (hB : Below w.heap.size w w') : NOwn w' base g len G n := by
  obtain ⟨hb, ys, ho, hr⟩ := h
  exact ⟨hb, ys, ownsRow_below ho hB, fun i hi => ⟨(hr i hi).1, (hr i hi).2.1.below hB, (hr i hi).2.2⟩⟩

theorem row_ne {w : World} {g g' n m : Nat} {ys : List Value} (h : w.ownsRow 0 50 6 (.slice (some ⟨g, 0, none⟩) n n) n ys) (h' : Rw w g' m) : g' ≠ g := by
  intro e
  subst e
  obtain ⟨xs, h'⟩ := h'
  rcases h.2 with ⟨h1, _⟩ | ⟨g1, c1, cur1, e1, _, hg1, _⟩
  · simp at h1
  rcases h'.2 with ⟨h2, _⟩ | ⟨g2, c2, cur2, e2, _, hg2, _⟩
  · simp at h2
  simp only [Value.slice.injEq, Option.some.injEq, Addr.mk.injEq, and_true, true_and] at e1 e2
  obtain ⟨rfl, rfl⟩ := e1
  obtain ⟨rfl, rfl⟩ := e2
  rw [hg1] at hg2
  simp at hg2

theorem rw_same {w : World} {g n m : Nat} (h : Rw w g n) (h' : Rw w g m) : n = m := by
  obtain ⟨xs, h⟩ := h
  obtain ⟨xs', h'⟩ := h'
  rcases h.2 with ⟨h1, _⟩ | ⟨g1, c1, cur1, e1, _, hg1, _, _, s1, _⟩
  · simp at h1
  rcases h'.2 with ⟨h2, _⟩ | ⟨g2, c2, cur2, e2, _, hg2, _, _, s2, _⟩
  · simp at h2
  simp only [Value.slice.injEq, Option.some.injEq, Addr.mk.injEq, and_true, true_and] at e1 e2
  obtain ⟨rfl, rfl⟩ := e1
  obtain ⟨rfl, rfl⟩ := e2
  rw [hg1] at hg2
  simp only [Option.some.injEq, Obj.cells.injEq] at hg2
  rw [hg2.1] at s1
  omega

theorem mt_int (z : Int) (n : Nat) (hz : z = (n : Int)) (h0 : 0 < n) (hn : n ≤ 1152921504606846976) (w : World) :
    Calls Tryz.prog 94 #[.int .i64 z] w fun e w' => e = .returned (.string (mt n)) ∧ Below w.heap.size w w' := by
  rw [hz]
  exact mt_any n h0 hn w
theorem markStringS_int (z : Int) (a : Option Addr) (len cap base : Nat) (xs0 : List Value) (k0 : Nat) (hz : z = (k0 : Int)) (w : World) (h : w.ownsRow base 9 1 (.slice a len cap) len xs0) (hk : 0 < k0) (hb : k0 + len ≤ 1152921504606846976) :
    Calls Tryz.prog 25 #[.slice a len cap, .int .i64 z] w fun e w' => e = .returned (.int .i64 ((k0 + len : Nat) : Int)) ∧ w'.ownsRow base 9 1 (.slice a len cap) len (marks k0 len) ∧ w.grownBy w' (Value.slice a len cap).ownBlock := by
  rw [hz]
  exact markStringS_any a len cap base xs0 k0 w h hk hb

theorem kept_setCell {p : Nat → Prop} {a w : World} {b o : Nat} (h : Kept p a w) (hb : ¬ p b) (v : Value) : Kept p a (w.setCell ⟨b, o, none⟩ v) :=
  h.trans ⟨rfl, rfl, rfl, by simp [World.setCell], fun k _ hp => Below.heap_setCell _ _ _ _ (fun e => hb (by rw [← show k = b from e]; exact hp))⟩

set_option maxHeartbeats 2000000 in
theorem markNodeS_any (g len base top : Nat) (G n : Nat → Nat) (w : World) (h : NOwn w base g len G n) (hl : len ≤ 1048576) (hn : ∀ i, i < len → n i ≤ 1048576) (hg : g < top) (hG : ∀ i, i < len → G i < top) :
    Calls Tryz.prog 23 #[.slice (some ⟨g, 0, none⟩) len len, .int .i64 1] w fun e w' => ∃ k : Nat, e = .returned (.int .i64 k) ∧ 0 < k ∧ k ≤ 1099516870657 ∧ Kept (fun b => b < base ∨ top ≤ b) w w' := by
  go_enter Tryz.func23, Tryz.ntmps23
  go_wp2
  go_loopw [1, 5] (fun x i wr => ∃ (j k : Nat), j ≤ len ∧ i = .int .i64 j ∧ x = .int .i64 k ∧ 0 < k ∧ k ≤ 1 + j * 1048581 ∧ NOwn wr base g len G n ∧ Kept (fun b => b < base ∨ top ≤ b) w wr)
    (fun _ i _ => len - (intOf i).toNat)
  case atStart => exact ⟨0, 1, Nat.zero_le _, rfl, rfl, by omega, by omega, h, Kept.refl _ _⟩
  case round =>
    obtain ⟨j, k, hj, rfl, rfl, hk0, hk, hO, hK⟩ := hrel
    by_cases hlt : j < len
    · have hltI : (j : Int) < (len : Int) := by omega
      obtain ⟨hbg, ys, ho, hr⟩ := hO
      have hnj := hn j hlt
      obtain ⟨ry, rr, rb⟩ := hr j hlt
      have hyl : ys.length = len * 6 := ho.1
      have HO : Hid (_) := ho
      have HR : Hid (_) := hr
      have f0 := ho.frozenAt (j * 6)
      obtain ⟨z0, y0⟩ := own_some ho (j * 6) (by omega)
      have f1 := ho.frozenAt (j * 6 + 1)
      obtain ⟨z1, y1⟩ := own_some ho (j * 6 + 1) (by omega)
      have f2 := ho.frozenAt (j * 6 + 2)
      obtain ⟨z2, y2⟩ := own_some ho (j * 6 + 2) (by omega)
      clear ho hr h
      go_wp2_with fail
      obtain ⟨wa, hwa⟩ : ∃ wa, wa = ((wr.setCell ⟨g, j * 6, none⟩ (.int .i64 (k : Int))).setCell ⟨g, j * 6 + 1, none⟩ (.int .i64 ((k : Int) + 1))).setCell ⟨g, j * 6 + 2, none⟩ (.int .i64 ((k : Int) + 1 + 1)) := ⟨_, rfl⟩
      rw [← hwa]
      have hoa : wa.ownsRow 0 50 6 (.slice (some ⟨g, 0, none⟩) len len) len (((ys.set (j * 6) (.int .i64 (k : Int))).set (j * 6 + 1) (.int .i64 ((k : Int) + 1))).set (j * 6 + 2) (.int .i64 ((k : Int) + 1 + 1))) := by
        rw [hwa]
        exact (((((World.ownsRow.stored HO.out _ _).1).stored _ _).1).stored _ _).1
      have hra : ∀ i, i < len → Rw wa (G i) (n i) := fun i hi => by
        have hne := row_ne HO.out (HR.out i hi).2.1
        rw [hwa]
        exact (((HR.out i hi).2.1.setCell hne).setCell hne).setCell hne
      have hgb : ¬ (g < base ∨ top ≤ g) := by omega
      have hKa : Kept (fun b => b < base ∨ top ≤ b) w wa := by
        rw [hwa]
        exact kept_setCell (kept_setCell (kept_setCell hK hgb _) hgb _) hgb _
      clear hwa f0 y0 f1 y1 f2 y2 hK
      refine (mt_int _ (k + 3) (by omega) (by omega) (by omega) _).mono ?_
      rintro e w1 ⟨rfl, hB1⟩
      have ho1 := ownsRow_below hoa hB1
      have hr1 : ∀ i, i < len → Rw w1 (G i) (n i) := fun i hi => (hra i hi).below hB1
      have hK1 : Kept (fun b => b < base ∨ top ≤ b) w w1 := hKa.trans (Kept.of_below hB1)
      have f3 := ho1.frozenAt (j * 6 + 3)
      obtain ⟨z3, y3⟩ := own_some ho1 (j * 6 + 3) (by omega)
      have HO1 : Hid (_) := ho1
      have HR1 : Hid (_) := hr1
      have HK1 : Hid (_) := hK1
      clear hoa hra hKa ho1 hr1 hK1 hB1
      go_wp2_with fail
      obtain ⟨wb, hwb⟩ : ∃ wb, wb = w1.setCell ⟨g, j * 6 + 3, none⟩ (.string (mt (k + 3))) := ⟨_, rfl⟩
      rw [← hwb]
      have hob := (World.ownsRow.stored HO1.out (j * 6 + 3) (.string (mt (k + 3)))).1
      have hrb : ∀ i, i < len → Rw wb (G i) (n i) := fun i hi => by
        rw [hwb]
        exact (HR1.out i hi).setCell (row_ne HO1.out (HR1.out i hi))
      have hKb : Kept (fun b => b < base ∨ top ≤ b) w wb := by
        rw [hwb]
        exact kept_setCell HK1.out hgb _
      rw [← hwb] at hob
      clear hwb f3 y3 HO1 HR1 HK1
      refine (mt_int _ (k + 4) (by omega) (by omega) (by omega) _).mono ?_
      rintro e w2 ⟨rfl, hB2⟩
      have ho2 := ownsRow_below hob hB2
      have hr2 : ∀ i, i < len → Rw w2 (G i) (n i) := fun i hi => (hrb i hi).below hB2
      have hK2 : Kept (fun b => b < base ∨ top ≤ b) w w2 := hKb.trans (Kept.of_below hB2)
      have f4 := ho2.frozenAt (j * 6 + 4)
      obtain ⟨z4, y4⟩ := own_some ho2 (j * 6 + 4) (by omega)
      have y5 : w2.cell? ⟨g, j * 6 + 5, none⟩ = some (.slice (some ⟨G j, 0, none⟩) (n j) (n j)) := by
        rw [ho2.cellAt _ (by omega), List.getElem?_set_ne (by omega), List.getElem?_set_ne (by omega), List.getElem?_set_ne (by omega), List.getElem?_set_ne (by omega)]
        exact ry
      have HO2 : Hid (_) := ho2
      have HR2 : Hid (_) := hr2
      have HK2 : Hid (_) := hK2
      clear hob hrb hKb ho2 hr2 hK2 hB2
      go_wp2_with fail
      obtain ⟨wc, hwc⟩ : ∃ wc, wc = w2.setCell ⟨g, j * 6 + 4, none⟩ (.string (mt (k + 4))) := ⟨_, rfl⟩
      rw [← hwc]
      have hoc := (World.ownsRow.stored HO2.out (j * 6 + 4) (.string (mt (k + 4)))).1
      have hrc : ∀ i, i < len → Rw wc (G i) (n i) := fun i hi => by
        rw [hwc]
        exact (HR2.out i hi).setCell (row_ne HO2.out (HR2.out i hi))
      have hKc : Kept (fun b => b < base ∨ top ≤ b) w wc := by
        rw [hwc]
        exact kept_setCell HK2.out hgb _
      rw [← hwc] at hoc
      clear hwc f4 y4 y5 HO2 HR2 HK2
      obtain ⟨xs0, hx0⟩ := hrc j hlt
      refine (markStringS_int _ _ _ _ 0 xs0 (k + 5) (by omega) _ hx0 (by omega) (by omega)).mono ?_
      rintro e w3 ⟨rfl, ho3, hG3⟩
      have hneg := row_ne hoc (hrc j hlt)
      have ho4 := hoc.kept hG3 (.inr (by simp [Value.ownBlock]; exact fun e => hneg e.symm))
      have hr4 : ∀ i, i < len → Rw w3 (G i) (n i) := fun i hi => by
        by_cases he : G i = G j
        · have hnn := rw_same (show Rw wc (G j) (n i) by rw [← he]; exact hrc i hi) (hrc j hlt)
          rw [he, hnn]
          exact ⟨_, ho3⟩
        · exact (hrc i hi).kept (hG3.block _ (hrc i hi).lt (by simp [Value.ownBlock]; exact he))
      have hK4 : Kept (fun b => b < base ∨ top ≤ b) w w3 := hKc.trans (Kept.of_grown hG3 (fun b hb => by
        simp [Value.ownBlock] at hb
        have := hG j hlt
        omega))
      have HF : Hid (NOwn w3 base g len G n ∧ Kept (fun b => b < base ∨ top ≤ b) w w3) := by
        refine ⟨⟨hbg, _, ho4, fun i hi => ⟨?_, hr4 i hi, (HR.out i hi).2.2⟩⟩, hK4⟩
        rw [List.getElem?_set_ne (by omega), List.getElem?_set_ne (by omega), List.getElem?_set_ne (by omega), List.getElem?_set_ne (by omega), List.getElem?_set_ne (by omega)]
        exact (HR.out i hi).1
      clear hoc hrc hKc hx0 ho3 hG3 ho4 hr4 hK4 HO HR ry rr
      go_wp2
      go_roundw
      case rel => exact ⟨j + 1, k + 5 + n j, by omega, by go_num, by go_num, by omega, by omega, HF.out.1, HF.out.2⟩
      case measure => simp [intOf]; omega
    · have hje : j = len := by omega
      subst hje
      go_wp2
      go_ret
      exact ⟨k, rfl, hk0, by omega, hK⟩
end Go.Proofs.YtlibipbpaigmdaaGreatDoor

namespace Go.Proofs.YtlibipbpaigmdaaGreatDoor
open Go.RowKit
set_option linter.unusedVariables false

theorem OwnL.strs2 {w : World} {base : Nat} {v : Value} {L : List (List UInt8)} (h : OwnL w base v L) :
    ∃ a cap, v = .slice a L.length cap ∧ IsStrs w a L.length cap (atL L) ∧ ∀ b off, a = some ⟨b, off, none⟩ → base ≤ b ∧ b < w.heap.size := by
  obtain ⟨a, cap, rfl, hI, hb⟩ := h.strs
  refine ⟨a, cap, rfl, hI, fun b off e => ⟨hb b off e, ?_⟩⟩
  subst e
  exact (h.lt b rfl).2
theorem OwnL.kept {p : Nat → Prop} {w w' : World} {base : Nat} {v : Value} {L : List (List UInt8)} (h : OwnL w base v L) (hK : Kept p w w') (hp : ∀ b, base ≤ b → p b) : OwnL w' base v L := by
  obtain ⟨h1, h2⟩ := h
  refine ⟨h1, ?_⟩
  rcases h2 with h2 | ⟨g, cap, cur, hv, hg, hh, r⟩
  · exact Or.inl h2
  · exact Or.inr ⟨g, cap, cur, hv, hg, (hK.block g (lt_of_block hh) (hp g hg)).trans hh, r⟩
theorem NOwn.top {w : World} {base g len : Nat} {G n : Nat → Nat} (h : NOwn w base g len G n) : g < w.heap.size ∧ ∀ i, i < len → G i < w.heap.size := by
  obtain ⟨_, ys, ho, hr⟩ := h
  exact ⟨own_live ho, fun i hi => (hr i hi).2.1.lt⟩
end Go.Proofs.YtlibipbpaigmdaaGreatDoor

namespace Go.Proofs.YtlibipbpaigmdaaGreatDoor
open Go.RowKit Go.Maps
set_option linter.unusedVariables false

set_option maxHeartbeats 1000000 in
theorem szNodeS_top (a : Option Addr) (len cap : Nat) (D : Nat → Nd) (w : World) (h : IsNds w a len cap D) (hF : Fine D len) :
    Calls Tryz.prog 15 #[.slice a len cap, .int .i64 1048576] w fun e w' => ∃ r : Int, e = .returned (.int .i64 r) ∧ (r < 0 ∨ (0 ≤ r ∧ r ≤ 1048576 ∧ len ≤ 1048576 ∧ ∀ i, i < len → (D i).n ≤ 1048576)) ∧ Below w.heap.size w w' := by
  obtain ⟨hlc, hcm, hc⟩ := h
  by_cases hneg : (1048576 : Int) - (len : Int) < 0
  · go_enter Tryz.func15, Tryz.ntmps15
    go_wp2
    go_ret
    exact ⟨_, rfl, .inl (by decide), Below.refl _ _⟩
  have hlen : len ≤ 1048576 := by omega
  go_enter Tryz.func15, Tryz.ntmps15
  go_wp2
  go_loopw [1, 5] (fun x i wr => ∃ (k : Nat) (r : Int), k ≤ len ∧ i = .int .i64 k ∧ x = .int .i64 r ∧ 0 ≤ r ∧ r ≤ 1048576 ∧ Hid (∀ j, j < k → (D j).n ≤ 1048576) ∧ Below w.heap.size w wr) (fun _ i _ => len - (intOf i).toNat)
  case atStart => exact ⟨0, _, Nat.zero_le _, rfl, rfl, by omega, by omega, fun j hj => absurd hj (Nat.not_lt_zero _), Below.refl _ _⟩
  case round =>
    obtain ⟨k, r, hk, rfl, rfl, hr0, hr1, HA, hB⟩ := hrel
    by_cases hlt : k < len
    · obtain ⟨b, off, rfl, hbs, hcell⟩ := hc (by omega)
      obtain ⟨c0, c1, c2, c3, c4, c5, ci⟩ : NdAt wr b (off + k * 6) (D k) := by
        have := hcell k hlt
        refine ⟨(hB.cell (p := ⟨b, _, none⟩) hbs).trans this.c0, (hB.cell (p := ⟨b, _, none⟩) hbs).trans this.c1, (hB.cell (p := ⟨b, _, none⟩) hbs).trans this.c2, (hB.cell (p := ⟨b, _, none⟩) hbs).trans this.c3, (hB.cell (p := ⟨b, _, none⟩) hbs).trans this.c4, (hB.cell (p := ⟨b, _, none⟩) hbs).trans this.c5, this.i.below hB⟩
      have hltI : (k : Int) < (len : Int) := by omega
      have hf := hF k hlt
      have HI : Hid (IsStrs wr (D k).u (D k).n (D k).cap (D k).S) := ci
      clear hcell hc ci hF
      go_wp2_with fail
      refine (szNode2 _ _ _ _ _ _ _ _ (D k).S _ HI.out hf.2.2 hf.1 hf.2.1 r hr0 hr1).mono ?_
      rintro e w1 ⟨r1, rfl, hq, hB1⟩
      have HB1 : Hid (Below w.heap.size w w1) := hB.trans (hB1.mono hB.size)
      clear hB1
      rcases hq with hq | ⟨hq0, hq1, _, _, hq2, _⟩
      · go_wp2
        go_ret
        exact ⟨_, rfl, .inl (by decide), HB1.out⟩
      · have HA' : Hid (∀ j, j < k + 1 → (D j).n ≤ 1048576) := by
          intro j hj
          rcases Nat.lt_succ_iff_lt_or_eq.1 hj with h1 | rfl
          · exact HA.out j h1
          · exact hq2
        go_wp2
        go_roundw
        case rel => exact ⟨k + 1, _, by omega, by go_num, rfl, by omega, by omega, HA', HB1.out⟩
        case measure => simp [intOf]; omega
    · have hke : k = len := by omega
      subst hke
      go_wp2
      go_ret
      exact ⟨_, rfl, .inr ⟨hr0, hr1, hlen, HA.out⟩, hB⟩

/-- lo gives the rising list of all texts for which M holds, where there is one, else none -/
def IsLo (lo : (List UInt8 → Prop) → List (List UInt8)) : Prop := ∀ M : List UInt8 → Prop, (∀ L, Up L → (∀ x, x ∈ L ↔ M x) → L = lo M) ∧ ((¬ ∃ L, Up L ∧ ∀ x, x ∈ L ↔ M x) → lo M = [])
open Classical in
theorem isLo_ex : ∃ lo, IsLo lo := by
  refine ⟨fun M => if h : ∃ L, Up L ∧ ∀ x, x ∈ L ↔ M x then h.choose else [], fun M => ⟨fun L hU hM => ?_, fun h => dif_neg h⟩⟩
  have h : ∃ L, Up L ∧ ∀ x, x ∈ L ↔ M x := ⟨L, hU, hM⟩
  show L = dite _ _ _
  rw [dif_pos h]
  exact up_unique hU h.choose_spec.1 (fun x => by rw [hM x, h.choose_spec.2 x])
theorem listOf_is {lo : (List UInt8 → Prop) → List (List UInt8)} (hlo : IsLo lo) {M : List UInt8 → Prop} {L : List (List UInt8)} (hU : Up L) (hM : ∀ x, x ∈ L ↔ M x) : L = lo M := (hlo M).1 L hU hM
theorem listOf_len {lo : (List UInt8 → Prop) → List (List UInt8)} (hlo : IsLo lo) {M : List UInt8 → Prop} {n : Nat} (l : List (List UInt8)) (hl : l.length ≤ n) (hs : ∀ x, M x → x ∈ l) : (lo M).length ≤ n := by
  by_cases h : ∃ L, Up L ∧ ∀ x, x ∈ L ↔ M x
  · obtain ⟨L, hU, hM⟩ := h
    rw [← listOf_is hlo hU hM]
    have := len_le L l hU.nodup (fun x hx => hs x ((hM x).1 hx))
    omega
  · rw [(hlo M).2 h]; simp
theorem listOf_congr {lo : (List UInt8 → Prop) → List (List UInt8)} {M M' : List UInt8 → Prop} (h : ∀ x, M x ↔ M' x) : lo M = lo M' := by
  have : M = M' := funext fun x => propext (h x)
  rw [this]

def behR (lo : (List UInt8 → Prop) → List (List UInt8)) (D : Nat → Nd) (len : Nat) (T : Nat → ByteArray) (m : Nat) : List (List UInt8) := lo fun x => dagB D len = true ∧ m ≤ 30 ∧ Reach D len T m x
theorem behR_len {lo : (List UInt8 → Prop) → List (List UInt8)} (hlo : IsLo lo) (D : Nat → Nd) (len : Nat) (T : Nat → ByteArray) (m : Nat) : (behR lo D len T m).length ≤ 1000000 := by
  by_cases hq : dagB D len = true
  · exact listOf_len hlo (idsL D len) (by rw [idsL_len]; have := (dagB_parts hq).1; omega) (fun x hx => (idsL_mem D len x).2 (hx.2.2.isId hq))
  · exact listOf_len hlo [] (by simp) (fun x hx => absurd hx.1 hq)
theorem reach_at (D : Nat → Nd) (G : Nat → Nat) (len : Nat) (T : Nat → ByteArray) (m : Nat) (x : List UInt8) : Reach (fun i => (D i).at (G i)) len T m x ↔ Reach D len T m x := by
  constructor
  · intro h
    exact h (Reach D len T m) (fun j i hj hi e => .base j i hj hi e) (fun i j hi ih hj => .step i j hi ih hj)
  · intro h
    exact h (Reach (fun i => (D i).at (G i)) len T m) (fun j i hj hi e => .base (D := fun i => (D i).at (G i)) j i hj hi e) (fun i j hi ih hj => .step (D := fun i => (D i).at (G i)) i j hi ih hj)
theorem behR_at (lo : (List UInt8 → Prop) → List (List UInt8)) (D : Nat → Nd) (G : Nat → Nat) (len : Nat) (T : Nat → ByteArray) (m : Nat) : behR lo (fun i => (D i).at (G i)) len T m = behR lo D len T m := by
  unfold behR
  exact listOf_congr (fun x => by rw [reach_at]; rfl)

theorem implBehind_R (lo : (List UInt8 → Prop) → List (List UInt8)) (hlo : IsLo lo) (a : Option Addr) (len cap : Nat) (D : Nat → Nd) (u : Option Addr) (m uc : Nat) (T : Nat → ByteArray) (w : World) (h : IsNds w a len cap D) (hf : Fine D len) (hT : IsStrs w u m uc T) (hTs : ∀ j, j < m → (T j).size ≤ 9223372036854775807) (hP : AllT w) :
    Calls Tryz.prog 48 #[.slice a len cap, .slice u m uc] w fun e w' => ∃ v, e = .returned v ∧ OwnL w' w.heap.size v (behR lo D len T m) ∧ Below w.heap.size w w' := by
  refine (implBehind_any a len cap D u m uc T w h hf hT hTs hP).mono ?_
  rintro e w' ⟨v, L, rfl, ho, hU, hM, hB⟩
  exact ⟨v, rfl, by unfold behR; rw [← listOf_is hlo hU hM]; exact ho, hB⟩

set_option maxHeartbeats 1000000 in
theorem specBehind_R (lo : (List UInt8 → Prop) → List (List UInt8)) (hlo : IsLo lo) (a : Option Addr) (len cap : Nat) (D : Nat → Nd) (u : Option Addr) (m uc : Nat) (T : Nat → ByteArray) (w : World) (h : IsNds w a len cap D) (hf : Fine D len) (hT : IsStrs w u m uc T) :
    Calls Tryz.prog 49 #[.slice a len cap, .slice u m uc] w fun e w' => ∃ v, e = .returned v ∧ OwnL w' w.heap.size v (behR lo D len T m) ∧ Below w.heap.size w w' := by
  have HN : Hid (IsNds w a len cap D) := h
  have HF : Hid (Fine D len) := hf
  have HT : Hid (IsStrs w u m uc T) := hT
  obtain ⟨hlc, hcm, _⟩ := hT
  have HS : Hid (Calls Tryz.prog 46 #[.slice a len cap] w fun e w' => e = .returned (.bool (dagB D len)) ∧ Below w.heap.size w w') := specDagOk_any a len cap D w h hf
  clear h hf
  cases hq : dagB D len with
  | false =>
    have HR : Hid (behR lo D len T m = []) := (listOf_is hlo (M := fun x => dagB D len = true ∧ m ≤ 30 ∧ Reach D len T m x) (L := []) (by simp [Up]) (fun x => by simp [hq])).symm
    rw [hq] at HS
    go_enter Tryz.func49, Tryz.ntmps49
    go_wp2_with (go_at_call 46; refine HS.out.mono ?_; rintro e w1 ⟨rfl, hB1⟩)
    go_ret
    refine ⟨_, rfl, ?_, hB1.alloc hB1.size _⟩
    rw [HR.out]
    exact World.ownsRow_made w1 #[] 0 hB1.size (by decide) rfl
  | true =>
    have HQ : Hid (dagB D len = true) := hq
    rw [hq] at HS
    by_cases hm : 30 < m
    · have hmI : (30 : Int) < (m : Int) := by omega
      have HR : Hid (behR lo D len T m = []) := (listOf_is hlo (M := fun x => dagB D len = true ∧ m ≤ 30 ∧ Reach D len T m x) (L := []) (by simp [Up]) (fun x => by simp; omega)).symm
      clear hm
      go_enter Tryz.func49, Tryz.ntmps49
      go_wp2_with (go_at_call 46; refine HS.out.mono ?_; rintro e w1 ⟨rfl, hB1⟩)
      go_ret
      refine ⟨_, rfl, ?_, hB1.alloc hB1.size _⟩
      rw [HR.out]
      exact World.ownsRow_made w1 #[] 0 hB1.size (by decide) rfl
    · have hmI : decide ((30 : Int) < (m : Int)) = false := by simp; omega
      have HM : Hid (m ≤ 30) := by show _ ≤ _; omega
      clear hm
      go_enter Tryz.func49, Tryz.ntmps49
      go_wp2_with (first
        | (go_at_call 46
           refine HS.out.mono ?_
           rintro e w1 ⟨rfl, hB1⟩
           have HB1 : Hid (Below w.heap.size w w1) := hB1
           have HA : Hid (Calls Tryz.prog 84 #[.slice a len cap] w1 fun e w' => ∃ g gc, e = .returned (.slice g len gc) ∧ IsStrs w' g len gc (fun i => (D i).id) ∧ Below w1.heap.size w1 w') := l6All_any a len cap D w1 (HN.out.below hB1) HF.out (dagB_parts HQ.out).1
           clear hB1)
        | (go_at_call 84
           refine HA.out.mono ?_
           rintro e w2 ⟨g, gc, rfl, hI, hB2⟩
           have HB2 : Hid (Below w.heap.size w w2) := HB1.out.trans (hB2.mono HB1.out.size)
           have HK : Hid (Calls Tryz.prog 85 #[.slice a len cap, .slice g len gc, .slice u m uc] w2 fun e w' => ∃ go oc L, e = .returned (.slice (some ⟨go, 0, none⟩) L.length oc) ∧ OwnS w' w2.heap.size go oc L ∧ Up L ∧ (∀ x, x ∈ L ↔ Reach D len T m x) ∧ Below w2.heap.size w2 w') := l6Behind_any a len cap D g gc u m uc T w2 HQ.out (HN.out.below HB2.out) hI (HT.out.below HB2.out)
           clear hI hB2)
        | (go_at_call 85
           refine HK.out.mono ?_
           rintro e w3 ⟨go, oc, L, rfl, ho, hU, hM, hB3⟩))
      go_ret
      refine ⟨_, rfl, ?_, HB2.out.trans (hB3.mono HB2.out.size)⟩
      have e1 : L = behR lo D len T m := listOf_is hlo hU (fun x => by rw [hM x]; simp [HQ.out, HM.out])
      rw [← e1]
      exact mono_base ho HB2.out.size
end Go.Proofs.YtlibipbpaigmdaaGreatDoor
