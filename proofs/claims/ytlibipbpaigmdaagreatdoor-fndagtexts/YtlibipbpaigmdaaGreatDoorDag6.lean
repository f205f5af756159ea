/-
  The order of ids; a map from ids to nodes as plain data; the program's looking up. No condition but that the slices read.
-/
import Derived.Test.YtlibipbpaigmdaaGreatDoorDag5
import Derived.Maps.Own
import Derived.Maps.OwnOps
import Derived.Maps.Views
import Derived.Maps.RangeWalk
import Derived.StringKeys
namespace Go.Proofs.YtlibipbpaigmdaaGreatDoor
open Go.RowKit Go.Maps
set_option linter.unusedVariables false

theorem bl_irr : ∀ x : List UInt8, Op.bytesLess x x = false
  | [] => rfl
  | a :: x => by
    rw [Op.bytesLess, bl_irr x]
    simp

theorem bl_tri : ∀ x y : List UInt8, Op.bytesLess x y = false → x ≠ y → Op.bytesLess y x = true
  | [], [], _, h => absurd rfl h
  | [], _ :: _, h, _ => by simp [Op.bytesLess] at h
  | _ :: _, [], _, _ => rfl
  | a :: x, b :: y, h, hne => by
    rw [Op.bytesLess] at h ⊢
    simp only [Bool.or_eq_false_iff, decide_eq_false_iff_not, Bool.and_eq_false_iff] at h
    obtain ⟨h1, h2⟩ := h
    by_cases e : a = b
    · subst e
      have h3 : Op.bytesLess x y = false := by
        rcases h2 with h2 | h2
        · simp at h2
        · exact h2
      have := bl_tri x y h3 (fun h => hne (by rw [h]))
      simp [this]
    · have : b < a := by
        rw [UInt8.lt_iff_toNat_lt] at h1 ⊢
        have hn : a.toNat ≠ b.toNat := fun h => e (UInt8.toNat_inj.1 h)
        omega
      simp [this]

theorem bl_trans : ∀ x y z : List UInt8, Op.bytesLess x y = true → Op.bytesLess y z = true → Op.bytesLess x z = true
  | [], [], _, h, _ => by simp [Op.bytesLess] at h
  | _ :: _, [], _, h, _ => by simp [Op.bytesLess] at h
  | _, _ :: _, [], _, h => by simp [Op.bytesLess] at h
  | [], _ :: _, _ :: _, _, _ => rfl
  | a :: x, b :: y, c :: z, h, h' => by
    rw [Op.bytesLess] at h h' ⊢
    simp only [Bool.or_eq_true, Bool.and_eq_true, decide_eq_true_eq, beq_iff_eq] at h h' ⊢
    rcases h with h | ⟨rfl, h⟩
    · rcases h' with h' | ⟨rfl, h'⟩
      · left
        rw [UInt8.lt_iff_toNat_lt] at h h' ⊢
        omega
      · exact .inl h
    · rcases h' with h' | ⟨rfl, h'⟩
      · exact .inl h'
      · exact .inr ⟨rfl, bl_trans x y z h h'⟩

theorem bl_asym {x y : List UInt8} (h : Op.bytesLess x y = true) : Op.bytesLess y x = false := by
  cases hq : Op.bytesLess y x with
  | false => rfl
  | true =>
    have := bl_trans _ _ _ h hq
    rw [bl_irr] at this
    cases this

theorem rise_up {S : Nat → ByteArray} {n : Nat} (h : riseB S n = true) : ∀ k, 0 < k → k < n → upB S k = true := fun k h0 hk => by
  cases hq : upB S k with
  | true => rfl
  | false =>
    rw [riseB_false hk h0 hq] at h
    cases h

theorem rise_less {S : Nat → ByteArray} {n : Nat} (h : riseB S n = true) (i : Nat) : ∀ d, i + d + 1 < n → Op.bytesLess (S i).toList (S (i + d + 1)).toList = true
  | 0, hd => rise_up h (i + 1) (by omega) hd
  | d + 1, hd => bl_trans _ _ _ (rise_less h i d (by omega)) (rise_up h (i + d + 1 + 1) (by omega) hd)

theorem rise_inj {S : Nat → ByteArray} {n i j : Nat} (h : riseB S n = true) (hi : i < n) (hj : j < n) (he : (S i).toList = (S j).toList) : i = j := by
  rcases Nat.lt_trichotomy i j with hl | rfl | hl
  · obtain ⟨d, rfl⟩ : ∃ d, j = i + d + 1 := ⟨j - i - 1, by omega⟩
    have := rise_less h i d hj
    rw [he, bl_irr] at this
    cases this
  · rfl
  · obtain ⟨d, rfl⟩ : ∃ d, i = j + d + 1 := ⟨i - j - 1, by omega⟩
    have := rise_less h j d hi
    rw [he, bl_irr] at this
    cases this

/-- pointers, as elements of a map -/
def PR : Value → Option (DataW Value × List MemPlace)
  | .pointer p => some (.held (.pointer p), [])
  | _ => none
theorem PR_inv (v : Value) (y : DataW Value × List MemPlace) (h : PR v = some y) : ∃ c : Option Addr, v = .pointer c := by
  unfold PR at h
  split at h
  · exact ⟨_, rfl⟩
  · cases h

/-- the node at place i -/
def ptr (b off i : Nat) : Value := .pointer (some ⟨b, off + i * 6, none⟩)
def keyL (s : ByteArray) : Lit := .string s.data.toList
theorem keyL_is (s : ByteArray) : WideAt.IsKeyLit (keyL s) := trivial
/-- the map from ids to nodes, behind the first k -/
def mapD (D : Nat → Nd) (b off : Nat) : Nat → DataW Value
  | 0 => .map []
  | k + 1 => (mapD D b off k).put (keyL (ids D k)) (.held (ptr b off k))
theorem mapD_is (D : Nat → Nd) (b off : Nat) : ∀ k, IsMap (mapD D b off k)
  | 0 => isMap_empty
  | k + 1 => (mapD_is D b off k).put _ _

theorem outB_succ (I : Nat → ByteArray) (n : Nat) (id : ByteArray) : outB I (n + 1) id = (outB I n id && !((I n).toList == id.toList)) := allB_succ _ _

theorem keyL_inj {s t : ByteArray} (h : keyL s = keyL t) : s.toList = t.toList := by
  unfold keyL at h
  rw [ByteArray.toList_eq, ByteArray.toList_eq]
  simpa using h
theorem keyL_eq {s t : ByteArray} (h : s.toList = t.toList) : keyL s = keyL t := by
  unfold keyL
  rw [← ByteArray.toList_eq, ← ByteArray.toList_eq, h]

theorem mapD_at (D : Nat → Nd) (b off : Nat) (id : ByteArray) : ∀ k, (outB (ids D) k id = true → ∀ z, (mapD D b off k).atKey (keyL id) z = z) ∧ (outB (ids D) k id = false → ∃ i, i < k ∧ (ids D i).toList = id.toList ∧ ∀ z, (mapD D b off k).atKey (keyL id) z = .held (ptr b off i))
  | 0 => ⟨fun _ _ => rfl, fun h => by simp [outB, allB] at h⟩
  | k + 1 => by
    obtain ⟨h1, h2⟩ := mapD_at D b off id k
    rw [outB_succ]
    by_cases he : (ids D k).toList = id.toList
    · have hk : keyL (ids D k) = keyL id := keyL_eq he
      refine ⟨fun h => ?_, fun _ => ⟨k, Nat.lt_succ_self _, he, fun z => ?_⟩⟩
      · simp [he] at h
      · show ((mapD D b off k).put (keyL (ids D k)) (.held (ptr b off k))).atKey (keyL id) z = _
        rw [hk]
        exact atKey_put_same (mapD_is D b off k) (keyL_is _) _ _
    · have hne : keyL id ≠ keyL (ids D k) := fun h => he (keyL_inj h).symm
      have hb : (!((ids D k).toList == id.toList)) = true := by simp [he]
      rw [hb, Bool.and_true]
      refine ⟨fun h z => ?_, fun h => ?_⟩
      · show ((mapD D b off k).put (keyL (ids D k)) (.held (ptr b off k))).atKey (keyL id) z = _
        rw [atKey_put_other hne]
        exact h1 h z
      · obtain ⟨i, hi, e, ha⟩ := h2 h
        refine ⟨i, Nat.lt_succ_of_lt hi, e, fun z => ?_⟩
        show ((mapD D b off k).put (keyL (ids D k)) (.held (ptr b off k))).atKey (keyL id) z = _
        rw [atKey_put_other hne]
        exact ha z

theorem mapD_has (D : Nat → Nd) (b off : Nat) : ∀ k i, i < k → has (mapD D b off k) (keyL (ids D i)) = true
  | k + 1, i, h => by
    show has ((mapD D b off k).put (keyL (ids D k)) (.held (ptr b off k))) _ = true
    by_cases he : keyL (ids D i) = keyL (ids D k)
    · rw [he]
      exact has_put_same (mapD_is D b off k) (keyL_is _) _
    · rw [has_put_other he]
      exact mapD_has D b off k i (by
        have : i ≠ k := fun e => he (by rw [e])
        omega)

theorem lawS : Keyed Tryz.prog 9 := string_keyed Tryz.underlying9
theorem zeroP (w : World) : (zeroValue 92).run Tryz.prog w = .ok (.pointer none) w := by kernel_rfl

theorem keyS {s : ByteArray} (h : s.size ≤ 9223372036854775807) : keyOf Tryz.prog 9 (.string s) = some (keyL s) := WideMaps.keyOf_string_mk Tryz.underlying9 h

theorem keyS_inv (key : Value) (kl : Lit) (h : keyOf Tryz.prog 9 key = some kl) : ∃ s : ByteArray, key = .string s := by
  cases key <;> simp [keyOf, Tryz.underlying9, mapKey] at h
  exact ⟨_, rfl⟩
theorem keyS_lit {s : ByteArray} {kl : Lit} (h : keyOf Tryz.prog 9 (.string s) = some kl) : kl = keyL s := by
  simp [keyOf, Tryz.underlying9, mapKey] at h
  exact h.2.symm

/-- what a look-up in the map of nodes says -/
theorem look_ok {w : World} {B n : Nat} {D : Nat → Nd} {b off k : Nat} (h : w.ownsMap Tryz.prog 9 PR B n (mapD D b off k)) (id : ByteArray) (hs : id.size ≤ 9223372036854775807) :
    ∃ p : Option Addr, (Instr.lookup 81 (.map (some B)) (.string id) false).run Tryz.prog w = .ok (.pointer p) w ∧ (outB (ids D) k id = true → p = none) ∧ (outB (ids D) k id = false → ∃ a, p = some a) := by
  obtain ⟨v, ps, hrun, hv⟩ := h.lookup (e := 92) lawS Tryz.underlying81 (zeroP w) (zd := .held (.pointer none)) (zp := []) rfl (keyS hs)
  obtain ⟨p, rfl⟩ := PR_inv _ _ hv
  have hp : DataW.held (Value.pointer p) = (mapD D b off k).atKey (keyL id) (.held (.pointer none)) := by
    simp only [PR, Option.some.injEq, Prod.mk.injEq] at hv
    exact hv.1
  refine ⟨p, hrun, fun ho => ?_, fun ho => ?_⟩
  · rw [(mapD_at D b off id k).1 ho] at hp
    simpa using hp
  · obtain ⟨i, _, _, ha⟩ := (mapD_at D b off id k).2 ho
    rw [ha] at hp
    simp only [ptr, DataW.held.injEq, Value.pointer.injEq] at hp
    exact ⟨_, hp⟩

set_option maxHeartbeats 1000000 in
theorem upsThere_any (B : Nat) (D : Nat → Nd) (b off m : Nat) (pb po : Nat) (d : Nd) (n : Nat) (w : World) (hm : w.ownsMap Tryz.prog 9 PR B n (mapD D b off m)) (hd : NdAt w pb po d) (hs : ∀ j, j < d.n → (d.S j).size ≤ 9223372036854775807) :
    Calls Tryz.prog 147 #[.map (some B), .pointer (some ⟨pb, po, none⟩)] w fun e w' => e = .returned (.bool (hasB (ids D) m d.S d.n)) ∧ w' = w := by
  have HL : Hid (∀ j, j < d.n → ∃ p : Option Addr, (Instr.lookup 81 (.map (some B)) (.string (d.S j)) false).run Tryz.prog w = .ok (.pointer p) w ∧ (outB (ids D) m (d.S j) = true → p = none) ∧ (outB (ids D) m (d.S j) = false → ∃ a, p = some a)) := fun j hj => look_ok hm _ (hs j hj)
  obtain ⟨_, _, _, _, _, c5, hlc, hcm, hc⟩ := hd
  clear hm hs
  go_enter Tryz.func147, Tryz.ntmps147
  go_wp2
  go_loop [12] (fun i => ∃ (k : Nat), k ≤ d.n ∧ i = .int .i64 k ∧ Hid (hasB (ids D) m d.S k = true)) (fun i => d.n - (intOf i).toNat)
  case atStart => exact ⟨0, Nat.zero_le _, rfl, rfl⟩
  case round =>
    obtain ⟨k, hk, rfl, HR⟩ := hrel
    by_cases hlt : k < d.n
    · obtain ⟨ub, uo, hu, hbs, hcell⟩ := hc (by omega)
      rw [hu] at *
      have d1 := hcell k hlt
      have hltI : (k : Int) < (d.n : Int) := by omega
      obtain ⟨p, hrun, ho1, ho2⟩ := HL.out k hlt
      clear hcell hc
      cases hq : outB (ids D) m (d.S k) with
      | true =>
        have hr : Hid (hasB (ids D) m d.S d.n = false) := by
          show _ = _
          unfold hasB
          rw [allB_false hlt (by rw [hq]; rfl)]
        have hp := ho1 hq
        subst hp
        clear ho1 ho2 hq
        go_wp2
        go_ret
        exact ⟨ret_bool hr.out.symm, rfl⟩
      | false =>
        have HR' : Hid (hasB (ids D) m d.S (k + 1) = true) := by
          show _ = _
          have := HR.out
          unfold hasB at this ⊢
          rw [allB_succ, this, hq]; rfl
        obtain ⟨ad, hp⟩ := ho2 hq
        subst hp
        clear ho1 ho2 hq
        go_wp2
        go_round
        case rel => exact ⟨k + 1, by omega, by go_num, HR'⟩
        case measure => simp [intOf]; omega
    · have hke : k = d.n := by omega
      have hr : Hid (hasB (ids D) m d.S d.n = true) := by rw [← hke]; exact HR.out
      go_wp2
      go_ret
      exact ⟨ret_bool hr.out.symm, rfl⟩
end Go.Proofs.YtlibipbpaigmdaaGreatDoor
