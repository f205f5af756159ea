/-
  impl.nodesOf at a map whose pointers may lead into several dags. No condition but that the nodes lie there.
  maps.Copy at maps from ids to nodes. No condition but that the two maps are two.
  impl.Joined of a right dag and a right dag whose ids are all the first one's. No condition but that the slices read and that the tables lie.
  A part of a right dag is a right dag, the part of itself; joined to the dag it is the dag. Plain data alone, no condition.
  DrawPart, sameDag. No condition but that the code reads as bytes.
  The law FnDagParts returns true at every code. Condition: the code reads as bytes, the tables lie.
-/
import Derived.Test.YtlibipbpaigmdaaGreatDoorDgP
import Derived.Test.YtlibipbpaigmdaaGreatDoorDgG
namespace Go.Proofs.YtlibipbpaigmdaaGreatDoor
open Go.RowKit Go.Maps
set_option linter.unusedVariables false

/-- a map from ids to nodes, wherever they lie -/
def PtG (Q : Nd → Prop) (w : World) (M : DataW Value) : Prop := IsMap M ∧ ∀ x : ByteArray, has M (keyL x) = true → ∃ (d : Nd) (b o : Nat), NdAt w b o d ∧ d.id.toList = x.toList ∧ x.size = 64 ∧ OkU d ∧ Q d ∧ ∀ z, M.atKey (keyL x) z = .held (.pointer (some ⟨b, o, none⟩))
theorem PtG.below {Q : Nd → Prop} {w w' : World} {M : DataW Value} (h : PtG Q w M) (hB : Below w.heap.size w w') : PtG Q w' M := ⟨h.1, fun x hx => by
  obtain ⟨d, b, o, h1, h2⟩ := h.2 x hx
  exact ⟨d, b, o, h1.below hB, h2⟩⟩
theorem look_pg {w : World} {B n b o : Nat} {M : DataW Value} (h : w.ownsMap Tryz.prog 9 PR B n M) (x : ByteArray) (hs : x.size ≤ 9223372036854775807) (ha : ∀ z, M.atKey (keyL x) z = .held (.pointer (some ⟨b, o, none⟩))) :
    (Instr.lookup 81 (.map (some B)) (.string x) false).run Tryz.prog w = .ok (.pointer (some ⟨b, o, none⟩)) w := by
  obtain ⟨v, ps, hrun, hv⟩ := h.lookup (e := 92) lawS Tryz.underlying81 (zeroP w) (zd := .held (.pointer none)) (zp := []) rfl (keyS hs)
  obtain ⟨p, rfl⟩ := PR_inv _ _ hv
  have hp : DataW.held (Value.pointer p) = M.atKey (keyL x) (.held (.pointer none)) := by
    simp only [PR, Option.some.injEq, Prod.mk.injEq] at hv
    exact hv.1
  rw [ha] at hp
  simp only [DataW.held.injEq, Value.pointer.injEq] at hp
  rw [hrun, hp]
/-- copies of the nodes of the ids of L, the first k -/
def CopyG (Q : Nd → Prop) (L : List (List UInt8)) (k : Nat) (A : List Nd) : Prop := A.length = k ∧ ApU A ∧ ∀ j, j < k → ∃ d : Nd, Q d ∧ d.id.toList = L.getD j [] ∧ d.Like (gN A j)
theorem CopyG.add {Q : Nd → Prop} {L : List (List UInt8)} {k : Nat} {A : List Nd} {e d : Nd} (h : CopyG Q L k A) (hq : Q e) (he : e.id.toList = L.getD k []) (hd : e.Like d) (ha : ApU (A ++ [d])) : CopyG Q L (k + 1) (A ++ [d]) := by
  refine ⟨by rw [List.length_append, h.1]; rfl, ha, fun j hj => ?_⟩
  rcases Nat.lt_succ_iff_lt_or_eq.1 hj with h1 | rfl
  · obtain ⟨t, ht, e, hl⟩ := h.2.2 j h1
    exact ⟨t, ht, e, by rw [gN_app1 (by rw [h.1]; exact h1)]; exact hl⟩
  · have e' := gN_app2 (A := A) (d := d)
    rw [h.1] at e'
    exact ⟨e, hq, he, by rw [e']; exact hd⟩

set_option maxRecDepth 10000 in
set_option maxHeartbeats 4000000 in
theorem nodesG_any (Q : Nd → Prop) (P n : Nat) (M : DataW Value) (w : World) (hown : w.ownsMap Tryz.prog 9 PR P n M) (hn : n ≤ 100) (hM : PtG Q w M) :
    Calls Tryz.prog 99 #[.map (some P)] w fun e w' => ∃ v A L, e = .returned v ∧ OwnD w' w.heap.size v A ∧ Up L ∧ (∀ x, x ∈ L ↔ has M (.string x) = true) ∧ CopyG Q L L.length A ∧ Below w.heap.size w w' := by
  have HO : Hid (∀ w', Below w.heap.size w w' → w'.ownsMap Tryz.prog 9 PR P n M) := fun w' hB => ownsMap_below hown hB
  have HM : Hid (∀ w', Below w.heap.size w w' → PtG Q w' M) := fun w' hB => hM.below hB
  have HNN : Hid (n ≤ 100) := hn
  have HSZ : Hid (Maps.size M ≤ n) := World.ownsMap.size_le hown
  obtain ⟨hskn, hskm⟩ := strKeys_spec hown lawS Tryz.underlying9
  have HSK : Hid ((strKeys M).Nodup ∧ ∀ x, x ∈ strKeys M ↔ has M (.string x) = true) := ⟨hskn, hskm⟩
  clear hown hn hM hskn hskm
  go_enter Tryz.func99, Tryz.ntmps99
  go_wp2_with (first
    | (go_at_call 91; refine (Tryz.maps_Keys_40 _ _).mono ?_; rintro e w' ⟨rfl, hw'⟩; rw [hw']; clear hw' w')
    | (go_at_call 90
       refine (sorted40 P n M PR w (HO.out w (Below.refl _ _)) (by have := HNN.out; omega)).mono ?_
       rintro e w4 ⟨v4, L, rfl, hU, hMm, hO4, hB4⟩
       obtain ⟨a4, c4, rfl, i4, _⟩ := hO4.strs
       obtain ⟨ll, hll⟩ : ∃ ll, ll = L.length := ⟨_, rfl⟩
       rw [← hll] at i4 ⊢
       have HLL : Hid (ll = L.length) := hll
       have HUP : Hid (Up L ∧ ∀ x, x ∈ L ↔ has M (.string x) = true) := ⟨hU, hMm⟩
       have HI4 : Hid (∀ w', Below w4.heap.size w4 w' → IsStrs w' a4 ll c4 (atL L)) := fun w' hB => i4.below hB
       have HB4 : Hid (Below w.heap.size w w4) := hB4
       have hl1 := i4.1
       have hl2 := i4.2.1
       clear hU hMm hO4 hB4 i4 hll))
  have HIS : Hid (∀ w', Below w.heap.size w w' → ∀ k, k < ll → ∃ (d : Nd) (b o : Nat), NdAt w' b o d ∧ d.id.toList = L.getD k [] ∧ (atL L k).size = 64 ∧ OkU d ∧ Q d ∧ ∀ z, M.atKey (keyL (atL L k)) z = .held (.pointer (some ⟨b, o, none⟩))) := fun w' hB k hk => by
    have hm : (atL L k).toList ∈ L := by
      rw [atL_list, List.getD_eq_getElem?_getD, List.getElem?_eq_getElem (by rw [← HLL.out]; exact hk)]
      exact List.getElem_mem _
    have hh := (HUP.out.2 _).1 hm
    rw [← keyL_list] at hh
    obtain ⟨d, b, o, h1, h2, h3⟩ := (HM.out w' hB).2 _ hh
    exact ⟨d, b, o, h1, by rw [h2, atL_list], h3⟩
  have HLE : Hid (ll ≤ 100) := by
    have h1 : L.length ≤ (strKeys M).length := len_le L _ HUP.out.1.nodup (fun x hx => (HSK.out.2 x).2 ((HUP.out.2 x).1 hx))
    have h4 : (strKeys M).length = Maps.size M := strKeys_size M (HM.out w (Below.refl _ _)).1
    have h2 := HSZ.out
    have h3 := HLL.out
    have h5 := HNN.out
    show _ ≤ _
    omega
  go_loopw [10, 3] (fun i u wr => ∃ (k : Nat) (A : List Nd) (v : Value), k ≤ ll ∧ i = .int .i64 k ∧ v = u ∧ OwnD wr w4.heap.size v A ∧ Hid (CopyG Q L k A) ∧ Below w4.heap.size w4 wr) (fun i _ _ => ll - (Go.RowKit.intOf i).toNat)
  case atStart => exact ⟨0, [], _, Nat.zero_le _, rfl, rfl, ownD_nil _ _, ⟨rfl, apU_nil, fun i hi => absurd hi (Nat.not_lt_zero _)⟩, Below.refl _ _⟩
  case round =>
    obtain ⟨k, A, v, hk, rfl, rfl, hO, HC, hB⟩ := hrel
    by_cases hlt : k < ll
    · have hltI : (k : Int) < (ll : Int) := by omega
      obtain ⟨lb, lo, hae, _, hcell⟩ := (HI4.out wr hB).2.2 (by omega)
      have e0 := hcell k hlt
      subst hae
      obtain ⟨d, b, o, hnd, hid, hz, hok, hq, ha⟩ := HIS.out wr (HB4.out.trans (hB.mono HB4.out.size)) k hlt
      have hlk := look_pg (HO.out wr (HB4.out.trans (hB.mono HB4.out.size))) (atL L k) (by omega) ha
      have HCP : Hid (Calls Tryz.prog 154 #[.pointer (some ⟨b, o, none⟩)] wr fun e w' => ∃ u c, e = .returned (.agg #[.int .i64 d.a, .int .i64 d.s, .int .i64 d.k, .string d.key, .string d.text, .slice u d.n c]) ∧ UpO w' wr.heap.size (d.put u c) ∧ Below wr.heap.size wr w') := copyOf_any d b o wr hnd hok
      have HID : Hid (d.id.toList = L.getD k []) := hid
      have HI : Hid (Q d) := hq
      have HO0 : Hid (OwnD wr w4.heap.size v A) := hO
      have HB : Hid (Below w4.heap.size w4 wr) := hB
      have HK : Hid (A.length ≤ 100) := by
        have h1 := HC.out.1
        have h2 := HLE.out
        show _ ≤ _
        omega
      clear hcell hid hz ha hO hB hq hnd hok
      go_wp2_with (first
        | (go_at_call 154
           refine HCP.out.mono ?_
           rintro e w5 ⟨u5, q5, rfl, hU5, hB5⟩
           have HU5 : Hid (UpO w5 wr.heap.size (d.put u5 q5)) := hU5
           have HO5 : Hid (OwnD w5 w4.heap.size v A) := HO0.out.below hB5
           have HB5 : Hid (Below w4.heap.size w4 w5) := HB.out.trans (hB5.mono HB.out.size)
           clear hU5 hB5)
        | (at_builtin
           go_loud (refine wpList_appD rfl _ _ rfl w4.heap.size v A [d.put u5 q5] (some ⟨w5.heap.size, 0, none⟩) 1 rfl rfl (HO5.out.below ((Below.refl _ _).alloc (Nat.le_refl _) _)) (fun _ => ⟨w5.heap.size, 0, rfl, news_lit rfl⟩) (fun d hd => by rw [List.mem_singleton.1 hd]; exact (HU5.out.base HB.out.size).keep (fun j _ hj => by obtain ⟨cs, hj⟩ := hj; exact Below.heap_alloc _ _ _ (lt_of_block hj))) (fun h => by cases h) (by have := HK.out; simp; omega) (by have := HB5.out.size; simp; omega) ?_)
           intro v6 w6 hO6 hG6))
      have HB6 : Hid (Below w4.heap.size w4 w6) := (HB5.out.alloc HB5.out.size _).grown hG6 (by have := HB5.out.size; simp; omega) (fun x hx => (World.ownsRow.lt HO5.out.1 x hx).1)
      have HO6 : Hid (OwnD w6 w4.heap.size v6 (A ++ [d.put u5 q5])) := hO6
      have HL6 : Hid (CopyG Q L (k + 1) (A ++ [d.put u5 q5])) := HC.out.add HI.out HID.out (d.put_like u5 q5) (HC.out.2.1.add HO0.out HU5.out)
      clear hO6 hG6
      go_roundw
      case rel => exact ⟨k + 1, _, _, by omega, by go_num, rfl, HO6.out, HL6.out, HB6.out⟩
      case measure => simp [Go.RowKit.intOf]; omega
    · obtain rfl : k = ll := by omega
      have HO0 : Hid (OwnD wr w4.heap.size v A) := hO
      have HB : Hid (Below w4.heap.size w4 wr) := hB
      clear hO hB
      go_wp2
      go_ret
      exact ⟨v, A, L, rfl, HO0.out.base HB4.out.size, HUP.out.1, HUP.out.2, by rw [← HLL.out]; exact HC.out, HB4.out.trans (HB.out.mono HB4.out.size)⟩
end Go.Proofs.YtlibipbpaigmdaaGreatDoor

namespace Go.Proofs.YtlibipbpaigmdaaGreatDoor
open Go.RowKit Go.Maps
set_option linter.unusedVariables false

/-- what was laid of Ds into Dd, behind the keys that are no longer left -/
def CpL (Dd Ds : DataW Value) (left : Lit → Bool) (M : DataW Value) : Prop :=
  IsMap M ∧ ∀ x : ByteArray, (has M (keyL x) = true ↔ has Dd (keyL x) = true ∨ (has Ds (keyL x) = true ∧ left (keyL x) = false)) ∧ ∀ z, (has Ds (keyL x) = true ∧ left (keyL x) = false → M.atKey (keyL x) z = Ds.atKey (keyL x) z) ∧ (¬ (has Ds (keyL x) = true ∧ left (keyL x) = false) → M.atKey (keyL x) z = Dd.atKey (keyL x) z)
theorem CpL.put {Dd Ds M y : DataW Value} {left : Lit → Bool} {z : ByteArray} (h : CpL Dd Ds left M) (hE : has Ds (keyL z) = true) (hy : ∀ d, Ds.atKey (keyL z) d = y) : CpL Dd Ds (fun s => left s && !s.sameKey (keyL z)) (M.put (keyL z) y) := by
  obtain ⟨h1, h2⟩ := h
  refine ⟨h1.put _ _, fun x => ?_⟩
  by_cases hxz : x.toList = z.toList
  · rw [keyL_eq hxz]
    have hl : (left (keyL z) && !(keyL z).sameKey (keyL z)) = false := by
      rw [keyL_list]
      simp [Lit.sameKey]
    refine ⟨⟨fun _ => .inr ⟨hE, hl⟩, fun _ => has_put_same h1 (keyL_is _) _⟩, fun d => ⟨fun _ => ?_, fun hn => absurd ⟨hE, hl⟩ hn⟩⟩
    rw [hy]
    exact atKey_put_same h1 (keyL_is _) _ _
  · have hne : keyL x ≠ keyL z := fun e => hxz (keyL_inj e)
    have hs : (keyL x).sameKey (keyL z) = false := by
      rw [keyL_list, keyL_list]
      simp [Lit.sameKey, hxz]
    have hl : (left (keyL x) && !(keyL x).sameKey (keyL z)) = left (keyL x) := by rw [hs]; simp
    obtain ⟨k1, k2⟩ := h2 x
    refine ⟨?_, fun d => ?_⟩
    · rw [has_put_other hne]
      show _ ↔ _ ∨ (_ ∧ (left (keyL x) && !(keyL x).sameKey (keyL z)) = false)
      rw [hl]
      exact k1
    · rw [atKey_put_other hne]
      show (_ ∧ (left (keyL x) && !(keyL x).sameKey (keyL z)) = false → _) ∧ (¬ (_ ∧ (left (keyL x) && !(keyL x).sameKey (keyL z)) = false) → _)
      rw [hl]
      exact k2 d

theorem cpl_start {Dd Ds : DataW Value} (h : IsMap Dd) : CpL Dd Ds (has Ds) Dd := by
  have no : ∀ x : ByteArray, ¬ (has Ds (keyL x) = true ∧ has Ds (keyL x) = false) := fun x h => by
    have := h.1
    rw [h.2] at this
    cases this
  exact ⟨h, fun x => ⟨⟨fun k => .inl k, fun k => k.elim id (fun e => absurd e (no x))⟩, fun z => ⟨fun e => absurd e (no x), fun _ => rfl⟩⟩⟩

set_option maxRecDepth 10000 in
set_option maxHeartbeats 4000000 in
theorem copyM_any (bd bs nd ns : Nat) (Dd Ds : DataW Value) (w : World) (hd : w.ownsMap Tryz.prog 9 PR bd nd Dd) (hs : w.ownsMap Tryz.prog 9 PR bs ns Ds) (hne : bd ≠ bs) (hroom : nd + ns ≤ 1000) :
    Calls Tryz.prog 138 #[.map (some bd), .map (some bs)] w fun e w' => e = .returned (.tuple #[]) ∧ ∃ n M, n ≤ nd + ns ∧ w'.ownsMap Tryz.prog 9 PR bd n M ∧ CpL Dd Ds (fun _ => false) M ∧ w.grownBy w' (some bd) := by
  have HD : Hid (w.ownsMap Tryz.prog 9 PR bd nd Dd) := hd
  have HS : Hid (w.ownsMap Tryz.prog 9 PR bs ns Ds) := hs
  have HNE : Hid (bd ≠ bs ∧ bd < w.heap.size ∧ bs < w.heap.size) := ⟨hne, hd.lt, hs.lt⟩
  have HSZ : Hid (Maps.size Ds ≤ ns) := World.ownsMap.size_le hs
  have HRM : Hid (nd + ns ≤ 1000) := hroom
  clear hd hs hne hroom
  go_enter Tryz.func138, Tryz.ntmps138
  go_wp2_with (first
    | (at_range
       refine wpList_range_own _ rfl _ 81 rfl 9 92 lawS Tryz.underlying81 PR bs ns Ds rfl HS.out ?_
       intro w0 hrg0 hg0 hs0))
  go_frame
  have HR0 : Hid (w0.ranges Tryz.prog 9 PR bs w.heap.size ns Ds (has Ds) (Maps.size Ds)) := hrg0
  have HD0 : Hid (w0.ownsMap Tryz.prog 9 PR bd nd Dd) := HD.out.kept hg0 (by simp)
  have HG0 : Hid (w.grownBy w0 (some bd)) := hg0.but _
  clear hrg0 hg0 hs0
  go_loopw [8] (fun _ wr => ∃ (left : Lit → Bool) (cnt k : Nat) (M : DataW Value), wr.ranges Tryz.prog 9 PR bs w.heap.size ns Ds left cnt ∧ wr.ownsMap Tryz.prog 9 PR bd k M ∧ Hid (CpL Dd Ds left M ∧ k + cnt ≤ nd + ns) ∧ w.grownBy wr (some bd)) (fun _ wr => wr.rangeLeft bs w.heap.size)
  case atStart => exact ⟨_, _, nd, Dd, HR0.out, HD0.out, ⟨cpl_start (World.ownsMap.isMap HD0.out), by have := HSZ.out; omega⟩, HG0.out⟩
  case round =>
    obtain ⟨left, cnt, k, M, hrg, hPm, HL, hG⟩ := hrel
    have HG : Hid (wr.ranges Tryz.prog 9 PR bs w.heap.size ns Ds left cnt) := hrg
    have HPm : Hid (wr.ownsMap Tryz.prog 9 PR bd k M) := hPm
    have HGr : Hid (w.grownBy wr (some bd)) := hG
    clear hG hPm
    go_wp2_with (first
      | (at_next; refine wpList_next_ranges _ rfl _ rfl 9 lawS PR Value.string Value.pointer keyS_inv PR_inv bs w.heap.size ns _ _ _ rfl hrg ?_ ?_))
    · intro _ hl0
      clear hrg
      have HLL : Hid (CpL Dd Ds (fun _ => false) M) := by
        have e : left = fun _ => false := funext hl0
        rw [← e]
        exact HL.out.1
      clear hl0
      go_wp2
      go_end0
      exact ⟨rfl, k, M, by have := HL.out.2; omega, HPm.out, HLL.out, HGr.out⟩
    · intro z c kl y ps w7 cnt7 hkz hlk hRv hat hrg7 hlt7 hg7 hs7 hen
      have hkl := keyS_lit hkz
      subst hkl
      have hzE : has Ds (keyL z) = true := has_true_of_atKey hat
      have HPm7 : Hid (w7.ownsMap Tryz.prog 9 PR bd k M) := World.ownsMap.kept HPm.out hg7 (by simpa using fun e => by have := HNE.out.2.1; omega)
      have HL7 : Hid (CpL Dd Ds (fun s => left s && !s.sameKey (keyL z)) (M.put (keyL z) y)) := HL.out.1.put hzE hat
      have HG7 : Hid (w7.ranges Tryz.prog 9 PR bs w.heap.size ns Ds (fun s => left s && !s.sameKey (keyL z)) cnt7) := hrg7
      have HGr7 : Hid (w.grownBy w7 (some bd)) := HGr.out.andThen hg7 (fun j hj => .inl (by cases hj; exact Nat.le_refl _))
      have HLT : Hid (cnt7 < cnt) := hlt7
      have HKZ : Hid (keyOf Tryz.prog 9 (.string z) = some (keyL z)) := hkz
      have HRV : Hid (PR (Value.pointer c) = some (y, ps)) := hRv
      have HKM : Hid (k < maxLen) := by
        have h1 := HL.out.2
        have h2 := HRM.out
        show _ < _
        unfold maxLen
        omega
      clear hrg hrg7 hRv hat hkz hlk hg7 hs7 hlt7 hzE
      go_wp2_with (first
        | (at_mapUpdate; refine wpList_mapUpdate_own _ rfl _ _ _ 81 rfl 9 92 lawS Tryz.underlying81 PR bd k M rfl HPm7.out HKM.out _ _ _ rfl rfl HKZ.out y ps HRV.out ?_; intro w8 hown8 hgrow8))
      go_frame
      have HG8 : Hid (w8.ranges Tryz.prog 9 PR bs w.heap.size ns Ds (fun s => left s && !s.sameKey (keyL z)) cnt7) := HG7.out.kept hgrow8 (by simpa using fun e => HNE.out.1 e.symm) (by simpa using fun e => by have := HNE.out.2.1; omega)
      have HO8 : Hid (w8.ownsMap Tryz.prog 9 PR bd (k + 1) (M.put (keyL z) y)) := hown8
      have HGr8 : Hid (w.grownBy w8 (some bd)) := HGr7.out.andThen hgrow8 (fun j hj => .inr hj)
      clear hown8 hgrow8
      go_roundw
      case rel => exact ⟨_, cnt7, k + 1, _, HG8.out, HO8.out, ⟨HL7.out, by have h1 := HL.out.2; have h2 := HLT.out; omega⟩, HGr8.out⟩
      case measure => rw [HG8.out.left_eq, HG.out.left_eq]; exact HLT.out
end Go.Proofs.YtlibipbpaigmdaaGreatDoor

namespace Go.Proofs.YtlibipbpaigmdaaGreatDoor
open Go.RowKit Go.Maps
set_option linter.unusedVariables false

theorem idsL_ups {D : Nat → Nd} {n : Nat} (hq : dagB D n = true) : Up (idsL D n) := by
  unfold idsL Up
  rw [List.pairwise_map]
  refine List.Pairwise.imp_of_mem (fun {a b} ha hb hlt => ?_) (List.pairwise_lt_range (n := n))
  have := rise_less (dagB_parts hq).2.2.1 a (b - a - 1) (by have := List.mem_range.1 hb; omega)
  rw [show a + (b - a - 1) + 1 = b by omega] at this
  exact this
theorem idsL_in {D : Nat → Nd} {n : Nat} {x : List UInt8} : x ∈ idsL D n ↔ IsId D n x := by
  unfold idsL
  rw [List.mem_map]
  exact ⟨fun ⟨i, hi, e⟩ => ⟨i, List.mem_range.1 hi, e⟩, fun ⟨i, hi, e⟩ => ⟨i, List.mem_range.2 hi, e⟩⟩
theorem mapD_yes {D : Nat → Nd} {b off k : Nat} {x : ByteArray} : has (mapD D b off k) (keyL x) = true ↔ IsId D k x.toList := by
  rw [keyL_list]
  exact mapD_mem D b off k x.toList
/-- one of the two dags' nodes -/
def Of2 (D : Nat → Nd) (len : Nat) (E : Nat → Nd) (len' : Nat) (d : Nd) : Prop := (∃ i, i < len ∧ d = D i) ∨ ∃ i, i < len' ∧ d = E i
theorem pg_of {D E M' : Nat → Nd} {len len' b off b' off' : Nat} {w : World} {M : DataW Value} (hq : dagB D len = true) (hq' : dagB E len' = true) (hnd : ∀ i, i < len → NdAt w b (off + i * 6) (D i)) (hnd' : ∀ i, i < len' → NdAt w b' (off' + i * 6) (E i)) (hu : OkUs D len) (hu' : OkUs E len')
    (h : CpL (mapD D b off len) (mapD E b' off' len') (fun _ => false) M) : PtG (Of2 D len E len') w M := by
  obtain ⟨h1, h2⟩ := h
  have sz : ∀ {s t : ByteArray}, s.toList = t.toList → s.size = 64 → t.size = 64 := fun {s t} e hs => by
    rw [ByteArray.toList_eq, ByteArray.toList_eq] at e
    have e2 : s.data.toList.length = t.data.toList.length := by rw [e]
    have e3 : s.size = t.size := by simpa using e2
    omega
  refine ⟨h1, fun x hx => ?_⟩
  obtain ⟨k1, k2⟩ := h2 x
  by_cases hs : has (mapD E b' off' len') (keyL x) = true
  · obtain ⟨i0, hi0, e0⟩ := mapD_yes.1 hs
    obtain ⟨i, hi, e, ha⟩ := (mapD_at E b' off' x len').2 ((outB_iff (ids E) x len').2 ⟨i0, hi0, e0⟩)
    exact ⟨E i, b', off' + i * 6, hnd' i hi, e, sz e (id_size (ok_at hq' hi)), hu' i hi, .inr ⟨i, hi, rfl⟩, fun z => ((k2 z).1 ⟨hs, rfl⟩).trans (ha z)⟩
  · have hd : has (mapD D b off len) (keyL x) = true := by
      rcases k1.1 hx with h | h
      · exact h
      · exact absurd h.1 hs
    obtain ⟨i0, hi0, e0⟩ := mapD_yes.1 hd
    obtain ⟨i, hi, e, ha⟩ := (mapD_at D b off x len).2 ((outB_iff (ids D) x len).2 ⟨i0, hi0, e0⟩)
    exact ⟨D i, b, off + i * 6, hnd i hi, e, sz e (id_size (ok_at hq hi)), hu i hi, .inl ⟨i, hi, rfl⟩, fun z => ((k2 z).2 (fun h => hs h.1)).trans (ha z)⟩

set_option maxRecDepth 10000 in
set_option maxHeartbeats 4000000 in
theorem implJoined_any (a : Option Addr) (len cap : Nat) (D : Nat → Nd) (a' : Option Addr) (len' cap' : Nat) (E : Nat → Nd) (w : World) (h : IsNds w a len cap D) (hf : Fine D len) (h' : IsNds w a' len' cap' E) (hf' : Fine E len') (hq : dagB D len = true) (hq' : dagB E len' = true)
    (hsub : ∀ i, i < len' → IsId D len (ids E i).toList) (hu : OkUs D len) (hu' : OkUs E len') (hP : AllT w) :
    Calls Tryz.prog 70 #[.slice a len cap, .slice a' len' cap'] w fun e w' => ∃ v A, e = .returned (.tuple #[v, .bool true]) ∧ OwnD w' w.heap.size v A ∧ CopyG (Of2 D len E len') (idsL D len) len A ∧ Below w.heap.size w w' := by
  have HN : Hid (∀ w', Below w.heap.size w w' → IsNds w' a len cap D) := fun w' hB => h.below hB
  have HN' : Hid (∀ w', Below w.heap.size w w' → IsNds w' a' len' cap' E) := fun w' hB => h'.below hB
  have HD : Hid (Calls Tryz.prog 88 #[.slice a len cap] w fun e w' => ∃ v, e = .returned (.tuple #[v, .bool true]) ∧ (∃ B b off, v = .map (some B) ∧ w.heap.size ≤ B ∧ (0 < len → a = some ⟨b, off, none⟩) ∧ w'.ownsMap Tryz.prog 9 PR B len (mapD D b off len)) ∧ Below w.heap.size w w') := by
    refine (dagOf_any a len cap D w h hf hP).mono ?_
    rintro e w' ⟨v, rfl, hm, hB⟩
    exact ⟨v, by rw [hq], hm hq, hB⟩
  have HD' : Hid (∀ w1, Below w.heap.size w w1 → Calls Tryz.prog 88 #[.slice a' len' cap'] w1 fun e w' => ∃ v, e = .returned (.tuple #[v, .bool true]) ∧ (∃ B b off, v = .map (some B) ∧ w1.heap.size ≤ B ∧ (0 < len' → a' = some ⟨b, off, none⟩) ∧ w'.ownsMap Tryz.prog 9 PR B len' (mapD E b off len')) ∧ Below w1.heap.size w1 w') := fun w1 hB1 => by
    refine (dagOf_any a' len' cap' E w1 (h'.below hB1) hf' (hP.below hB1)).mono ?_
    rintro e w' ⟨v, rfl, hm, hB⟩
    exact ⟨v, by rw [hq'], hm hq', hB⟩
  have HQ : Hid (dagB D len = true ∧ dagB E len' = true) := ⟨hq, hq'⟩
  have HU : Hid (OkUs D len ∧ OkUs E len') := ⟨hu, hu'⟩
  have HSUB : Hid (∀ i, i < len' → IsId D len (ids E i).toList) := hsub
  have HL : Hid (len ≤ 30 ∧ len' ≤ 30) := ⟨(dagB_parts hq).1, (dagB_parts hq').1⟩
  clear h hf h' hf' hq hq' hsub hu hu' hP
  go_enter Tryz.func70, Tryz.ntmps70
  go_wp2_with fail
  refine HD.out.mono ?_
  rintro e w1 ⟨v1, rfl, ⟨B1, b, off, rfl, hB1, hab, hm1⟩, hb1⟩
  have HM1 : Hid (w1.ownsMap Tryz.prog 9 PR B1 len (mapD D b off len)) := hm1
  have HB1 : Hid (Below w.heap.size w w1) := hb1
  have HAB : Hid (w.heap.size ≤ B1 ∧ (0 < len → a = some ⟨b, off, none⟩)) := ⟨hB1, hab⟩
  clear hm1 hb1 hB1 hab HD
  go_wp2_with fail
  refine (HD'.out w1 HB1.out).mono ?_
  rintro e w2 ⟨v2, rfl, ⟨B2, b', off', rfl, hB2, hab', hm2⟩, hb2⟩
  have HM2 : Hid (w2.ownsMap Tryz.prog 9 PR B2 len' (mapD E b' off' len')) := hm2
  have HM12 : Hid (w2.ownsMap Tryz.prog 9 PR B1 len (mapD D b off len)) := ownsMap_below HM1.out hb2
  have HB2 : Hid (Below w.heap.size w w2) := HB1.out.trans (hb2.mono HB1.out.size)
  have HAB' : Hid (w1.heap.size ≤ B2 ∧ (0 < len' → a' = some ⟨b', off', none⟩) ∧ B1 < w1.heap.size) := ⟨hB2, hab', HM1.out.lt⟩
  clear hm2 hb2 hB2 hab' HD'
  go_wp2_with fail
  refine (copyM_any B1 B2 len len' _ _ w2 HM12.out HM2.out (by have := HAB'.out; omega) (by have := HL.out; omega)).mono ?_
  rintro e w3 ⟨rfl, n, M, hn, hM3, hC, hG⟩
  have HM3 : Hid (w3.ownsMap Tryz.prog 9 PR B1 n M) := hM3
  have HB3 : Hid (Below w.heap.size w w3) := HB2.out.grown hG HB2.out.size (fun j hj => by cases hj; exact HAB.out.1)
  have HPG : Hid (PtG (Of2 D len E len') w3 M) := pg_of (M' := D) HQ.out.1 HQ.out.2 (fun i hi => dag_at (HN.out w3 HB3.out) (HAB.out.2 (by omega)) i hi) (fun i hi => dag_at (HN'.out w3 HB3.out) (HAB'.out.2.1 (by omega)) i hi) HU.out.1 HU.out.2 hC
  have HKY : Hid (∀ x, has M (.string x) = true ↔ IsId D len x) := fun x => by
    have h1 := (hC.2 (tx x)).1
    rw [mapD_yes, mapD_yes, tx_list, lit_of] at h1
    rw [h1]
    refine ⟨fun h => ?_, fun h => .inl h⟩
    rcases h with h | ⟨⟨i, hi, e⟩, _⟩
    · exact h
    · rw [← e]; exact HSUB.out i hi
  obtain ⟨hnd, hmem⟩ := strKeys_spec hM3 lawS Tryz.underlying9
  obtain ⟨sz, hsz⟩ : ∃ sz, sz = Maps.size M := ⟨_, rfl⟩
  have hsz30 : sz ≤ 30 := by
    have h1 : (strKeys M).length ≤ (idsL D len).length := len_le _ _ hnd (fun x hx => idsL_in.2 ((HKY.out x).1 ((hmem x).1 hx)))
    rw [strKeys_size M hC.1] at h1
    have h2 : (idsL D len).length = len := by unfold idsL; rw [List.length_map, List.length_range]
    have h3 := HL.out.1
    omega
  have hlen : ∀ ty, (Builtin.len_ #[81] ty #[.map (some B1)]).run Tryz.prog w3 = .ok (.int .i64 sz) w3 := fun ty => by
    rw [hsz]
    exact World.ownsMap.len hM3 Tryz.underlying81 ty
  have hszI : ¬ (30 : Int) < (sz : Int) := by omega
  have HNN : Hid (n ≤ 100) := by have := HL.out; show _ ≤ _; omega
  clear hM3 hC hG hnd hmem hsz hn
  go_wp2_with fail
  refine (nodesG_any (Of2 D len E len') B1 n M w3 HM3.out HNN.out HPG.out).mono ?_
  rintro e w4 ⟨v4, A, L, rfl, hO, hU, hMm, hCp, hB4⟩
  obtain rfl : L = idsL D len := up_unique hU (idsL_ups HQ.out.1) (fun x => by rw [hMm, HKY.out, idsL_in])
  have hll : (idsL D len).length = len := by unfold idsL; rw [List.length_map, List.length_range]
  rw [hll] at hCp
  have HX : Hid (OwnD w4 w.heap.size v4 A ∧ CopyG (Of2 D len E len') (idsL D len) len A ∧ Below w.heap.size w w4) := ⟨hO.base HB3.out.size, hCp, HB3.out.trans (hB4.mono HB3.out.size)⟩
  clear hO hU hMm hCp hB4
  go_wp2
  go_ret2
  exact ⟨v4, A, rfl, HX.out.1, HX.out.2.1, HX.out.2.2⟩
end Go.Proofs.YtlibipbpaigmdaaGreatDoor

namespace Go.Proofs.YtlibipbpaigmdaaGreatDoor
open Go.RowKit
set_option linter.unusedVariables false

theorem likeId {d e : Nd} (h : d.Like e) : d.id = e.id := by
  obtain ⟨h1, h2, h3, h4, h5, h6, h7⟩ := h
  unfold Nd.id
  simp_all
theorem likeOk {d e : Nd} (h : d.Like e) : d.ok = e.ok := by
  obtain ⟨h1, h2, h3, h4, h5, h6, h7⟩ := h
  unfold Nd.ok
  simp_all
theorem likeTr {d e f : Nd} (h : d.Like e) (k : e.Like f) : d.Like f := ⟨h.1.trans k.1, h.2.trans k.2, h.3.trans k.3, h.4.trans k.4, h.5.trans k.5, h.6.trans k.6, h.7.trans k.7⟩
theorem likeSy {d e : Nd} (h : d.Like e) : e.Like d := ⟨h.1.symm, h.2.symm, h.3.symm, h.4.symm, h.5.symm, h.6.symm, h.7.symm⟩
theorem rise_of {S : Nat → ByteArray} : ∀ {n : Nat}, (∀ i, i + 1 < n → Op.bytesLess (S i).toList (S (i + 1)).toList = true) → riseB S n = true
  | 0, _ => rfl
  | n + 1, h => by
    rw [riseB_succ, rise_of (n := n) (fun i hi => h i (by omega))]
    cases n with
    | zero => rfl
    | succ k =>
      have := h k (by omega)
      simp [upB, this]
/-- the part of a right dag: its ids are B, its nodes the dag's -/
structure IsPt (D : Nat → Nd) (len : Nat) (T : Nat → ByteArray) (m : Nat) (A : List Nd) (B : List (List UInt8)) : Prop where
  up : Up B
  mem : ∀ x, x ∈ B ↔ Reach D len T m x
  ln : A.length = B.length
  idAt : ∀ j, j < A.length → (ids (gN A) j).toList = B.getD j []
  node : ∀ j, j < A.length → ∃ i, i < len ∧ (ids D i).toList = (ids (gN A) j).toList ∧ (D i).Like (gN A j)
theorem PtP.is {D : Nat → Nd} {len : Nat} {T : Nat → ByteArray} {m : Nat} {A : List Nd} (hp : ptB D len T m = true) (h : PtP D len T m A) : ∃ B, IsPt D len T m A B := by
  obtain ⟨B, hU, hM, hl, hx⟩ := h.2 hp
  have hid : ∀ j, j < A.length → (ids (gN A) j).toList = B.getD j [] ∧ ∃ i, i < len ∧ (ids D i).toList = (ids (gN A) j).toList ∧ (D i).Like (gN A j) := fun j hj => by
    obtain ⟨i, hi, e, hL⟩ := hx j (by omega)
    have h1 : ids (gN A) j = ids D i := (likeId hL).symm
    exact ⟨by rw [h1, e], i, hi, by rw [h1], hL⟩
  exact ⟨B, hU, hM, hl, fun j hj => (hid j hj).1, fun j hj => (hid j hj).2⟩
theorem IsPt.at {D : Nat → Nd} {len : Nat} {T : Nat → ByteArray} {m : Nat} {A : List Nd} {B : List (List UInt8)} (h : IsPt D len T m A B) {x : List UInt8} : x ∈ B ↔ IsId (gN A) A.length x := by
  constructor
  · intro hx
    obtain ⟨j, hj, rfl⟩ := List.getElem_of_mem hx
    exact ⟨j, by rw [h.ln]; exact hj, by rw [h.idAt j (by rw [h.ln]; exact hj), List.getD_eq_getElem?_getD, List.getElem?_eq_getElem hj]; rfl⟩
  · rintro ⟨j, hj, rfl⟩
    have hj' : j < B.length := by rw [← h.ln]; exact hj
    rw [h.idAt j hj, List.getD_eq_getElem?_getD, List.getElem?_eq_getElem hj']
    exact List.getElem_mem _
theorem IsPt.dag {D : Nat → Nd} {len : Nat} {T : Nat → ByteArray} {m : Nat} {A : List Nd} {B : List (List UInt8)} (hq : dagB D len = true) (h : IsPt D len T m A B) : dagB (gN A) A.length = true := by
  have h1 : B.length ≤ len := up_len h.up (fun x hx => ((h.mem x).1 hx).isId hq)
  have h2 := (dagB_parts hq).1
  have h0 := h.ln
  unfold dagB
  rw [decide_eq_true (by omega), allB_true (p := fun i => (gN A i).ok) (fun j hj => by
    obtain ⟨i, hi, _, hL⟩ := h.node j hj
    rw [← likeOk hL]
    exact ok_at hq hi), rise_of (fun j hj => by
    rw [h.idAt j (by omega), h.idAt (j + 1) hj]
    have hj1 : j < B.length := by omega
    have hj2 : j + 1 < B.length := by omega
    rw [List.getD_eq_getElem?_getD, List.getD_eq_getElem?_getD, List.getElem?_eq_getElem hj1, List.getElem?_eq_getElem hj2]
    exact List.pairwise_iff_getElem.1 h.up j (j + 1) hj1 hj2 (by omega))]
  simp only [Bool.true_and]
  unfold upsB'
  refine allB_true fun j hj => ?_
  unfold hasB
  refine allB_true fun t ht => ?_
  obtain ⟨i, hi, e, hL⟩ := h.node j hj
  have hS : (gN A j).S = (D i).S := by first | exact hL.7.symm | exact hL.6.symm
  have hn : (gN A j).n = (D i).n := by first | exact hL.6.symm | exact hL.7.symm
  have hr : Reach D len T m (ids D i).toList := by
    rw [e]
    exact (h.mem _).1 (h.at.2 ⟨j, hj, rfl⟩)
  have hr2 := Reach.step i t hi hr (by rw [← hn]; exact ht)
  obtain ⟨j2, hj2, e2⟩ := h.at.1 ((h.mem _).2 hr2)
  rw [(outB_iff (ids (gN A)) ((gN A j).S t) A.length).2 ⟨j2, hj2, by rw [e2, hS]⟩]
  rfl
theorem IsPt.reach {D : Nat → Nd} {len : Nat} {T : Nat → ByteArray} {m : Nat} {A : List Nd} {B : List (List UInt8)} (hq : dagB D len = true) (h : IsPt D len T m A B) (x : List UInt8) : x ∈ B ↔ Reach (gN A) A.length T m x := by
  constructor
  · intro hx
    refine (h.mem x).1 hx (fun y => Reach (gN A) A.length T m y) (fun j i hj hi e => ?_) (fun i t hi hQ ht => ?_)
    · obtain ⟨j2, hj2, e2⟩ := h.at.1 ((h.mem _).2 (Reach.base j i hj hi e))
      exact Reach.base j j2 hj hj2 e2
    · obtain ⟨j2, hj2, e2⟩ := hQ.isId (h.dag hq)
      obtain ⟨i2, hi2, e3, hL⟩ := h.node j2 hj2
      obtain rfl : i2 = i := rise_inj (dagB_parts hq).2.2.1 hi2 hi (e3.trans e2)
      have hS : (gN A j2).S = (D i2).S := by first | exact hL.7.symm | exact hL.6.symm
      have hn : (gN A j2).n = (D i2).n := by first | exact hL.6.symm | exact hL.7.symm
      rw [← hS]
      refine Reach.step j2 t hj2 ?_ (by rw [hn]; exact ht)
      rw [e2]
      exact hQ
  · intro hx
    exact h.at.2 (hx.isId (h.dag hq))
theorem IsPt.ptB {D : Nat → Nd} {len : Nat} {T : Nat → ByteArray} {m : Nat} {A : List Nd} {B : List (List UInt8)} (hp : ptB D len T m = true) (h : IsPt D len T m A B) : Proofs.YtlibipbpaigmdaaGreatDoor.ptB (gN A) A.length T m = true := by
  unfold Proofs.YtlibipbpaigmdaaGreatDoor.ptB at hp
  simp only [Bool.and_eq_true, decide_eq_true_eq] at hp
  obtain ⟨hq, hm, ha⟩ := hp
  refine ptB_yes (h.dag hq) hm (allB_true fun j hj => ?_)
  have h1 : outB (ids D) len (T j) = false := by simpa using allB_iff.1 ha j hj
  obtain ⟨i, hi, e⟩ := (outB_iff (ids D) (T j) len).1 h1
  obtain ⟨j2, hj2, e2⟩ := h.at.1 ((h.mem _).2 (Reach.base j i hj hi e))
  rw [(outB_iff (ids (gN A)) (T j) A.length).2 ⟨j2, hj2, e2⟩]
  rfl
/-- the part of the part is the part -/
theorem IsPt.again {D : Nat → Nd} {len : Nat} {T : Nat → ByteArray} {m : Nat} {A A2 : List Nd} {B : List (List UInt8)} (hp : Proofs.YtlibipbpaigmdaaGreatDoor.ptB D len T m = true) (h : IsPt D len T m A B) (h2 : PtP (gN A) A.length T m A2) : A2.length = A.length ∧ ∀ j, j < A.length → (gN A2 j).Like (gN A j) := by
  have hq : dagB D len = true := by unfold Proofs.YtlibipbpaigmdaaGreatDoor.ptB at hp; rw [Bool.and_eq_true] at hp; exact hp.1
  obtain ⟨B2, k⟩ := h2.is (h.ptB hp)
  obtain rfl : B2 = B := up_unique k.up h.up (fun x => by rw [k.mem, h.reach hq])
  have hl : A2.length = A.length := by rw [k.ln, h.ln]
  refine ⟨hl, fun j hj => ?_⟩
  obtain ⟨i, hi, e, hL⟩ := k.node j (by omega)
  have e2 : (ids (gN A) i).toList = (ids (gN A) j).toList := by rw [e, k.idAt j (by omega), h.idAt j hj]
  obtain rfl : i = j := rise_inj (dagB_parts (h.dag hq)).2.2.1 hi hj e2
  exact likeSy hL
/-- the part joined to the dag is the dag -/
theorem IsPt.join {D : Nat → Nd} {len : Nat} {T : Nat → ByteArray} {m : Nat} {A A2 : List Nd} {B : List (List UInt8)} (hq : dagB D len = true) (h : IsPt D len T m A B) (h2 : CopyG (Of2 D len (gN A) A.length) (idsL D len) len A2) : A2.length = len ∧ ∀ j, j < len → (gN A2 j).Like (D j) := by
  refine ⟨h2.1, fun j hj => ?_⟩
  obtain ⟨d, hd, e, hL⟩ := h2.2.2 j hj
  have e1 : (idsL D len).getD j [] = (ids D j).toList := by
    unfold idsL
    rw [List.getD_eq_getElem?_getD, List.getElem?_map, List.getElem?_range hj]
    rfl
  rw [e1] at e
  rcases hd with ⟨i, hi, rfl⟩ | ⟨i, hi, rfl⟩
  · obtain rfl : i = j := rise_inj (dagB_parts hq).2.2.1 hi hj e
    exact likeSy hL
  · obtain ⟨i2, hi2, e3, hL2⟩ := h.node i hi
    obtain rfl : i2 = j := rise_inj (dagB_parts hq).2.2.1 hi2 hj (e3.trans e)
    exact likeSy (likeTr hL2 hL)
end Go.Proofs.YtlibipbpaigmdaaGreatDoor

namespace Go.Proofs.YtlibipbpaigmdaaGreatDoor
open Go.RowKit
set_option linter.unusedVariables false

abbrev ndP (x : Nd) : Array Value := #[.int .i64 x.a, .int .i64 x.s, .int .i64 x.k, .string x.key, .string x.text, .slice x.u x.n x.cap]
set_option maxHeartbeats 2000000 in
theorem sameNode_sameP (x : Nd) (u : Option Addr) (uc : Nat) (w : World) (h : IsStrs w u x.n uc x.S) (h' : IsStrs w x.u x.n x.cap x.S) :
    Calls Tryz.prog 60 #[.agg #[.int .i64 x.a, .int .i64 x.s, .int .i64 x.k, .string x.key, .string x.text, .slice u x.n uc], .agg (ndP x)] w fun e w' => e = .returned (.bool true) ∧ Below w.heap.size w w' := by
  obtain ⟨a, s, k, key, text, xu, n, xc, S⟩ := x
  have HB : Hid (∀ o o', Below w.heap.size w ((w.alloc o).alloc o')) := fun o o' => ((Below.refl _ _).alloc (Nat.le_refl _) _).alloc (by simp) _
  have HS : Hid (∀ o o', Calls Tryz.prog 36 #[.slice u n uc, .slice xu n xc] ((w.alloc o).alloc o') fun e w' => e = .returned (.bool true) ∧ Below ((w.alloc o).alloc o').heap.size ((w.alloc o).alloc o') w') := fun o o' => by
    refine (lawSame_any u n uc S xu n xc S _ (h.below (HB.out o o')) (h'.below (HB.out o o'))).mono ?_
    rintro e w' ⟨rfl, hB⟩
    exact ⟨by rw [sameB_refl]; simp, hB⟩
  have e1 : (a == a) = true := by simp
  have e2 : (s == s) = true := by simp
  have e3 : (k == k) = true := by simp
  have e4 : (key.toList == key.toList) = true := by simp
  have e5 : (text.toList == text.toList) = true := by simp
  clear h h'
  go_enter Tryz.func60, Tryz.ntmps60
  go_wp2_with fail
  refine (HS.out _ _).mono ?_
  rintro e w1 ⟨rfl, hB1⟩
  go_wp2
  go_ret
  exact ⟨rfl, (HB.out _ _).trans (hB1.mono (HB.out _ _).size)⟩

set_option maxHeartbeats 1000000 in
theorem sameDag_like (a a' : Option Addr) (len cap cap' : Nat) (D E : Nat → Nd) (w : World) (h : IsNds w a len cap D) (h' : IsNds w a' len cap' E) (hL : ∀ i, i < len → (D i).Like (E i)) :
    Calls Tryz.prog 67 #[.slice a len cap, .slice a' len cap'] w fun e w' => e = .returned (.bool true) ∧ Below w.heap.size w w' := by
  obtain ⟨hlc, hcm, hc⟩ := h
  obtain ⟨hlc', hcm', hc'⟩ := h'
  have hbn : ((len : Int) != (len : Int)) = false := by simp
  go_enter Tryz.func67, Tryz.ntmps67
  go_wp2
  go_loopw [5] (fun i wr => ∃ (k : Nat), k ≤ len ∧ i = .int .i64 k ∧ Below w.heap.size w wr) (fun i _ => len - (intOf i).toNat)
  case atStart => exact ⟨0, Nat.zero_le _, rfl, Below.refl _ _⟩
  case round =>
    obtain ⟨k, hk, rfl, hB⟩ := hrel
    by_cases hlt : k < len
    · obtain ⟨b, off, rfl, hbs, hcell⟩ := hc (by omega)
      obtain ⟨b', off', rfl, hbs', hcell'⟩ := hc' (by omega)
      have n1 := (hcell k hlt)
      have n2 := (hcell' k hlt)
      have m1 : Hid (NdAt wr b (off + k * 6) (D k)) := ⟨(hB.cell (p := ⟨b, _, none⟩) hbs).trans n1.c0, (hB.cell (p := ⟨b, _, none⟩) hbs).trans n1.c1, (hB.cell (p := ⟨b, _, none⟩) hbs).trans n1.c2, (hB.cell (p := ⟨b, _, none⟩) hbs).trans n1.c3, (hB.cell (p := ⟨b, _, none⟩) hbs).trans n1.c4, (hB.cell (p := ⟨b, _, none⟩) hbs).trans n1.c5, n1.i.below hB⟩
      have m2 : Hid (NdAt wr b' (off' + k * 6) (E k)) := ⟨(hB.cell (p := ⟨b', _, none⟩) hbs').trans n2.c0, (hB.cell (p := ⟨b', _, none⟩) hbs').trans n2.c1, (hB.cell (p := ⟨b', _, none⟩) hbs').trans n2.c2, (hB.cell (p := ⟨b', _, none⟩) hbs').trans n2.c3, (hB.cell (p := ⟨b', _, none⟩) hbs').trans n2.c4, (hB.cell (p := ⟨b', _, none⟩) hbs').trans n2.c5, n2.i.below hB⟩
      have hltI : (k : Int) < (len : Int) := by omega
      have hLk := hL k hlt
      clear n1 n2 hcell hcell' hc hc' hL
      obtain ⟨l1, l2, l3, l4, l5, l6, l7⟩ := hLk
      have HL : Hid (∀ v : World, IsStrs v (D k).u (D k).n (D k).cap (D k).S → IsStrs v (E k).u (E k).n (E k).cap (E k).S → Calls Tryz.prog 60 #[.agg #[.int .i64 (D k).a, .int .i64 (D k).s, .int .i64 (D k).k, .string (D k).key, .string (D k).text, .slice (D k).u (D k).n (D k).cap], .agg #[.int .i64 (E k).a, .int .i64 (E k).s, .int .i64 (E k).k, .string (E k).key, .string (E k).text, .slice (E k).u (E k).n (E k).cap]] v fun e w' => e = .returned (.bool true) ∧ Below v.heap.size v w') := by
        intro v hv hv'
        rw [← l1, ← l2, ← l3, ← l4, ← l5, ← l6]
        rw [← l6, ← l7] at hv'
        exact sameNode_sameP ⟨(D k).a, (D k).s, (D k).k, (D k).key, (D k).text, (E k).u, (D k).n, (E k).cap, (D k).S⟩ (D k).u (D k).cap v hv hv'
      clear l1 l2 l3 l4 l5 l6 l7
      have HK : Hid (∀ w', Below wr.heap.size wr w' → (w'.cell? ⟨b, off + k * 6, none⟩ = some (.int .i64 (D k).a) ∧ w'.cell? ⟨b, off + k * 6 + 1, none⟩ = some (.int .i64 (D k).s) ∧ w'.cell? ⟨b, off + k * 6 + 2, none⟩ = some (.int .i64 (D k).k) ∧ w'.cell? ⟨b, off + k * 6 + 3, none⟩ = some (.string (D k).key) ∧ w'.cell? ⟨b, off + k * 6 + 4, none⟩ = some (.string (D k).text) ∧ w'.cell? ⟨b, off + k * 6 + 5, none⟩ = some (.slice (D k).u (D k).n (D k).cap) ∧ w'.cell? ⟨b', off' + k * 6, none⟩ = some (.int .i64 (E k).a) ∧ w'.cell? ⟨b', off' + k * 6 + 1, none⟩ = some (.int .i64 (E k).s) ∧ w'.cell? ⟨b', off' + k * 6 + 2, none⟩ = some (.int .i64 (E k).k) ∧ w'.cell? ⟨b', off' + k * 6 + 3, none⟩ = some (.string (E k).key) ∧ w'.cell? ⟨b', off' + k * 6 + 4, none⟩ = some (.string (E k).text) ∧ w'.cell? ⟨b', off' + k * 6 + 5, none⟩ = some (.slice (E k).u (E k).n (E k).cap))) := fun w' hB => by
        have n1 := m1.out.below hB
        have n2 := m2.out.below hB
        exact ⟨n1.c0, n1.c1, n1.c2, n1.c3, n1.c4, n1.c5, n2.c0, n2.c1, n2.c2, n2.c3, n2.c4, n2.c5⟩
      have HB : Hid (Below w.heap.size w wr) := hB
      clear hB
      go_wp2
      go_region_held3 (fun w' => w'.cell? ⟨b, off + k * 6, none⟩ = some (.int .i64 (D k).a) ∧ w'.cell? ⟨b, off + k * 6 + 1, none⟩ = some (.int .i64 (D k).s) ∧ w'.cell? ⟨b, off + k * 6 + 2, none⟩ = some (.int .i64 (D k).k) ∧ w'.cell? ⟨b, off + k * 6 + 3, none⟩ = some (.string (D k).key) ∧ w'.cell? ⟨b, off + k * 6 + 4, none⟩ = some (.string (D k).text) ∧ w'.cell? ⟨b, off + k * 6 + 5, none⟩ = some (.slice (D k).u (D k).n (D k).cap) ∧ w'.cell? ⟨b', off' + k * 6, none⟩ = some (.int .i64 (E k).a) ∧ w'.cell? ⟨b', off' + k * 6 + 1, none⟩ = some (.int .i64 (E k).s) ∧ w'.cell? ⟨b', off' + k * 6 + 2, none⟩ = some (.int .i64 (E k).k) ∧ w'.cell? ⟨b', off' + k * 6 + 3, none⟩ = some (.string (E k).key) ∧ w'.cell? ⟨b', off' + k * 6 + 4, none⟩ = some (.string (E k).text) ∧ w'.cell? ⟨b', off' + k * 6 + 5, none⟩ = some (.slice (E k).u (E k).n (E k).cap)) (first | exact HK.out _ hBd | exact HK.out _ (Below.refl _ _).drew) ((go_at_call 60; refine (HL.out _ (m1.out.below (Below.refl _ _).drew).i (m2.out.below (Below.refl _ _).drew).i).mono ?_; rintro e w7 ⟨rfl, hB7⟩; have hBd : Below wr.heap.size wr w7 := ((Below.refl _ _).drew).trans hB7))
      have hB := HB.out
      go_wp2
      go_roundw
      case rel => exact ⟨k + 1, by omega, by go_num, hB.trans (hBd.mono hB.size)⟩
      case measure => simp [intOf]; omega
    · have hke : k = len := by omega
      subst hke
      go_wp2
      go_ret
      exact ⟨rfl, hB⟩

section
variable {a : Option Addr} {len cap : Nat} {Z : Nat → Int}
set_option maxHeartbeats 4000000 in
theorem drawPart_any (w : World) (hU : IsU8 w a len cap Z) :
    Calls Tryz.prog 69 #[.slice a len cap] w fun e w' => ∃ (g gc n : Nat) (D : Nat → Nd) (u : Option Addr) (m uc : Nat) (S : Nat → ByteArray), e = .returned (.tuple #[.slice (some ⟨g, 0, none⟩) n gc, .slice u m uc]) ∧ IsNds w' (some ⟨g, 0, none⟩) n gc D ∧ Fine D n ∧ OkUs D n ∧ n ≤ 30 ∧ IsStrs w' u m uc S ∧ m ≤ 4 ∧ (∀ j, j < m → (S j).size ≤ 64) ∧ Below w.heap.size w w' := by
  have HU : Hid (IsU8 w a len cap Z) := hU
  clear hU
  go_enter Tryz.func69, Tryz.ntmps69
  go_wp2_with fail
  refine (open_any a len cap w).mono ?_
  rintro e w1 ⟨rfl, hD1⟩
  have HD1 := (show Hid _ from hD1)
  clear hD1
  go_wp2_with fail
  refine (dag_any HU.out 6 (by omega) w1 HD1.out).mono ?_
  rintro e w2 ⟨g, gc, L, n, hn, rfl, hs2⟩
  have HN : Hid (n = L.length) := hn
  have HS2 : Hid (DS w w1 a len cap w.heap.size (.slice (some ⟨g, 0, none⟩) n gc) L w2) := hs2
  have HSome : Hid (Calls Tryz.prog 109 #[.pointer (some ⟨w.heap.size, 0, none⟩), .slice (some ⟨g, 0, none⟩) n gc] w2 fun e w'' => ∃ v T, e = .returned v ∧ T.length ≤ 4 ∧ MS w w2 a len cap w.heap.size v T w'') := by
    have hk := hs2.keep (Mut.refl _ _)
    have h1 := hs2.mt0.size
    subst hn
    exact some_any HU.out w1.heap.size g gc L w2 hs2.draw hk hs2.lt (by omega) hs2.few
  clear hn hs2
  go_wp2_with fail
  refine HSome.out.mono ?_
  rintro e w3 ⟨v3, T3, rfl, hT3, hm3⟩
  obtain ⟨u3, c3, rfl, hI3, _⟩ := hm3.own.strs
  have HX : Hid (IsNds w3 (some ⟨g, 0, none⟩) n gc (gN L) ∧ Fine (gN L) n ∧ OkUs (gN L) n ∧ n ≤ 30 ∧ IsStrs w3 u3 T3.length c3 (atL T3) ∧ T3.length ≤ 4 ∧ (∀ j, j < T3.length → (atL T3 j).size ≤ 64) ∧ Below w.heap.size w w3) := by
    have hO := HS2.out.keep hm3.mt0
    refine ⟨hO.is HN.out, by rw [HN.out]; exact HS2.out.few.fine, by rw [HN.out]; rw [HN.out] at hO; exact HS2.out.few.oku hO, by rw [HN.out]; exact HS2.out.few.1, hI3, hT3, fun j hj => ?_, hm3.draw.bel⟩
    have hm : (atL T3 j).toList ∈ T3 := by rw [atL_list, List.getD_eq_getElem?_getD, List.getElem?_eq_getElem hj]; exact List.getElem_mem hj
    have := hm3.short _ hm
    rw [ByteArray.toList_eq] at this
    simpa using this
  obtain ⟨m3, hm3l⟩ : ∃ m3, m3 = T3.length := ⟨_, rfl⟩
  rw [← hm3l] at HX ⊢
  clear hm3 hI3 hT3 hm3l
  go_wp2
  go_ret2
  exact ⟨g, gc, n, gN L, u3, m3, c3, atL T3, rfl, HX.out.1, HX.out.2.1, HX.out.2.2.1, HX.out.2.2.2.1, HX.out.2.2.2.2.1, HX.out.2.2.2.2.2.1, HX.out.2.2.2.2.2.2.1, HX.out.2.2.2.2.2.2.2⟩
end
end Go.Proofs.YtlibipbpaigmdaaGreatDoor

namespace Go.Proofs.YtlibipbpaigmdaaGreatDoor
open Go.RowKit
set_option linter.unusedVariables false

theorem ownD_okus {w : World} {base : Nat} {v : Value} {A : List Nd} (hO : OwnD w base v A) (hf : ∀ j, j < A.length → cN A j ≤ 5) : OkUs (gN A) A.length := fun j hj =>
  ⟨by have h1 : (gN A j).n ≤ 5 := hf j hj; omega, (hO.2 _ (gN_mem hj)).nil⟩
theorem IsPt.fine {D : Nat → Nd} {len : Nat} {T : Nat → ByteArray} {m : Nat} {A : List Nd} {B : List (List UInt8)} (hF : Fine D len) (h : IsPt D len T m A B) : Fine (gN A) A.length := fun j hj => by
  obtain ⟨i, hi, _, hL⟩ := h.node j hj
  have := hF i hi
  rw [hL.4, hL.5, hL.6, hL.7] at this
  exact this
theorem lk_some {D : Nat → Nd} {n : Nat} {S : Nat → ByteArray} {m : Nat} (hq : dagB D n = true) (hm : m ≤ 30) (hp : ptB D n S m = false) : 0 < (lkR D n S m).length := by
  unfold lkR
  rw [if_pos (by rw [hq, decide_eq_true hm]; rfl)]
  cases hl : lkIn (ids D) n S m with
  | nil =>
    exfalso
    have h1 := (lkIn_nil (ids D) n S m).1 hl
    have h2 : ptB D n S m = true := ptB_yes hq hm (allB_true fun j hj => by simp [h1 j hj])
    rw [hp] at h2
    cases h2
  | cons x l => simp
theorem lk_none {D : Nat → Nd} {n : Nat} {S : Nat → ByteArray} {m : Nat} (hp : ptB D n S m = true) : (lkR D n S m).length = 0 := by
  unfold ptB at hp
  simp only [Bool.and_eq_true, decide_eq_true_eq] at hp
  obtain ⟨hq, hm, ha⟩ := hp
  unfold lkR
  rw [if_pos (by rw [hq, decide_eq_true hm]; rfl), (lkIn_nil (ids D) n S m).2 (fun j hj => by simpa using allB_iff.1 ha j hj)]
  rfl

set_option maxRecDepth 20000 in
set_option maxHeartbeats 8000000 in
theorem fnDagParts_walk {a : Option Addr} {len cap : Nat} {Z : Nat → Int} (W : World) (hU : IsU8 W a len cap Z) (hP : AllT W) :
    Calls Tryz.prog 12 #[.slice a len cap] W fun e w' => e = .returned (.bool true) ∧ Below W.heap.size W w' := by
  have HU : Hid (IsU8 W a len cap Z) := hU
  have HP : Hid (AllT W) := hP
  clear hU hP
  obtain ⟨big, hbig⟩ : ∃ b, b = decide ((1048576 : Int) < (len : Int)) := ⟨_, rfl⟩
  have HBig : Hid (Calls Tryz.prog 34 #[.slice a len cap] W fun e w' => e = .returned (.bool big) ∧ w' = W) := by rw [hbig]; exact big_any a len cap W
  clear hbig
  go_enter Tryz.func12, Tryz.ntmps12
  go_wp2_with fail
  refine HBig.out.mono ?_
  rintro e w0 ⟨rfl, hw0⟩
  rw [hw0]
  clear hw0 w0 HBig
  cases big with
  | true =>
    go_wp2
    go_ret
    exact ⟨rfl, Below.refl _ _⟩
  | false =>
  go_wp2_with fail
  refine (drawPart_any W HU.out).mono ?_
  rintro e w1 ⟨g, gc, n, D, u, m, uc, S, rfl, hI, hF, hO, hn, hS, hm, hs, b1⟩
  have HI : Hid (∀ w', Below w1.heap.size w1 w' → IsNds w' (some ⟨g, 0, none⟩) n gc D) := fun w' hB => hI.below hB
  have HS : Hid (∀ w', Below w1.heap.size w1 w' → IsStrs w' u m uc S) := fun w' hB => hS.below hB
  have HF : Hid (Fine D n) := hF
  have HO : Hid (OkUs D n) := hO
  have HM : Hid (m ≤ 4 ∧ n ≤ 30) := ⟨hm, hn⟩
  have HSZ : Hid (∀ j, j < m → (S j).size ≤ 9223372036854775807) := fun j hj => Nat.le_trans (hs j hj) (by decide)
  have HB1 : Hid (Below W.heap.size W w1) := b1
  have HT : Hid (∀ w', Below w1.heap.size w1 w' → AllT w') := fun w' hB => HP.out.below (b1.trans (hB.mono b1.size))
  obtain ⟨K, hK⟩ : ∃ K, K = lkR D n S m := ⟨_, rfl⟩
  have HK : Hid (K = lkR D n S m) := hK
  obtain ⟨ok, hok⟩ : ∃ ok, ok = ptB D n S m := ⟨_, rfl⟩
  have HOK : Hid (ok = ptB D n S m) := hok
  have HPI : Hid (Calls Tryz.prog 30 #[.slice (some ⟨g, 0, none⟩) n gc, .slice u m uc] w1 fun e w' => ∃ v A, e = .returned (.tuple #[v, .bool ok]) ∧ OwnD w' w1.heap.size v A ∧ PtP D n S m A ∧ Below w1.heap.size w1 w') := by
    refine (implPart_any _ n gc D u m uc S w1 hI hF (fun _ => hO) hS HSZ.out (HT.out w1 (Below.refl _ _))).mono ?_
    rintro e w' ⟨v, A, rfl, h1, h2, _, h3⟩
    exact ⟨v, A, by rw [HOK.out], h1, h2, h3⟩
  have HPS : Hid (∀ w', Below w1.heap.size w1 w' → Calls Tryz.prog 28 #[.slice (some ⟨g, 0, none⟩) n gc, .slice u m uc] w' fun e w'' => ∃ v A, e = .returned (.tuple #[v, .bool ok]) ∧ OwnD w'' w'.heap.size v A ∧ PtP D n S m A ∧ Below w'.heap.size w' w'') := fun w' hB => by
    refine (specPart_any _ n gc D u m uc S w' (HI.out w' hB) HF.out (fun _ => HO.out) (HS.out w' hB)).mono ?_
    rintro e w'' ⟨v, A, rfl, h1, h2, h3⟩
    exact ⟨v, A, by rw [HOK.out], h1, h2, h3⟩
  have HLI : Hid (∀ w', Below w1.heap.size w1 w' → Calls Tryz.prog 44 #[.slice (some ⟨g, 0, none⟩) n gc, .slice u m uc] w' fun e w'' => ∃ v, e = .returned v ∧ OwnL w'' w'.heap.size v K ∧ Below w'.heap.size w' w'') := fun w' hB => by
    rw [HK.out]
    exact implLacking_any _ n gc D u m uc S w' (HI.out w' hB) HF.out (HS.out w' hB) HSZ.out (HT.out w' hB)
  have HLS : Hid (∀ w', Below w1.heap.size w1 w' → Calls Tryz.prog 45 #[.slice (some ⟨g, 0, none⟩) n gc, .slice u m uc] w' fun e w'' => ∃ v, e = .returned v ∧ OwnL w'' w'.heap.size v K ∧ Below w'.heap.size w' w'') := fun w' hB => by
    rw [HK.out]
    exact specLacking_any _ n gc D u m uc S w' (HI.out w' hB) HF.out (HS.out w' hB)
  have hokn : (ok != ok) = false := by simp
  have hoke : (ok == ok) = true := by simp
  have hgc1 := hI.1
  have hgc2 := hI.2.1
  have huc1 := hS.1
  have huc2 := hS.2.1
  clear hI hF hO hn hS hm hs b1 hK hok
  go_wp2_with fail
  refine HPI.out.mono ?_
  rintro e w2 ⟨v2, A, rfl, o2, p2, hB2⟩
  have HPA : Hid (PtP D n S m A) := p2
  have HOU : Hid (OkUs (gN A) A.length) := ownD_okus o2 p2.few.2
  obtain ⟨a2, c2, rfl, i2, _⟩ := o2.nds
  have HI2 : Hid (∀ w', Below w2.heap.size w2 w' → IsNds w' a2 A.length c2 (gN A)) := fun w' hB => i2.below hB
  have HB2 : Hid (Below w1.heap.size w1 w2) := hB2
  clear o2 p2 i2 hB2 HPI
  go_wp2_with fail
  refine (HPS.out w2 HB2.out).mono ?_
  rintro e w3 ⟨v3, A3, rfl, o3, p3, hB3⟩
  obtain ⟨hl3, hk3⟩ := HPA.out.like p3
  obtain ⟨a3, c3, rfl, i3, _⟩ := o3.nds
  rw [hl3] at i3 ⊢
  have HI3 : Hid (∀ w', Below w3.heap.size w3 w' → IsNds w' a3 A.length c3 (gN A3)) := fun w' hB => i3.below hB
  have HK3 : Hid (∀ j, j < A.length → (gN A j).Like (gN A3 j)) := hk3
  have HB23 : Hid (Below w2.heap.size w2 w3) := hB3
  have HB3 : Hid (Below w1.heap.size w1 w3) := HB2.out.trans (hB3.mono HB2.out.size)
  clear o3 p3 i3 hB3 hl3 hk3 HPS
  go_wp2_with fail
  refine (HLI.out w3 HB3.out).mono ?_
  rintro e w4 ⟨v4, rfl, o4, hB4⟩
  obtain ⟨a4, c4, rfl, i4, _⟩ := o4.strs
  obtain ⟨kl, hkl⟩ : ∃ kl, kl = K.length := ⟨_, rfl⟩
  rw [← hkl] at i4 ⊢
  have HKL : Hid (kl = K.length) := hkl
  have HI4 : Hid (∀ w', Below w4.heap.size w4 w' → IsStrs w' a4 kl c4 (atL K)) := fun w' hB => i4.below hB
  have HB34 : Hid (Below w3.heap.size w3 w4) := hB4
  have HB4 : Hid (Below w1.heap.size w1 w4) := HB3.out.trans (hB4.mono HB3.out.size)
  have hk1 := i4.1
  have hk2 := i4.2.1
  clear o4 i4 hB4 hkl HLI
  go_wp2_with fail
  refine (sameDag_like a2 a3 A.length c2 c3 (gN A) (gN A3) w4 (HI2.out w4 (HB23.out.trans (HB34.out.mono HB23.out.size))) (HI3.out w4 HB34.out) HK3.out).mono ?_
  rintro e w5 ⟨rfl, hB5⟩
  have HB45 : Hid (Below w4.heap.size w4 w5) := hB5
  have HB5 : Hid (Below w1.heap.size w1 w5) := HB4.out.trans (hB5.mono HB4.out.size)
  clear hB5
  go_wp2_with fail
  refine (HLS.out w5 HB5.out).mono ?_
  rintro e w6 ⟨v6, rfl, o6, hB6⟩
  obtain ⟨a6, c6, rfl, i6, _⟩ := o6.strs
  rw [← HKL.out] at i6 ⊢
  have HI6 : Hid (IsStrs w6 a6 kl c6 (atL K)) := i6
  have HB46 : Hid (Below w4.heap.size w4 w6) := HB45.out.trans (hB6.mono HB45.out.size)
  have HB6 : Hid (Below w1.heap.size w1 w6) := HB5.out.trans (hB6.mono HB5.out.size)
  clear o6 i6 hB6
  go_wp2_with fail
  refine (sameL_any _ _ _ _ kl K w6 (HI4.out w6 HB46.out) HI6.out).mono ?_
  rintro e w7 ⟨rfl, hB7⟩
  have HB47 : Hid (Below w4.heap.size w4 w7) := HB46.out.trans (hB7.mono HB46.out.size)
  have HB7 : Hid (Below w1.heap.size w1 w7) := HB6.out.trans (hB7.mono HB6.out.size)
  have HD7 : Hid (Calls Tryz.prog 46 #[.slice (some ⟨g, 0, none⟩) n gc] w7 fun e w' => e = .returned (.bool (dagB D n)) ∧ Below w7.heap.size w7 w') := specDagOk_any _ n gc D w7 (HI.out w7 HB7.out) HF.out
  clear hB7
  go_wp2_with fail
  refine HD7.out.mono ?_
  rintro e w8 ⟨rfl, hB8⟩
  have HB48 : Hid (Below w4.heap.size w4 w8) := HB47.out.trans (hB8.mono HB47.out.size)
  have HB8 : Hid (Below w1.heap.size w1 w8) := HB7.out.trans (hB8.mono HB7.out.size)
  have HB38 : Hid (Below w3.heap.size w3 w8) := HB34.out.trans (HB48.out.mono HB34.out.size)
  have HB28 : Hid (Below w2.heap.size w2 w8) := HB23.out.trans (HB38.out.mono HB23.out.size)
  clear hB8 HD7
  cases hq : dagB D n with
  | false =>
    clear hq
    go_wp2_with fail
    refine (sameDag_like a2 a3 A.length c2 c3 (gN A) (gN A3) w8 (HI2.out w8 HB28.out) (HI3.out w8 HB38.out) HK3.out).mono ?_
    rintro e w9 ⟨rfl, hB9⟩
    have HB49 : Hid (Below w4.heap.size w4 w9) := HB48.out.trans (hB9.mono HB48.out.size)
    have HB9 : Hid (Below w1.heap.size w1 w9) := HB8.out.trans (hB9.mono HB8.out.size)
    clear hB9
    go_wp2_with fail
    refine (HLS.out w9 HB9.out).mono ?_
    rintro e w10 ⟨v10, rfl, o10, hB10⟩
    obtain ⟨a10, c10, rfl, i10, _⟩ := o10.strs
    rw [← HKL.out] at i10 ⊢
    have HI10 : Hid (IsStrs w10 a10 kl c10 (atL K)) := i10
    have HB410 : Hid (Below w4.heap.size w4 w10) := HB49.out.trans (hB10.mono HB49.out.size)
    have HB10 : Hid (Below w1.heap.size w1 w10) := HB9.out.trans (hB10.mono HB9.out.size)
    clear o10 i10 hB10
    go_wp2_with fail
    refine (sameL_any _ _ _ _ kl K w10 (HI4.out w10 HB410.out) HI10.out).mono ?_
    rintro e w11 ⟨rfl, hB11⟩
    have HBE : Hid (Below W.heap.size W w11) := HB1.out.trans ((HB10.out.trans (hB11.mono HB10.out.size)).mono HB1.out.size)
    clear hB11
    go_wp2
    go_ret
    exact ⟨rfl, HBE.out⟩
  | true =>
    have HQ : Hid (dagB D n = true) := hq
    clear hq
    cases ok with
    | false =>
      have hkp : 0 < kl := by rw [HKL.out, HK.out]; exact lk_some HQ.out (by have := HM.out.1; omega) HOK.out.symm
      have hkpI : (0 : Int) < (kl : Int) := by omega
      clear hkp
      go_wp2
      go_ret
      exact ⟨rfl, HB1.out.trans (HB8.out.mono HB1.out.size)⟩
    | true =>
      obtain ⟨B, hB⟩ := HPA.out.is HOK.out.symm
      have HIS : Hid (IsPt D n S m A B) := hB
      have HFA : Hid (Fine (gN A) A.length) := hB.fine HF.out
      have HJ : Hid (Calls Tryz.prog 70 #[.slice (some ⟨g, 0, none⟩) n gc, .slice a2 A.length c2] w8 fun e w' => ∃ v A9, e = .returned (.tuple #[v, .bool true]) ∧ OwnD w' w8.heap.size v A9 ∧ CopyG (Of2 D n (gN A) A.length) (idsL D n) n A9 ∧ Below w8.heap.size w8 w') :=
        implJoined_any _ n gc D a2 A.length c2 (gN A) w8 (HI.out w8 HB8.out) HF.out (HI2.out w8 HB28.out) HFA.out HQ.out (hB.dag HQ.out) (fun i hi => by obtain ⟨t, ht, e, _⟩ := hB.node i hi; exact ⟨t, ht, e⟩) HO.out HOU.out (HT.out w8 HB8.out)
      have hk0 : ((kl : Int) == 0) = true := by
        have : kl = 0 := by rw [HKL.out, HK.out]; exact lk_none HOK.out.symm
        rw [this]; rfl
      clear hB
      go_wp2_with fail
      refine HJ.out.mono ?_
      rintro e w9 ⟨v9, A9, rfl, o9, hC9, hB9⟩
      obtain ⟨hl9, hk9⟩ := HIS.out.join HQ.out hC9
      obtain ⟨a9, c9, rfl, i9, _⟩ := o9.nds
      rw [hl9] at i9 ⊢
      have HI9 : Hid (∀ w', Below w9.heap.size w9 w' → IsNds w' a9 n c9 (gN A9)) := fun w' hB => i9.below hB
      have HK9 : Hid (∀ j, j < n → (gN A9 j).Like (D j)) := hk9
      have HB29 : Hid (Below w2.heap.size w2 w9) := HB28.out.trans (hB9.mono HB28.out.size)
      have HB9 : Hid (Below w1.heap.size w1 w9) := HB8.out.trans (hB9.mono HB8.out.size)
      have HPP : Hid (Calls Tryz.prog 30 #[.slice a2 A.length c2, .slice u m uc] w9 fun e w' => ∃ v A10, e = .returned (.tuple #[v, .bool true]) ∧ OwnD w' w9.heap.size v A10 ∧ PtP (gN A) A.length S m A10 ∧ Below w9.heap.size w9 w') := by
        refine (implPart_any a2 A.length c2 (gN A) u m uc S w9 (HI2.out w9 HB29.out) HFA.out (fun _ => HOU.out) (HS.out w9 HB9.out) HSZ.out (HT.out w9 HB9.out)).mono ?_
        rintro e w' ⟨v, A10, rfl, h1, h2, _, h3⟩
        exact ⟨v, A10, by rw [HIS.out.ptB HOK.out.symm], h1, h2, h3⟩
      clear o9 hC9 hB9 hl9 hk9 i9 HJ
      go_wp2_with fail
      refine HPP.out.mono ?_
      rintro e w10 ⟨v10, A10, rfl, o10, p10, hB10⟩
      obtain ⟨hl10, hk10⟩ := HIS.out.again HOK.out.symm p10
      obtain ⟨a10, c10, rfl, i10, _⟩ := o10.nds
      rw [hl10] at i10 ⊢
      have HI10 : Hid (∀ w', Below w10.heap.size w10 w' → IsNds w' a10 A.length c10 (gN A10)) := fun w' hB => i10.below hB
      have HK10 : Hid (∀ j, j < A.length → (gN A10 j).Like (gN A j)) := hk10
      have HB210 : Hid (Below w2.heap.size w2 w10) := HB29.out.trans (hB10.mono HB29.out.size)
      have HB910 : Hid (Below w9.heap.size w9 w10) := hB10
      have HB10 : Hid (Below w1.heap.size w1 w10) := HB9.out.trans (hB10.mono HB9.out.size)
      have HDO : Hid (Calls Tryz.prog 71 #[.slice a2 A.length c2] w10 fun e w' => e = .returned (.bool true) ∧ Below w10.heap.size w10 w') := by
        refine (implDagOk_any a2 A.length c2 (gN A) w10 (HI2.out w10 HB210.out) HFA.out (HT.out w10 HB10.out)).mono ?_
        rintro e w' ⟨rfl, h1⟩
        exact ⟨by rw [HIS.out.dag HQ.out], h1⟩
      clear o10 p10 hB10 hl10 hk10 i10 HPP
      go_wp2_with fail
      refine HDO.out.mono ?_
      rintro e w11 ⟨rfl, hB11⟩
      have HB1011 : Hid (Below w10.heap.size w10 w11) := hB11
      have HB211 : Hid (Below w2.heap.size w2 w11) := HB210.out.trans (hB11.mono HB210.out.size)
      have HB11 : Hid (Below w1.heap.size w1 w11) := HB10.out.trans (hB11.mono HB10.out.size)
      clear hB11 HDO
      go_wp2_with fail
      refine (lawIds_any a2 A.length c2 (gN A) w11 (HI2.out w11 HB211.out) HFA.out (by have := HPA.out.few.1; omega)).mono ?_
      rintro e w12 ⟨g12, gc12, rfl, i12, hB12⟩
      have HI12 : Hid (∀ w', Below w12.heap.size w12 w' → IsStrs w' g12 A.length gc12 (ids (gN A))) := fun w' hB => (show IsStrs w12 g12 A.length gc12 (ids (gN A)) from i12).below hB
      have HB1012 : Hid (Below w10.heap.size w10 w12) := HB1011.out.trans (hB12.mono HB1011.out.size)
      have HB212 : Hid (Below w2.heap.size w2 w12) := HB211.out.trans (hB12.mono HB211.out.size)
      have HB12 : Hid (Below w1.heap.size w1 w12) := HB11.out.trans (hB12.mono HB11.out.size)
      clear hB12 i12
      go_wp2_with fail
      refine (implBehind_any _ n gc D u m uc S w12 (HI.out w12 HB12.out) HF.out (HS.out w12 HB12.out) HSZ.out (HT.out w12 HB12.out)).mono ?_
      rintro e w13 ⟨v13, L, rfl, o13, hU13, hM13, hB13⟩
      obtain rfl : L = B := up_unique hU13 HIS.out.up (fun x => by rw [hM13, HIS.out.mem]; exact ⟨fun h => h.2.2, fun h => ⟨HQ.out, by have := HM.out.1; omega, h⟩⟩)
      obtain ⟨a13, c13, rfl, i13, _⟩ := o13.strs
      have hlb : L.length = A.length := HIS.out.ln.symm
      rw [hlb] at i13 ⊢
      have HB1213 : Hid (Below w12.heap.size w12 w13) := hB13
      have HSM : Hid (Calls Tryz.prog 36 #[.slice g12 A.length gc12, .slice a13 A.length c13] w13 fun e w' => e = .returned (.bool true) ∧ Below w13.heap.size w13 w') := by
        refine (lawSame_any g12 A.length gc12 (ids (gN A)) a13 A.length c13 (atL L) w13 (HI12.out w13 hB13) i13).mono ?_
        rintro e w' ⟨rfl, h1⟩
        refine ⟨?_, h1⟩
        have : sameB (ids (gN A)) (atL L) A.length = true := by
          unfold sameB
          exact allB_true fun j hj => by rw [HIS.out.idAt j hj, atL_list]; simp
        rw [this]
        simp
      have HB1013 : Hid (Below w10.heap.size w10 w13) := HB1012.out.trans (hB13.mono HB1012.out.size)
      have HB213 : Hid (Below w2.heap.size w2 w13) := HB212.out.trans (hB13.mono HB212.out.size)
      have HB13 : Hid (Below w1.heap.size w1 w13) := HB12.out.trans (hB13.mono HB12.out.size)
      clear hB13 o13 hU13 hM13 i13 hlb
      go_wp2_with fail
      refine HSM.out.mono ?_
      rintro e w14 ⟨rfl, hB14⟩
      have HB1014 : Hid (Below w10.heap.size w10 w14) := HB1013.out.trans (hB14.mono HB1013.out.size)
      have HB214 : Hid (Below w2.heap.size w2 w14) := HB213.out.trans (hB14.mono HB213.out.size)
      have HB14 : Hid (Below w1.heap.size w1 w14) := HB13.out.trans (hB14.mono HB13.out.size)
      clear hB14 HSM
      go_wp2_with fail
      refine (sameDag_like a9 (some ⟨g, 0, none⟩) n c9 gc (gN A9) D w14 (HI9.out w14 (HB910.out.trans (HB1014.out.mono HB910.out.size))) (HI.out w14 HB14.out) HK9.out).mono ?_
      rintro e w15 ⟨rfl, hB15⟩
      have HB1015 : Hid (Below w10.heap.size w10 w15) := HB1014.out.trans (hB15.mono HB1014.out.size)
      have HB215 : Hid (Below w2.heap.size w2 w15) := HB214.out.trans (hB15.mono HB214.out.size)
      have HB15 : Hid (Below w1.heap.size w1 w15) := HB14.out.trans (hB15.mono HB14.out.size)
      clear hB15
      go_wp2_with fail
      refine (sameDag_like a10 a2 A.length c10 c2 (gN A10) (gN A) w15 (HI10.out w15 HB1015.out) (HI2.out w15 HB215.out) HK10.out).mono ?_
      rintro e w16 ⟨rfl, hB16⟩
      have HBE : Hid (Below W.heap.size W w16) := HB1.out.trans ((HB15.out.trans (hB16.mono HB15.out.size)).mono HB1.out.size)
      clear hB16
      go_wp2
      go_ret
      exact ⟨rfl, HBE.out⟩
end Go.Proofs.YtlibipbpaigmdaaGreatDoor
