/-
  Elements: which addings are taken back, the specification's. No condition but that the slices read.
  The specification's elements of a dag. No condition but that the slice reads and is not too long.
  The program's elements of a dag: what is taken back, and the texts that stay. No condition but that the dag is right and lies.
  The program's elements of a dag are the specification's. No condition but that the slice reads and that the tables lie.
  The law of ElemsOf returns true. No condition but that the slice reads and that the tables lie.
-/
import Derived.Test.YtjhbccppihledaaGreatDoorBack
import Derived.Deep.RegionHeld3
import Derived.Test.YtjhbccppihledaaGreatDoorDag7
import Derived.Test.YtjhbccppihledaaGreatDoorMark3
import Derived.Test.YtjhbccppihledaaGreatDoorLawS
namespace Go.Proofs.YtjhbccppihledaaGreatDoor
open Go.RowKit Go.Maps
set_option linter.unusedVariables false

set_option maxHeartbeats 1000000 in
theorem l6All_big (a : Option Addr) (len cap : Nat) (D : Nat → Nd) (w : World) (h : IsNds w a len cap D) (hf : Fine D len) (hl : len ≤ 1048576) :
    Calls Tryz.prog 42 #[.slice a len cap] w fun e w' => ∃ g gc, e = .returned (.slice g len gc) ∧ IsStrs w' g len gc (fun i => (D i).id) ∧ Below w.heap.size w w' := by
  obtain ⟨hlc, hcm, hc⟩ := h
  obtain ⟨i0, hi, hz0, hz1, hz2⟩ := info_parts info9
  go_enter Tryz.func42, Tryz.ntmps42
  go_wp2
  go_loopw [4, 3] (fun i v wr => ∃ (k : Nat) (xs : List Value), k ≤ len ∧ i = .int .i64 k ∧ wr.ownsRow w.heap.size 9 1 v k xs ∧ Hid (∀ j, j < k → xs[j]? = some (.string (D j).id)) ∧ Below w.heap.size w wr)
    (fun i _ _ => len - (intOf i).toNat)
  case atStart => exact ⟨0, [], Nat.zero_le _, rfl, World.ownsRow_made w #[] 0 (Nat.le_refl _) (by decide) rfl, fun j hj => absurd hj (Nat.not_lt_zero _), (Below.refl _ _).alloc (Nat.le_refl _) _⟩
  case round =>
    obtain ⟨k, xs, hk, rfl, how, HR, hB⟩ := hrel
    have hxl : xs.length = k := by have := how.1; omega
    by_cases hlt : k < len
    · obtain ⟨b, off, rfl, hbs, hcell⟩ := hc (by omega)
      have hltI : (k : Int) < (len : Int) := by omega
      obtain ⟨c0, c1, c2, c3, c4, c5, ci⟩ : NdAt wr b (off + k * 6) (D k) := by
        have n1 := hcell k hlt
        exact ⟨(hB.cell (p := ⟨b, _, none⟩) hbs).trans n1.c0, (hB.cell (p := ⟨b, _, none⟩) hbs).trans n1.c1, (hB.cell (p := ⟨b, _, none⟩) hbs).trans n1.c2, (hB.cell (p := ⟨b, _, none⟩) hbs).trans n1.c3, (hB.cell (p := ⟨b, _, none⟩) hbs).trans n1.c4, (hB.cell (p := ⟨b, _, none⟩) hbs).trans n1.c5, n1.i.below hB⟩
      have HC : Hid (Calls Tryz.prog 61 #[.agg #[.int .i64 (D k).a, .int .i64 (D k).s, .int .i64 (D k).k, .string (D k).key, .string (D k).text, .slice (D k).u (D k).n (D k).cap]] wr fun e w' => e = .returned (.string (D k).id) ∧ Below wr.heap.size wr w') := specIdOf_any _ _ _ _ _ _ _ _ (D k).S wr ci (hf k hlt).2.2 (hf k hlt).1 (hf k hlt).2.1
      have HO := (show Hid _ from how)
      have hc1 : (k + 1 : Nat) ≤ maxLen := by unfold maxLen; omega
      have hc2 : (k + 1) * 16 ≤ 140737488355328 := by omega
      have hso : ∀ x ∈ [Value.string (D k).id], x.oneCell' = true := by simp [Value.oneCell']
      clear hcell hc how ci hf
      go_wp2_with (first
          | (go_at_call 61; refine HC.out.mono ?_; rintro e w2 ⟨rfl, hB2⟩)
          | (at_builtin; refine wpList_append_own _ rfl _ _ 29 rfl w.heap.size 9 i0 (.string ⟨#[]⟩) 1 16 Tryz.underlying29 hi hz0 hz1 hz2 rfl (by decide) _ _ _ rfl ((ownsRow_below HO.out hB2).alloc _) ⟨w2.heap.size, 0, none⟩ 1 1 [.string (D k).id] rfl rfl (World.news_of_block (heap_alloc_new _ _)) hso hc1 hc2 (by have := (hB.trans (hB2.mono hB.size)).size; simp; omega) ?_; intro v' w3 hown hgrow _))
      go_roundw
      case rel =>
        refine ⟨k + 1, _, by omega, by go_num, hown, ?_, ?_⟩
        · intro j hj
          rcases Nat.lt_succ_iff_lt_or_eq.1 hj with h1 | rfl
          · rw [List.getElem?_append_left (by omega)]; exact HR.out j h1
          · rw [List.getElem?_append_right (by omega), hxl, Nat.sub_self]; rfl
        · have hBa := (hB.trans (hB2.mono hB.size)).alloc ((hB.trans (hB2.mono hB.size)).size) (.cells #[.string (D k).id] 9)
          exact hBa.grown hgrow hBa.size (fun x hx => by have := ((ownsRow_below HO.out hB2).lt x hx).1; omega)
      case measure => simp [intOf]; omega
    · have hke : k = len := by omega
      subst hke
      obtain ⟨g, gc, rfl, hS⟩ := strs_of_own how HR.out
      clear how hc hf
      go_wp2
      go_ret
      exact ⟨g, gc, rfl, hS, hB⟩

/-- a dropping of the same text knows of node i -/
def Gone (D : Nat → Nd) (len i : Nat) : Prop := ∃ t, t < len ∧ (D t).k = 2 ∧ (D t).text.toList = (D i).text.toList ∧ Reach D len (D t).S (D t).n (ids D i).toList
open Classical in
theorem de_ex : ∃ de : Prop → Bool, ∀ p, de p = true ↔ p := ⟨fun p => decide p, fun p => by simp⟩
def goneB (de : Prop → Bool) (D : Nat → Nd) (len i : Nat) : Bool := de (Gone D len i)
theorem goneB_iff {de : Prop → Bool} (hde : ∀ p, de p = true ↔ p) (D : Nat → Nd) (len i : Nat) : goneB de D len i = true ↔ Gone D len i := hde _

theorem out_not {L : List (List UInt8)} {id : ByteArray} (h : ¬ id.toList ∈ L) : outB (atL L) L.length id = !false := by
  cases hq : outB (atL L) L.length id with
  | true => rfl
  | false => exact absurd ((out_mem L id).1 hq) h
/-- node at t takes node i back -/
def Takes (D : Nat → Nd) (len t i : Nat) : Prop := (D t).k = 2 ∧ (D t).text.toList = (D i).text.toList ∧ Reach D len (D t).S (D t).n (ids D i).toList

theorem cell_alloc_old {w : World} {o : Obj} {b p : Nat} {v : Value} (h : w.cell? ⟨b, p, none⟩ = some v) : (w.alloc o).cell? ⟨b, p, none⟩ = some v := (((Below.refl w.heap.size w).alloc (Nat.le_refl _) o).cell (p := ⟨b, p, none⟩) (cell_lt h)).trans h

set_option maxHeartbeats 4000000 in
theorem l7Gone_any (de : Prop → Bool) (hde : ∀ p, de p = true ↔ p) (a : Option Addr) (len cap : Nat) (D : Nat → Nd) (g : Option Addr) (gc : Nat) (q : Nat) (w : World) (hq : dagB D len = true) (h : IsNds w a len cap D) (hg : IsStrs w g len gc (ids D)) (hqt : q < len) :
    Calls Tryz.prog 58 #[.slice a len cap, .slice g len gc, .int .i64 q] w fun e w' => e = .returned (.bool (goneB de D len q)) ∧ Below w.heap.size w w' := by
  have HQ : Hid (dagB D len = true) := hq
  have HN : Hid (IsNds w a len cap D) := h
  have HG : Hid (IsStrs w g len gc (ids D)) := hg
  have HLE : Hid (len ≤ 30) := (dagB_parts hq).1
  obtain ⟨hlc, hcm, hc⟩ := h
  obtain ⟨hglc, hgcm, hgc⟩ := hg
  obtain ⟨b, off, ea, hbs, _⟩ := hc (by omega)
  subst ea
  obtain ⟨gb, goff, eg, hgs, hgcell⟩ := hgc (by omega)
  subst eg
  have hqI : (q : Int) < (len : Int) := by omega
  obtain ⟨n0, n1, n2, n3, n4, n5, _⟩ := dag_at HN.out rfl q hqt
  obtain ⟨wa, hwa⟩ : ∃ wa, wa = w.alloc (.cells #[.int .i64 (D q).a, .int .i64 (D q).s, .int .i64 (D q).k, .string (D q).key, .string (D q).text, .slice (D q).u (D q).n (D q).cap] 58) := ⟨_, rfl⟩
  have na : NodeAt wa w.heap.size (D q).a (D q).s (D q).k (D q).key (D q).text (.slice (D q).u (D q).n (D q).cap) := by rw [hwa]; exact NodeAt.new _ _ _ _ _ _ _ _
  have hBa : Below w.heap.size w wa := by rw [hwa]; exact (Below.refl _ _).alloc (Nat.le_refl _) _
  have HNA : Hid (NodeAt wa w.heap.size (D q).a (D q).s (D q).k (D q).key (D q).text (.slice (D q).u (D q).n (D q).cap)) := na
  have HBa : Hid (Below w.heap.size w wa) := hBa
  have HWA : Hid (wa = w.alloc (.cells #[.int .i64 (D q).a, .int .i64 (D q).s, .int .i64 (D q).k, .string (D q).key, .string (D q).text, .slice (D q).u (D q).n (D q).cap] 58)) := hwa
  clear hq hgcell hwa hBa na hc hgc
  go_enter Tryz.func58, Tryz.ntmps58
  go_wp2
  rw [← HWA.out]
  clear n0 n1 n2 n3 n4 n5
  go_loopw [8] (fun x wr => ∃ (t : Nat), t ≤ len ∧ x = .int .i64 t ∧ Hid (∀ t', t' < t → ¬ Takes D len t' q) ∧ Below wa.heap.size wa wr) (fun x _ => len - (intOf x).toNat)
  case atStart => exact ⟨0, Nat.zero_le _, rfl, (fun t' ht' => absurd ht' (Nat.not_lt_zero _)), Below.refl _ _⟩
  case round =>
    obtain ⟨t, ht, rfl, HR, hB⟩ := hrel
    have HB : Hid (Below wa.heap.size wa wr) := hB
    have hBw : Below w.heap.size w wr := HBa.out.trans (hB.mono HBa.out.size)
    have HBw : Hid (Below w.heap.size w wr) := hBw
    by_cases htt : t < len
    · have htI : (t : Int) < (len : Int) := by omega
      have nd := dag_at (HN.out.below hBw) rfl t htt
      have HND : Hid (NdAt wr b (off + t * 6) (D t)) := nd
      have HNQ : Hid (NodeAt wr w.heap.size (D q).a (D q).s (D q).k (D q).key (D q).text (.slice (D q).u (D q).n (D q).cap)) := HNA.out.below hB
      have HGW : Hid (IsStrs wr (some ⟨gb, goff, none⟩) len gc (ids D)) := HG.out.below hBw
      have p2 : ∀ s : Later wr, s.val.cell? ⟨b, off + t * 6 + 2, none⟩ = some (.int .i64 (D t).k) := fun s => (HND.out.below s.ok).c2
      have p4 : ∀ s : Later wr, s.val.cell? ⟨b, off + t * 6 + 4, none⟩ = some (.string (D t).text) := fun s => (HND.out.below s.ok).c4
      have r4 : ∀ s : Later wr, s.val.cell? ⟨w.heap.size, 4, none⟩ = some (.string (D q).text) := fun s => (HNQ.out.below s.ok).c4
      have hne := Later.any wr
      clear nd hB hBw
      by_cases hk : (D t).k = 2
      · have hkd : ((D t).k == 2) = true := by simp [hk]
        cases hx : ((D t).text.toList == (D q).text.toList) with
        | false =>
          have HR' : Hid (∀ t', t' < t + 1 → ¬ Takes D len t' q) := by
            intro t' ht'
            rcases Nat.lt_succ_iff_lt_or_eq.1 ht' with h1 | rfl
            · exact HR.out t' h1
            · exact fun hT => by rw [hT.2.1] at hx; simp at hx
          clear hk HR
          go_wp2
          refine wp_region_later (by kernel_rfl) (by kernel_rfl) ?_
          repeat (go_big_quiet_step (fail))
          refine wpQuiet_nil ?_
          rintro _ ⟨⟨w', hB2⟩, rfl⟩
          go_wp2
          go_roundw
          case rel => exact ⟨t + 1, by omega, by go_num, HR', HB.out.trans (hB2.mono HB.out.size)⟩
          case measure => simp [intOf]; omega
        | true =>
          have htx : (D t).text.toList = (D q).text.toList := eq_of_beq hx
          have HK : Hid (∀ w', Below wr.heap.size wr w' → (w'.cell? ⟨b, off + t * 6 + 2, none⟩ = some (.int .i64 (D t).k) ∧ w'.cell? ⟨b, off + t * 6 + 4, none⟩ = some (.string (D t).text) ∧ w'.cell? ⟨w.heap.size, 4, none⟩ = some (.string (D q).text) ∧ w'.cell? ⟨b, off + t * 6 + 5, none⟩ = some (.slice (D t).u (D t).n (D t).cap) ∧ w'.cell? ⟨gb, goff + q, none⟩ = some (.string (ids D q)))) := fun w' hB' => by
            have n1 := HND.out.below hB'
            have n2 := HNQ.out.below hB'
            obtain ⟨gb', goff', e', hgs', hc'⟩ := (HGW.out.below hB').2.2 (by omega)
            simp only [Option.some.injEq, Addr.mk.injEq, and_true] at e'
            obtain ⟨rfl, rfl⟩ := e'
            exact ⟨n1.c2, n1.c4, n2.c4, n1.c5, hc' q hqt⟩
          have HC : Hid (∀ v, Below wr.heap.size wr v → Calls Tryz.prog 55 #[.slice (some ⟨b, off, none⟩) len cap, .slice (some ⟨gb, goff, none⟩) len gc, .slice (D t).u (D t).n (D t).cap] v fun e w' => ∃ go oc L, e = .returned (.slice (some ⟨go, 0, none⟩) L.length oc) ∧ OwnS w' v.heap.size go oc L ∧ Up L ∧ (∀ x, x ∈ L ↔ Reach D len (D t).S (D t).n x) ∧ Below v.heap.size v w') := fun v hv => l6Behind_any _ len cap D _ gc _ _ _ (D t).S v HQ.out ((HN.out.below HBw.out).below hv) (HGW.out.below hv) ((HND.out.below hv).i)
          clear p2 p4 r4 hne hk
          by_cases hre : Reach D len (D t).S (D t).n (ids D q).toList
          · have HRE : Hid (Reach D len (D t).S (D t).n (ids D q).toList) := hre
            have HF : Hid (goneB de D len q = true) := (goneB_iff hde D len q).2 ⟨t, htt, by simpa using hkd, htx, hre⟩
            clear hre htx HR
            go_wp2
            go_region_held3 (fun w' => w'.cell? ⟨b, off + t * 6 + 2, none⟩ = some (.int .i64 (D t).k) ∧ w'.cell? ⟨b, off + t * 6 + 4, none⟩ = some (.string (D t).text) ∧ w'.cell? ⟨w.heap.size, 4, none⟩ = some (.string (D q).text) ∧ w'.cell? ⟨b, off + t * 6 + 5, none⟩ = some (.slice (D t).u (D t).n (D t).cap) ∧ w'.cell? ⟨gb, goff + q, none⟩ = some (.string (ids D q))) (first | exact HK.out _ hBd | exact HK.out _ (Below.refl _ _).drew) ((first | (go_at_call 55; refine (HC.out _ (Below.refl _ _).drew).mono ?_; rintro e w7 ⟨go, oc, L, rfl, ho, hU, hM, hB7⟩; have hBd : Below wr.heap.size wr w7 := ((Below.refl _ _).drew).trans hB7) | (go_at_call 62; refine (l1Has_lit _ _ _ _ _ _ ho.strs true ((out_mem L _).2 ((hM _).2 HRE.out))).mono ?_; rintro e w8 ⟨rfl, hw8⟩; rw [hw8]; clear hw8 w8)))
            clear ho hU hM hB7
            go_wp2
            go_ret
            exact ⟨ret_bool HF.out.symm, HBw.out.trans (hBd.mono HBw.out.size)⟩
          · have HRE : Hid (¬ Reach D len (D t).S (D t).n (ids D q).toList) := hre
            have HR' : Hid (∀ t', t' < t + 1 → ¬ Takes D len t' q) := by
              intro t' ht'
              rcases Nat.lt_succ_iff_lt_or_eq.1 ht' with h1 | rfl
              · exact HR.out t' h1
              · exact fun hT => hre hT.2.2
            clear hre htx HR
            go_wp2
            go_region_held3 (fun w' => w'.cell? ⟨b, off + t * 6 + 2, none⟩ = some (.int .i64 (D t).k) ∧ w'.cell? ⟨b, off + t * 6 + 4, none⟩ = some (.string (D t).text) ∧ w'.cell? ⟨w.heap.size, 4, none⟩ = some (.string (D q).text) ∧ w'.cell? ⟨b, off + t * 6 + 5, none⟩ = some (.slice (D t).u (D t).n (D t).cap) ∧ w'.cell? ⟨gb, goff + q, none⟩ = some (.string (ids D q))) (first | exact HK.out _ hBd | exact HK.out _ (Below.refl _ _).drew) ((first | (go_at_call 55; refine (HC.out _ (Below.refl _ _).drew).mono ?_; rintro e w7 ⟨go, oc, L, rfl, ho, hU, hM, hB7⟩; have hBd : Below wr.heap.size wr w7 := ((Below.refl _ _).drew).trans hB7) | (go_at_call 62; refine (l1Has_lit _ _ _ _ _ _ ho.strs false (out_not (fun hm => HRE.out ((hM _).1 hm)))).mono ?_; rintro e w8 ⟨rfl, hw8⟩; rw [hw8]; clear hw8 w8)))
            clear ho hU hM hB7
            go_wp2
            go_roundw
            case rel => exact ⟨t + 1, by omega, by go_num, HR', HB.out.trans (hBd.mono HB.out.size)⟩
            case measure => simp [intOf]; omega
      · have hkd : ((D t).k == 2) = false := by simp [hk]
        have HR' : Hid (∀ t', t' < t + 1 → ¬ Takes D len t' q) := by
          intro t' ht'
          rcases Nat.lt_succ_iff_lt_or_eq.1 ht' with h1 | rfl
          · exact HR.out t' h1
          · exact fun hT => hk hT.1
        clear hk HR
        go_wp2
        refine wp_region_later (by kernel_rfl) (by kernel_rfl) ?_
        repeat (go_big_quiet_step (fail))
        refine wpQuiet_nil ?_
        rintro _ ⟨⟨w', hB2⟩, rfl⟩
        go_wp2
        go_roundw
        case rel => exact ⟨t + 1, by omega, by go_num, HR', HB.out.trans (hB2.mono HB.out.size)⟩
        case measure => simp [intOf]; omega
    · have hte : t = len := by omega
      have HF : Hid (goneB de D len q = false) := by
        show _ = _
        cases hx : goneB de D len q with
        | false => rfl
        | true =>
          obtain ⟨t', ht', h1⟩ := (goneB_iff hde D len q).1 hx
          exact absurd h1 (HR.out t' (by omega))
      subst hte
      clear hB hBw
      go_wp2
      go_ret
      exact ⟨ret_bool HF.out.symm, HBw.out⟩
end Go.Proofs.YtjhbccppihledaaGreatDoor

namespace Go.Proofs.YtjhbccppihledaaGreatDoor
open Go.RowKit Go.Maps
set_option linter.unusedVariables false

/-- the first k nodes add the text x, and one of these addings is not taken back -/
def Adds (D : Nat → Nd) (len k : Nat) (x : List UInt8) : Prop := ∃ i, i < k ∧ (D i).k = 1 ∧ (D i).text.toList = x ∧ ¬ Gone D len i
theorem adds_succ (D : Nat → Nd) (len k : Nat) (x : List UInt8) : Adds D len (k + 1) x ↔ Adds D len k x ∨ ((D k).k = 1 ∧ (D k).text.toList = x ∧ ¬ Gone D len k) := by
  constructor
  · rintro ⟨i, hi, r⟩
    rcases Nat.lt_succ_iff_lt_or_eq.1 hi with h1 | rfl
    · exact .inl ⟨i, h1, r⟩
    · exact .inr r
  · rintro (⟨i, hi, r⟩ | r)
    · exact ⟨i, by omega, r⟩
    · exact ⟨k, Nat.lt_succ_self _, r⟩
def elemsR (lo : (List UInt8 → Prop) → List (List UInt8)) (D : Nat → Nd) (len : Nat) : List (List UInt8) := lo fun x => dagB D len = true ∧ Adds D len len x
theorem elemsR_len {lo : (List UInt8 → Prop) → List (List UInt8)} (hlo : IsLo lo) (D : Nat → Nd) (len : Nat) : (elemsR lo D len).length ≤ 1000000 := by
  by_cases hq : dagB D len = true
  · refine listOf_len hlo ((List.range len).map fun i => (D i).text.toList) (by simp; have := (dagB_parts hq).1; omega) (fun x hx => ?_)
    obtain ⟨i, hi, _, e, _⟩ := hx.2
    exact List.mem_map.2 ⟨i, List.mem_range.2 hi, e⟩
  · exact listOf_len hlo [] (by simp) (fun x hx => absurd hx.1 hq)
theorem gone_at (D : Nat → Nd) (G : Nat → Nat) (len i : Nat) : Gone (fun i => (D i).at (G i)) len i ↔ Gone D len i := by
  unfold Gone
  constructor
  · rintro ⟨t, ht, h1, h2, h3⟩
    exact ⟨t, ht, h1, h2, (reach_at D G len _ _ _).1 h3⟩
  · rintro ⟨t, ht, h1, h2, h3⟩
    exact ⟨t, ht, h1, h2, (reach_at D G len _ _ _).2 h3⟩
theorem elemsR_at (lo : (List UInt8 → Prop) → List (List UInt8)) (D : Nat → Nd) (G : Nat → Nat) (len : Nat) : elemsR lo (fun i => (D i).at (G i)) len = elemsR lo D len := by
  unfold elemsR
  refine listOf_congr (fun x => ?_)
  unfold Adds
  constructor
  · rintro ⟨h0, i, hi, h1, h2, h3⟩
    exact ⟨h0, i, hi, h1, h2, fun h => h3 ((gone_at D G len i).2 h)⟩
  · rintro ⟨h0, i, hi, h1, h2, h3⟩
    exact ⟨h0, i, hi, h1, h2, fun h => h3 ((gone_at D G len i).1 h)⟩

set_option maxHeartbeats 2000000 in
theorem specElemsOf_big (lo : (List UInt8 → Prop) → List (List UInt8)) (hlo : IsLo lo) (de : Prop → Bool) (hde : ∀ p, de p = true ↔ p) (a : Option Addr) (len cap : Nat) (D : Nat → Nd) (w : World) (h : IsNds w a len cap D) (hf : Fine D len) (hl : len ≤ 1048576) :
    Calls Tryz.prog 27 #[.slice a len cap] w fun e w' => ∃ v, e = .returned v ∧ OwnL w' w.heap.size v (elemsR lo D len) ∧ Below w.heap.size w w' := by
  have HN : Hid (IsNds w a len cap D) := h
  have HF : Hid (Fine D len) := hf
  have hBa : Below w.heap.size w (w.alloc (.cells #[] 9)) := (Below.refl _ _).alloc (Nat.le_refl _) _
  have HA : Hid (Calls Tryz.prog 42 #[.slice a len cap] (w.alloc (.cells #[] 9)) fun e w' => ∃ g gc, e = .returned (.slice g len gc) ∧ IsStrs w' g len gc (fun i => (D i).id) ∧ Below (w.alloc (.cells #[] 9)).heap.size (w.alloc (.cells #[] 9)) w') := l6All_big a len cap D _ (h.below hBa) hf hl
  have HS : Hid (∀ v, Below w.heap.size w v → Calls Tryz.prog 11 #[.slice a len cap] v fun e w' => e = .returned (.bool (dagB D len)) ∧ Below v.heap.size v w') := fun v hv => specDagOk_any a len cap D v (h.below hv) hf
  have HM : Hid (OwnS (w.alloc (.cells #[] 9)) w.heap.size w.heap.size 0 []) := OwnS.made w _ (Nat.le_refl _)
  have HBa : Hid (Below w.heap.size w (w.alloc (.cells #[] 9))) := hBa
  obtain ⟨hlc, hcm, hc⟩ := h
  clear hf hBa
  cases hq : dagB D len with
  | false =>
    have HR : Hid (elemsR lo D len = []) := (listOf_is hlo (M := fun x => dagB D len = true ∧ Adds D len len x) (L := []) (by simp [Up]) (fun x => by simp [hq])).symm
    rw [hq] at HS
    go_enter Tryz.func27, Tryz.ntmps27
    go_wp2_with (first
      | (go_at_call 42
         refine HA.out.mono ?_
         rintro e w1 ⟨g, gc, rfl, hI, hB1⟩
         have HB1 : Hid (Below w.heap.size w w1) := HBa.out.trans (hB1.mono HBa.out.size)
         have HO1 : Hid (OwnS w1 w.heap.size w.heap.size 0 []) := HM.out.below hB1
         clear hI hB1)
      | (go_at_call 11
         refine (HS.out _ HB1.out).mono ?_
         rintro e w2 ⟨rfl, hB2⟩
         have HB2 : Hid (Below w.heap.size w w2) := HB1.out.trans (hB2.mono HB1.out.size)
         have HO2 : Hid (OwnS w2 w.heap.size w.heap.size 0 []) := HO1.out.below hB2
         clear hB2))
    go_loopw [6, 3] (fun i v wr => i = .int .i64 0 ∧ v = .slice (some ⟨w.heap.size, 0, none⟩) 0 0 ∧ wr = w2) (fun _ _ _ => 0)
    case atStart => exact ⟨rfl, rfl, rfl⟩
    case round =>
      obtain ⟨rfl, rfl, rfl⟩ := hrel
      go_wp2
      go_ret
      refine ⟨_, rfl, ?_, HB2.out⟩
      rw [HR.out]
      exact HO2.out.ownL
  | true =>
    have HQ : Hid (dagB D len = true) := hq
    have hl30 := (dagB_parts hq).1
    rw [hq] at HS
    clear hq
    go_enter Tryz.func27, Tryz.ntmps27
    go_wp2_with (first
      | (go_at_call 42
         refine HA.out.mono ?_
         rintro e w1 ⟨g, gc, rfl, hI, hB1⟩
         have HB1 : Hid (Below w.heap.size w w1) := HBa.out.trans (hB1.mono HBa.out.size)
         have HO1 : Hid (OwnS w1 w.heap.size w.heap.size 0 []) := HM.out.below hB1
         have HI1 : Hid (IsStrs w1 g len gc (ids D)) := hI
         clear hI hB1)
      | (go_at_call 11
         refine (HS.out _ HB1.out).mono ?_
         rintro e w2 ⟨rfl, hB2⟩
         have HB2 : Hid (Below w.heap.size w w2) := HB1.out.trans (hB2.mono HB1.out.size)
         have HO2 : Hid (OwnS w2 w.heap.size w.heap.size 0 []) := HO1.out.below hB2
         have HI2 : Hid (IsStrs w2 g len gc (ids D)) := HI1.out.below hB2
         clear hB2))
    go_loopw [6, 3] (fun i v wr => ∃ (k g1 c1 : Nat) (L : List (List UInt8)), k ≤ len ∧ i = .int .i64 k ∧ v = .slice (some ⟨g1, 0, none⟩) L.length c1 ∧ OwnS wr w.heap.size g1 c1 L ∧ Hid (Up L ∧ L.length ≤ k ∧ ∀ x, x ∈ L ↔ Adds D len k x) ∧ Below w.heap.size w wr ∧ IsStrs wr g len gc (ids D))
      (fun i _ _ => len - (intOf i).toNat)
    case atStart => exact ⟨0, w.heap.size, 0, [], Nat.zero_le _, rfl, rfl, HO2.out, ⟨by simp [Up], Nat.le_refl _, fun x => by simp [Adds]⟩, HB2.out, HI2.out⟩
    case round =>
      obtain ⟨k, g1, c1, L, hk, rfl, rfl, ho, HL, hB, hI⟩ := hrel
      have HO : Hid (OwnS wr w.heap.size g1 c1 L) := ho
      have HB : Hid (Below w.heap.size w wr) := hB
      have HI : Hid (IsStrs wr g len gc (ids D)) := hI
      clear hI
      by_cases hlt : k < len
      · have hltI : (k : Int) < (len : Int) := by omega
        obtain ⟨b, off, ea, hbs, _⟩ := hc (by omega)
        subst ea
        have nd := dag_at (HN.out.below hB) rfl k hlt
        have c2 := nd.c2
        have c4 := nd.c4
        clear nd ho
        by_cases h1 : (D k).k = 1
        · have hd : ((D k).k == 1) = true := by simp [h1]
          have HG : Hid (Calls Tryz.prog 58 #[.slice (some ⟨b, off, none⟩) len cap, .slice g len gc, .int .i64 k] wr fun e w' => e = .returned (.bool (goneB de D len k)) ∧ Below wr.heap.size wr w') := l7Gone_any de hde _ len cap D g gc k wr HQ.out (HN.out.below hB) HI.out hlt
          have c4' : ∀ v, Below wr.heap.size wr v → v.cell? ⟨b, off + k * 6 + 4, none⟩ = some (.string (D k).text) := fun v hv => (hv.cell (p := ⟨b, off + k * 6 + 4, none⟩) (cell_lt c4)).trans c4
          have HC4 : Hid (∀ v, Below wr.heap.size wr v → v.cell? ⟨b, off + k * 6 + 4, none⟩ = some (.string (D k).text)) := c4'
          clear c4' hB
          cases hg : goneB de D len k with
          | true =>
            have HL' : Hid (Up L ∧ L.length ≤ k + 1 ∧ ∀ x, x ∈ L ↔ Adds D len (k + 1) x) := ⟨HL.out.1, by have := HL.out.2.1; omega, fun x => by
              rw [adds_succ, HL.out.2.2 x]
              refine ⟨fun h => .inl h, fun h => ?_⟩
              rcases h with h | h
              · exact h
              · exact absurd ((goneB_iff hde D len k).1 hg) h.2.2⟩
            rw [hg] at HG
            clear hg h1 HL
            go_wp2_with (go_at_call 58; refine HG.out.mono ?_; rintro e w3 ⟨rfl, hB3⟩; have HB3 : Hid (Below wr.heap.size wr w3) := hB3; clear hB3)
            go_roundw
            case rel => exact ⟨k + 1, g1, c1, L, by omega, by go_num, rfl, HO.out.below HB3.out, HL', HB.out.trans (HB3.out.mono HB.out.size), HI.out.below HB3.out⟩
            case measure => simp [intOf]; omega
          | false =>
            have hng : ¬ Gone D len k := fun h => by rw [(goneB_iff hde D len k).2 h] at hg; cases hg
            have HL' : Hid (Up (putL L (D k).text.toList) ∧ (putL L (D k).text.toList).length ≤ k + 1 ∧ ∀ x, x ∈ putL L (D k).text.toList ↔ Adds D len (k + 1) x) := ⟨putL_up _ _ HL.out.1, by have := HL.out.2.1; have := putL_len (D k).text.toList L; omega, fun x => by
              rw [adds_succ, putL_mem, HL.out.2.2 x]
              refine or_congr Iff.rfl ⟨fun h => ⟨h1, h.symm, hng⟩, fun h => h.2.1.symm⟩⟩
            have HLL : Hid (L.length ≤ 1000000) := by show _ ≤ _; have := HL.out.2.1; omega
            rw [hg] at HG
            clear hg h1 HL hng
            go_wp2_with (go_at_call 58; refine HG.out.mono ?_; rintro e w3 ⟨rfl, hB3⟩; have c4 := HC4.out _ hB3; have HB3 : Hid (Below wr.heap.size wr w3) := hB3; have HO3 : Hid (OwnS w3 w.heap.size g1 c1 L) := HO.out.below hB3; clear hB3)
            refine (l1Put_any g1 0 c1 L (D k).text w3 HO3.out.lies.1 HO3.out.lies.2.1 HO3.out.caps.1 HO3.out.caps.2 HLL.out).mono ?_
            rintro e w4 ⟨g', gc', rfl, ho4, hB4⟩
            have HB4' : Hid (Below wr.heap.size wr w4) := HB3.out.trans (hB4.mono HB3.out.size)
            have HF : Hid (OwnS w4 w.heap.size g' gc' (putL L (D k).text.toList) ∧ Below w.heap.size w w4 ∧ IsStrs w4 g len gc (ids D)) := ⟨mono_base ho4 (by have := HB.out.size; have := HB3.out.size; omega), HB.out.trans (HB4'.out.mono HB.out.size), HI.out.below HB4'.out⟩
            clear ho4 hB4
            go_wp2
            go_roundw
            case rel => exact ⟨k + 1, g', gc', _, by omega, by go_num, rfl, HF.out.1, HL', HF.out.2.1, HF.out.2.2⟩
            case measure => simp [intOf]; omega
        · have hd : ((D k).k == 1) = false := by simp [h1]
          have HL' : Hid (Up L ∧ L.length ≤ k + 1 ∧ ∀ x, x ∈ L ↔ Adds D len (k + 1) x) := ⟨HL.out.1, by have := HL.out.2.1; omega, fun x => by
            rw [adds_succ, HL.out.2.2 x]
            refine ⟨fun h => .inl h, fun h => ?_⟩
            rcases h with h | h
            · exact h
            · exact absurd h.1 h1⟩
          clear h1 HL hB
          go_wp2
          go_roundw
          case rel => exact ⟨k + 1, g1, c1, L, by omega, by go_num, rfl, HO.out, HL', HB.out, HI.out⟩
          case measure => simp [intOf]; omega
      · have hke : k = len := by omega
        subst hke
        clear ho hB
        go_wp2
        go_ret
        refine ⟨_, rfl, ?_, HB.out⟩
        have e1 : L = elemsR lo D k := listOf_is hlo HL.out.1 (fun x => by rw [HL.out.2.2 x]; simp [HQ.out])
        rw [← e1]
        exact HO.out.ownL
end Go.Proofs.YtjhbccppihledaaGreatDoor

namespace Go.Proofs.YtjhbccppihledaaGreatDoor
open Go.RowKit Go.Maps
set_option linter.unusedVariables false

set_option maxHeartbeats 400000 in
theorem has49_any (B n : Nat) (E : DataW Value) (s : ByteArray) (w : World) (h : SetOf w B n E) (hs : s.size ≤ 9223372036854775807) :
    Calls Tryz.prog 60 #[.map (some B), .string s] w fun e w' => e = .returned (.bool (has E (.string s.toList))) ∧ Below w.heap.size w w' := by
  have HO : Hid (w.ownsMap Tryz.prog 9 unitElem B n E) := h
  have hkey : keyOf Tryz.prog 9 (.string s) = some (keyL s) := keyS hs
  rw [← keyL_list]
  clear h
  go_enter Tryz.func60, Tryz.ntmps60
  go_wp2_with (at_lookup; refine wpList_lookup_own_unit _ rfl _ _ 74 rfl 9 79 lawS Tryz.underlying74 (zeroU _) B n E rfl HO.out _ _ rfl hkey ?_)
  go_ret
  exact ⟨rfl, (Below.refl _ _).alloc (Nat.le_refl _) _⟩

/-- x is the id of an adding that the node at t takes back -/
def TakenBy (D : Nat → Nd) (len t : Nat) (x : List UInt8) : Prop := (D t).k = 2 ∧ ∃ i, i < len ∧ (ids D i).toList = x ∧ (D i).k = 1 ∧ (D i).text.toList = (D t).text.toList ∧ Reach D len (D t).S (D t).n x
theorem TakenBy.isId {D : Nat → Nd} {len t : Nat} {x : List UInt8} (h : TakenBy D len t x) : IsId D len x := by
  obtain ⟨_, i, hi, e, _⟩ := h
  exact ⟨i, hi, e⟩

def unitV : Unit → Value := fun _ => .agg #[]
theorem unitV_inv (v : Value) (y : DataW Value × List MemPlace) (h : unitElem v = some y) : ∃ c : Unit, v = unitV c := ⟨(), (unitElem_inv h).1⟩

theorem ranges_kept' {w w' : World} {R : Value → Option (DataW Value × List MemPlace)} {B r n cnt K : Nat} {E : DataW Value} {left : Lit → Bool} (h : w.ranges Tryz.prog 9 R B r n E left cnt) (hg : w.grownBy w' (some K)) (h1 : B ≠ K) (h2 : r ≠ K) : w'.ranges Tryz.prog 9 R B r n E left cnt :=
  h.kept hg (by simpa using h1) (by simpa using h2)
theorem ranges_below {w w' : World} {R : Value → Option (DataW Value × List MemPlace)} {B r n cnt : Nat} {E : DataW Value} {left : Lit → Bool} (h : w.ranges Tryz.prog 9 R B r n E left cnt) (hB : Below w.heap.size w w') : w'.ranges Tryz.prog 9 R B r n E left cnt :=
  h.kept (row := none) (grown_below hB) (by simp) (by simp)

theorem struck (left : Lit → Bool) (D : Nat → Nd) {len i : Nat} {x : ByteArray} (hr : riseB (ids D) len = true) (hi : i < len) (hix : (ids D i).toList = x.toList) (i' : Nat) (hi' : i' < len) :
    (left (keyL (ids D i')) && !(keyL (ids D i')).sameKey (keyL x)) = false ↔ left (keyL (ids D i')) = false ∨ i' = i := by
  constructor
  · intro h
    by_cases hl : left (keyL (ids D i')) = false
    · exact .inl hl
    · have hl : left (keyL (ids D i')) = true := by simpa using hl
      rw [hl] at h
      have hk := keyL_inj (WideAt.sameKey_eq (show (keyL (ids D i')).sameKey (keyL x) = true by simpa using h))
      exact .inr (rise_inj hr hi' hi (hk.trans hix.symm))
  · rintro (h | rfl)
    · rw [h]; rfl
    · have : (keyL (ids D i')).sameKey (keyL x) = true := by rw [keyL_eq hix]; simp [keyL, Lit.sameKey]
      rw [this]; simp

theorem node_of {D : Nat → Nd} {b off len : Nat} {x : ByteArray} {c : Option Addr} {y : DataW Value} {ps : List MemPlace} (hRv : PR (Value.pointer c) = some (y, ps)) (hat : ∀ zd, (mapD D b off len).atKey (keyL x) zd = y) : ∃ i, i < len ∧ (ids D i).toList = x.toList ∧ c = some ⟨b, off + i * 6, none⟩ := by
  have hy : y = .held (.pointer c) := by
    simp only [PR, Option.some.injEq, Prod.mk.injEq] at hRv
    exact hRv.1.symm
  cases ho : outB (ids D) len x with
  | true =>
    have h1 := hat .nil
    rw [(mapD_at D b off x len).1 ho, hy] at h1
    cases h1
  | false =>
    obtain ⟨i, hi, e, ha⟩ := (mapD_at D b off x len).2 ho
    have h1 := hat .nil
    rw [ha, hy] at h1
    simp only [ptr, DataW.held.injEq, Value.pointer.injEq] at h1
    exact ⟨i, hi, e, h1.symm⟩

set_option maxHeartbeats 4000000 in
theorem takenBack_any (D : Nat → Nd) (len b off B : Nat) (w : World) (hq : dagB D len = true) (hfin : Fine D len) (hnd : ∀ i, i < len → NdAt w b (off + i * 6) (D i)) (hmap : w.ownsMap Tryz.prog 9 PR B len (mapD D b off len)) :
    Calls Tryz.prog 59 #[.map (some B)] w fun e w' => ∃ K E, e = .returned (.map (some K)) ∧ w.heap.size ≤ K ∧ SetOf w' K len E ∧ (∀ x, has E (.string x) = true ↔ ∃ t, t < len ∧ TakenBy D len t x) ∧ Below w.heap.size w w' := by
  have hmm := @run_makeMap Tryz.prog
  have HQ : Hid (dagB D len = true) := hq
  have HFI : Hid (Fine D len) := hfin
  have HND : Hid (∀ v, Below w.heap.size w v → ∀ i, i < len → NdAt v b (off + i * 6) (D i)) := fun v hv i hi => (hnd i hi).below hv
  have HBl : Hid (B < w.heap.size) := hmap.lt
  have HLE : Hid (len ≤ 30) := (dagB_parts hq).1
  have HM0 : Hid ((w.alloc (.map #[] 0)).ownsMap Tryz.prog 9 PR B len (mapD D b off len)) := hmap.alloc _
  have HK0 : Hid (SetOf (w.alloc (.map #[] 0)) w.heap.size len (.map [])) := World.ownsMap.mono (World.ownsMap_made w _ _ _) (Nat.zero_le _)
  have HB0 : Hid (Below w.heap.size w (w.alloc (.map #[] 0))) := (Below.refl _ _).alloc (Nat.le_refl _) _
  have hsz0 : (w.alloc (.map #[] 0)).heap.size = w.heap.size + 1 := by simp
  clear hq hfin hnd hmap
  go_enter Tryz.func59, Tryz.ntmps59
  go_wp2_with (first
    | (at_range
       refine wpList_range_own _ rfl _ 61 rfl 9 66 lawS Tryz.underlying61 PR B len (mapD D b off len) rfl HM0.out ?_
       intro w0 hrg0 hg0 hs0))
  go_frame
  have HR0 : Hid (w0.ranges Tryz.prog 9 PR B (w.heap.size + 1) len (mapD D b off len) (has (mapD D b off len)) (Maps.size (mapD D b off len))) := by rw [← hsz0]; exact hrg0
  have HK1 : Hid (SetOf w0 w.heap.size len (.map [])) := World.ownsMap.kept HK0.out hg0 (by simp)
  have HB1 : Hid (Below w.heap.size w w0) := HB0.out.grown hg0 HB0.out.size (fun j hj => by cases hj)
  have HSZ : Hid (w.heap.size + 1 < w0.heap.size) := by show _ < _; omega
  clear hrg0 hg0 hs0
  rw [hsz0]
  clear hsz0
  go_loopw [5] (fun _ wr => ∃ (left : Lit → Bool) (cnt : Nat) (E : DataW Value), wr.ranges Tryz.prog 9 PR B (w.heap.size + 1) len (mapD D b off len) left cnt ∧ SetOf wr w.heap.size len E ∧ Hid (∀ x, has E (.string x) = true ↔ ∃ t, t < len ∧ left (keyL (ids D t)) = false ∧ TakenBy D len t x) ∧ Below w.heap.size w wr ∧ w.heap.size + 1 < wr.heap.size)
    (fun _ wr => wr.rangeLeft B (w.heap.size + 1))
  case atStart => exact ⟨_, _, _, HR0.out, HK1.out, (fun x => ⟨fun h => by simp [has_eq] at h, fun ⟨t, ht, hl, _⟩ => by rw [mapD_has D b off len t ht] at hl; cases hl⟩), HB1.out, HSZ.out⟩
  case round =>
    obtain ⟨left, cnt, E, hrg, hE, HS, hB, hsz⟩ := hrel
    have HG : Hid (wr.ranges Tryz.prog 9 PR B (w.heap.size + 1) len (mapD D b off len) left cnt) := hrg
    have HE : Hid (SetOf wr w.heap.size len E) := hE
    have HB : Hid (Below w.heap.size w wr) := hB
    have HZ : Hid (w.heap.size + 1 < wr.heap.size) := hsz
    clear hE hB hsz
    go_wp2_with (first
      | (at_next; refine wpList_next_ranges _ rfl _ rfl 9 lawS PR Value.string Value.pointer keyS_inv PR_inv B (w.heap.size + 1) len _ _ _ rfl hrg ?_ ?_))
    · intro _ hl0
      clear hrg
      have HF : Hid (∀ x, has E (.string x) = true ↔ ∃ t, t < len ∧ TakenBy D len t x) := fun x => by
        rw [HS.out x]
        exact ⟨fun ⟨t, ht, _, h⟩ => ⟨t, ht, h⟩, fun ⟨t, ht, h⟩ => ⟨t, ht, hl0 _, h⟩⟩
      clear hl0
      go_wp2
      go_ret
      exact ⟨w.heap.size, E, rfl, Nat.le_refl _, HE.out, HF.out, HB.out⟩
    · intro x c kl y ps w3 cnt3 hkx hlk hRv hat hrg3 hlt3 hg3 hs3 hen
      have hkl := keyS_lit hkx
      subst hkl
      obtain ⟨t, ht, htx, hc⟩ := node_of hRv hat
      subst hc
      have hB3 : Below w.heap.size w w3 := HB.out.grown hg3 HB.out.size (fun j hj => by cases hj; omega)
      have nd := HND.out w3 hB3 t ht
      have c2 := nd.c2
      have c5 := nd.c5
      have HE3 : Hid (SetOf w3 w.heap.size len E) := World.ownsMap.kept HE.out hg3 (by simp)
      have HG3 : Hid (w3.ranges Tryz.prog 9 PR B (w.heap.size + 1) len (mapD D b off len) (fun z => left z && !z.sameKey (keyL x)) cnt3) := hrg3
      have HB3 : Hid (Below w.heap.size w w3) := hB3
      have HLT : Hid (cnt3 < cnt) := hlt3
      have HZ3 : Hid (w.heap.size + 1 < w3.heap.size) := by show _ < _; have := HZ.out; omega
      have HIX : Hid ((ids D t).toList = x.toList) := htx
      have HST := (show Hid _ from struck left D (dagB_parts HQ.out).2.2.1 ht htx)
      clear hrg hrg3 hRv hat hkx hlk hg3 hs3 nd hB3 hlt3 htx
      by_cases hk : (D t).k = 2
      · have hkd : ((D t).k != 2) = false := by simp [hk]
        have HKT : Hid ((D t).k = 2) := hk
        have HC : Hid (Calls Tryz.prog 57 #[.map (some B), .slice (D t).u (D t).n (D t).cap] w3 fun e w' => ∃ F E, e = .returned (.map (some F)) ∧ w3.heap.size ≤ F ∧ SetOf w' F len E ∧ (∀ x, has E (.string x) = true ↔ Reach D len (D t).S (D t).n x) ∧ Below w3.heap.size w3 w') := idsBehind_any D len b off B _ _ _ (D t).S w3 HQ.out HFI.out (HND.out w3 HB3.out) HG3.out.owns (HND.out w3 HB3.out t ht).i (HFI.out t ht).2.2
        clear hk
        go_wp2_with (first
          | (go_at_call 57
             refine HC.out.mono ?_
             rintro e w4 ⟨F, EF, rfl, hF, hS4, hR4, hB4⟩
             have HF4 : Hid (w3.heap.size ≤ F) := hF
             have HS4 : Hid (w4.ownsMap Tryz.prog 9 unitElem F len EF) := hS4
             have HR4 : Hid (∀ x, has EF (.string x) = true ↔ Reach D len (D t).S (D t).n x) := hR4
             have HB4 : Hid (Below w3.heap.size w3 w4) := hB4
             clear hF hS4 hR4 hB4)
          | (at_range
             refine wpList_range_own _ rfl _ 73 rfl 9 79 lawS Tryz.underlying73 unitElem F len EF rfl HS4.out ?_
             intro w5 hrg5 hg5 hs5))
        go_frame
        have HFl : Hid (F < w4.heap.size) := HS4.out.lt
        have hB35 : Below w3.heap.size w3 w5 := HB4.out.grown hg5 HB4.out.size (fun j hj => by cases hj)
        have HG5 : Hid (w5.ranges Tryz.prog 9 PR B (w.heap.size + 1) len (mapD D b off len) (fun z => left z && !z.sameKey (keyL x)) cnt3) := ranges_below HG3.out hB35
        have HE5 : Hid (SetOf w5 w.heap.size len E) := HE3.out.below hB35
        have HB5 : Hid (Below w.heap.size w w5) := HB3.out.trans (hB35.mono HB3.out.size)
        have HR5 : Hid (w5.ranges Tryz.prog 9 unitElem F w4.heap.size len EF (has EF) (Maps.size EF)) := hrg5
        have HZ5 : Hid (w.heap.size + 1 < w5.heap.size) := by show _ < _; have := hB35.size; have := HZ3.out; omega
        have HNE : Hid (w.heap.size + 1 < F ∧ F < w4.heap.size ∧ B < w.heap.size) := ⟨by have := HZ3.out; have := HF4.out; omega, HFl.out, HBl.out⟩
        clear hrg5 hg5 hs5 hB35 c2 c5 hen
        go_loopw [6] (fun _ wr => ∃ (left2 : Lit → Bool) (cnt2 : Nat) (E2 : DataW Value), wr.ranges Tryz.prog 9 unitElem F w4.heap.size len EF left2 cnt2 ∧ wr.ranges Tryz.prog 9 PR B (w.heap.size + 1) len (mapD D b off len) (fun z => left z && !z.sameKey (keyL x)) cnt3 ∧ SetOf wr w.heap.size len E2 ∧ Hid (∀ z, has E2 (.string z) = true ↔ has E (.string z) = true ∨ (left2 (.string z) = false ∧ TakenBy D len t z)) ∧ Below w.heap.size w wr ∧ w.heap.size + 1 < wr.heap.size)
          (fun _ wr => wr.rangeLeft F w4.heap.size)
        case atStart => exact ⟨_, _, _, HR5.out, HG5.out, HE5.out, (fun z => ⟨fun h => .inl h, fun h => by
            rcases h with h | ⟨h1, h2⟩
            · exact h
            · obtain ⟨_, i, _, _, _, _, hre⟩ := h2
              have h3 := (HR4.out z).2 hre
              rw [h1] at h3
              cases h3⟩), HB5.out, HZ5.out⟩
        case round =>
          obtain ⟨left2, cnt2, E2, hrg2, hrgo, hE2, HS2, hB2, hsz2⟩ := hrel
          have HG2 : Hid (wr.ranges Tryz.prog 9 unitElem F w4.heap.size len EF left2 cnt2) := hrg2
          have HGo : Hid (wr.ranges Tryz.prog 9 PR B (w.heap.size + 1) len (mapD D b off len) (fun z => left z && !z.sameKey (keyL x)) cnt3) := hrgo
          have HE2 : Hid (SetOf wr w.heap.size len E2) := hE2
          have HB2 : Hid (Below w.heap.size w wr) := hB2
          have HZ2 : Hid (w.heap.size + 1 < wr.heap.size) := hsz2
          clear hrgo hE2 hB2 hsz2 HR5 HG5 HE5 HB5 HZ5
          go_wp2_with (first
            | (at_next; refine wpList_next_ranges _ rfl _ rfl 9 lawS unitElem Value.string unitV keyS_inv unitV_inv F w4.heap.size len _ _ _ rfl hrg2 ?_ ?_))
          · intro _ hl0
            clear hrg2
            have HS' : Hid (∀ z, has E2 (.string z) = true ↔ ∃ t', t' < len ∧ (left (keyL (ids D t')) && !(keyL (ids D t')).sameKey (keyL x)) = false ∧ TakenBy D len t' z) := fun z => by
              rw [HS2.out z, HS.out z]
              constructor
              · rintro (⟨t', ht', hl, h⟩ | ⟨_, h⟩)
                · exact ⟨t', ht', (HST.out t' ht').2 (.inl hl), h⟩
                · exact ⟨t, ht, (HST.out t ht).2 (.inr rfl), h⟩
              · rintro ⟨t', ht', hl, h⟩
                rcases (HST.out t' ht').1 hl with h1 | rfl
                · exact .inl ⟨t', ht', h1, h⟩
                · exact .inr ⟨hl0 _, h⟩
            clear hl0
            go_wp2
            go_roundw
            case rel => exact ⟨fun z => left z && !z.sameKey (keyL x), cnt3, E2, HGo.out, HE2.out, HS', HB2.out, HZ2.out⟩
            case measure => rw [HGo.out.left_eq, HG.out.left_eq]; exact HLT.out
          · intro z c kl y ps w6 cnt6 hkz hlk hRv hat hrg6 hlt6 hg6 hs6 hen
            have hkl := keyS_lit hkz
            subst hkl
            have hzr : Reach D len (D t).S (D t).n z.toList := by
              rw [← HR4.out, ← keyL_list]
              exact has_true_of_atKey hat
            obtain ⟨i, hi, hiz⟩ := hzr.isId HQ.out
            have hB6 : Below w.heap.size w w6 := HB2.out.grown hg6 HB2.out.size (fun j hj => by cases hj; have := HNE.out; omega)
            have hzs : z.size ≤ 9223372036854775807 := by
              have h1 := hkz
              simp [keyOf, Tryz.underlying9, mapKey] at h1
              have := h1.1
              unfold maxLen at this
              omega
            have hGo6 : w6.ranges Tryz.prog 9 PR B (w.heap.size + 1) len (mapD D b off len) (fun z => left z && !z.sameKey (keyL x)) cnt3 := ranges_kept' HGo.out hg6 (by have := HNE.out; omega) (by have := HNE.out; omega)
            obtain ⟨p, hrun, ho1, ho2⟩ := look_node hGo6.owns z hzs
            obtain ⟨i2, hi2, hi2z, hp⟩ := ho2 ((outB_iff (ids D) z len).2 ⟨i, hi, hiz⟩)
            subst hp
            obtain rfl := rise_inj (dagB_parts HQ.out).2.2.1 hi2 hi (hi2z.trans hiz.symm)
            have HE6 : Hid (SetOf w6 w.heap.size len E2) := World.ownsMap.kept HE2.out hg6 (by have := HNE.out; simp; omega)
            have HG6 : Hid (w6.ranges Tryz.prog 9 unitElem F w4.heap.size len EF (fun q => left2 q && !q.sameKey (keyL z)) cnt6) := hrg6
            have HGo6 : Hid (w6.ranges Tryz.prog 9 PR B (w.heap.size + 1) len (mapD D b off len) (fun z => left z && !z.sameKey (keyL x)) cnt3) := hGo6
            have HB6 : Hid (Below w.heap.size w w6) := hB6
            have HLT6 : Hid (cnt6 < cnt2) := hlt6
            have HZ6 : Hid (w.heap.size + 1 < w6.heap.size) := by show _ < _; have := HZ2.out; omega
            have HIZ : Hid ((ids D i2).toList = z.toList ∧ Reach D len (D t).S (D t).n z.toList) := ⟨hi2z, hzr⟩
            have e2 := (HND.out w6 hB6 i2 hi2).c2
            have e4 := (HND.out w6 hB6 i2 hi2).c4
            have f4 := (HND.out w6 hB6 t ht).c4
            clear hrg2 hrg6 hRv hat hkz hlk hg6 hs6 hB6 hlt6 hGo6 ho1 ho2 hiz hi2z hzr
            have HSK : Hid (∀ q : List UInt8, (left2 (.string q) && !(Lit.string q).sameKey (keyL z)) = false ↔ left2 (.string q) = false ∨ q = z.toList) := fun q => by
              rw [keyL_list]
              by_cases hqz : q = z.toList
              · subst hqz
                simp [Lit.sameKey]
              · have : (Lit.string q).sameKey (.string z.toList) = false := by simp [Lit.sameKey, hqz]
                rw [this]
                simp [hqz]
            have p2 : ∀ s : Later w6, s.val.cell? ⟨b, off + i2 * 6 + 2, none⟩ = some (.int .i64 (D i2).k) := fun s => s.cell e2
            have p4 : ∀ s : Later w6, s.val.cell? ⟨b, off + i2 * 6 + 4, none⟩ = some (.string (D i2).text) := fun s => s.cell e4
            have q4 : ∀ s : Later w6, s.val.cell? ⟨b, off + t * 6 + 4, none⟩ = some (.string (D t).text) := fun s => s.cell f4
            have hne := Later.any w6
            have HNO : Hid (¬ ((D i2).k = 1 ∧ (D i2).text.toList = (D t).text.toList) → ∀ q, has E2 (.string q) = true ↔ has E (.string q) = true ∨ ((left2 (.string q) && !(Lit.string q).sameKey (keyL z)) = false ∧ TakenBy D len t q)) := fun hno q => by
              rw [HS2.out q, HSK.out q]
              refine or_congr Iff.rfl ⟨fun h => ⟨.inl h.1, h.2⟩, fun h => ?_⟩
              rcases h.1 with h1 | rfl
              · exact ⟨h1, h.2⟩
              · obtain ⟨_, i', hi', e', k', t', _⟩ := h.2
                obtain rfl := rise_inj (dagB_parts HQ.out).2.2.1 hi' hi2 (e'.trans HIZ.out.1.symm)
                exact absurd ⟨k', t'⟩ hno
            clear e2 e4 f4
            by_cases hk1 : (D i2).k = 1
            · have hk1d : ((D i2).k == 1) = true := by simp [hk1]
              cases hx1 : ((D i2).text.toList == (D t).text.toList) with
              | true =>
                have HY : Hid (TakenBy D len t z.toList) := ⟨HKT.out, i2, hi2, HIZ.out.1, hk1, eq_of_beq hx1, HIZ.out.2⟩
                clear hk1 HNO
                go_wp2
                refine wp_region_later (by kernel_rfl) (by kernel_rfl) ?_
                repeat (go_big_quiet_step (fail))
                refine wpQuiet_nil ?_
                rintro w7 ⟨⟨w7', hB7'⟩, hw7⟩
                have hB7 : Below w6.heap.size w6 w7 := by rw [hw7]; exact hB7'
                clear hw7 hB7' w7'
                have HE7 : Hid (SetOf w7 w.heap.size len E2) := HE6.out.below hB7
                have HF7 : Hid (w7.ranges Tryz.prog 9 unitElem F w4.heap.size len EF (fun q => left2 q && !q.sameKey (keyL z)) cnt6 ∧ w7.ranges Tryz.prog 9 PR B (w.heap.size + 1) len (mapD D b off len) (fun z => left z && !z.sameKey (keyL x)) cnt3 ∧ Below w.heap.size w w7 ∧ w.heap.size + 1 < w7.heap.size) := ⟨ranges_below HG6.out hB7, ranges_below HGo6.out hB7, HB6.out.trans (hB7.mono HB6.out.size), by have := HZ6.out; have := hB7.size; omega⟩
                clear hB7 p2 p4 q4 hrun
                go_wp2_with fail
                refine (put_any w.heap.size len E2 z w7 HE7.out (by have := HLE.out; omega) hzs).mono ?_
                rintro e w8 ⟨rfl, hs8, hg8⟩
                have hIS : IdSet D len (putE E2 z) := by
                  intro q hq
                  rcases (putE_has HE7.out.isMap z q).1 hq with h1 | rfl
                  · rcases (HS2.out q).1 h1 with h2 | h2
                    · obtain ⟨_, _, _, h3⟩ := (HS.out q).1 h2
                      exact h3.isId
                    · exact h2.2.isId
                  · exact HY.out.isId
                have HF : Hid (w8.ranges Tryz.prog 9 unitElem F w4.heap.size len EF (fun q => left2 q && !q.sameKey (keyL z)) cnt6 ∧ w8.ranges Tryz.prog 9 PR B (w.heap.size + 1) len (mapD D b off len) (fun z => left z && !z.sameKey (keyL x)) cnt3 ∧ SetOf w8 w.heap.size len (putE E2 z) ∧ Below w.heap.size w w8 ∧ w.heap.size + 1 < w8.heap.size) := ⟨ranges_kept' HF7.out.1 hg8 (by have := HNE.out; omega) (by have := HNE.out; omega), ranges_kept' HF7.out.2.1 hg8 (by have := HNE.out; omega) (by have := HNE.out; omega), hs8.tight (hs8.size_le hIS), HF7.out.2.2.1.grown hg8 HF7.out.2.2.1.size (fun j hj => by cases hj; exact Nat.le_refl _), by have := HF7.out.2.2.2; have := hg8.size; omega⟩
                have HS' : Hid (∀ q, has (putE E2 z) (.string q) = true ↔ has E (.string q) = true ∨ ((left2 (.string q) && !(Lit.string q).sameKey (keyL z)) = false ∧ TakenBy D len t q)) := fun q => by
                  rw [putE_has HE7.out.isMap, HS2.out q, HSK.out q]
                  constructor
                  · rintro ((h | h) | rfl)
                    · exact .inl h
                    · exact .inr ⟨.inl h.1, h.2⟩
                    · exact .inr ⟨.inr rfl, HY.out⟩
                  · rintro (h | ⟨h1 | rfl, h2⟩)
                    · exact .inl (.inl h)
                    · exact .inl (.inr ⟨h1, h2⟩)
                    · exact .inr rfl
                clear hs8 hg8 hIS
                go_wp2
                go_roundw
                case rel => exact ⟨fun q => left2 q && !q.sameKey (keyL z), cnt6, putE E2 z, HF.out.1, HF.out.2.1, HF.out.2.2.1, HS', HF.out.2.2.2.1, HF.out.2.2.2.2⟩
                case measure => rw [HF.out.1.left_eq, HG2.out.left_eq]; exact HLT6.out
              | false =>
                have HS' : Hid (∀ q, has E2 (.string q) = true ↔ has E (.string q) = true ∨ ((left2 (.string q) && !(Lit.string q).sameKey (keyL z)) = false ∧ TakenBy D len t q)) := HNO.out (fun h => by rw [h.2] at hx1; simp at hx1)
                clear hk1 HNO
                go_wp2
                refine wp_region_later (by kernel_rfl) (by kernel_rfl) ?_
                repeat (go_big_quiet_step (fail))
                refine wpQuiet_nil ?_
                rintro w7 ⟨⟨w7', hB7'⟩, hw7⟩
                have hB7 : Below w6.heap.size w6 w7 := by rw [hw7]; exact hB7'
                clear hw7 hB7' w7'
                have HF : Hid (w7.ranges Tryz.prog 9 unitElem F w4.heap.size len EF (fun q => left2 q && !q.sameKey (keyL z)) cnt6 ∧ w7.ranges Tryz.prog 9 PR B (w.heap.size + 1) len (mapD D b off len) (fun z => left z && !z.sameKey (keyL x)) cnt3 ∧ SetOf w7 w.heap.size len E2 ∧ Below w.heap.size w w7 ∧ w.heap.size + 1 < w7.heap.size) := ⟨ranges_below HG6.out hB7, ranges_below HGo6.out hB7, HE6.out.below hB7, HB6.out.trans (hB7.mono HB6.out.size), by have := HZ6.out; have := hB7.size; omega⟩
                clear hB7
                go_wp2
                go_roundw
                case rel => exact ⟨fun q => left2 q && !q.sameKey (keyL z), cnt6, E2, HF.out.1, HF.out.2.1, HF.out.2.2.1, HS', HF.out.2.2.2.1, HF.out.2.2.2.2⟩
                case measure => rw [HF.out.1.left_eq, HG2.out.left_eq]; exact HLT6.out
            · have hk1d : ((D i2).k == 1) = false := by simp [hk1]
              have HS' : Hid (∀ q, has E2 (.string q) = true ↔ has E (.string q) = true ∨ ((left2 (.string q) && !(Lit.string q).sameKey (keyL z)) = false ∧ TakenBy D len t q)) := HNO.out (fun h => hk1 h.1)
              clear hk1 HNO
              go_wp2
              refine wp_region_later (by kernel_rfl) (by kernel_rfl) ?_
              repeat (go_big_quiet_step (fail))
              refine wpQuiet_nil ?_
              rintro w7 ⟨⟨w7', hB7'⟩, hw7⟩
              have hB7 : Below w6.heap.size w6 w7 := by rw [hw7]; exact hB7'
              clear hw7 hB7' w7'
              have HF : Hid (w7.ranges Tryz.prog 9 unitElem F w4.heap.size len EF (fun q => left2 q && !q.sameKey (keyL z)) cnt6 ∧ w7.ranges Tryz.prog 9 PR B (w.heap.size + 1) len (mapD D b off len) (fun z => left z && !z.sameKey (keyL x)) cnt3 ∧ SetOf w7 w.heap.size len E2 ∧ Below w.heap.size w w7 ∧ w.heap.size + 1 < w7.heap.size) := ⟨ranges_below HG6.out hB7, ranges_below HGo6.out hB7, HE6.out.below hB7, HB6.out.trans (hB7.mono HB6.out.size), by have := HZ6.out; have := hB7.size; omega⟩
              clear hB7
              go_wp2
              go_roundw
              case rel => exact ⟨fun q => left2 q && !q.sameKey (keyL z), cnt6, E2, HF.out.1, HF.out.2.1, HF.out.2.2.1, HS', HF.out.2.2.2.1, HF.out.2.2.2.2⟩
              case measure => rw [HF.out.1.left_eq, HG2.out.left_eq]; exact HLT6.out
      · have hkd : ((D t).k != 2) = true := by simp [hk]
        have HS' : Hid (∀ z, has E (.string z) = true ↔ ∃ t', t' < len ∧ (left (keyL (ids D t')) && !(keyL (ids D t')).sameKey (keyL x)) = false ∧ TakenBy D len t' z) := fun z => by
          rw [HS.out z]
          constructor
          · rintro ⟨t', ht', hl, h⟩
            exact ⟨t', ht', (HST.out t' ht').2 (.inl hl), h⟩
          · rintro ⟨t', ht', hl, h⟩
            rcases (HST.out t' ht').1 hl with h1 | rfl
            · exact ⟨t', ht', h1, h⟩
            · exact absurd h.1 hk
        clear hk
        go_wp2
        go_roundw
        case rel => exact ⟨fun z => left z && !z.sameKey (keyL x), cnt3, E, HG3.out, HE3.out, HS', HB3.out, HZ3.out⟩
        case measure => rw [HG3.out.left_eq, HG.out.left_eq]; exact HLT.out
end Go.Proofs.YtjhbccppihledaaGreatDoor

namespace Go.Proofs.YtjhbccppihledaaGreatDoor
open Go.RowKit Go.Maps
set_option linter.unusedVariables false

theorem taken_gone {D : Nat → Nd} {len i : Nat} (hr : riseB (ids D) len = true) (hi : i < len) (hk : (D i).k = 1) : (∃ t, t < len ∧ TakenBy D len t (ids D i).toList) ↔ Gone D len i := by
  constructor
  · rintro ⟨t, ht, h2, i', hi', e', _, h4, h5⟩
    obtain rfl := rise_inj hr hi' hi e'
    exact ⟨t, ht, h2, h4.symm, h5⟩
  · rintro ⟨t, ht, h2, h4, h5⟩
    exact ⟨t, ht, h2, i, hi, rfl, hk, h4.symm, h5⟩

set_option maxHeartbeats 4000000 in
theorem implElemsOf_any (lo : (List UInt8 → Prop) → List (List UInt8)) (hlo : IsLo lo) (a : Option Addr) (len cap : Nat) (D : Nat → Nd) (w : World) (h : IsNds w a len cap D) (hf : Fine D len) (hP : AllT w) :
    Calls Tryz.prog 28 #[.slice a len cap] w fun e w' => ∃ v, e = .returned v ∧ OwnL w' w.heap.size v (elemsR lo D len) ∧ Below w.heap.size w w' := by
  have hmm := @run_makeMap Tryz.prog
  have HN : Hid (IsNds w a len cap D) := h
  have HF : Hid (Fine D len) := hf
  have HD : Hid (Calls Tryz.prog 45 #[.slice a len cap] w fun e w' => ∃ v, e = .returned (.tuple #[v, .bool (dagB D len)]) ∧ (dagB D len = true → ∃ B b off, v = .map (some B) ∧ w.heap.size ≤ B ∧ (0 < len → a = some ⟨b, off, none⟩) ∧ w'.ownsMap Tryz.prog 9 PR B len (mapD D b off len)) ∧ Below w.heap.size w w') := dagOf_any a len cap D w h hf hP
  clear h hf
  cases hq : dagB D len with
  | false =>
    have HR : Hid (elemsR lo D len = []) := (listOf_is hlo (M := fun x => dagB D len = true ∧ Adds D len len x) (L := []) (by simp [Up]) (fun x => by simp [hq])).symm
    rw [hq] at HD
    go_enter Tryz.func28, Tryz.ntmps28
    go_wp2_with (go_at_call 45; refine HD.out.mono ?_; rintro e w1 ⟨v, rfl, _, hB1⟩)
    go_ret
    refine ⟨_, rfl, ?_, hB1⟩
    rw [HR.out]
    exact World.ownsRow_nil _ _ _ _
  | true =>
    have HQ : Hid (dagB D len = true) := hq
    have HLE : Hid (len ≤ 30) := (dagB_parts hq).1
    rw [hq] at HD
    clear hq
    go_enter Tryz.func28, Tryz.ntmps28
    go_wp2_with (first
      | (go_at_call 45
         refine HD.out.mono ?_
         rintro e w1 ⟨v, rfl, hmp, hB1⟩
         obtain ⟨B, b, off, rfl, hBB, hab, hown⟩ := hmp rfl
         have HB1 : Hid (Below w.heap.size w w1) := hB1
         have HAB : Hid (0 < len → a = some ⟨b, off, none⟩) := hab
         have HO1 : Hid (w1.ownsMap Tryz.prog 9 PR B len (mapD D b off len)) := hown
         have HK : Hid (Calls Tryz.prog 59 #[.map (some B)] w1 fun e w' => ∃ K E, e = .returned (.map (some K)) ∧ w1.heap.size ≤ K ∧ SetOf w' K len E ∧ (∀ x, has E (.string x) = true ↔ ∃ t, t < len ∧ TakenBy D len t x) ∧ Below w1.heap.size w1 w') := takenBack_any D len b off B w1 HQ.out HF.out (fun i hi => dag_at (HN.out.below hB1) (hab (by omega)) i hi) hown
         clear hown hB1 hab hmp)
      | (go_at_call 59
         refine HK.out.mono ?_
         rintro e w2 ⟨K, Eb, rfl, hKK, hSK, hRK, hB2⟩
         have HKK : Hid (w1.heap.size ≤ K) := hKK
         have HSK2 : Hid (SetOf w2 K len Eb) := hSK
         have HRK : Hid (∀ x, has Eb (.string x) = true ↔ ∃ t, t < len ∧ TakenBy D len t x) := hRK
         have HB2 : Hid (Below w1.heap.size w1 w2) := hB2
         have HM2 : Hid ((w2.alloc (.map #[] 0)).ownsMap Tryz.prog 9 PR B len (mapD D b off len)) := (ownsMap_below HO1.out hB2).alloc _
         clear hKK hSK hRK hB2)
      | (at_range
         refine wpList_range_own _ rfl _ 61 rfl 9 66 lawS Tryz.underlying61 PR B len (mapD D b off len) rfl HM2.out ?_
         intro w0 hrg0 hg0 hs0))
    go_frame
    have hsz0 : (w2.alloc (.map #[] 0)).heap.size = w2.heap.size + 1 := by simp
    have hBa : Below w2.heap.size w2 (w2.alloc (.map #[] 0)) := (Below.refl _ _).alloc (Nat.le_refl _) _
    have HB20 : Hid (Below w2.heap.size w2 w0) := hBa.grown hg0 hBa.size (fun j hj => by cases hj)
    have HR0 : Hid (w0.ranges Tryz.prog 9 PR B (w2.heap.size + 1) len (mapD D b off len) (has (mapD D b off len)) (Maps.size (mapD D b off len))) := by rw [← hsz0]; exact hrg0
    have HE0 : Hid (SetOf w0 w2.heap.size 0 (.map [])) := World.ownsMap.kept (World.ownsMap_made w2 _ _ _) hg0 (by simp)
    have HSZM : Hid (Maps.size (mapD D b off len) ≤ len) := HM2.out.size_le
    have HBw2 : Hid (Below w.heap.size w w2) := HB1.out.trans (HB2.out.mono HB1.out.size)
    have HNE : Hid (B < w2.heap.size ∧ K < w2.heap.size ∧ w.heap.size ≤ w2.heap.size) := ⟨by have := HO1.out.lt; have := HB2.out.size; omega, HSK2.out.lt, HBw2.out.size⟩
    rw [hsz0]
    clear hrg0 hg0 hs0 hsz0 hBa
    go_loopw [7, 8] (fun _ _ wr => ∃ (left : Lit → Bool) (cnt n : Nat) (E : DataW Value), wr.ranges Tryz.prog 9 PR B (w2.heap.size + 1) len (mapD D b off len) left cnt ∧ SetOf wr w2.heap.size n E ∧ n + cnt ≤ len ∧ Hid (∀ x, has E (.string x) = true ↔ ∃ i, i < len ∧ left (keyL (ids D i)) = false ∧ (D i).k = 1 ∧ (D i).text.toList = x ∧ ¬ Gone D len i) ∧ Below w2.heap.size w2 wr ∧ w2.heap.size + 1 < wr.heap.size)
      (fun _ _ wr => wr.rangeLeft B (w2.heap.size + 1))
    case atStart => exact ⟨_, _, 0, _, HR0.out, HE0.out, by have := HSZM.out; omega, (fun x => ⟨fun h => by simp [has_eq] at h, fun ⟨t, ht, hl, _⟩ => by rw [mapD_has D b off len t ht] at hl; cases hl⟩), HB20.out, HR0.out.lt⟩
    case round =>
      obtain ⟨left, cnt, n, E, hrg, hE, hnc, HS, hB, hsz⟩ := hrel
      have HG : Hid (wr.ranges Tryz.prog 9 PR B (w2.heap.size + 1) len (mapD D b off len) left cnt) := hrg
      have HE : Hid (SetOf wr w2.heap.size n E) := hE
      have HB : Hid (Below w2.heap.size w2 wr) := hB
      have HZ : Hid (w2.heap.size + 1 < wr.heap.size) := hsz
      clear hE hB hsz
      go_wp2_with (first
        | (at_next; refine wpList_next_ranges _ rfl _ rfl 9 lawS PR Value.string Value.pointer keyS_inv PR_inv B (w2.heap.size + 1) len _ _ _ rfl hrg ?_ ?_))
      · intro _ hl0
        clear hrg
        have HFr : Hid (∀ x, has E (.string x) = true ↔ Adds D len len x) := fun x => by
          rw [HS.out x]
          exact ⟨fun ⟨t, ht, _, h⟩ => ⟨t, ht, h⟩, fun ⟨t, ht, h⟩ => ⟨t, ht, hl0 _, h⟩⟩
        have HLN : Hid (n ≤ 1000000) := by show _ ≤ _; have := HLE.out; omega
        clear hl0
        go_wp2_with (go_at_call 54; refine (rising_any w2.heap.size n E _ HE.out HLN.out).mono ?_; rintro e w4 ⟨v, L, rfl, hU, hM, hO4, hB4⟩)
        go_ret
        have hBw : Below w.heap.size w wr := HBw2.out.trans (HB.out.mono HBw2.out.size)
        refine ⟨v, rfl, ?_, hBw.trans (hB4.mono hBw.size)⟩
        have e1 : L = elemsR lo D len := listOf_is hlo hU (fun x => by rw [hM x, HFr.out x]; simp [HQ.out])
        rw [← e1]
        exact mono_base hO4 hBw.size
      · intro x c kl y ps w3 cnt3 hkx hlk hRv hat hrg3 hlt3 hg3 hs3 hen
        have hkl := keyS_lit hkx
        subst hkl
        obtain ⟨i, hi, hix, hc⟩ := node_of hRv hat
        subst hc
        have hxs : x.size ≤ 9223372036854775807 := by
          have h1 := hkx
          simp [keyOf, Tryz.underlying9, mapKey] at h1
          have := h1.1
          unfold maxLen at this
          omega
        have hB3 : Below w2.heap.size w2 w3 := HB.out.grown hg3 HB.out.size (fun j hj => by cases hj; omega)
        have hBw3 : Below w.heap.size w w3 := HBw2.out.trans (hB3.mono HBw2.out.size)
        have nd := dag_at (HN.out.below hBw3) (HAB.out (by omega)) i hi
        have c2 := nd.c2
        have c4 := nd.c4
        have HE3 : Hid (SetOf w3 w2.heap.size n E) := World.ownsMap.kept HE.out hg3 (by simp)
        have HK3 : Hid (SetOf w3 K len Eb) := HSK2.out.below hB3
        have HG3 : Hid (w3.ranges Tryz.prog 9 PR B (w2.heap.size + 1) len (mapD D b off len) (fun z => left z && !z.sameKey (keyL x)) cnt3) := hrg3
        have HB3 : Hid (Below w2.heap.size w2 w3) := hB3
        have HLT : Hid (cnt3 < cnt) := hlt3
        have HZ3 : Hid (w2.heap.size + 1 < w3.heap.size) := by show _ < _; have := HZ.out; omega
        have HST := (show Hid _ from struck left D (dagB_parts HQ.out).2.2.1 hi hix)
        have HNC : Hid (n + 1 + cnt3 ≤ len) := by show _ ≤ _; omega
        have HTS : Hid ((D i).text.size ≤ 9223372036854775807) := (HF.out i hi).2.1
        have HH : Hid (Calls Tryz.prog 60 #[.map (some K), .string x] w3 fun e w' => e = .returned (.bool (has Eb (.string x.toList))) ∧ Below w3.heap.size w3 w') := has49_any K len Eb x w3 HK3.out hxs
        have HGN : Hid ((D i).k = 1 → (has Eb (.string x.toList) = true ↔ Gone D len i)) := fun hk => by rw [HRK.out, ← hix]; exact taken_gone (dagB_parts HQ.out).2.2.1 hi hk
        have HSN : Hid (¬ ((D i).k = 1 ∧ ¬ Gone D len i) → ∀ q, has E (.string q) = true ↔ ∃ i', i' < len ∧ (left (keyL (ids D i')) && !(keyL (ids D i')).sameKey (keyL x)) = false ∧ (D i').k = 1 ∧ (D i').text.toList = q ∧ ¬ Gone D len i') := fun hno q => by
          rw [HS.out q]
          constructor
          · rintro ⟨t', ht', hl, h⟩
            exact ⟨t', ht', (HST.out t' ht').2 (.inl hl), h⟩
          · rintro ⟨t', ht', hl, h⟩
            rcases (HST.out t' ht').1 hl with h1 | rfl
            · exact ⟨t', ht', h1, h⟩
            · exact absurd ⟨h.1, h.2.2⟩ hno
        clear hrg hrg3 hRv hat hkx hlk hg3 hs3 nd hB3 hBw3 hlt3 hix hnc
        by_cases hk : (D i).k = 1
        · have hkd : ((D i).k == 1) = true := by simp [hk]
          have hgn := HGN.out hk
          cases hh : has Eb (.string x.toList) with
          | true =>
            have HS' := (show Hid _ from HSN.out (fun h => h.2 (hgn.1 hh)))
            rw [hh] at HH
            clear hk hgn hh HSN HGN
            go_wp2_with (go_at_call 60; refine HH.out.mono ?_; rintro e w4 ⟨rfl, hB4⟩; have HB4 : Hid (Below w3.heap.size w3 w4) := hB4; clear hB4)
            go_roundw
            case rel => exact ⟨fun z => left z && !z.sameKey (keyL x), cnt3, n, E, ranges_below HG3.out HB4.out, HE3.out.below HB4.out, by have := HNC.out; omega, HS'.out, HB3.out.trans (HB4.out.mono HB3.out.size), by have := HZ3.out; have := HB4.out.size; omega⟩
            case measure => rw [(ranges_below HG3.out HB4.out).left_eq, HG.out.left_eq]; exact HLT.out
          | false =>
            have hng : ¬ Gone D len i := fun h => by rw [hgn.2 h] at hh; cases hh
            have HS' : Hid (∀ q, has (putE E (D i).text) (.string q) = true ↔ ∃ i', i' < len ∧ (left (keyL (ids D i')) && !(keyL (ids D i')).sameKey (keyL x)) = false ∧ (D i').k = 1 ∧ (D i').text.toList = q ∧ ¬ Gone D len i') := fun q => by
              rw [putE_has HE3.out.isMap, HS.out q]
              constructor
              · rintro (⟨t', ht', hl, h⟩ | rfl)
                · exact ⟨t', ht', (HST.out t' ht').2 (.inl hl), h⟩
                · exact ⟨i, hi, (HST.out i hi).2 (.inr rfl), hk, rfl, hng⟩
              · rintro ⟨t', ht', hl, h⟩
                rcases (HST.out t' ht').1 hl with h1 | rfl
                · exact .inl ⟨t', ht', h1, h⟩
                · exact .inr h.2.1
            rw [hh] at HH
            have c4' := c4
            have HC4 : Hid (w3.cell? ⟨b, off + i * 6 + 4, none⟩ = some (.string (D i).text)) := c4
            clear hk hgn hh HSN HGN hng c4'
            go_wp2_with (go_at_call 60; refine HH.out.mono ?_; rintro e w4 ⟨rfl, hB4⟩; have c44 : w4.cell? ⟨b, off + i * 6 + 4, none⟩ = some (.string (D i).text) := (hB4.cell (p := ⟨b, off + i * 6 + 4, none⟩) (cell_lt HC4.out)).trans HC4.out; have HB4 : Hid (Below w3.heap.size w3 w4) := hB4; clear hB4)
            refine (put_any w2.heap.size n E (D i).text w4 (HE3.out.below HB4.out) (by have := HNC.out; have := HLE.out; omega) HTS.out).mono ?_
            rintro e w5 ⟨rfl, hs5, hg5⟩
            have HF5 : Hid (w5.ranges Tryz.prog 9 PR B (w2.heap.size + 1) len (mapD D b off len) (fun z => left z && !z.sameKey (keyL x)) cnt3 ∧ SetOf w5 w2.heap.size (n + 1) (putE E (D i).text) ∧ Below w2.heap.size w2 w5 ∧ w2.heap.size + 1 < w5.heap.size) := by
              have h34 := HB3.out.trans (HB4.out.mono HB3.out.size)
              exact ⟨ranges_kept' (ranges_below HG3.out HB4.out) hg5 (by have := HNE.out; omega) (by omega), hs5, h34.grown hg5 h34.size (fun j hj => by cases hj; exact Nat.le_refl _), by have := HZ3.out; have := HB4.out.size; have := hg5.size; omega⟩
            clear hs5 hg5 c44 c4 c2
            go_wp2
            go_roundw
            case rel => exact ⟨fun z => left z && !z.sameKey (keyL x), cnt3, n + 1, _, HF5.out.1, HF5.out.2.1, HNC.out, HS', HF5.out.2.2.1, HF5.out.2.2.2⟩
            case measure => rw [HF5.out.1.left_eq, HG.out.left_eq]; exact HLT.out
        · have hkd : ((D i).k == 1) = false := by simp [hk]
          have HS' := (show Hid _ from HSN.out (fun h => hk h.1))
          clear hk HSN HGN
          go_wp2
          go_roundw
          case rel => exact ⟨fun z => left z && !z.sameKey (keyL x), cnt3, n, E, HG3.out, HE3.out, by have := HNC.out; omega, HS'.out, HB3.out, HZ3.out⟩
          case measure => rw [HG3.out.left_eq, HG.out.left_eq]; exact HLT.out
end Go.Proofs.YtjhbccppihledaaGreatDoor

namespace Go.Proofs.YtjhbccppihledaaGreatDoor
open Go.RowKit
set_option linter.unusedVariables false

set_option maxHeartbeats 4000000 in
theorem law5_walk (lo : (List UInt8 → Prop) → List (List UInt8)) (hlo : IsLo lo) (de : Prop → Bool) (hde : ∀ p, de p = true ↔ p) (a : Option Addr) (len cap : Nat) (D : Nat → Nd) (w : World) (h : IsNds w a len cap D) (hf : Fine D len) (hP : AllT w) :
    Calls Tryz.prog 7 #[.slice a len cap] w fun e w' => e = .returned (.bool true) ∧ Below w.heap.size w w' := by
  go_enter Tryz.func7, Tryz.ntmps7
  go_wp2_with fail
  refine (szNodeS_any a len cap D _ h hf).mono ?_
  rintro e w1 ⟨r, rfl, hr, b1⟩
  rcases hr with hr | ⟨hr, hl, hz⟩
  · go_wp2
    go_ret
    exact ⟨rfl, b1⟩
  go_wp2_with fail
  refine (toNodeS_any a len cap D _ (h.below b1) hl hz).mono ?_
  rintro e w2 ⟨g2, G2, rfl, i2, hB2⟩
  have b2 := b1.trans (hB2.mono b1.size)
  have f2 : Fine (fun i => (D i).at (G2 i)) len := hf
  go_wp2_with fail
  refine (specElemsOf_big lo hlo de hde _ len len _ _ i2 f2 hl).mono ?_
  rintro e w3 ⟨v3, rfl, o3, hB3⟩
  have e3 : elemsR lo (fun i => (D i).at (G2 i)) len = elemsR lo D len := elemsR_at lo D G2 len
  rw [e3] at o3
  have b3 := b2.trans (hB3.mono b2.size)
  obtain ⟨L, hL⟩ : ∃ L, L = elemsR lo D len := ⟨_, rfl⟩
  rw [← hL] at o3
  have HL : Hid (L = elemsR lo D len) := hL
  clear hL e3 hB2 hB3 i2 f2
  obtain ⟨a3, c3, rfl, i3, q3⟩ := o3.strs2
  go_wp2_with fail
  refine (toNodeS_own a len cap D _ (h.below b3) hl hz).mono ?_
  rintro e w4 ⟨g4, G4, rfl, i4, hB4, n4⟩
  have b4 := b3.trans (hB4.mono b3.size)
  have f4 : Fine (fun i => (D i).at (G4 i)) len := hf
  go_wp2_with fail
  refine (implElemsOf_any lo hlo _ len len _ _ i4 f4 (hP.below b4)).mono ?_
  rintro e w5 ⟨v5, rfl, o5, hB5⟩
  have e5 : elemsR lo (fun i => (D i).at (G4 i)) len = elemsR lo D len := elemsR_at lo D G4 len
  rw [e5, ← HL.out] at o5
  have b5 := b4.trans (hB5.mono b4.size)
  have B5 : Below w3.heap.size w3 w5 := hB4.trans (hB5.mono hB4.size)
  obtain ⟨a5, c5, rfl, i5, q5⟩ := o5.strs2
  clear e5 f4
  go_wp2_with fail
  refine (eqStringS_same _ _ _ _ _ _ _ i5 (i3.below B5)).mono ?_
  rintro e w6 ⟨rfl, hB6⟩
  have b6 := b5.trans (hB6.mono b5.size)
  go_wp2_with fail
  refine (toNodeS_any a len cap D _ (h.below b6) hl hz).mono ?_
  rintro e w7 ⟨g7, G7, rfl, i7, hB7⟩
  have b7 := b6.trans (hB7.mono b6.size)
  have H47 : Below w4.heap.size w4 w7 := hB5.trans ((hB6.trans (hB7.mono hB6.size)).mono hB5.size)
  go_wp2_with fail
  refine (eqNodeS_like _ _ len len len _ _ _ (i4.below H47) i7 (fun i hi => ⟨rfl, rfl, rfl, rfl, rfl, rfl, rfl⟩)).mono ?_
  rintro e w8 ⟨rfl, hB8⟩
  have b8 := b7.trans (hB8.mono b7.size)
  have H48 : Below w4.heap.size w4 w8 := H47.trans (hB8.mono H47.size)
  have H58 : Below w5.heap.size w5 w8 := hB6.trans ((hB7.trans (hB8.mono hB7.size)).mono hB6.size)
  have B8 : Below w3.heap.size w3 w8 := hB4.trans (H48.mono hB4.size)
  have n8 := n4.below H48
  go_wp2_with fail
  refine (markNodeS_any g4 len w3.heap.size w4.heap.size G4 _ _ n8 hl hz n4.top.1 n4.top.2).mono ?_
  rintro e w9 ⟨k9, rfl, hk9, _, K9⟩
  have s34 : w3.heap.size ≤ w4.heap.size := hB4.size
  have s38 : w3.heap.size ≤ w8.heap.size := B8.size
  have B9 : Below w3.heap.size w3 w9 := B8.trans ((K9.mono (fun k hk => .inl hk)).below s38)
  have b9 : Below w.heap.size w w9 := b8.trans (((K9.mono (fun k hk => .inl hk)).below s38).mono b3.size)
  have i9 := (i5.below H58).kept K9 (fun b off e => .inr (q5 b off e).1)
  have o9 : OwnL w9 w4.heap.size (.slice a5 L.length c5) L := ((o5.below H58).kept K9 (fun b hb => .inr hb))
  have hkn : decide ((k9 : Int) < 0) = false := by simp
  have H39 := i3.below B9
  clear hB4 hB5 hB6 hB7 hB8 H47 H48 H58 n4 n8 K9 i7 i4 B8 i5 B5
  go_wp2_with fail
  refine (eqStringS_same _ _ _ _ _ _ _ i9 H39).mono ?_
  rintro e w10 ⟨rfl, hB10⟩
  have b10 := b9.trans (hB10.mono b9.size)
  have B10 := B9.trans (hB10.mono B9.size)
  have o10 := o9.below hB10
  have hln := o10.len
  obtain ⟨n, hn⟩ : ∃ n, n = L.length := ⟨_, rfl⟩
  have HLL : Hid (L.length ≤ 1000000) := by show _ ≤ _; rw [HL.out]; exact elemsR_len hlo D len
  clear hkn H39 i9 o9 o5 hln
  rw [← hn] at o10 i3 HLL ⊢
  have HN : Hid (n = L.length) := hn
  have o10' : w10.ownsRow w4.heap.size 9 1 (.slice a5 n c5) n (L.map encStr) := by have := o10; unfold OwnL at this; rw [← hn] at this; exact this
  clear hn o10
  go_wp2_with fail
  refine (markStringS_any a5 n c5 w4.heap.size (L.map encStr) 1 _ o10' (by omega) (by have := HLL.out; omega)).mono ?_
  rintro e w11 ⟨rfl, o11, hG11⟩
  have hrow : ∀ k, (Value.slice a5 n c5).ownBlock = some k → w4.heap.size ≤ k := fun k hk => (o10'.lt k hk).1
  have b11 := b10.grown hG11 b10.size (fun k hk => by have := hrow k hk; have := b4.size; omega)
  have B11 := B10.grown hG11 B10.size (fun k hk => by have := hrow k hk; omega)
  have i11 : IsStrs w11 a5 n c5 (fun i => mt (1 + i)) := by
    obtain ⟨a', cap', e', hI⟩ := strs_of_own (S := fun i => mt (1 + i)) o11 (fun i hi => marks_at hi)
    simp only [Value.slice.injEq, true_and] at e'
    obtain ⟨rfl, rfl⟩ := e'
    exact hI
  clear o10' hG11 hrow o11
  have hq1 : decide (((1 + n : Nat) : Int) < 0) = false := by simp; omega
  have hq2 : ((((1 + n : Nat) : Int)) != ((1 + n : Nat) : Int)) = false := by simp
  go_wp2_with fail
  refine (heldStringS_any a5 n c5 1 _ i11 (by omega) (by have := HLL.out; omega)).mono ?_
  rintro e w12 ⟨rfl, hB12⟩
  have b12 := b11.trans (hB12.mono b11.size)
  have B12 := B11.trans (hB12.mono B11.size)
  go_wp2_with fail
  refine (toNodeS_any a len cap D _ (h.below b12) hl hz).mono ?_
  rintro e w13 ⟨g13, G13, rfl, i13, hB13⟩
  have b13 := b12.trans (hB13.mono b12.size)
  have B13 := B12.trans (hB13.mono B12.size)
  have f13 : Fine (fun i => (D i).at (G13 i)) len := hf
  go_wp2_with fail
  refine (implElemsOf_any lo hlo _ len len _ _ i13 f13 (hP.below b13)).mono ?_
  rintro e w14 ⟨v14, rfl, o14, hB14⟩
  have e14 : elemsR lo (fun i => (D i).at (G13 i)) len = elemsR lo D len := elemsR_at lo D G13 len
  rw [e14, ← HL.out] at o14
  have b14 := b13.trans (hB14.mono b13.size)
  have B14 := B13.trans (hB14.mono B13.size)
  obtain ⟨a14, c14, rfl, i14, q14⟩ := o14.strs2
  rw [← HN.out] at i14 ⊢
  have H3 := i3.below B14
  clear o14 e14 f13
  go_wp2_with fail
  refine (eqStringS_same _ _ _ _ _ _ _ i14 H3).mono ?_
  rintro e w15 ⟨rfl, hB15⟩
  have b15 := b14.trans (hB15.mono b14.size)
  have i15 := i11.below (hB12.trans ((hB13.trans ((hB14.trans (hB15.mono hB14.size)).mono hB13.size)).mono hB12.size))
  go_wp2_with fail
  refine (heldStringS_any a5 n c5 1 _ i15 (by omega) (by have := HLL.out; omega)).mono ?_
  rintro e w16 ⟨rfl, hB16⟩
  go_wp2
  go_ret
  exact ⟨rfl, b15.trans (hB16.mono b15.size)⟩
end Go.Proofs.YtjhbccppihledaaGreatDoor
