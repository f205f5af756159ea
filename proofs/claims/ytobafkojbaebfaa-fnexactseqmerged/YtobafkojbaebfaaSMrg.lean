/-
  The specification's merging of two sequences. No condition but that the slices read.
-/
import Derived.Test.YtobafkojbaebfaaSPut
import Derived.Test.YtobafkojbaebfaaECmp
namespace Go.Proofs.Ytobafkojbaebfaa
open Go.RowKit
set_option linter.unusedVariables false

/-- a list of ops is a right sequence -/
def seqL (L : List Ev) : Bool := seqB (fun i => L.getD i evZ) L.length
theorem seqL_len {L : List Ev} (h : seqL L = true) : L.length ≤ 40 := by
  unfold seqL seqB at h
  simp at h
  exact h.1
theorem putS_len (s : Ev) : ∀ L : List Ev, (putS L s).length ≤ L.length + 1
  | [] => by simp [putS]
  | x :: l => by
    unfold putS
    split
    · have := putS_len s l; simp; omega
    · split <;> simp
/-- the events of both, each once -/
def mergeS (A B : List Ev) : List Ev := B.foldl putS A
theorem mergeS_len (A : List Ev) : ∀ B : List Ev, (mergeS A B).length ≤ A.length + B.length := by
  intro B
  induction B generalizing A with
  | nil => simp [mergeS]
  | cons x l ih =>
    have h := ih (putS A x)
    have h2 := putS_len x A
    show (mergeS (putS A x) l).length ≤ _
    simp
    omega
theorem mergeS_step (A B : List Ev) (k : Nat) (h : k < B.length) : putS (mergeS A (B.take k)) (B.getD k evZ) = mergeS A (B.take (k + 1)) := by
  unfold mergeS
  rw [List.take_add_one, List.foldl_append]
  have : B[k]?.toList = [B.getD k evZ] := by simp [h]
  rw [this]
  rfl
/-- the op y is not unlike the op of its Id in A -/
def okB (A : List Ev) (y : Ev) : Bool := match firstA (fun i => A.getD i evZ) y.a A.length with
  | none => true
  | some j => Ev.same (A.getD j evZ) y
theorem okB_none {A : List Ev} {y : Ev} (h : firstA (fun i => A.getD i evZ) y.a A.length = none) : okB A y = true := by unfold okB; rw [h]
theorem okB_some {A : List Ev} {y : Ev} {j : Nat} (h : firstA (fun i => A.getD i evZ) y.a A.length = some j) : okB A y = Ev.same (A.getD j evZ) y := by unfold okB; rw [h]
/-- two sequences can be merged -/
def mergedB (A B : List Ev) : Bool := seqL A && (seqL B && (allB (fun i => okB A (B.getD i evZ)) B.length && seqL (mergeS A B)))
/-- what a merging gives: the events of M in memory of its own, or nothing -/
def Gave (w : World) (base : Nat) (ok : Bool) (M : List Ev) (v : Value) : Prop :=
  (ok = false ∧ v = .slice none 0 0) ∨ (ok = true ∧ ∃ g gc, v = .slice (some ⟨g, 0, none⟩) M.length gc ∧ OwnE w base g gc M)

/-- every op of the list can have come in -/
def InL (L : List Ev) : Prop := ∀ i, i < L.length → (L.getD i evZ).in
theorem InL.mem {L : List Ev} (h : InL L) {x : Ev} (hx : x ∈ L) : x.in := by
  obtain ⟨i, hi, rfl⟩ := List.getElem_of_mem hx
  have := h i hi
  simpa [List.getD_eq_getElem?_getD, hi] using this
theorem InL.of {L : List Ev} (h : ∀ x ∈ L, x.in) : InL L := by
  intro i hi
  refine h _ ?_
  simp [List.getD_eq_getElem?_getD, hi]
theorem putS_mem (s x : Ev) : ∀ L : List Ev, x ∈ putS L s → x ∈ L ∨ x = s
  | [], h => by simp [putS] at h; exact .inr h
  | y :: l, h => by
    unfold putS at h
    split at h
    · rcases List.mem_cons.1 h with h | h
      · exact .inl (by rw [h]; exact List.mem_cons_self)
      · rcases putS_mem s x l h with h | h
        · exact .inl (List.mem_cons_of_mem _ h)
        · exact .inr h
    · split at h
      · exact .inl h
      · rcases List.mem_cons.1 h with h | h
        · exact .inr h
        · exact .inl h
theorem mergeS_sub (A : List Ev) (x : Ev) : ∀ B : List Ev, x ∈ mergeS A B → x ∈ A ∨ x ∈ B := by
  intro B
  induction B generalizing A with
  | nil => intro h; exact .inl h
  | cons y l ih =>
    intro h
    rcases ih (putS A y) h with h | h
    · rcases putS_mem y x A h with h | h
      · exact .inl h
      · exact .inr (by rw [h]; exact List.mem_cons_self)
    · exact .inr (List.mem_cons_of_mem _ h)
theorem mergeS_in {A B : List Ev} (hA : InL A) (hB : InL B) : InL (mergeS A B) := InL.of fun x hx => by
  rcases mergeS_sub A x B hx with h | h
  · exact hA.mem h
  · exact hB.mem h
theorem specSeqL (b off cap : Nat) (L : List Ev) (w : World) (h : Lies w b off L) (hb : b < w.heap.size) (hl : L.length ≤ cap) (hc : cap ≤ 9223372036854775807) (hI : InL L) (x : Bool) (hx : seqL L = x) :
    Calls Try.prog 11 #[.slice (some ⟨b, off, none⟩) L.length cap] w fun e w' => e = .returned (.bool x) ∧ Below w.heap.size w w' := by
  rw [← hx]; exact specSeq_any _ _ _ _ w (h.evs hb hl hc) (fun i hi => (hI i hi).1)
theorem implSeqL (b off cap : Nat) (L : List Ev) (w : World) (h : Lies w b off L) (hb : b < w.heap.size) (hl : L.length ≤ cap) (hc : cap ≤ 9223372036854775807) (hI : InL L) (x : Bool) (hx : seqL L = x) :
    Calls Try.prog 13 #[.slice (some ⟨b, off, none⟩) L.length cap] w fun e w' => e = .returned (.bool x) ∧ Below w.heap.size w w' := by
  rw [← hx]; exact implSeq_any _ _ _ _ w (h.evs hb hl hc) hI

set_option maxRecDepth 10000 in
set_option maxHeartbeats 4000000 in
theorem specMerged_any (b1 o1 c1 b2 o2 c2 : Nat) (A B : List Ev) (w : World) (h1 : Lies w b1 o1 A) (hb1 : b1 < w.heap.size) (hl1 : A.length ≤ c1) (hc1 : c1 ≤ 9223372036854775807) (h2 : Lies w b2 o2 B) (hb2 : b2 < w.heap.size) (hl2 : B.length ≤ c2) (hc2 : c2 ≤ 9223372036854775807) (hIA : InL A) (hIB : InL B) :
    Calls Try.prog 23 #[.slice (some ⟨b1, o1, none⟩) A.length c1, .slice (some ⟨b2, o2, none⟩) B.length c2] w fun e w' => ∃ v, e = .returned (.tuple #[v, .bool (mergedB A B)]) ∧ Gave w' w.heap.size (mergedB A B) (mergeS A B) v ∧ Below w.heap.size w w' := by
  obtain ⟨i0, hi, hz0, hz1, hz2⟩ := info_parts infoE
  have HL1 : Hid (Lies w b1 o1 A) := h1
  have HL2 : Hid (Lies w b2 o2 B) := h2
  have HC1 : Hid (∀ w', Below w.heap.size w w' → ∀ x, seqL A = x → Calls Try.prog 11 #[.slice (some ⟨b1, o1, none⟩) A.length c1] w' fun e w'' => e = .returned (.bool x) ∧ Below w'.heap.size w' w'') := fun w' hB x hx => specSeqL _ _ _ A w' (h1.grow hb1 hB) (by have := hB.size; omega) hl1 hc1 hIA x hx
  have HC2 : Hid (∀ w', Below w.heap.size w w' → ∀ x, seqL B = x → Calls Try.prog 11 #[.slice (some ⟨b2, o2, none⟩) B.length c2] w' fun e w'' => e = .returned (.bool x) ∧ Below w'.heap.size w' w'') := fun w' hB x hx => specSeqL _ _ _ B w' (h2.grow hb2 hB) (by have := hB.size; omega) hl2 hc2 hIB x hx
  have HAT : Hid (∀ w', Below w.heap.size w w' → ∀ z, Calls Try.prog 35 #[.slice (some ⟨b1, o1, none⟩) A.length c1, .int .i64 z] w' fun e w'' => e = .returned (.int .i64 (atZ (firstA (fun i => A.getD i evZ) z A.length))) ∧ w'' = w') := fun w' hB z => at_any _ _ _ _ z w' ((h1.grow hb1 hB).evs (by have := hB.size; omega) hl1 hc1)
  have HIM : Hid (InL (mergeS A B)) := mergeS_in hIA hIB
  clear h1 h2
  obtain ⟨n, hn⟩ : ∃ n, n = A.length := ⟨_, rfl⟩
  obtain ⟨m, hm⟩ : ∃ m, m = B.length := ⟨_, rfl⟩
  have HN : Hid (n = A.length) := hn
  have HM : Hid (m = B.length) := hm
  have HATn : Hid (∀ w', Below w.heap.size w w' → ∀ z, Calls Try.prog 35 #[.slice (some ⟨b1, o1, none⟩) n c1, .int .i64 z] w' fun e w'' => e = .returned (.int .i64 (atZ (firstA (fun i => A.getD i evZ) z A.length))) ∧ w'' = w') := by rw [hn]; exact HAT
  rw [← hn] at hl1 HC1 ⊢
  rw [← hm] at hl2 HC2 ⊢
  clear hn hm
  cases hA : seqL A with
  | false =>
    have hr : Hid (mergedB A B = false) := by show _ = _; unfold mergedB; rw [hA]; rfl
    go_enter Try.func23, Try.ntmps23
    go_wp2_with fail
    refine (HC1.out _ (Below.refl _ _) false hA).mono ?_
    rintro e w1 ⟨rfl, hB1⟩
    go_wp2
    go_ret2
    rw [hr.out]
    exact ⟨_, rfl, .inl ⟨rfl, rfl⟩, hB1⟩
  | true =>
    have hn40 : n ≤ 40 := by rw [HN.out]; exact seqL_len hA
    cases hB : seqL B with
    | false =>
      have hr : Hid (mergedB A B = false) := by show _ = _; unfold mergedB; rw [hA, hB]; rfl
      go_enter Try.func23, Try.ntmps23
      go_wp2_with fail
      refine (HC1.out _ (Below.refl _ _) true hA).mono ?_
      rintro e w1 ⟨rfl, hB1⟩
      go_wp2_with fail
      refine (HC2.out _ hB1 false hB).mono ?_
      rintro e w2 ⟨rfl, hB2⟩
      go_wp2
      go_ret2
      rw [hr.out]
      exact ⟨_, rfl, .inl ⟨rfl, rfl⟩, hB1.trans (hB2.mono hB1.size)⟩
    | true =>
      have hm40 : m ≤ 40 := by rw [HM.out]; exact seqL_len hB
      have hr : Hid (mergedB A B = (allB (fun i => okB A (B.getD i evZ)) B.length && seqL (mergeS A B))) := by show _ = _; unfold mergedB; rw [hA, hB]; rfl
      go_enter Try.func23, Try.ntmps23
      go_wp2_with fail
      refine (HC1.out _ (Below.refl _ _) true hA).mono ?_
      rintro e w1 ⟨rfl, hB1⟩
      go_wp2_with fail
      refine (HC2.out _ hB1 true hB).mono ?_
      rintro e w2 ⟨rfl, hB2'⟩
      have hB2 : Below w.heap.size w w2 := hB1.trans (hB2'.mono hB1.size)
      clear hB1 hB2'
      have HB2 : Hid (Below w.heap.size w w2) := hB2
      have HW : Hid (Lies (w2.alloc (.cells #[] 39)) b1 o1 A) := HL1.out.grow hb1 (hB2.alloc hB2.size _)
      have k1 : 0 + n ≤ maxLen := by unfold maxLen; omega
      have k2 : (0 + n) * 40 ≤ 140737488355328 := by omega
      clear hB2
      go_wp2_with (at_builtin; refine wpList_append_own _ rfl _ _ 25 rfl w.heap.size 39 i0 (.agg #[.int .i64 0, .int .i64 0, .int .i64 0, .string ⟨#[]⟩]) 4 40 Try.underlying25 hi hz0 hz1 hz2 rfl (by decide) _ 0 [] rfl (World.ownsRow_made w2 #[] 0 HB2.out.size (by decide) rfl) ⟨b1, o1, none⟩ n c1 (cellsL A) rfl (by rw [cellsL_len, ← HN.out]) HW.out.news (oneL _) k1 k2 (by have := HB2.out.size; simp; omega) ?_; intro v' w3 hown hgrow hnil)
      obtain ⟨g, gc, rfl, hf⟩ := own_form hown (L := A) (by rw [← HN.out, Nat.zero_add]) (List.nil_append _) (fun e => by have := (hnil.1 e).1; cases this)
      have hB3 : Below w.heap.size w w3 := (HB2.out.alloc HB2.out.size _).grown hgrow (by have := HB2.out.size; simp; omega) (fun x hx => by have hx' : some w2.heap.size = some x := hx; cases hx'; exact HB2.out.size)
      have HF0 : Hid (OwnE w3 w.heap.size g gc A) := hf
      clear hown hgrow hnil hf
      go_wp2
      go_loopw [6, 7] (fun v i wr => ∃ (k g gc : Nat), k ≤ m ∧ i = .int .i64 k ∧ v = .slice (some ⟨g, 0, none⟩) (mergeS A (B.take k)).length gc ∧ Hid (OwnE wr w.heap.size g gc (mergeS A (B.take k)) ∧ allB (fun i => okB A (B.getD i evZ)) k = true) ∧ Below w.heap.size w wr) (fun _ i _ => m - (intOf i).toNat)
      case atStart => exact ⟨0, g, gc, Nat.zero_le _, rfl, rfl, ⟨HF0.out, rfl⟩, hB3⟩
      case round =>
        obtain ⟨k, g', gc', hk, rfl, rfl, HOK, hBr⟩ := hrel
        have HO : Hid (OwnE wr w.heap.size g' gc' (mergeS A (B.take k))) := HOK.out.1
        by_cases hlt : k < m
        · have hltI : (k : Int) < (m : Int) := by omega
          obtain ⟨y, hy⟩ : ∃ y, y = B.getD k evZ := ⟨_, rfl⟩
          obtain ⟨d0, d1, d2, d3⟩ : EvAt wr b2 (o2 + k * 4) y := by rw [hy]; exact (HL2.out k (by rw [← HM.out]; exact hlt)).grow hb2 hBr
          have hml : (mergeS A (B.take k)).length ≤ 2000000 := by
            have := mergeS_len A (B.take k)
            rw [List.length_take, ← HN.out] at this
            omega
          have hst : putS (mergeS A (B.take k)) y = mergeS A (B.take (k + 1)) := by rw [hy]; exact mergeS_step A B k (by rw [← HM.out]; exact hlt)
          have HST : Hid (_) := hst
          have HBr : Hid (Below w.heap.size w wr) := hBr
          have HY : Hid (y = B.getD k evZ) := hy
          have m1 : Hid (EvAt wr b2 (o2 + k * 4) y) := ⟨d0, d1, d2, d3⟩
          clear hy hst hBr hB3 HF0
          cases hf : firstA (fun i => A.getD i evZ) y.a A.length with
          | none =>
            have HOKB : Hid (okB A y = true) := okB_none hf
            have hz : atZ (firstA (fun i => A.getD i evZ) y.a A.length) = -1 := by rw [hf]; rfl
            go_wp2_with fail
            refine (HATn.out wr HBr.out _).mono ?_
            rintro e w' ⟨he, hw⟩
            rw [hz] at he
            subst he
            rw [hw]; clear hw w' hz
            have hne := Later.any wr
            clear d0 d1 d2 d3
            go_wp2
            refine wp_region_later (by kernel_rfl) (by kernel_rfl) ?_
            repeat (go_big_quiet_step (fail))
            refine wpQuiet_nil ?_
            rintro wQ ⟨s, hs⟩
            have HBQ : Hid (Below wr.heap.size wr wQ) := by rw [hs]; exact s.ok
            obtain ⟨d0, d1, d2, d3⟩ := EvAt.below m1.out HBQ.out
            clear hs s
            go_wp2_with fail
            refine (put_any g' 0 gc' (mergeS A (B.take k)) y wQ (HO.out.lies.1.grow HO.out.lies.2.1 HBQ.out) (by have := HBQ.out.size; have := HO.out.lies.2.1; omega) HO.out.caps.1 HO.out.caps.2 hml).mono ?_
            rintro e w4 ⟨g4, gc4, rfl, hO4, hB4⟩
            rw [HST.out] at hO4 ⊢
            have HO4 : Hid (OwnE w4 w.heap.size g4 gc4 (mergeS A (B.take (k + 1)))) := hO4.base (by have := HBr.out.size; have := HBQ.out.size; omega)
            have HB4 : Hid (Below w.heap.size w w4) := (HBr.out.trans (HBQ.out.mono HBr.out.size)).trans (hB4.mono (by have := HBr.out.size; have := HBQ.out.size; omega))
            clear hO4 hB4
            go_wp2
            go_roundw
            case rel => exact ⟨k + 1, g4, gc4, by omega, by go_num, rfl, ⟨HO4.out, by rw [allB_succ, HOK.out.2, ← HY.out, HOKB.out]; rfl⟩, HB4.out⟩
            case measure => simp [intOf]; omega
          | some j =>
            obtain ⟨hj, hja⟩ := firstA_some hf
            have hjn : j < n := by rw [HN.out]; exact hj
            have hjI : (j : Int) < (n : Int) := by omega
            obtain ⟨x, hx⟩ : ∃ x, x = A.getD j evZ := ⟨_, rfl⟩
            have HOKB0 : Hid (okB A y = Ev.same x y) := by show _ = _; rw [okB_some hf, hx]
            have hz : atZ (firstA (fun i => A.getD i evZ) y.a A.length) = (j : Int) := by rw [hf]; rfl
            have m2 : EvAt wr b1 (o1 + j * 4) x := by rw [hx]; exact (HL1.out j hj).grow hb1 HBr.out
            go_wp2_with fail
            refine (HATn.out wr HBr.out _).mono ?_
            rintro e w' ⟨he, hw⟩
            rw [hz] at he
            subst he
            rw [hw]; clear hw w' hz
            have hne := Later.any wr
            have q0 : ∀ s : Later wr, s.val.cell? ⟨b1, o1 + j * 4, none⟩ = some (.int .i64 x.a) := fun s => s.cell m2.c0
            have q1 : ∀ s : Later wr, s.val.cell? ⟨b1, o1 + j * 4 + 1, none⟩ = some (.int .i64 x.b) := fun s => s.cell m2.c1
            have q2 : ∀ s : Later wr, s.val.cell? ⟨b1, o1 + j * 4 + 2, none⟩ = some (.int .i64 x.c) := fun s => s.cell m2.c2
            have q3 : ∀ s : Later wr, s.val.cell? ⟨b1, o1 + j * 4 + 3, none⟩ = some (.string x.d) := fun s => s.cell m2.c3
            have p0 : ∀ s : Later wr, s.val.cell? ⟨b2, o2 + k * 4, none⟩ = some (.int .i64 y.a) := fun s => s.cell m1.out.c0
            have p1 : ∀ s : Later wr, s.val.cell? ⟨b2, o2 + k * 4 + 1, none⟩ = some (.int .i64 y.b) := fun s => s.cell m1.out.c1
            have p2 : ∀ s : Later wr, s.val.cell? ⟨b2, o2 + k * 4 + 2, none⟩ = some (.int .i64 y.c) := fun s => s.cell m1.out.c2
            have p3 : ∀ s : Later wr, s.val.cell? ⟨b2, o2 + k * 4 + 3, none⟩ = some (.string y.d) := fun s => s.cell m1.out.c3
            have hgd : ∀ op a b w, (eqGuard op 39 a b (.agg #[.int .i64 x.a, .int .i64 x.b, .int .i64 x.c, .string x.d]) (.agg #[.int .i64 y.a, .int .i64 y.b, .int .i64 y.c, .string y.d])).run Try.prog w = .ok () w := fun op a b w => guardE op a b x y w
            clear d0 d1 d2 d3 hx hja
            cases hs : Ev.same x y with
            | true =>
              have HOKB : Hid (okB A y = true) := HOKB0.out.trans hs
              have hql : ∀ w, (binOp .neq 39 (.agg #[.int .i64 x.a, .int .i64 x.b, .int .i64 x.c, .string x.d]) (.agg #[.int .i64 y.a, .int .i64 y.b, .int .i64 y.c, .string y.d])).run Try.prog w = .ok (.bool false) w := fun w => by rw [neqE, hs]; rfl
              go_wp2
              refine wp_region_later (by kernel_rfl) (by kernel_rfl) ?_
              repeat (go_big_quiet_step (fail))
              refine wpQuiet_nil ?_
              rintro wQ ⟨s, hs2⟩
              have HBQ : Hid (Below wr.heap.size wr wQ) := by rw [hs2]; exact s.ok
              obtain ⟨d0, d1, d2, d3⟩ := EvAt.below m1.out HBQ.out
              clear hs2 s
              clear q0 q1 q2 q3 p0 p1 p2 p3 hgd hql m2
              go_wp2_with fail
              refine (put_any g' 0 gc' (mergeS A (B.take k)) y wQ (HO.out.lies.1.grow HO.out.lies.2.1 HBQ.out) (by have := HBQ.out.size; have := HO.out.lies.2.1; omega) HO.out.caps.1 HO.out.caps.2 hml).mono ?_
              rintro e w4 ⟨g4, gc4, rfl, hO4, hB4⟩
              rw [HST.out] at hO4 ⊢
              have HO4 : Hid (OwnE w4 w.heap.size g4 gc4 (mergeS A (B.take (k + 1)))) := hO4.base (by have := HBr.out.size; have := HBQ.out.size; omega)
              have HB4 : Hid (Below w.heap.size w w4) := (HBr.out.trans (HBQ.out.mono HBr.out.size)).trans (hB4.mono (by have := HBr.out.size; have := HBQ.out.size; omega))
              clear hO4 hB4
              go_wp2
              go_roundw
              case rel => exact ⟨k + 1, g4, gc4, by omega, by go_num, rfl, ⟨HO4.out, by rw [allB_succ, HOK.out.2, ← HY.out, HOKB.out]; rfl⟩, HB4.out⟩
              case measure => simp [intOf]; omega
            | false =>
              have hfa : Hid (mergedB A B = false) := by
                show _ = _
                rw [hr.out, allB_false (p := fun i => okB A (B.getD i evZ)) (k := k) (by rw [← HM.out]; exact hlt) (by show okB A (B.getD k evZ) = false; rw [← HY.out, HOKB0.out, hs])]
                rfl
              have hql : ∀ w, (binOp .neq 39 (.agg #[.int .i64 x.a, .int .i64 x.b, .int .i64 x.c, .string x.d]) (.agg #[.int .i64 y.a, .int .i64 y.b, .int .i64 y.c, .string y.d])).run Try.prog w = .ok (.bool true) w := fun w => by rw [neqE, hs]; rfl
              go_wp2
              refine wp_region_later (by kernel_rfl) (by kernel_rfl) ?_
              repeat (go_big_quiet_step (fail))
              refine wpQuiet_nil ?_
              rintro wQ ⟨s, hs2⟩
              have HBQ : Hid (Below wr.heap.size wr wQ) := by rw [hs2]; exact s.ok
              obtain ⟨d0, d1, d2, d3⟩ := EvAt.below m1.out HBQ.out
              clear hs2 s
              go_wp2
              go_ret2
              rw [hfa.out]
              exact ⟨_, rfl, .inl ⟨rfl, rfl⟩, HBr.out.trans (HBQ.out.mono HBr.out.size)⟩
        · have hke : k = m := by omega
          subst hke
          have ht : B.take k = B := List.take_of_length_le (by rw [← HM.out]; exact Nat.le_refl _)
          rw [ht] at HO ⊢
          have HBr : Hid (Below w.heap.size w wr) := hBr
          cases hM : seqL (mergeS A B) with
          | false =>
            have hkd : decide ((k : Int) < (k : Int)) = false := by simp
            clear hBr hB3 HF0
            go_wp2_with fail
            refine (specSeqL g' 0 gc' (mergeS A B) wr HO.out.lies.1 HO.out.lies.2.1 HO.out.caps.1 HO.out.caps.2 HIM.out false hM).mono ?_
            rintro e w5 ⟨rfl, hB5⟩
            go_wp2
            go_ret2
            rw [hr.out, ← HM.out, HOK.out.2, hM]
            exact ⟨_, rfl, .inl ⟨rfl, rfl⟩, HBr.out.trans (hB5.mono HBr.out.size)⟩
          | true =>
            have hkd : decide ((k : Int) < (k : Int)) = false := by simp
            clear hBr hB3 HF0
            go_wp2_with fail
            refine (specSeqL g' 0 gc' (mergeS A B) wr HO.out.lies.1 HO.out.lies.2.1 HO.out.caps.1 HO.out.caps.2 HIM.out true hM).mono ?_
            rintro e w5 ⟨rfl, hB5⟩
            go_wp2
            go_ret2
            rw [hr.out, ← HM.out, HOK.out.2, hM]
            exact ⟨_, rfl, .inr ⟨rfl, g', gc', rfl, HO.out.below hB5⟩, HBr.out.trans (hB5.mono HBr.out.size)⟩
end Go.Proofs.Ytobafkojbaebfaa
