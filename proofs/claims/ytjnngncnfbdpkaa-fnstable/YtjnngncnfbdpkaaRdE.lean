/-
  The reader of codes draws rows, and numbers; rows held against each other. Condition: the code reads as bytes.
-/
import Derived.Test.YtjnngncnfbdpkaaRdD
import Derived.Test.YtjnngncnfbdpkaaHInt2
namespace Go.Proofs.Ytjnngncnfbdpkaa
open Go.RowKit
set_option linter.unusedVariables false

theorem getD_get0 {α : Type} {L : List α} {d : α} {i : Nat} (h : i < L.length) : L.getD i d = L[i] := by simp [h]
/-- rows whose first list was cut -/
theorem cut_rd {w w'' : World} {lo g cap b0 c0 R : Nat} {y : Rw} {l : List Rw} {xs : List Value} {u : Nat → Value} (hR : R < lo)
    (h1 : w.ownsRow lo 46 2 (.slice (some ⟨g, 0, none⟩) (l.length + 1) cap) (l.length + 1) xs)
    (h3 : ∀ i, i < l.length + 1 → xs[i * 2]? = some (.int .i64 ((y :: l).getD i rwZ).who) ∧ xs[i * 2 + 1]? = some (u i) ∧ OwnI w lo (u i) ((y :: l).getD i rwZ).cs)
    (hu : u 0 = .slice (some ⟨b0, 0, none⟩) 9 c0) (hy : y.cs.length = 9) (hc0 : c0 ≤ 9223372036854775807) (hc9 : 9 ≤ c0) (hcap : l.length + 1 ≤ cap ∧ cap ≤ 9223372036854775807)
    (hM : Mut R (w.setCell ⟨g, 1, none⟩ (.slice (some ⟨b0, 1, none⟩) 8 (c0 - 1))) w'') : RdR w'' (.slice (some ⟨g, 0, none⟩) (l.length + 1) cap) (⟨y.who, y.cs.tail⟩ :: l) := by
  have hg := h1.lt g rfl
  have hsz : (w.setCell ⟨g, 1, none⟩ (.slice (some ⟨b0, 1, none⟩) 8 (c0 - 1))).heap.size = w.heap.size := by simp [World.setCell]
  have hgM : w''.heap[g]? = (w.setCell ⟨g, 1, none⟩ (.slice (some ⟨b0, 1, none⟩) 8 (c0 - 1))).heap[g]? := hM.block g (by omega) (by omega)
  have cellg : ∀ j, w''.cell? ⟨g, j, none⟩ = (w.setCell ⟨g, 1, none⟩ (.slice (some ⟨b0, 1, none⟩) 8 (c0 - 1))).cell? ⟨g, j, none⟩ := fun j => World.cell?_of_block hgM
  have keep : ∀ i, i < l.length + 1 → ∀ k, (u i).ownBlock = some k → w''.heap[k]? = w.heap[k]? := fun i hi k hk => by
    have hk2 := World.ownsRow.lt (h3 i hi).2.2 k hk
    have hne : k ≠ g := fun e => row_ne_int h1 (h3 i hi).2.2 hk (by rw [e]; rfl)
    rw [hM.block k (by omega) (by omega), Below.heap_setCell _ _ _ _ hne]
  refine ⟨some ⟨g, 0, none⟩, cap, rfl, hcap.1, hcap.2, fun _ => ⟨g, 0, rfl, Nat.lt_of_lt_of_le hg.2 (by have := hM.size; omega), fun i hi => ?_⟩⟩
  rw [List.length_cons] at hi
  obtain ⟨q0, q1, q2⟩ := h3 i hi
  have d0 : w''.cell? ⟨g, 0 + i * 2, none⟩ = some (.int .i64 ((y :: l).getD i rwZ).who) := by
    rw [Nat.zero_add, cellg, World.cell?_setCell_other _ _ _ _ (by intro e; have e := congrArg Addr.off e; dsimp only at e; omega), h1.cellAt _ (by omega)]
    exact q0
  have hI := q2.blk (keep i hi)
  cases i with
  | zero =>
    refine ⟨d0, .slice (some ⟨b0, 1, none⟩) 8 (c0 - 1), ?_, ?_⟩
    · have hxl := h1.1
      obtain ⟨v1, hv1⟩ := own_some h1 1 (by omega)
      rw [show 0 + 0 * 2 + 1 = 1 by omega, cellg]
      exact World.cell?_setCell_same _ _ _ hv1
    · rw [hu] at hI
      obtain ⟨a', c', e, k1, k2, k3⟩ := hI.rd
      have hyl : ((y :: l).getD 0 rwZ).cs.length = 9 := hy
      have htl : ((⟨y.who, y.cs.tail⟩ :: l : List Rw).getD 0 rwZ).cs.length = 8 := by show y.cs.tail.length = 8; rw [List.length_tail, hy]
      obtain ⟨b, off, e2, hb, hc⟩ := k3 (by omega)
      simp at e
      obtain ⟨rfl, _, rfl⟩ := e
      simp at e2
      obtain ⟨rfl, rfl⟩ := e2
      refine ⟨some ⟨b0, 1, none⟩, c0 - 1, by rw [htl], by rw [htl]; omega, by omega, fun _ => ⟨b0, 1, rfl, hb, fun j hj => ?_⟩⟩
      rw [htl] at hj
      have := hc (j + 1) (by omega)
      rw [show 0 + (j + 1) = 1 + j by omega] at this
      rw [this]
      show some (Value.int .i64 (y.cs.getD (j + 1) 0)) = some (.int .i64 (y.cs.tail.getD j 0))
      congr 2
      rw [getD_get0 (by omega), getD_get0 (by rw [List.length_tail]; omega), List.getElem_tail]
  | succ i =>
    refine ⟨d0, u (i + 1), ?_, hI.rd⟩
    rw [Nat.zero_add, cellg, World.cell?_setCell_other _ _ _ _ (by intro e; have e := congrArg Addr.off e; dsimp only at e; omega), h1.cellAt _ (by omega)]
    exact q1

section
variable {W : World} {a : Option Addr} {len cap R : Nat} {Z : Nat → Int}

set_option maxRecDepth 10000 in
set_option maxHeartbeats 2000000 in
theorem rows_any (hU : IsU8 W a len cap Z) (w : World) (h : Draw W a len cap R w) :
    Calls Try.prog 35 #[.pointer (some ⟨R, 0, none⟩)] w fun e w' => ∃ v L, e = .returned v ∧ L.length ≤ 4 ∧ (∀ w'', Mut R w' w'' → RdR w'' v L) ∧ Draw W a len cap R w' ∧ Mut R w w' := by
  have HR : Hid (R < w.heap.size) := h.lt
  obtain ⟨i1, hi1, hy0, hy1, hy2⟩ := info_parts infoR
  have hD0 : Draw W a len cap R (w.alloc (.cells #[] 46)) := h.alloc _
  have HM0 : Hid (Mut R w (w.alloc (.cells #[] 46))) := (Mut.refl R w).alloc _
  have HO0 : Hid (OwnR (w.alloc (.cells #[] 46)) w.heap.size (w.alloc (.cells #[] 46)).heap.size (.slice (some ⟨w.heap.size, 0, none⟩) 0 0) []) :=
    ⟨[], fun _ => .slice none 0 0, World.ownsRow_made w #[] 0 (Nat.le_refl _) (by decide) rfl, fun k hk => by have hk : some w.heap.size = some k := hk; have hk := Option.some.inj hk; rw [World.size_alloc]; omega, fun i hi => absurd hi (Nat.not_lt_zero _), fun i j hi => absurd hi (Nat.not_lt_zero _)⟩
  clear h
  go_enter Try.func35, Try.ntmps35
  go_wp2
  go_loopw [3, 4] (fun v i wr => ∃ (k : Nat) (L : List Rw), k ≤ 4 ∧ i = .int .i64 ((k + 1 : Nat) : Int) ∧ Hid (L.length ≤ k ∧ ∀ x ∈ L, x.cs.length = 9) ∧ Hid (OwnR wr w.heap.size wr.heap.size v L) ∧ Draw W a len cap R wr ∧ Hid (Mut R w wr)) (fun _ i _ => 5 - (intOf i).toNat)
  case atStart => exact ⟨0, [], Nat.zero_le _, rfl, ⟨Nat.le_refl _, fun x hx => by cases hx⟩, HO0, hD0, HM0⟩
  case round =>
    obtain ⟨k, L, hk, rfl, HL, HO, hD, HM⟩ := hrel
    clear hD0 HO0 HM0
    by_cases hlt : k < 4
    · have hltI : ((k + 1 : Nat) : Int) ≤ 4 := by omega
      go_wp2_with fail
      refine (once_any hU 2 (by omega) (by omega) _ hD).mono ?_
      rintro e w2 ⟨b, rfl, hD2, hM2⟩
      have HO2 : Hid (OwnR w2 w.heap.size w2.heap.size u3 L) := (HO.out.mut (Nat.le_refl _) hM2 HR.out).lt hM2.size
      have HM2 : Hid (Mut R w w2) := HM.out.trans hM2
      clear hM2 hD HM HO
      cases b with
      | false =>
        go_wp2
        go_roundw
        case rel => exact ⟨k + 1, L, by omega, by go_num, ⟨by have := HL.out.1; omega, HL.out.2⟩, HO2, hD2, HM2⟩
        case measure => simp [intOf]; omega
      | true =>
        go_wp2_with fail
        refine (counts_any hU _ hD2).mono ?_
        rintro e w3 ⟨cs, hcs, rfl, hO3, hD3, hM3⟩
        obtain ⟨xs, uu, h1, h2, h3, h4⟩ := HO2.out.mut (Nat.le_refl _) hM3 HR.out
        obtain ⟨m, hm⟩ : ∃ m, m = L.length := ⟨_, rfl⟩
        have HS3 : Hid (w.heap.size ≤ w2.heap.size ∧ w2.heap.size ≤ w3.heap.size) := ⟨HM2.out.size, hM3.size⟩
        have HMX : Hid (m + 1 ≤ maxLen ∧ (m + 1) * 32 ≤ 140737488355328 ∧ w.heap.size ≤ w3.heap.size + 1) := ⟨by have := HL.out.1; unfold maxLen; omega, by have := HL.out.1; omega, by have := HS3.out; omega⟩
        have HOx : Hid (∀ o, (w3.alloc o).ownsRow w.heap.size 46 2 u3 m xs) := fun o => by rw [hm]; exact ownsRow_below h1 ((Below.refl _ _).alloc (Nat.le_refl _) _)
        have HF : Hid (∀ o v7 w7, w7.ownsRow w.heap.size 46 2 v7 (m + 1) (xs ++ [.int .i64 ((k + 1 : Nat) : Int), .slice (some ⟨w2.heap.size, 0, none⟩) 9 9]) → (w3.alloc o).grownBy w7 u3.ownBlock → OwnR w7 w.heap.size w7.heap.size v7 (L ++ [⟨((k + 1 : Nat) : Int), cs⟩]) ∧ Draw W a len cap R w7 ∧ Mut R w w7) := fun o v7 w7 hown hgrow => by
          rw [hm] at hown
          have hb : Below w3.heap.size w3 (w3.alloc o) := (Below.refl _ _).alloc (Nat.le_refl _) _
          have hOn := ownR_snoc h1 h3 h4 HM2.out.size hb (hO3.below hb) hown hgrow
          have hlo : ∀ x, u3.ownBlock = some x → w.heap.size ≤ x := fun x hx => (World.ownsRow.lt h1 x hx).1
          refine ⟨hOn, ?_, ?_⟩
          · obtain ⟨p, hp, hbx⟩ := (hD3.alloc o).box
            have hn := hD3.new
            refine ⟨(hD3.alloc o).bel.grown hgrow (hD3.alloc o).bel.size (fun x hx => by have := hlo x hx; have := HR.out; omega), hn, p, hp, ?_⟩
            rw [hgrow.block R (lt_of_block hbx) (fun e => by have := hlo R e.symm; have := HR.out; omega)]
            exact hbx
          · have hm3 : Mut R w (w3.alloc o) := (HM2.out.trans hM3).alloc o
            exact ⟨hgrow.os.trans hm3.os, hgrow.tape.trans hm3.tape, hgrow.output.trans hm3.output, Nat.le_trans hm3.size hgrow.size, fun j hj hr => (hgrow.block j (Nat.lt_of_lt_of_le hj hm3.size) (fun e => by have := hlo j e.symm; omega)).trans (hm3.block j hj hr)⟩
        have HL' : Hid ((L ++ [(⟨((k + 1 : Nat) : Int), cs⟩ : Rw)]).length ≤ k + 1 ∧ ∀ x ∈ L ++ [(⟨((k + 1 : Nat) : Int), cs⟩ : Rw)], x.cs.length = 9) := by
          refine ⟨by rw [List.length_append]; have := HL.out.1; simp; omega, fun x hx => ?_⟩
          rcases List.mem_append.1 hx with hx | hx
          · exact HL.out.2 x hx
          · rw [List.mem_singleton.1 hx]; exact hcs
        clear h1 h2 h3 h4 hm hM3 hO3 hD2 hD3 hcs
        go_wp2_with (at_builtin; refine wpList_append_own _ rfl _ _ 24 rfl w.heap.size 46 i1 (.agg #[.int .i64 0, .slice none 0 0]) 2 32 Try.underlying24 hi1 hy0 hy1 hy2 rfl (by decide) _ m _ rfl (HOx.out _) ⟨w3.heap.size, 0, none⟩ 1 1 [.int .i64 ((k + 1 : Nat) : Int), .slice (some ⟨w2.heap.size, 0, none⟩) 9 9] rfl rfl (World.news_of_block (heap_alloc_new _ _)) (by simp [Value.oneCell']) HMX.out.1 HMX.out.2.1 (by simpa using HMX.out.2.2) ?_; intro v7 w7 hown7 hgrow7 hnil7)
        have HE : Hid _ := HF.out _ v7 w7 hown7 hgrow7
        clear hown7 hgrow7 hnil7
        go_wp2
        go_roundw
        case rel => exact ⟨k + 1, _, by omega, by go_num, HL', HE.out.1, HE.out.2.1, HE.out.2.2⟩
        case measure => simp [intOf]; omega
    · have hke : k = 4 := by omega
      subst hke
      go_wp2_with fail
      refine (once_any hU 30 (by omega) (by omega) _ hD).mono ?_
      rintro e w2 ⟨b, rfl, hD2, hM2⟩
      have HO2 : Hid (OwnR w2 w.heap.size w2.heap.size u3 L) := (HO.out.mut (Nat.le_refl _) hM2 HR.out).lt hM2.size
      have HM2 : Hid (Mut R w w2) := HM.out.trans hM2
      clear hM2 hD HM HO hlt hk
      have HE : Hid (∀ w'', Mut R w2 w'' → RdR w'' u3 L) := fun w'' hM => (HO2.out.mut (Nat.le_refl _) hM HR.out).rd
      cases b with
      | false =>
        go_wp2
        go_ret
        exact ⟨u3, L, rfl, HL.out.1, HE.out, hD2, HM2.out⟩
      | true =>
        rcases HO2.out.slice with ⟨rfl, rfl⟩ | ⟨g, gc, rfl, hc1, hc2, hg1, hg2⟩
        · go_wp2
          go_ret
          exact ⟨_, [], rfl, HL.out.1, HE.out, hD2, HM2.out⟩
        · cases L with
          | nil =>
            go_wp2
            go_ret
            exact ⟨_, [], rfl, HL.out.1, HE.out, hD2, HM2.out⟩
          | cons y l =>
            obtain ⟨xs, uu, h1, h2, h3, h4⟩ := HO2.out
            have hy9 : y.cs.length = 9 := HL.out.2 y (List.mem_cons_self ..)
            obtain ⟨q0, q1, q2, q3⟩ := h3 0 (by simp)
            have hyl : ((y :: l).getD 0 rwZ).cs = y.cs := rfl
            rw [hyl] at q2
            obtain ⟨b0, c0, hu0, hc0, hc9⟩ : ∃ b0 c0, uu 0 = .slice (some ⟨b0, 0, none⟩) 9 c0 ∧ c0 ≤ 9223372036854775807 ∧ 9 ≤ c0 := by
              rcases q2.2 with ⟨_, e⟩ | ⟨b0, c0, cur, hv, hb, hh, r1, r2, _⟩
              · rw [hy9] at e; cases e
              · rw [hy9] at hv r1
                unfold maxLen at r2
                exact ⟨b0, c0, hv, by omega, r1⟩
            rw [List.length_cons] at hc1 h1
            have f1 := h1.frozenAt 1
            have d1 : w2.cell? ⟨g, 1, none⟩ = some (.slice (some ⟨b0, 0, none⟩) 9 c0) := by
              rw [h1.cellAt 1 (by omega), ← hu0]
              exact q1
            have HF : Hid (∀ w'', Mut R (w2.setCell ⟨g, 1, none⟩ (.slice (some ⟨b0, 1, none⟩) 8 (c0 - 1))) w'' → RdR w'' (.slice (some ⟨g, 0, none⟩) (l.length + 1) gc) (⟨y.who, y.cs.tail⟩ :: l)) := fun w'' hM =>
              cut_rd HR.out h1 (fun i hi => ⟨(h3 i (by simpa using hi)).1, (h3 i (by simpa using hi)).2.1, (h3 i (by simpa using hi)).2.2.1⟩) hu0 hy9 hc0 hc9 ⟨hc1, hc2⟩ hM
            have HF2 : Hid (Draw W a len cap R (w2.setCell ⟨g, 1, none⟩ (.slice (some ⟨b0, 1, none⟩) 8 (c0 - 1))) ∧ Mut R w (w2.setCell ⟨g, 1, none⟩ (.slice (some ⟨b0, 1, none⟩) 8 (c0 - 1)))) := ⟨hD2.set (by have := HR.out; omega), HM2.out.set hg1⟩
            have hLL : (y :: l).length = l.length + 1 := rfl
            rw [hLL] at HO2 HE ⊢
            obtain ⟨n, hn⟩ : ∃ n, n = l.length + 1 := ⟨_, rfl⟩
            have HN : Hid (n = l.length + 1 ∧ n ≤ 4) := ⟨hn, by have := HL.out.1; simp at this; omega⟩
            have hn0 : (0 : Int) < (n : Int) := by omega
            have hn1 : 0 < n := by omega
            rw [← hn] at HF hc1 HO2 HE ⊢
            clear h1 h2 h3 h4 q0 q1 q2 q3 hyl hu0 hLL hn hD2
            go_wp2
            go_ret
            exact ⟨_, ⟨y.who, y.cs.tail⟩ :: l, rfl, by have := HN.out; rw [List.length_cons]; omega, HF.out, HF2.out.1, HF2.out.2⟩

set_option maxHeartbeats 1000000 in
theorem drawMerged_any (hU : IsU8 W a len cap Z) :
    Calls Try.prog 14 #[.slice a len cap] W fun e w' => ∃ v A v' B, e = .returned (.tuple #[v, v']) ∧ A.length ≤ 4 ∧ B.length ≤ 4 ∧ RdR w' v A ∧ RdR w' v' B ∧ Below W.heap.size W w' := by
  go_enter Try.func14, Try.ntmps14
  go_wp2_with fail
  refine (open_any _ _ _ _).mono ?_
  rintro e w1 ⟨rfl, hD1⟩
  go_wp2_with fail
  refine (rows_any hU w1 hD1).mono ?_
  rintro e w2 ⟨v, A, rfl, hA, hR2, hD2, hM2⟩
  go_wp2_with fail
  refine (rows_any hU w2 hD2).mono ?_
  rintro e w3 ⟨v', B, rfl, hB, hR3, hD3, hM3⟩
  have HF : Hid (RdR w3 v A ∧ RdR w3 v' B ∧ Below W.heap.size W w3) := ⟨hR2 _ hM3, hR3 _ (Mut.refl _ _), hD3.bel⟩
  clear hR2 hR3 hM2 hM3 hD1 hD2 hD3
  go_wp2
  go_ret2
  exact ⟨v, A, v', B, rfl, hA, hB, HF.out.1, HF.out.2.1, HF.out.2.2⟩

set_option maxRecDepth 10000 in
set_option maxHeartbeats 2000000 in
theorem drawStable_any (hU : IsU8 W a len cap Z) :
    Calls Try.prog 18 #[.slice a len cap] W fun e w' => ∃ v A u who, e = .returned (.tuple #[v, u]) ∧ A.length ≤ 4 ∧ who.length ≤ 4 ∧ (∀ z ∈ who, (Lit.int .i64 z).wf = true) ∧ RdR w' v A ∧ RdI w' u who ∧ Below W.heap.size W w' := by
  obtain ⟨i0, hi, hz0, hz1, hz2⟩ := info_parts infoI
  go_enter Try.func18, Try.ntmps18
  go_wp2_with fail
  refine (open_any _ _ _ _).mono ?_
  rintro e w1 ⟨rfl, hD1⟩
  go_wp2_with fail
  refine (rows_any hU w1 hD1).mono ?_
  rintro e w2 ⟨v, A, rfl, hA, hR2, hD2, hM2⟩
  have HRW : Hid (W.heap.size < w2.heap.size) := hD2.lt
  have HR2 : Hid (∀ w'', Mut W.heap.size w2 w'' → RdR w'' v A) := hR2
  have HO0 : Hid (OwnI (w2.alloc (.cells #[] 2)) w2.heap.size (.slice (some ⟨w2.heap.size, 0, none⟩) 0 0) []) := World.ownsRow_made w2 #[] 0 (Nat.le_refl _) (by decide) rfl
  have hD2a : Draw W a len cap W.heap.size (w2.alloc (.cells #[] 2)) := hD2.alloc _
  have HMa : Hid (Mut W.heap.size w2 (w2.alloc (.cells #[] 2))) := (Mut.refl _ w2).alloc _
  clear hR2 hM2 hD1 hD2
  go_wp2_with fail
  refine (below_any hU 4 (by omega) (by omega) _ hD2a).mono ?_
  rintro e w3 ⟨x, hx0, hx1, rfl, hD3, hM3⟩
  have HO3 : Hid (OwnI w3 w2.heap.size (.slice (some ⟨w2.heap.size, 0, none⟩) 0 0) []) := HO0.out.mut hM3 HRW.out
  have HM3 : Hid (Mut W.heap.size w2 w3) := HMa.out.trans hM3
  clear HO0 hD2a HMa hM3
  go_wp2
  go_loopw [6, 7] (fun u i wr => ∃ (k : Nat) (L : List Int), k + L.length ≤ 4 ∧ i = .int .i64 (k : Int) ∧ Hid (∀ z ∈ L, (Lit.int .i64 z).wf = true) ∧ Hid (OwnI wr w2.heap.size u L) ∧ Draw W a len cap W.heap.size wr ∧ Hid (Mut W.heap.size w2 wr)) (fun _ i _ => (intOf i).toNat)
  case atStart => exact ⟨x.toNat, [], by simp; omega, by rw [Int.toNat_of_nonneg hx0], (fun z hz => absurd hz List.not_mem_nil : ∀ z ∈ ([] : List Int), (Lit.int .i64 z).wf = true), HO3, hD3, HM3⟩
  case round =>
    obtain ⟨k, L, hk, rfl, HL, HO, hD, HM⟩ := hrel
    clear HO3 hD3 HM3 hx0 hx1
    by_cases h0 : k = 0
    · subst h0
      have HF : Hid (RdR wr v A ∧ RdI wr u6 L ∧ Below W.heap.size W wr) := ⟨HR2.out _ HM.out, HO.out.rd, hD.bel⟩
      clear HO hD HM
      go_wp2
      go_ret2
      exact ⟨v, A, u6, L, rfl, hA, by omega, HL.out, HF.out.1, HF.out.2.1, HF.out.2.2⟩
    · have hkI : (0 : Int) < (k : Int) := by omega
      go_wp2_with fail
      refine (off14_any hU _ hD).mono ?_
      rintro e w4 ⟨z, hz0', hz1', rfl, hD4, hM4⟩
      have HO4 : Hid (OwnI w4 w2.heap.size u6 L) := HO.out.mut hM4 HRW.out
      have HM4 : Hid (Mut W.heap.size w2 w4) := HM.out.trans hM4
      obtain ⟨m, hm⟩ : ∃ m, m = L.length := ⟨_, rfl⟩
      have HOx : Hid (∀ o, (w4.alloc o).ownsRow w2.heap.size 2 1 u6 m (L.map (.int .i64 ·))) := fun o => by rw [hm]; exact ownsRow_below HO4.out ((Below.refl _ _).alloc (Nat.le_refl _) _)
      have HMX : Hid (m + 1 ≤ maxLen ∧ (m + 1) * 8 ≤ 140737488355328 ∧ w2.heap.size ≤ w4.heap.size + 1) := ⟨by unfold maxLen; omega, by omega, by have := HM4.out.size; omega⟩
      have HF : Hid (∀ o v7 w7, w7.ownsRow w2.heap.size 2 1 v7 (m + 1) (L.map (.int .i64 ·) ++ [.int .i64 z]) → (w4.alloc o).grownBy w7 u6.ownBlock → OwnI w7 w2.heap.size v7 (L ++ [z]) ∧ Draw W a len cap W.heap.size w7 ∧ Mut W.heap.size w2 w7) := fun o v7 w7 hown hgrow => by
        have hlo : ∀ x, u6.ownBlock = some x → w2.heap.size ≤ x := fun x hx => (World.ownsRow.lt HO4.out x hx).1
        refine ⟨?_, ?_, ?_⟩
        · unfold OwnI
          rw [List.length_append, List.map_append, ← hm]
          exact hown
        · obtain ⟨p, hp, hbx⟩ := (hD4.alloc o).box
          refine ⟨(hD4.alloc o).bel.grown hgrow (hD4.alloc o).bel.size (fun x hx => by have := hlo x hx; have := HRW.out; omega), hD4.new, p, hp, ?_⟩
          rw [hgrow.block _ (lt_of_block hbx) (fun e => by have := hlo _ e.symm; have := HRW.out; omega)]
          exact hbx
        · have hm3 : Mut W.heap.size w2 (w4.alloc o) := HM4.out.alloc o
          exact ⟨hgrow.os.trans hm3.os, hgrow.tape.trans hm3.tape, hgrow.output.trans hm3.output, Nat.le_trans hm3.size hgrow.size, fun j hj hr => (hgrow.block j (Nat.lt_of_lt_of_le hj hm3.size) (fun e => by have := hlo j e.symm; omega)).trans (hm3.block j hj hr)⟩
      have HL' : Hid (∀ y ∈ L ++ [z], (Lit.int .i64 y).wf = true) := fun y hy => by
        rcases List.mem_append.1 hy with hy | hy
        · exact HL.out y hy
        · rw [List.mem_singleton.1 hy]
          have e1 : IntKind.i64.min = -9223372036854775808 := by decide
          have e2 : IntKind.i64.max = 9223372036854775807 := by decide
          simp [Lit.wf, e1, e2]
          omega
      clear hM4 HO HM hD hm
      go_wp2_with (at_builtin; refine wpList_append_own _ rfl _ _ 36 rfl w2.heap.size 2 i0 (.int .i64 0) 1 8 Try.underlying36 hi hz0 hz1 hz2 rfl (by decide) _ m _ rfl (HOx.out _) ⟨w4.heap.size, 0, none⟩ 1 1 [.int .i64 z] rfl rfl (World.news_of_block (heap_alloc_new _ _)) (by simp [Value.oneCell']) HMX.out.1 HMX.out.2.1 (by simpa using HMX.out.2.2) ?_; intro v7 w7 hown7 hgrow7 hnil7)
      have HE : Hid _ := HF.out _ v7 w7 hown7 hgrow7
      clear hown7 hgrow7 hnil7
      go_wp2
      go_roundw
      case rel => exact ⟨k - 1, L ++ [z], by rw [List.length_append]; simp; omega, by rw [Int.natCast_sub (by omega)]; rfl, HL', HE.out.1, HE.out.2.1, HE.out.2.2⟩
      case measure => simp [intOf]; omega
end

set_option maxRecDepth 10000 in
set_option maxHeartbeats 2000000 in
theorem sameRows_same (v v' : Value) (L : List Rw) (w : World) (h : RdR w v L) (h' : RdR w v' L) :
    Calls Try.prog 15 #[v, v'] w fun e w' => e = .returned (.bool true) ∧ Below w.heap.size w w' := by
  obtain ⟨a, cap, rfl, hlc, hcm, hc⟩ := h
  obtain ⟨a', cap', rfl, hlc', hcm', hc'⟩ := h'
  obtain ⟨len, hl⟩ : ∃ len, len = L.length := ⟨_, rfl⟩
  rw [← hl] at hlc hlc' hc hc' ⊢
  clear hl
  have hbn : ((len : Int) != (len : Int)) = false := by simp
  go_enter Try.func15, Try.ntmps15
  go_wp2
  go_loopw [5] (fun i wr => ∃ (k : Nat), k ≤ len ∧ i = .int .i64 k ∧ Below w.heap.size w wr) (fun i _ => len - (intOf i).toNat)
  case atStart => exact ⟨0, Nat.zero_le _, rfl, Below.refl _ _⟩
  case round =>
    obtain ⟨k, hk, rfl, hB⟩ := hrel
    by_cases hlt : k < len
    · obtain ⟨b, off, rfl, hbs, hcell⟩ := hc (by omega)
      obtain ⟨b', off', rfl, hbs', hcell'⟩ := hc' (by omega)
      obtain ⟨c0, u, c1, c2⟩ := hcell k hlt
      obtain ⟨c0', u', c1', c2'⟩ := hcell' k hlt
      have d0 := (hB.cell (p := ⟨b, off + k * 2, none⟩) hbs).trans c0
      have d1 := (hB.cell (p := ⟨b, off + k * 2 + 1, none⟩) hbs).trans c1
      have d2 := c2.below hB
      have d0' := (hB.cell (p := ⟨b', off' + k * 2, none⟩) hbs').trans c0'
      have d1' := (hB.cell (p := ⟨b', off' + k * 2 + 1, none⟩) hbs').trans c1'
      have d2' := c2'.below hB
      obtain ⟨y, hy⟩ : ∃ y, y = L.getD k rwZ := ⟨_, rfl⟩
      rw [← hy] at d0 d2 d0' d2'
      have hltI : (k : Int) < (len : Int) := by omega
      have hyy : (y.who != y.who) = false := by simp
      have q0 : ∀ s : Later wr, s.val.cell? ⟨b, off + k * 2, none⟩ = some (.int .i64 y.who) := fun s => s.cell d0
      have q1 : ∀ s : Later wr, s.val.cell? ⟨b, off + k * 2 + 1, none⟩ = some u := fun s => s.cell d1
      have r0 : ∀ s : Later wr, s.val.cell? ⟨b', off' + k * 2, none⟩ = some (.int .i64 y.who) := fun s => s.cell d0'
      have r1 : ∀ s : Later wr, s.val.cell? ⟨b', off' + k * 2 + 1, none⟩ = some u' := fun s => s.cell d1'
      have HX : Hid (∀ t : Later wr, Calls Try.prog 20 #[u, u'] t.val fun e w' => e = .returned (.bool true) ∧ Below t.val.heap.size t.val w') := fun t => sameI_same u u' y.cs t.val (d2.below t.ok) (d2'.below t.ok)
      have hne := Later.any wr
      clear hcell hcell' hc hc' c0 c1 c2 c0' c1' c2' d0 d1 d2 d0' d1' d2' hy
      go_wp2
      refine wp_region_later (by kernel_rfl) (by kernel_rfl) ?_
      repeat (go_big_quiet_step ((rename_i t; exact Calls.later (HX.out t))))
      refine wpQuiet_nil ?_
      rintro _ ⟨⟨w', hB2⟩, rfl⟩
      go_wp2
      go_roundw
      case rel => exact ⟨k + 1, by omega, by go_num, hB.trans (hB2.mono hB.size)⟩
      case measure => simp [intOf]; omega
    · have hke : k = len := by omega
      subst hke
      go_wp2
      go_ret
      exact ⟨rfl, hB⟩
end Go.Proofs.Ytjnngncnfbdpkaa
