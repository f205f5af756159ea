/-
  The specification's merging of two chains. No condition but that the slices read.
-/
import Derived.Test.YtimgcnhihhoniaaCPut
namespace Go.Proofs.Ytimgcnhihhoniaa
open Go.RowKit
set_option linter.unusedVariables false

/-- a list of events is a right chain -/
def chainL (L : List Ev) : Bool := chainB (fun i => L.getD i evZ) L.length
theorem chainL_len {L : List Ev} (h : chainL L = true) : L.length ≤ 30 := by
  unfold chainL chainB at h
  simp at h
  exact h.1
theorem putE_len (s : Ev) : ∀ L : List Ev, (putE L s).length ≤ L.length + 1
  | [] => by simp [putE]
  | x :: l => by
    unfold putE
    split
    · have := putE_len s l; simp; omega
    · split <;> simp
/-- the events of both, each once -/
def mergeE (A B : List Ev) : List Ev := B.foldl putE A
theorem mergeE_len (A : List Ev) : ∀ B : List Ev, (mergeE A B).length ≤ A.length + B.length := by
  intro B
  induction B generalizing A with
  | nil => simp [mergeE]
  | cons x l ih =>
    have h := ih (putE A x)
    have h2 := putE_len x A
    show (mergeE (putE A x) l).length ≤ _
    simp
    omega
theorem mergeE_step (A B : List Ev) (k : Nat) (h : k < B.length) : putE (mergeE A (B.take k)) (B.getD k evZ) = mergeE A (B.take (k + 1)) := by
  unfold mergeE
  rw [List.take_add_one, List.foldl_append]
  have : B[k]?.toList = [B.getD k evZ] := by simp [h]
  rw [this]
  rfl
/-- two chains can be merged -/
def mergedB (A B : List Ev) : Bool := chainL A && (chainL B && chainL (mergeE A B))
/-- what a merging gives: the events of M in memory of its own, or nothing -/
def Gave (w : World) (base : Nat) (ok : Bool) (M : List Ev) (v : Value) : Prop :=
  (ok = false ∧ v = .slice none 0 0) ∨ (ok = true ∧ ∃ g gc, v = .slice (some ⟨g, 0, none⟩) M.length gc ∧ OwnE w base g gc M)

theorem specChainL (b off cap : Nat) (L : List Ev) (w : World) (h : Lies w b off L) (hb : b < w.heap.size) (hl : L.length ≤ cap) (hc : cap ≤ 9223372036854775807) (x : Bool) (hx : chainL L = x) :
    Calls Try.prog 16 #[.slice (some ⟨b, off, none⟩) L.length cap] w fun e w' => e = .returned (.bool x) ∧ Below w.heap.size w w' := by
  rw [← hx]; exact specChain_any _ _ _ _ w (h.evs hb hl hc)
theorem implChainL (b off cap : Nat) (L : List Ev) (w : World) (h : Lies w b off L) (hb : b < w.heap.size) (hl : L.length ≤ cap) (hc : cap ≤ 9223372036854775807) (x : Bool) (hx : chainL L = x) :
    Calls Try.prog 9 #[.slice (some ⟨b, off, none⟩) L.length cap] w fun e w' => e = .returned (.bool x) ∧ Below w.heap.size w w' := by
  rw [← hx]; exact implChain_any _ _ _ _ w (h.evs hb hl hc)

set_option maxRecDepth 10000 in
set_option maxHeartbeats 4000000 in
theorem specMerged_any (b1 o1 c1 b2 o2 c2 : Nat) (A B : List Ev) (w : World) (h1 : Lies w b1 o1 A) (hb1 : b1 < w.heap.size) (hl1 : A.length ≤ c1) (hc1 : c1 ≤ 9223372036854775807) (h2 : Lies w b2 o2 B) (hb2 : b2 < w.heap.size) (hl2 : B.length ≤ c2) (hc2 : c2 ≤ 9223372036854775807) :
    Calls Try.prog 7 #[.slice (some ⟨b1, o1, none⟩) A.length c1, .slice (some ⟨b2, o2, none⟩) B.length c2] w fun e w' => ∃ v, e = .returned (.tuple #[v, .bool (mergedB A B)]) ∧ Gave w' w.heap.size (mergedB A B) (mergeE A B) v ∧ Below w.heap.size w w' := by
  obtain ⟨i0, hi, hz0, hz1, hz2⟩ := info_parts infoE
  have HL1 : Hid (Lies w b1 o1 A) := h1
  have HL2 : Hid (Lies w b2 o2 B) := h2
  have HC1 : Hid (∀ w', Below w.heap.size w w' → ∀ x, chainL A = x → Calls Try.prog 16 #[.slice (some ⟨b1, o1, none⟩) A.length c1] w' fun e w'' => e = .returned (.bool x) ∧ Below w'.heap.size w' w'') := fun w' hB x hx => specChainL _ _ _ A w' (h1.grow hb1 hB) (by have := hB.size; omega) hl1 hc1 x hx
  have HC2 : Hid (∀ w', Below w.heap.size w w' → ∀ x, chainL B = x → Calls Try.prog 16 #[.slice (some ⟨b2, o2, none⟩) B.length c2] w' fun e w'' => e = .returned (.bool x) ∧ Below w'.heap.size w' w'') := fun w' hB x hx => specChainL _ _ _ B w' (h2.grow hb2 hB) (by have := hB.size; omega) hl2 hc2 x hx
  clear h1 h2
  obtain ⟨n, hn⟩ : ∃ n, n = A.length := ⟨_, rfl⟩
  obtain ⟨m, hm⟩ : ∃ m, m = B.length := ⟨_, rfl⟩
  have HN : Hid (n = A.length) := hn
  have HM : Hid (m = B.length) := hm
  rw [← hn] at hl1 HC1 ⊢
  rw [← hm] at hl2 HC2 ⊢
  clear hn hm
  cases hA : chainL A with
  | false =>
    have hr : Hid (mergedB A B = false) := by show _ = _; unfold mergedB; rw [hA]; rfl
    go_enter Try.func7, Try.ntmps7
    go_wp2_with fail
    refine (HC1.out _ (Below.refl _ _) false hA).mono ?_
    rintro e w1 ⟨rfl, hB1⟩
    go_wp2
    go_ret2
    rw [hr.out]
    exact ⟨_, rfl, .inl ⟨rfl, rfl⟩, hB1⟩
  | true =>
    have hn30 : n ≤ 30 := by rw [HN.out]; exact chainL_len hA
    cases hB : chainL B with
    | false =>
      have hr : Hid (mergedB A B = false) := by show _ = _; unfold mergedB; rw [hA, hB]; rfl
      go_enter Try.func7, Try.ntmps7
      go_wp2_with fail
      refine (HC1.out _ (Below.refl _ _) true hA).mono ?_
      rintro e w1 ⟨rfl, hB1⟩
      go_wp2_with fail
      refine (HC2.out _ hB1 false hB).mono ?_
      rintro e w2 ⟨rfl, hB2⟩
      go_wp2
      go_ret2
      rw [hr.out]
      exact ⟨_, rfl, .inl ⟨rfl, rfl⟩, hB1.trans (hB2.mono hB1.size)⟩
    | true =>
      have hm30 : m ≤ 30 := by rw [HM.out]; exact chainL_len hB
      have hr : Hid (mergedB A B = chainL (mergeE A B)) := by show _ = _; unfold mergedB; rw [hA, hB]; rfl
      go_enter Try.func7, Try.ntmps7
      go_wp2_with fail
      refine (HC1.out _ (Below.refl _ _) true hA).mono ?_
      rintro e w1 ⟨rfl, hB1⟩
      go_wp2_with fail
      refine (HC2.out _ hB1 true hB).mono ?_
      rintro e w2 ⟨rfl, hB2'⟩
      have hB2 : Below w.heap.size w w2 := hB1.trans (hB2'.mono hB1.size)
      clear hB1 hB2'
      have HB2 : Hid (Below w.heap.size w w2) := hB2
      have HW : Hid (Lies (w2.alloc (.cells #[] 36)) b1 o1 A) := HL1.out.grow hb1 (hB2.alloc hB2.size _)
      have k1 : 0 + n ≤ maxLen := by unfold maxLen; omega
      have k2 : (0 + n) * 32 ≤ 140737488355328 := by omega
      clear hB2
      go_wp2_with (at_builtin; refine wpList_append_own _ rfl _ _ 24 rfl w.heap.size 36 i0 (.agg #[.int .i64 0, .int .i64 0, .int .i64 0, .int .i64 0]) 4 32 Try.underlying24 hi hz0 hz1 hz2 rfl (by decide) _ 0 [] rfl (World.ownsRow_made w2 #[] 0 HB2.out.size (by decide) rfl) ⟨b1, o1, none⟩ n c1 (cellsL A) rfl (by rw [cellsL_len, ← HN.out]) HW.out.news (oneL _) k1 k2 (by have := HB2.out.size; simp; omega) ?_; intro v' w3 hown hgrow hnil)
      obtain ⟨g, gc, rfl, hf⟩ := own_form hown (L := A) (by rw [← HN.out, Nat.zero_add]) (List.nil_append _) (fun e => by have := (hnil.1 e).1; cases this)
      have hB3 : Below w.heap.size w w3 := (HB2.out.alloc HB2.out.size _).grown hgrow (by have := HB2.out.size; simp; omega) (fun x hx => by have hx' : some w2.heap.size = some x := hx; cases hx'; exact HB2.out.size)
      have HF0 : Hid (OwnE w3 w.heap.size g gc A) := hf
      clear hown hgrow hnil hf
      go_wp2
      go_loopw [6, 7] (fun v i wr => ∃ (k g gc : Nat), k ≤ m ∧ i = .int .i64 k ∧ v = .slice (some ⟨g, 0, none⟩) (mergeE A (B.take k)).length gc ∧ Hid (OwnE wr w.heap.size g gc (mergeE A (B.take k))) ∧ Below w.heap.size w wr) (fun _ i _ => m - (intOf i).toNat)
      case atStart => exact ⟨0, g, gc, Nat.zero_le _, rfl, rfl, HF0.out, hB3⟩
      case round =>
        obtain ⟨k, g', gc', hk, rfl, rfl, HO, hBr⟩ := hrel
        by_cases hlt : k < m
        · have hltI : (k : Int) < (m : Int) := by omega
          obtain ⟨y, hy⟩ : ∃ y, y = B.getD k evZ := ⟨_, rfl⟩
          obtain ⟨d0, d1, d2, d3⟩ : EvAt wr b2 (o2 + k * 4) y := by rw [hy]; exact (HL2.out k (by rw [← HM.out]; exact hlt)).grow hb2 hBr
          have hml : (mergeE A (B.take k)).length ≤ 2000000 := by
            have := mergeE_len A (B.take k)
            rw [List.length_take, ← HN.out] at this
            omega
          have hst : putE (mergeE A (B.take k)) y = mergeE A (B.take (k + 1)) := by rw [hy]; exact mergeE_step A B k (by rw [← HM.out]; exact hlt)
          have HST : Hid (_) := hst
          have HBr : Hid (Below w.heap.size w wr) := hBr
          clear hy hst hBr hB3 HF0
          go_wp2_with fail
          refine (put_any g' 0 gc' (mergeE A (B.take k)) y wr HO.out.lies.1 HO.out.lies.2.1 HO.out.caps.1 HO.out.caps.2 hml).mono ?_
          rintro e w4 ⟨g4, gc4, rfl, hO4, hB4⟩
          rw [HST.out] at hO4 ⊢
          have HO4 : Hid (OwnE w4 w.heap.size g4 gc4 (mergeE A (B.take (k + 1)))) := hO4.base HBr.out.size
          have HB4 : Hid (Below w.heap.size w w4) := HBr.out.trans (hB4.mono HBr.out.size)
          clear hO4 hB4
          go_wp2
          go_roundw
          case rel => exact ⟨k + 1, g4, gc4, by omega, by go_num, rfl, HO4, HB4.out⟩
          case measure => simp [intOf]; omega
        · have hke : k = m := by omega
          subst hke
          have ht : B.take k = B := List.take_of_length_le (by rw [← HM.out]; exact Nat.le_refl _)
          rw [ht] at HO ⊢
          have HBr : Hid (Below w.heap.size w wr) := hBr
          cases hM : chainL (mergeE A B) with
          | false =>
            have hkd : decide ((k : Int) < (k : Int)) = false := by simp
            clear hBr hB3 HF0
            go_wp2_with fail
            refine (specChainL g' 0 gc' (mergeE A B) wr HO.out.lies.1 HO.out.lies.2.1 HO.out.caps.1 HO.out.caps.2 false hM).mono ?_
            rintro e w5 ⟨rfl, hB5⟩
            go_wp2
            go_ret2
            rw [hr.out, hM]
            exact ⟨_, rfl, .inl ⟨rfl, rfl⟩, HBr.out.trans (hB5.mono HBr.out.size)⟩
          | true =>
            have hkd : decide ((k : Int) < (k : Int)) = false := by simp
            clear hBr hB3 HF0
            go_wp2_with fail
            refine (specChainL g' 0 gc' (mergeE A B) wr HO.out.lies.1 HO.out.lies.2.1 HO.out.caps.1 HO.out.caps.2 true hM).mono ?_
            rintro e w5 ⟨rfl, hB5⟩
            go_wp2
            go_ret2
            rw [hr.out, hM]
            exact ⟨_, rfl, .inr ⟨rfl, g', gc', rfl, HO.out.below hB5⟩, HBr.out.trans (hB5.mono HBr.out.size)⟩
end Go.Proofs.Ytimgcnhihhoniaa
