/-
  What can be made, plainly: it gives nothing more to who learns it; and what is known behind a learning. No condition.
  The reader of codes, its small methods, beside the texts of terms: whatever the code, they return a number in its range, and leave all memory but the reader's own as it was. Condition: the code reads as bytes.
  r.term: a drawn term's text, with numbers up to 3, no deeper than it was asked. Condition: the code reads as bytes.
  r.known: drawn knowledge: at most eight texts of drawn terms, in a slice of its own. Condition: the code reads as bytes.
  The draws of knowledge alone. Condition: the code reads as bytes.
  A code that came in reads as bytes. No condition.
-/
import Derived.Test.YtpcbhjejpebogaaGreatDoorTgC
import Derived.Test.YtpcbhjejpebogaaGreatDoorTgL
import Derived.Test.YtpcbhjejpebogaaGreatDoorOqOpen
import Derived.ProofKit
import Derived.OpenShut
import Derived.Deep.DeepHandedRow
namespace Go.Proofs.YtpcbhjejpebogaaGreatDoor
open Go.RowKit Go.Maps
set_option linter.unusedVariables false

theorem MkT.base {P : Tr → Prop} : ∀ {t : Tr}, P t → MkT P t
  | ⟨.inl (k, n)⟩, h => by rw [MkT]; exact .inl h
  | ⟨.inr (.inl u)⟩, h => by rw [MkT]; exact .inl h
  | ⟨.inr (.inr (.inl (a, b)))⟩, h => by rw [MkT]; exact .inl h
  | ⟨.inr (.inr (.inr (k, n, a)))⟩, h => by rw [MkT]; exact .inl h
theorem MkT.key {P : Tr → Prop} {n : Nat} : MkT P (keyT n) ↔ P (keyT n) := by
  unfold keyT
  rw [MkT]
  exact ⟨fun h => h.elim id (fun h => absurd rfl h), .inl⟩
theorem MkT.congr {P Q : Tr → Prop} (h : ∀ u, Fit u → (P u ↔ Q u)) : ∀ t : Tr, Fit t → (MkT P t ↔ MkT Q t)
  | ⟨.inl (k, n)⟩, hf => by rw [MkT, MkT, h _ hf]
  | ⟨.inr (.inl u)⟩, hf => by rw [MkT, MkT, h _ hf, MkT.congr h u (hf.kid (by simp [Tr.kids]))]
  | ⟨.inr (.inr (.inl (a, b)))⟩, hf => by rw [MkT, MkT, h _ hf, MkT.congr h a (hf.kid (by simp [Tr.kids])), MkT.congr h b (hf.kid (by simp [Tr.kids]))]
  | ⟨.inr (.inr (.inr (k, n, a)))⟩, hf => by rw [MkT, MkT, h _ hf, MkT.congr h a (hf.kid (by simp [Tr.kids])), h _ (fitKey hf.1.2.1)]
theorem MkT.trans {P Q : Tr → Prop} (h : ∀ u, P u → MkT Q u) : ∀ t : Tr, MkT P t → MkT Q t
  | ⟨.inl (k, n)⟩, ht => by
    rw [MkT] at ht
    rcases ht with h1 | h1
    · exact h _ h1
    · rw [MkT]; exact .inr h1
  | ⟨.inr (.inl u)⟩, ht => by
    rw [MkT] at ht
    rcases ht with h1 | h1
    · exact h _ h1
    · rw [MkT]; exact .inr (MkT.trans h u h1)
  | ⟨.inr (.inr (.inl (a, b)))⟩, ht => by
    rw [MkT] at ht
    rcases ht with h1 | h1
    · exact h _ h1
    · rw [MkT]; exact .inr ⟨MkT.trans h a h1.1, MkT.trans h b h1.2⟩
  | ⟨.inr (.inr (.inr (k, n, a)))⟩, ht => by
    rw [MkT] at ht
    rcases ht with h1 | h1
    · exact h _ h1
    · rw [MkT]; exact .inr ⟨MkT.key.1 (h _ h1.1), MkT.trans h a h1.2⟩
/-- what can be made of what is opened is closed -/
theorem MkT.shut {O : Tr → Prop} (hO : Shut O) : Shut (MkT O) := by
  refine ⟨fun t u h => ?_, fun n t h => ?_, fun n t h hk => ?_⟩
  · unfold pairT at h
    rw [MkT] at h
    rcases h with h1 | h1
    · exact ⟨.base (hO.pair t u h1).1, .base (hO.pair t u h1).2⟩
    · exact h1
  · unfold signT at h
    rw [MkT] at h
    rcases h with h1 | h1
    · exact .base (hO.sign n t h1)
    · exact h1.2
  · unfold sealT at h
    rw [MkT] at h
    rcases h with h1 | h1
    · exact .base (hO.sealK n t h1 (MkT.key.1 hk))
    · exact h1.2
theorem opT_fit {S : Nat → ByteArray} {len : Nat} {u : Tr} (hf : Fit u) : OpT S len u.txt.toList ↔ Op (Kn S len) u :=
  ⟨fun ⟨t, h1, h2⟩ => by rw [← txt_inj (op_fit h1) hf h2]; exact h1, fun h => ⟨u, h, rfl⟩⟩
theorem CanT.mk {S : Nat → ByteArray} {len : Nat} {t : Tr} (hf : Fit t) (hq : knownB S len = true) : CanT S len t.txt ↔ MkT (Op (Kn S len)) t := by
  rw [CanT.at hf hq]
  exact MkT.congr (fun u hu => opT_fit hu) t hf
/-- CUT: what can be made gives nothing more -/
theorem cut_plain {S S' : Nat → ByteArray} {len len' : Nat} {t : ByteArray} (h : CanT S len t) (hq' : knownB S' len' = true) (hk : ∀ u, Kn S' len' u ↔ Kn S len u ∨ (Fit u ∧ u.txt = t)) (x : ByteArray) : CanT S' len' x ↔ CanT S len x := by
  obtain ⟨hq, v, hv, rfl, _⟩ := h
  have hm : MkT (Op (Kn S len)) v := (CanT.mk hv hq).1 ⟨hq, v, hv, rfl, by assumption⟩
  have hop : ∀ u, Op (Kn S' len') u → MkT (Op (Kn S len)) u := fun u hu => hu _ (fun y hy => by
    rcases (hk y).1 hy with h1 | ⟨h1, h2⟩
    · exact .base (.base h1)
    · rw [txt_inj h1 hv (by rw [h2])]; exact hm) (MkT.shut (Op.shut _))
  constructor
  · rintro ⟨_, y, h1, rfl, h2⟩
    have h3 := (MkT.congr (fun u hu => opT_fit hu) y h1).1 h2
    exact (CanT.mk h1 hq).2 (MkT.trans hop y h3)
  · rintro ⟨_, y, h1, rfl, h2⟩
    have h3 := (MkT.congr (fun u hu => opT_fit hu) y h1).1 h2
    exact (CanT.mk h1 hq').2 (MkT.trans (fun u hu => .base (hu.mono (fun z hz => (hk z).2 (.inl hz)))) y h3)

theorem LLa (L : List (List UInt8)) : LL (atL L) L.length = L := by
  apply List.ext_getElem
  · rw [LL_len]
  · intro i h1 h2
    rw [LL_len] at h1
    have e := LL_at (atL L) h1
    rw [atL_list] at e
    simp only [List.getD, List.getElem?_eq_getElem h2, Option.getD_some] at e
    rw [List.getElem?_eq_getElem (by rw [LL_len]; exact h1), Option.getD_some] at e
    exact e
theorem bytes_eqP {a b : ByteArray} (h : a.toList = b.toList) : a = b := by
  rw [ByteArray.toList_eq, ByteArray.toList_eq] at h
  exact ByteArray.ext (Array.ext' h)
/-- known: a right term whose text is among them -/
theorem kn_list (L : List (List UInt8)) (u : Tr) : Kn (atL L) L.length u ↔ Fit u ∧ u.txt.toList ∈ L := by
  constructor
  · rintro ⟨hf, i, hi, e⟩
    refine ⟨hf, ?_⟩
    rw [e, atL_list]
    simp only [List.getD, List.getElem?_eq_getElem hi, Option.getD_some]
    exact List.getElem_mem hi
  · rintro ⟨hf, hm⟩
    obtain ⟨i, hi, e⟩ := List.mem_iff_getElem.1 hm
    refine ⟨hf, i, hi, bytes_eqP ?_⟩
    rw [atL_list]
    simp only [List.getD, List.getElem?_eq_getElem hi, Option.getD_some]
    exact e.symm
theorem kn_put (L : List (List UInt8)) (t : ByteArray) (u : Tr) : Kn (atL (putL L t.toList)) (putL L t.toList).length u ↔ Kn (atL L) L.length u ∨ (Fit u ∧ u.txt = t) := by
  rw [kn_list, kn_list, putL_mem]
  constructor
  · rintro ⟨hf, h | h⟩
    · exact .inl ⟨hf, h⟩
    · exact .inr ⟨hf, bytes_eqP h⟩
  · rintro (⟨hf, h⟩ | ⟨hf, h⟩)
    · exact ⟨hf, .inl h⟩
    · exact ⟨hf, .inr (by rw [h])⟩
/-- a learning that is fine: what is known behind it -/
theorem lr_true {L : List (List UInt8)} {t : ByteArray} (h : lrB (atL L) L.length t = true) : lrR (atL L) L.length t = putL L t.toList ∧ knownB (atL (putL L t.toList)) (putL L t.toList).length = true := by
  have e : lrR (atL L) L.length t = putL L t.toList := by
    unfold lrR
    rw [if_pos h, LLa]
  refine ⟨e, ?_⟩
  unfold lrB at h
  rw [LLa, Bool.and_eq_true] at h
  exact h.2
theorem riseB_up {L : List (List UInt8)} (h : Up L) : riseB (atL L) L.length = true := by
  unfold riseB
  rw [List.all_eq_true]
  intro k hk
  have hk := List.mem_range.1 hk
  cases k with
  | zero => rfl
  | succ j =>
    have h1 := List.pairwise_iff_getElem.1 h j (j + 1) (by omega) hk (by omega)
    have h2 : upB (atL L) (j + 1) = true := by
      unfold upB
      rw [Nat.add_sub_cancel, atL_list, atL_list]
      simp only [List.getD, List.getElem?_eq_getElem hk, List.getElem?_eq_getElem (show j < L.length by omega), Option.getD_some]
      exact h1
    rw [h2]
    simp
theorem up_rise {L : List (List UInt8)} (h : riseB (atL L) L.length = true) : Up L := by
  refine List.pairwise_iff_getElem.2 fun i j hi hj hij => ?_
  obtain ⟨d, rfl⟩ : ∃ d, j = i + d + 1 := ⟨j - i - 1, by omega⟩
  have h1 := rise_lessO h i d hj
  rw [atL_list, atL_list] at h1
  simpa only [List.getD, List.getElem?_eq_getElem hi, List.getElem?_eq_getElem hj, Option.getD_some] using h1
theorem termsB_all {S : Nat → ByteArray} {n : Nat} : termsB S n = true ↔ ∀ i, i < n → (rT (S i)).isSome = true := by
  unfold termsB
  rw [List.all_eq_true]
  exact ⟨fun h i hi => h i (List.mem_range.2 hi), fun h i hi => h i (List.mem_range.1 hi)⟩
/-- a right term can be learned where there is room -/
theorem lr_room {L : List (List UInt8)} {t : Tr} (hq : knownB (atL L) L.length = true) (hl : L.length < 30) (hf : Fit t) : lrB (atL L) L.length t.txt = true := by
  unfold lrB
  rw [LLa, hq, Bool.true_and]
  unfold knL knownB
  obtain ⟨h1, h2, h3⟩ := known_of hq
  have hput := putL_len t.txt.toList L
  rw [Bool.and_eq_true, Bool.and_eq_true]
  refine ⟨⟨decide_eq_true (by omega), riseB_up (putL_up _ _ (up_rise h2))⟩, termsB_all.2 fun i hi => ?_⟩
  have hm : (putL L t.txt.toList).getD i [] ∈ putL L t.txt.toList := by
    simp only [List.getD, List.getElem?_eq_getElem hi, Option.getD_some]
    exact List.getElem_mem hi
  rw [← atL_list] at hm
  rcases (putL_mem _ _ _).1 hm with h4 | h4
  · obtain ⟨j, hj, e⟩ := List.mem_iff_getElem.1 h4
    have h5 := termsB_all.1 h3 j hj
    have e2 : atL L j = atL (putL L t.txt.toList) i := by
      apply bytes_eqP
      rw [atL_list L]
      simp only [List.getD, List.getElem?_eq_getElem hj, Option.getD_some]
      exact e
    rw [← e2]
    exact h5
  · rw [bytes_eqP h4, rT_txt hf.1 hf.2.1 hf.2.2]
    rfl
end Go.Proofs.YtpcbhjejpebogaaGreatDoor

namespace Go.Proofs.YtpcbhjejpebogaaGreatDoor
open Go.RowKit
set_option linter.unusedVariables false

/-- a slice of bytes that reads as the numbers Z 0, Z 1, .. in world w -/
def IsU8 (w : World) (a : Option Addr) (len cap : Nat) (Z : Nat → Int) : Prop :=
  len ≤ cap ∧ cap ≤ 9223372036854775807 ∧ (∀ i, 0 ≤ Z i ∧ Z i ≤ 255) ∧ (0 < len → ∃ b off, a = some ⟨b, off, none⟩ ∧ b < w.heap.size ∧ ∀ i, i < len → w.cell? ⟨b, off + i, none⟩ = some (.int .u8 (Z i)))

/-- w is behind W; block R, new since W, holds a reader of the code -/
structure Draw (W : World) (a : Option Addr) (len cap R : Nat) (w : World) : Prop where
  bel : Below W.heap.size W w
  new : W.heap.size ≤ R
  box : ∃ p : Nat, p ≤ len ∧ w.heap[R]? = some (.cells #[.slice a len cap, .int .i64 p] 93 (0, 0))

theorem Draw.alloc {W : World} {a : Option Addr} {len cap R : Nat} {w : World} (h : Draw W a len cap R w) (o : Obj) : Draw W a len cap R (w.alloc o) := by
  obtain ⟨p, hp, hb⟩ := h.box
  exact ⟨h.bel.alloc (Nat.le_trans h.new (Nat.le_of_lt (lt_of_block hb))) o, h.new, p, hp, by rw [Below.heap_alloc _ _ _ (lt_of_block hb)]; exact hb⟩

theorem Draw.below {W : World} {a : Option Addr} {len cap R : Nat} {w w' : World} (h : Draw W a len cap R w) (hB : Below w.heap.size w w') : Draw W a len cap R w' := by
  obtain ⟨p, hp, hb⟩ := h.box
  exact ⟨h.bel.trans (hB.mono h.bel.size), h.new, p, hp, (hB.block _ (lt_of_block hb)).trans hb⟩
theorem Mut.of_below {R : Nat} {w w' : World} (h : Below w.heap.size w w') : Mut R w w' := ⟨h.os, h.tape, h.output, h.size, fun k hk _ => h.block k hk⟩
theorem Draw.drewN {W : World} {a : Option Addr} {len cap R : Nat} {w : World} (h : Draw W a len cap R w) (n : Nat) : Draw W a len cap R (w.drewN n) :=
  ⟨h.bel.trans ⟨rfl, rfl, rfl, Nat.le_refl _, fun _ _ => rfl⟩, h.new, h.box⟩

theorem big_any (a : Option Addr) (len cap : Nat) (w : World) : Calls Tryz.prog 6 #[.slice a len cap] w fun e w' => e = .returned (.bool (decide ((1048576 : Int) < (len : Int)))) ∧ w' = w := by
  go_enter Tryz.func6, Tryz.ntmps6
  go_wp2
  go_ret
  exact ⟨rfl, rfl⟩

theorem open_any (a : Option Addr) (len cap : Nat) (w : World) : Calls Tryz.prog 29 #[.slice a len cap] w fun e w' => e = .returned (.pointer (some ⟨w.heap.size, 0, none⟩)) ∧ Draw w a len cap w.heap.size w' := by
  go_enter Tryz.func29, Tryz.ntmps29
  go_wp2
  go_ret
  exact ⟨rfl, (Below.refl _ _).alloc (Nat.le_refl _) _, Nat.le_refl _, 0, Nat.zero_le _, heap_alloc_new w _⟩

section
variable {W : World} {a : Option Addr} {len cap R : Nat} {Z : Nat → Int}

set_option maxHeartbeats 400000 in
theorem next_any (hU : IsU8 W a len cap Z) (w : World) (h : Draw W a len cap R w) :
    Calls Tryz.prog 69 #[.pointer (some ⟨R, 0, none⟩)] w fun e w' => ∃ x : Int, 0 ≤ x ∧ x ≤ 255 ∧ e = .returned (.int .i64 x) ∧ Draw W a len cap R w' ∧ Mut R w w' := by
  obtain ⟨hlc, hcm, hrg, hc⟩ := hU
  obtain ⟨p, hp, hb⟩ := h.box
  have c0 : w.cell? ⟨R, 0, none⟩ = some (.slice a len cap) := by simp [World.cell?, hb]
  have c1 : w.cell? ⟨R, 1, none⟩ = some (.int .i64 p) := by simp [World.cell?, hb]
  have f1 : w.frozen? ⟨R, 1, none⟩ = false := by simp [World.frozen?, hb]
  have H : Hid (Draw W a len cap R w) := h
  have HB : Hid (w.heap[R]? = some (.cells #[.slice a len cap, .int .i64 p] 93 (0, 0))) := hb
  clear h hb
  by_cases hlt : p < len
  · have hge : decide ((len : Int) ≤ (p : Int)) = false := by simp; omega
    have hltI : (p : Int) < (len : Int) := by omega
    obtain ⟨b, off, rfl, hbs, hcell⟩ := hc (by omega)
    have hck : w.cell? ⟨b, off + p, none⟩ = some (.int .u8 (Z p)) := (H.out.bel.cell (p := ⟨b, off + p, none⟩) hbs).trans (hcell p hlt)
    have hRb : Hid (R ≠ b) := by
      show _ ≠ _
      have := H.out.new
      omega
    have hck' : ∀ nq, ((w.drewN nq).setCell ⟨R, 1, none⟩ (.int .i64 ((p : Int) + 1))).cell? ⟨b, off + p, none⟩ = some (.int .u8 (Z p)) := by
      intro nq
      rw [← hck]
      exact World.cell?_of_block (Below.heap_setCell _ _ _ _ (fun e => hRb.out e.symm))
    have hb' : Hid ((w.setCell ⟨R, 1, none⟩ (.int .i64 ((p : Int) + 1))).heap[R]? = some (.cells #[.slice (some ⟨b, off, none⟩) len cap, .int .i64 ((p + 1 : Nat) : Int)] 93 (0, 0))) := by
      show _ = _
      rw [heap_setCell_same w R 1 _ 93 _ HB.out]
      rfl
    have HD : Hid (∀ nq n, Draw W (some ⟨b, off, none⟩) len cap R (((w.drewN nq).setCell ⟨R, 1, none⟩ (.int .i64 ((p : Int) + 1))).drewN n)) := fun nq n =>
      Draw.drewN ⟨(H.out.drewN nq).bel.setCell (p := ⟨R, 1, none⟩) H.out.new _, H.out.new, p + 1, hlt, hb'.out⟩ n
    have hz := hrg p
    have hwp : IntKind.i64.wrap (p : Int) = (p : Int) := by rw [IntKind.wrap_i64]; omega
    clear hcell hc
    go_enter Tryz.func69, Tryz.ntmps69
    go_wp2
    go_quiet (fail)
    go_wp2
    go_quiet (fail)
    go_wp2
    go_ret
    exact ⟨Z p, hz.1, hz.2, rfl, HD.out _ _, (((Mut.refl R w).drewN _).setCell 1 _).drewN _⟩
  · have hge : decide ((len : Int) ≤ (p : Int)) = true := by simp; omega
    go_enter Tryz.func69, Tryz.ntmps69
    go_wp2
    go_quiet (fail)
    go_wp2
    go_ret
    exact ⟨0, by omega, by omega, rfl, H.out.drewN _, (Mut.refl R w).drewN _⟩

theorem below_any (hU : IsU8 W a len cap Z) (n : Int) (hn : 2 ≤ n) (hn2 : n ≤ 256) (w : World) (h : Draw W a len cap R w) :
    Calls Tryz.prog 44 #[.pointer (some ⟨R, 0, none⟩), .int .i64 n] w fun e w' => ∃ x : Int, 0 ≤ x ∧ x < n ∧ e = .returned (.int .i64 x) ∧ Draw W a len cap R w' ∧ Mut R w w' := by
  have h1 : ¬ n ≤ 1 := by omega
  have h0 : ¬ n = 0 := by omega
  go_enter Tryz.func44, Tryz.ntmps44
  go_wp2_with (go_at_call 69; refine (next_any hU _ h).mono ?_; rintro e w' ⟨x, hx0, hx1, rfl, hD, hM⟩)
  go_ret
  refine ⟨x % n, Int.emod_nonneg _ (by omega), Int.emod_lt_of_pos _ (by omega), rfl, hD, hM⟩

theorem once_any (hU : IsU8 W a len cap Z) (n : Int) (hn : 2 ≤ n) (hn2 : n ≤ 256) (w : World) (h : Draw W a len cap R w) :
    Calls Tryz.prog 43 #[.pointer (some ⟨R, 0, none⟩), .int .i64 n] w fun e w' => ∃ x : Bool, e = .returned (.bool x) ∧ Draw W a len cap R w' ∧ Mut R w w' := by
  go_enter Tryz.func43, Tryz.ntmps43
  go_wp2_with (go_at_call 44; refine (below_any hU n hn hn2 _ h).mono ?_; rintro e w' ⟨x, hx0, hx1, rfl, hD, hM⟩)
  go_ret
  exact ⟨_, rfl, hD, hM⟩

theorem Draw.lt {w : World} (h : Draw W a len cap R w) : R < w.heap.size := by
  obtain ⟨p, hp, hb⟩ := h.box
  exact lt_of_block hb

/-- a literal's own block behind a draw -/
theorem lit_cells {w w' : World} {cs : Array Value} {t : TypeId} (hM : Mut R (w.alloc (.cells cs t)) w') (hR : R < w.heap.size) (i : Nat) : w'.cell? ⟨w.heap.size, i, none⟩ = cs[i]? := by
  have hb : w'.heap[w.heap.size]? = some (.cells cs t (0, 0)) := (hM.block w.heap.size (by simp) (by omega)).trans (heap_alloc_new w _)
  simp [World.cell?, hb]

theorem below1_any (w : World) (h : Draw W a len cap R w) :
    Calls Tryz.prog 44 #[.pointer (some ⟨R, 0, none⟩), .int .i64 1] w fun e w' => e = .returned (.int .i64 0) ∧ w' = w := by
  go_enter Tryz.func44, Tryz.ntmps44
  go_wp2
  go_ret
  exact ⟨rfl, rfl⟩
theorem belowN_any (hU : IsU8 W a len cap Z) (n : Nat) (hn : 1 ≤ n) (hn2 : n ≤ 256) (w : World) (h : Draw W a len cap R w) :
    Calls Tryz.prog 44 #[.pointer (some ⟨R, 0, none⟩), .int .i64 (n : Int)] w fun e w' => ∃ y : Nat, y < n ∧ e = .returned (.int .i64 (y : Int)) ∧ Draw W a len cap R w' ∧ Mut R w w' := by
  by_cases h1 : n = 1
  · subst h1
    refine (below1_any w h).mono ?_
    rintro e w' ⟨rfl, rfl⟩
    exact ⟨0, by omega, rfl, h, Mut.refl _ _⟩
  · refine (below_any hU (n : Int) (by omega) (by omega) w h).mono ?_
    rintro e w' ⟨y, h0, h2, rfl, hD, hM⟩
    exact ⟨y.toNat, by omega, by rw [Int.toNat_of_nonneg h0], hD, hM⟩

end
end Go.Proofs.YtpcbhjejpebogaaGreatDoor

namespace Go.Proofs.YtpcbhjejpebogaaGreatDoor
open Go.RowKit
set_option linter.unusedVariables false
set_option linter.unusedSimpArgs false

/-- a term whose numbers are at most 3 -/
def LowT : Tr → Prop
  | ⟨.inl (k, n)⟩ => (k = 1 ∨ k = 2 ∨ k = 3) ∧ n ≤ 3
  | ⟨.inr (.inl t)⟩ => LowT t
  | ⟨.inr (.inr (.inl (t, u)))⟩ => LowT t ∧ LowT u
  | ⟨.inr (.inr (.inr (k, n, t)))⟩ => (k = 6 ∨ k = 7) ∧ n ≤ 3 ∧ LowT t
theorem LowT.ok : ∀ t : Tr, LowT t → t.Ok
  | ⟨.inl (k, n)⟩, h => by rw [LowT] at h; exact ⟨h.1, by omega⟩
  | ⟨.inr (.inl t)⟩, h => by rw [LowT] at h; exact LowT.ok t h
  | ⟨.inr (.inr (.inl (t, u)))⟩, h => by rw [LowT] at h; exact ⟨LowT.ok t h.1, LowT.ok u h.2⟩
  | ⟨.inr (.inr (.inr (k, n, t)))⟩, h => by rw [LowT] at h; exact ⟨h.1, by omega, LowT.ok t h.2.2⟩
/-- a drawn term -/
def TD (f : Nat) (t : Tr) : Prop := LowT t ∧ t.size + 1 ≤ 2 ^ (f + 1) ∧ t.deep ≤ f + 1
theorem TD.fit {f : Nat} {t : Tr} (hf : f ≤ 4) (h : TD f t) : Fit t := by
  obtain ⟨h1, h2, h3⟩ := h
  have : 2 ^ (f + 1) ≤ 2 ^ 5 := Nat.pow_le_pow_right (by decide) (by omega)
  exact ⟨h1.ok, by omega, by omega⟩
theorem TD.small {f : Nat} {t : Tr} (hf : f ≤ 4) (h : TD f t) : t.txt.size ≤ 32000 := by
  obtain ⟨h1, h2, h3⟩ := h
  have : 2 ^ (f + 1) ≤ 2 ^ 5 := Nat.pow_le_pow_right (by decide) (by omega)
  have := Tr.txt_size t h1.ok
  omega
theorem TD.leaf {f k n : Nat} (hk : k = 1 ∨ k = 2 ∨ k = 3) (hn : n ≤ 3) : TD f ⟨.inl (k, n)⟩ := by
  have : 1 ≤ 2 ^ f := Nat.one_le_two_pow
  exact ⟨by rw [LowT]; exact ⟨hk, hn⟩, by rw [Tr.size, Nat.pow_succ]; omega, by rw [Tr.deep]; omega⟩
theorem TD.hash {f : Nat} {t : Tr} (h : TD f t) : TD (f + 1) ⟨.inr (.inl t)⟩ := by
  obtain ⟨h1, h2, h3⟩ := h
  have : 1 ≤ 2 ^ (f + 1) := Nat.one_le_two_pow
  exact ⟨by rw [LowT]; exact h1, by rw [Tr.size, Nat.pow_succ]; omega, by rw [Tr.deep]; omega⟩
theorem TD.keyed {f k n : Nat} {t : Tr} (hk : k = 6 ∨ k = 7) (hn : n ≤ 3) (h : TD f t) : TD (f + 1) ⟨.inr (.inr (.inr (k, n, t)))⟩ := by
  obtain ⟨h1, h2, h3⟩ := h
  have : 1 ≤ 2 ^ (f + 1) := Nat.one_le_two_pow
  exact ⟨by rw [LowT]; exact ⟨hk, hn, h1⟩, by rw [Tr.size, Nat.pow_succ]; omega, by rw [Tr.deep]; omega⟩
theorem TD.pair {f : Nat} {t u : Tr} (h : TD f t) (k : TD f u) : TD (f + 1) ⟨.inr (.inr (.inl (t, u)))⟩ := by
  obtain ⟨h1, h2, h3⟩ := h
  obtain ⟨k1, k2, k3⟩ := k
  exact ⟨by rw [LowT]; exact ⟨h1, k1⟩, by rw [Tr.size, Nat.pow_succ]; omega, by rw [Tr.deep]; omega⟩
theorem decS {n : Nat} (h : n ≤ 3) : (decB n).size ≤ 4 := by have := decB_size n; omega
section
variable {W : World} {a : Option Addr} {len cap R : Nat} {Z : Nat → Int}

set_option maxRecDepth 8000 in
set_option maxHeartbeats 4000000 in
theorem drZero (hU : IsU8 W a len cap Z) (w : World) (h : Draw W a len cap R w) :
    Calls Tryz.prog 32 #[.pointer (some ⟨R, 0, none⟩), .int .i64 0] w fun e w' => ∃ t : Tr, TD 0 t ∧ e = .returned (.string t.txt) ∧ Draw W a len cap R w' ∧ Mut R w w' := by
  have HD : Hid (Draw W a len cap R w) := h
  clear h
  go_enter Tryz.func32, Tryz.ntmps32
  go_wp2_with fail
  refine (below_any hU 4 (by omega) (by omega) w HD.out).mono ?_
  rintro e w1 ⟨x, hx0, hx1, rfl, hD1, hM1⟩
  have HD1 : Hid (Draw W a len cap R w1 ∧ Mut R w w1) := ⟨hD1, hM1⟩
  clear hD1 hM1
  obtain ⟨n, rfl⟩ : ∃ n : Nat, x = (n : Int) := ⟨x.toNat, by omega⟩
  have hn : n ≤ 3 := by omega
  have HN : Hid (n ≤ 3) := hn
  have hwn : IntKind.i64.wrap (n : Int) = (n : Int) := by rw [IntKind.wrap_i64]; omega
  go_wp2_with fail
  refine (l1Dec_any n (by omega) w1).mono ?_
  rintro e w2 ⟨rfl, hB2⟩
  have HD2 : Hid (Draw W a len cap R w2 ∧ Mut R w w2) := ⟨HD1.out.1.below hB2, HD1.out.2.trans (Mut.of_below hB2)⟩
  clear hB2 hx0 hx1
  obtain ⟨D, hD⟩ : ∃ D, D = decB n := ⟨_, rfl⟩
  have hDs : D.size ≤ 4 := by rw [hD]; exact decS hn
  have HDD : Hid (D = decB n) := hD
  rw [← hD]
  clear hD hn hwn
  go_wp2_with fail
  refine (below_any hU 10 (by omega) (by omega) w2 HD2.out.1).mono ?_
  rintro e w3 ⟨y, hy0, hy1, rfl, hD3, hM3⟩
  have HD3 : Hid (Draw W a len cap R w3 ∧ Mut R w w3) := ⟨hD3, HD2.out.2.trans hM3⟩
  clear hD3 hM3
  go_wp2_with fail
  refine (below_any hU 4 (by omega) (by omega) w3 HD3.out.1).mono ?_
  rintro e w4 ⟨z, hz0, hz1, rfl, hD4, hM4⟩
  have HD4 : Hid (Draw W a len cap R w4 ∧ Mut R w w4) := ⟨hD4, HD3.out.2.trans hM4⟩
  clear hD4 hM4
  have hz : z = 0 ∨ z = 1 ∨ z = 2 ∨ z = 3 := by omega
  clear hz0 hz1 hy0 hy1
  rcases hz with rfl | rfl | rfl | rfl
  · skip
    have ad : ∀ v : World, (Op.stringOp .add (⟨#[97]⟩) (D)).run Tryz.prog v = .ok (.string ((⟨#[97]⟩) ++ (D))) v := fun v => add_ok (by (try simp only [ByteArray.size_append]); (try simp only [show (ByteArray.mk #[97]).size = 1 from rfl, show (ByteArray.mk #[107]).size = 1 from rfl, show (ByteArray.mk #[118]).size = 1 from rfl, show (ByteArray.mk #[44]).size = 1 from rfl, show (ByteArray.mk #[41]).size = 1 from rfl, show (ByteArray.mk #[104, 40]).size = 2 from rfl, show (ByteArray.mk #[112, 40]).size = 2 from rfl, show (ByteArray.mk #[101, 40, 107]).size = 3 from rfl, show (ByteArray.mk #[115, 40, 107]).size = 3 from rfl]); omega) v
    go_wp2
    go_ret
    exact ⟨⟨.inl (1, n)⟩, TD.leaf (by omega) HN.out, by rw [Tr.txt, ← HDD.out]; rfl, HD4.out.1, HD4.out.2⟩
  · skip
    have ad : ∀ v : World, (Op.stringOp .add (⟨#[97]⟩) (D)).run Tryz.prog v = .ok (.string ((⟨#[97]⟩) ++ (D))) v := fun v => add_ok (by (try simp only [ByteArray.size_append]); (try simp only [show (ByteArray.mk #[97]).size = 1 from rfl, show (ByteArray.mk #[107]).size = 1 from rfl, show (ByteArray.mk #[118]).size = 1 from rfl, show (ByteArray.mk #[44]).size = 1 from rfl, show (ByteArray.mk #[41]).size = 1 from rfl, show (ByteArray.mk #[104, 40]).size = 2 from rfl, show (ByteArray.mk #[112, 40]).size = 2 from rfl, show (ByteArray.mk #[101, 40, 107]).size = 3 from rfl, show (ByteArray.mk #[115, 40, 107]).size = 3 from rfl]); omega) v
    go_wp2
    go_ret
    exact ⟨⟨.inl (1, n)⟩, TD.leaf (by omega) HN.out, by rw [Tr.txt, ← HDD.out]; rfl, HD4.out.1, HD4.out.2⟩
  · skip
    have ad : ∀ v : World, (Op.stringOp .add (⟨#[107]⟩) (D)).run Tryz.prog v = .ok (.string ((⟨#[107]⟩) ++ (D))) v := fun v => add_ok (by (try simp only [ByteArray.size_append]); (try simp only [show (ByteArray.mk #[97]).size = 1 from rfl, show (ByteArray.mk #[107]).size = 1 from rfl, show (ByteArray.mk #[118]).size = 1 from rfl, show (ByteArray.mk #[44]).size = 1 from rfl, show (ByteArray.mk #[41]).size = 1 from rfl, show (ByteArray.mk #[104, 40]).size = 2 from rfl, show (ByteArray.mk #[112, 40]).size = 2 from rfl, show (ByteArray.mk #[101, 40, 107]).size = 3 from rfl, show (ByteArray.mk #[115, 40, 107]).size = 3 from rfl]); omega) v
    go_wp2
    go_ret
    exact ⟨⟨.inl (2, n)⟩, TD.leaf (by omega) HN.out, by rw [Tr.txt, ← HDD.out]; rfl, HD4.out.1, HD4.out.2⟩
  · skip
    have ad : ∀ v : World, (Op.stringOp .add (⟨#[118]⟩) (D)).run Tryz.prog v = .ok (.string ((⟨#[118]⟩) ++ (D))) v := fun v => add_ok (by (try simp only [ByteArray.size_append]); (try simp only [show (ByteArray.mk #[97]).size = 1 from rfl, show (ByteArray.mk #[107]).size = 1 from rfl, show (ByteArray.mk #[118]).size = 1 from rfl, show (ByteArray.mk #[44]).size = 1 from rfl, show (ByteArray.mk #[41]).size = 1 from rfl, show (ByteArray.mk #[104, 40]).size = 2 from rfl, show (ByteArray.mk #[112, 40]).size = 2 from rfl, show (ByteArray.mk #[101, 40, 107]).size = 3 from rfl, show (ByteArray.mk #[115, 40, 107]).size = 3 from rfl]); omega) v
    go_wp2
    go_ret
    exact ⟨⟨.inl (3, n)⟩, TD.leaf (by omega) HN.out, by rw [Tr.txt, ← HDD.out]; rfl, HD4.out.1, HD4.out.2⟩

set_option maxRecDepth 8000 in
set_option maxHeartbeats 60000000 in
theorem drSucc (hU : IsU8 W a len cap Z) (f : Nat) (hf : f ≤ 3) (ih : ∀ (w : World), Draw W a len cap R w → Calls Tryz.prog 32 #[.pointer (some ⟨R, 0, none⟩), .int .i64 (f : Int)] w fun e w' => ∃ t : Tr, TD f t ∧ e = .returned (.string t.txt) ∧ Draw W a len cap R w' ∧ Mut R w w') (w : World) (h : Draw W a len cap R w) :
    Calls Tryz.prog 32 #[.pointer (some ⟨R, 0, none⟩), .int .i64 (((f + 1 : Nat)) : Int)] w fun e w' => ∃ t : Tr, TD (f + 1) t ∧ e = .returned (.string t.txt) ∧ Draw W a len cap R w' ∧ Mut R w w' := by
  obtain ⟨d, hd⟩ : ∃ d : Int, d = ((f + 1 : Nat) : Int) := ⟨_, rfl⟩
  rw [← hd]
  have hd0 : (d == 0) = false := by rw [beq_eq_false_iff_ne]; omega
  have hd1 : d - 1 = (f : Int) := by omega
  have hwf : wrap64 (f : Int) = (f : Int) := by unfold wrap64; omega
  have hdn : ¬ d = 0 := by omega
  have HIH : Hid (∀ (w : World), Draw W a len cap R w → Calls Tryz.prog 32 #[.pointer (some ⟨R, 0, none⟩), .int .i64 (f : Int)] w fun e w' => ∃ t : Tr, TD f t ∧ e = .returned (.string t.txt) ∧ Draw W a len cap R w' ∧ Mut R w w') := ih
  have HF : Hid (f ≤ 3) := hf
  clear ih hd hf
  have HD : Hid (Draw W a len cap R w) := h
  clear h
  go_enter Tryz.func32, Tryz.ntmps32
  go_wp2_with fail
  refine (below_any hU 4 (by omega) (by omega) w HD.out).mono ?_
  rintro e w1 ⟨x, hx0, hx1, rfl, hD1, hM1⟩
  have HD1 : Hid (Draw W a len cap R w1 ∧ Mut R w w1) := ⟨hD1, hM1⟩
  clear hD1 hM1
  obtain ⟨n, rfl⟩ : ∃ n : Nat, x = (n : Int) := ⟨x.toNat, by omega⟩
  have hn : n ≤ 3 := by omega
  have HN : Hid (n ≤ 3) := hn
  have hwn : IntKind.i64.wrap (n : Int) = (n : Int) := by rw [IntKind.wrap_i64]; omega
  go_wp2_with fail
  refine (l1Dec_any n (by omega) w1).mono ?_
  rintro e w2 ⟨rfl, hB2⟩
  have HD2 : Hid (Draw W a len cap R w2 ∧ Mut R w w2) := ⟨HD1.out.1.below hB2, HD1.out.2.trans (Mut.of_below hB2)⟩
  clear hB2 hx0 hx1
  obtain ⟨D, hD⟩ : ∃ D, D = decB n := ⟨_, rfl⟩
  have hDs : D.size ≤ 4 := by rw [hD]; exact decS hn
  have HDD : Hid (D = decB n) := hD
  rw [← hD]
  clear hD hn hwn
  go_wp2_with fail
  refine (below_any hU 10 (by omega) (by omega) w2 HD2.out.1).mono ?_
  rintro e w3 ⟨y, hy0, hy1, rfl, hD3, hM3⟩
  have HD3 : Hid (Draw W a len cap R w3 ∧ Mut R w w3) := ⟨hD3, HD2.out.2.trans hM3⟩
  clear hD3 hM3
  have hy : y = 0 ∨ y = 1 ∨ y = 2 ∨ y = 3 ∨ y = 4 ∨ y = 5 ∨ y = 6 ∨ y = 7 ∨ y = 8 ∨ y = 9 := by omega
  clear hy0 hy1
  rcases hy with rfl | rfl | rfl | rfl | rfl | rfl | rfl | rfl | rfl | rfl
  · skip
    have ad : ∀ v : World, (Op.stringOp .add (⟨#[97]⟩) (D)).run Tryz.prog v = .ok (.string ((⟨#[97]⟩) ++ (D))) v := fun v => add_ok (by (try simp only [ByteArray.size_append]); (try simp only [show (ByteArray.mk #[97]).size = 1 from rfl, show (ByteArray.mk #[107]).size = 1 from rfl, show (ByteArray.mk #[118]).size = 1 from rfl, show (ByteArray.mk #[44]).size = 1 from rfl, show (ByteArray.mk #[41]).size = 1 from rfl, show (ByteArray.mk #[104, 40]).size = 2 from rfl, show (ByteArray.mk #[112, 40]).size = 2 from rfl, show (ByteArray.mk #[101, 40, 107]).size = 3 from rfl, show (ByteArray.mk #[115, 40, 107]).size = 3 from rfl]); omega) v
    go_wp2
    go_ret
    exact ⟨⟨.inl (1, n)⟩, TD.leaf (by omega) HN.out, by rw [Tr.txt, ← HDD.out]; rfl, HD3.out.1, HD3.out.2⟩
  · skip
    have ad : ∀ v : World, (Op.stringOp .add (⟨#[97]⟩) (D)).run Tryz.prog v = .ok (.string ((⟨#[97]⟩) ++ (D))) v := fun v => add_ok (by (try simp only [ByteArray.size_append]); (try simp only [show (ByteArray.mk #[97]).size = 1 from rfl, show (ByteArray.mk #[107]).size = 1 from rfl, show (ByteArray.mk #[118]).size = 1 from rfl, show (ByteArray.mk #[44]).size = 1 from rfl, show (ByteArray.mk #[41]).size = 1 from rfl, show (ByteArray.mk #[104, 40]).size = 2 from rfl, show (ByteArray.mk #[112, 40]).size = 2 from rfl, show (ByteArray.mk #[101, 40, 107]).size = 3 from rfl, show (ByteArray.mk #[115, 40, 107]).size = 3 from rfl]); omega) v
    go_wp2
    go_ret
    exact ⟨⟨.inl (1, n)⟩, TD.leaf (by omega) HN.out, by rw [Tr.txt, ← HDD.out]; rfl, HD3.out.1, HD3.out.2⟩
  · skip
    have ad : ∀ v : World, (Op.stringOp .add (⟨#[107]⟩) (D)).run Tryz.prog v = .ok (.string ((⟨#[107]⟩) ++ (D))) v := fun v => add_ok (by (try simp only [ByteArray.size_append]); (try simp only [show (ByteArray.mk #[97]).size = 1 from rfl, show (ByteArray.mk #[107]).size = 1 from rfl, show (ByteArray.mk #[118]).size = 1 from rfl, show (ByteArray.mk #[44]).size = 1 from rfl, show (ByteArray.mk #[41]).size = 1 from rfl, show (ByteArray.mk #[104, 40]).size = 2 from rfl, show (ByteArray.mk #[112, 40]).size = 2 from rfl, show (ByteArray.mk #[101, 40, 107]).size = 3 from rfl, show (ByteArray.mk #[115, 40, 107]).size = 3 from rfl]); omega) v
    go_wp2
    go_ret
    exact ⟨⟨.inl (2, n)⟩, TD.leaf (by omega) HN.out, by rw [Tr.txt, ← HDD.out]; rfl, HD3.out.1, HD3.out.2⟩
  · skip
    have ad : ∀ v : World, (Op.stringOp .add (⟨#[118]⟩) (D)).run Tryz.prog v = .ok (.string ((⟨#[118]⟩) ++ (D))) v := fun v => add_ok (by (try simp only [ByteArray.size_append]); (try simp only [show (ByteArray.mk #[97]).size = 1 from rfl, show (ByteArray.mk #[107]).size = 1 from rfl, show (ByteArray.mk #[118]).size = 1 from rfl, show (ByteArray.mk #[44]).size = 1 from rfl, show (ByteArray.mk #[41]).size = 1 from rfl, show (ByteArray.mk #[104, 40]).size = 2 from rfl, show (ByteArray.mk #[112, 40]).size = 2 from rfl, show (ByteArray.mk #[101, 40, 107]).size = 3 from rfl, show (ByteArray.mk #[115, 40, 107]).size = 3 from rfl]); omega) v
    go_wp2
    go_ret
    exact ⟨⟨.inl (3, n)⟩, TD.leaf (by omega) HN.out, by rw [Tr.txt, ← HDD.out]; rfl, HD3.out.1, HD3.out.2⟩
  · skip
    go_wp2_with fail
    refine (HIH.out w3 HD3.out.1).mono ?_
    rintro e w4 ⟨t4, hT4, rfl, hD4, hM4⟩
    have HD4 : Hid (Draw W a len cap R w4 ∧ Mut R w w4) := ⟨hD4, HD3.out.2.trans hM4⟩
    have HT4 : Hid (TD f t4) := hT4
    obtain ⟨X4, hX4⟩ : ∃ X, X = t4.txt := ⟨_, rfl⟩
    have hXs4 : X4.size ≤ 32000 := by rw [hX4]; exact hT4.small (by have := HF.out; omega)
    have HX4 : Hid (X4 = t4.txt) := hX4
    rw [← hX4]
    clear hX4 hT4 hD4 hM4
    have ad1 : ∀ v : World, (Op.stringOp .add (⟨#[104, 40]⟩) (X4)).run Tryz.prog v = .ok (.string ((⟨#[104, 40]⟩) ++ (X4))) v := fun v => add_ok (by (try simp only [ByteArray.size_append]); (try simp only [show (ByteArray.mk #[97]).size = 1 from rfl, show (ByteArray.mk #[107]).size = 1 from rfl, show (ByteArray.mk #[118]).size = 1 from rfl, show (ByteArray.mk #[44]).size = 1 from rfl, show (ByteArray.mk #[41]).size = 1 from rfl, show (ByteArray.mk #[104, 40]).size = 2 from rfl, show (ByteArray.mk #[112, 40]).size = 2 from rfl, show (ByteArray.mk #[101, 40, 107]).size = 3 from rfl, show (ByteArray.mk #[115, 40, 107]).size = 3 from rfl]); omega) v
    have ad2 : ∀ v : World, (Op.stringOp .add (⟨#[104, 40]⟩ ++ X4) (⟨#[41]⟩)).run Tryz.prog v = .ok (.string ((⟨#[104, 40]⟩ ++ X4) ++ (⟨#[41]⟩))) v := fun v => add_ok (by (try simp only [ByteArray.size_append]); (try simp only [show (ByteArray.mk #[97]).size = 1 from rfl, show (ByteArray.mk #[107]).size = 1 from rfl, show (ByteArray.mk #[118]).size = 1 from rfl, show (ByteArray.mk #[44]).size = 1 from rfl, show (ByteArray.mk #[41]).size = 1 from rfl, show (ByteArray.mk #[104, 40]).size = 2 from rfl, show (ByteArray.mk #[112, 40]).size = 2 from rfl, show (ByteArray.mk #[101, 40, 107]).size = 3 from rfl, show (ByteArray.mk #[115, 40, 107]).size = 3 from rfl]); omega) v
    go_wp2
    go_ret
    exact ⟨⟨.inr (.inl t4)⟩, HT4.out.hash, by rw [Tr.txt, ← HX4.out]; rfl, HD4.out.1, HD4.out.2⟩
  · skip
    go_wp2_with fail
    refine (HIH.out w3 HD3.out.1).mono ?_
    rintro e w4 ⟨t4, hT4, rfl, hD4, hM4⟩
    have HD4 : Hid (Draw W a len cap R w4 ∧ Mut R w w4) := ⟨hD4, HD3.out.2.trans hM4⟩
    have HT4 : Hid (TD f t4) := hT4
    obtain ⟨X4, hX4⟩ : ∃ X, X = t4.txt := ⟨_, rfl⟩
    have hXs4 : X4.size ≤ 32000 := by rw [hX4]; exact hT4.small (by have := HF.out; omega)
    have HX4 : Hid (X4 = t4.txt) := hX4
    rw [← hX4]
    clear hX4 hT4 hD4 hM4
    have ad1 : ∀ v : World, (Op.stringOp .add (⟨#[112, 40]⟩) (X4)).run Tryz.prog v = .ok (.string ((⟨#[112, 40]⟩) ++ (X4))) v := fun v => add_ok (by (try simp only [ByteArray.size_append]); (try simp only [show (ByteArray.mk #[97]).size = 1 from rfl, show (ByteArray.mk #[107]).size = 1 from rfl, show (ByteArray.mk #[118]).size = 1 from rfl, show (ByteArray.mk #[44]).size = 1 from rfl, show (ByteArray.mk #[41]).size = 1 from rfl, show (ByteArray.mk #[104, 40]).size = 2 from rfl, show (ByteArray.mk #[112, 40]).size = 2 from rfl, show (ByteArray.mk #[101, 40, 107]).size = 3 from rfl, show (ByteArray.mk #[115, 40, 107]).size = 3 from rfl]); omega) v
    have ad2 : ∀ v : World, (Op.stringOp .add (⟨#[112, 40]⟩ ++ X4) (⟨#[44]⟩)).run Tryz.prog v = .ok (.string ((⟨#[112, 40]⟩ ++ X4) ++ (⟨#[44]⟩))) v := fun v => add_ok (by (try simp only [ByteArray.size_append]); (try simp only [show (ByteArray.mk #[97]).size = 1 from rfl, show (ByteArray.mk #[107]).size = 1 from rfl, show (ByteArray.mk #[118]).size = 1 from rfl, show (ByteArray.mk #[44]).size = 1 from rfl, show (ByteArray.mk #[41]).size = 1 from rfl, show (ByteArray.mk #[104, 40]).size = 2 from rfl, show (ByteArray.mk #[112, 40]).size = 2 from rfl, show (ByteArray.mk #[101, 40, 107]).size = 3 from rfl, show (ByteArray.mk #[115, 40, 107]).size = 3 from rfl]); omega) v
    go_wp2_with fail
    refine (HIH.out w4 HD4.out.1).mono ?_
    rintro e w5 ⟨t5, hT5, rfl, hD5, hM5⟩
    have HD5 : Hid (Draw W a len cap R w5 ∧ Mut R w w5) := ⟨hD5, HD4.out.2.trans hM5⟩
    have HT5 : Hid (TD f t5) := hT5
    obtain ⟨X5, hX5⟩ : ∃ X, X = t5.txt := ⟨_, rfl⟩
    have hXs5 : X5.size ≤ 32000 := by rw [hX5]; exact hT5.small (by have := HF.out; omega)
    have HX5 : Hid (X5 = t5.txt) := hX5
    rw [← hX5]
    clear hX5 hT5 hD5 hM5
    have ad3 : ∀ v : World, (Op.stringOp .add ((⟨#[112, 40]⟩ ++ X4) ++ ⟨#[44]⟩) (X5)).run Tryz.prog v = .ok (.string (((⟨#[112, 40]⟩ ++ X4) ++ ⟨#[44]⟩) ++ (X5))) v := fun v => add_ok (by (try simp only [ByteArray.size_append]); (try simp only [show (ByteArray.mk #[97]).size = 1 from rfl, show (ByteArray.mk #[107]).size = 1 from rfl, show (ByteArray.mk #[118]).size = 1 from rfl, show (ByteArray.mk #[44]).size = 1 from rfl, show (ByteArray.mk #[41]).size = 1 from rfl, show (ByteArray.mk #[104, 40]).size = 2 from rfl, show (ByteArray.mk #[112, 40]).size = 2 from rfl, show (ByteArray.mk #[101, 40, 107]).size = 3 from rfl, show (ByteArray.mk #[115, 40, 107]).size = 3 from rfl]); omega) v
    have ad4 : ∀ v : World, (Op.stringOp .add (((⟨#[112, 40]⟩ ++ X4) ++ ⟨#[44]⟩) ++ X5) (⟨#[41]⟩)).run Tryz.prog v = .ok (.string ((((⟨#[112, 40]⟩ ++ X4) ++ ⟨#[44]⟩) ++ X5) ++ (⟨#[41]⟩))) v := fun v => add_ok (by (try simp only [ByteArray.size_append]); (try simp only [show (ByteArray.mk #[97]).size = 1 from rfl, show (ByteArray.mk #[107]).size = 1 from rfl, show (ByteArray.mk #[118]).size = 1 from rfl, show (ByteArray.mk #[44]).size = 1 from rfl, show (ByteArray.mk #[41]).size = 1 from rfl, show (ByteArray.mk #[104, 40]).size = 2 from rfl, show (ByteArray.mk #[112, 40]).size = 2 from rfl, show (ByteArray.mk #[101, 40, 107]).size = 3 from rfl, show (ByteArray.mk #[115, 40, 107]).size = 3 from rfl]); omega) v
    go_wp2
    go_ret
    exact ⟨⟨.inr (.inr (.inl (t4, t5)))⟩, HT4.out.pair HT5.out, by rw [Tr.txt, ← HX4.out, ← HX5.out]; rfl, HD5.out.1, HD5.out.2⟩
  · skip
    go_wp2_with fail
    refine (HIH.out w3 HD3.out.1).mono ?_
    rintro e w4 ⟨t4, hT4, rfl, hD4, hM4⟩
    have HD4 : Hid (Draw W a len cap R w4 ∧ Mut R w w4) := ⟨hD4, HD3.out.2.trans hM4⟩
    have HT4 : Hid (TD f t4) := hT4
    obtain ⟨X4, hX4⟩ : ∃ X, X = t4.txt := ⟨_, rfl⟩
    have hXs4 : X4.size ≤ 32000 := by rw [hX4]; exact hT4.small (by have := HF.out; omega)
    have HX4 : Hid (X4 = t4.txt) := hX4
    rw [← hX4]
    clear hX4 hT4 hD4 hM4
    have ad1 : ∀ v : World, (Op.stringOp .add (⟨#[112, 40]⟩) (X4)).run Tryz.prog v = .ok (.string ((⟨#[112, 40]⟩) ++ (X4))) v := fun v => add_ok (by (try simp only [ByteArray.size_append]); (try simp only [show (ByteArray.mk #[97]).size = 1 from rfl, show (ByteArray.mk #[107]).size = 1 from rfl, show (ByteArray.mk #[118]).size = 1 from rfl, show (ByteArray.mk #[44]).size = 1 from rfl, show (ByteArray.mk #[41]).size = 1 from rfl, show (ByteArray.mk #[104, 40]).size = 2 from rfl, show (ByteArray.mk #[112, 40]).size = 2 from rfl, show (ByteArray.mk #[101, 40, 107]).size = 3 from rfl, show (ByteArray.mk #[115, 40, 107]).size = 3 from rfl]); omega) v
    have ad2 : ∀ v : World, (Op.stringOp .add (⟨#[112, 40]⟩ ++ X4) (⟨#[44]⟩)).run Tryz.prog v = .ok (.string ((⟨#[112, 40]⟩ ++ X4) ++ (⟨#[44]⟩))) v := fun v => add_ok (by (try simp only [ByteArray.size_append]); (try simp only [show (ByteArray.mk #[97]).size = 1 from rfl, show (ByteArray.mk #[107]).size = 1 from rfl, show (ByteArray.mk #[118]).size = 1 from rfl, show (ByteArray.mk #[44]).size = 1 from rfl, show (ByteArray.mk #[41]).size = 1 from rfl, show (ByteArray.mk #[104, 40]).size = 2 from rfl, show (ByteArray.mk #[112, 40]).size = 2 from rfl, show (ByteArray.mk #[101, 40, 107]).size = 3 from rfl, show (ByteArray.mk #[115, 40, 107]).size = 3 from rfl]); omega) v
    go_wp2_with fail
    refine (HIH.out w4 HD4.out.1).mono ?_
    rintro e w5 ⟨t5, hT5, rfl, hD5, hM5⟩
    have HD5 : Hid (Draw W a len cap R w5 ∧ Mut R w w5) := ⟨hD5, HD4.out.2.trans hM5⟩
    have HT5 : Hid (TD f t5) := hT5
    obtain ⟨X5, hX5⟩ : ∃ X, X = t5.txt := ⟨_, rfl⟩
    have hXs5 : X5.size ≤ 32000 := by rw [hX5]; exact hT5.small (by have := HF.out; omega)
    have HX5 : Hid (X5 = t5.txt) := hX5
    rw [← hX5]
    clear hX5 hT5 hD5 hM5
    have ad3 : ∀ v : World, (Op.stringOp .add ((⟨#[112, 40]⟩ ++ X4) ++ ⟨#[44]⟩) (X5)).run Tryz.prog v = .ok (.string (((⟨#[112, 40]⟩ ++ X4) ++ ⟨#[44]⟩) ++ (X5))) v := fun v => add_ok (by (try simp only [ByteArray.size_append]); (try simp only [show (ByteArray.mk #[97]).size = 1 from rfl, show (ByteArray.mk #[107]).size = 1 from rfl, show (ByteArray.mk #[118]).size = 1 from rfl, show (ByteArray.mk #[44]).size = 1 from rfl, show (ByteArray.mk #[41]).size = 1 from rfl, show (ByteArray.mk #[104, 40]).size = 2 from rfl, show (ByteArray.mk #[112, 40]).size = 2 from rfl, show (ByteArray.mk #[101, 40, 107]).size = 3 from rfl, show (ByteArray.mk #[115, 40, 107]).size = 3 from rfl]); omega) v
    have ad4 : ∀ v : World, (Op.stringOp .add (((⟨#[112, 40]⟩ ++ X4) ++ ⟨#[44]⟩) ++ X5) (⟨#[41]⟩)).run Tryz.prog v = .ok (.string ((((⟨#[112, 40]⟩ ++ X4) ++ ⟨#[44]⟩) ++ X5) ++ (⟨#[41]⟩))) v := fun v => add_ok (by (try simp only [ByteArray.size_append]); (try simp only [show (ByteArray.mk #[97]).size = 1 from rfl, show (ByteArray.mk #[107]).size = 1 from rfl, show (ByteArray.mk #[118]).size = 1 from rfl, show (ByteArray.mk #[44]).size = 1 from rfl, show (ByteArray.mk #[41]).size = 1 from rfl, show (ByteArray.mk #[104, 40]).size = 2 from rfl, show (ByteArray.mk #[112, 40]).size = 2 from rfl, show (ByteArray.mk #[101, 40, 107]).size = 3 from rfl, show (ByteArray.mk #[115, 40, 107]).size = 3 from rfl]); omega) v
    go_wp2
    go_ret
    exact ⟨⟨.inr (.inr (.inl (t4, t5)))⟩, HT4.out.pair HT5.out, by rw [Tr.txt, ← HX4.out, ← HX5.out]; rfl, HD5.out.1, HD5.out.2⟩
  · skip
    have ad1 : ∀ v : World, (Op.stringOp .add (⟨#[115, 40, 107]⟩) (D)).run Tryz.prog v = .ok (.string ((⟨#[115, 40, 107]⟩) ++ (D))) v := fun v => add_ok (by (try simp only [ByteArray.size_append]); (try simp only [show (ByteArray.mk #[97]).size = 1 from rfl, show (ByteArray.mk #[107]).size = 1 from rfl, show (ByteArray.mk #[118]).size = 1 from rfl, show (ByteArray.mk #[44]).size = 1 from rfl, show (ByteArray.mk #[41]).size = 1 from rfl, show (ByteArray.mk #[104, 40]).size = 2 from rfl, show (ByteArray.mk #[112, 40]).size = 2 from rfl, show (ByteArray.mk #[101, 40, 107]).size = 3 from rfl, show (ByteArray.mk #[115, 40, 107]).size = 3 from rfl]); omega) v
    have ad2 : ∀ v : World, (Op.stringOp .add (⟨#[115, 40, 107]⟩ ++ D) (⟨#[44]⟩)).run Tryz.prog v = .ok (.string ((⟨#[115, 40, 107]⟩ ++ D) ++ (⟨#[44]⟩))) v := fun v => add_ok (by (try simp only [ByteArray.size_append]); (try simp only [show (ByteArray.mk #[97]).size = 1 from rfl, show (ByteArray.mk #[107]).size = 1 from rfl, show (ByteArray.mk #[118]).size = 1 from rfl, show (ByteArray.mk #[44]).size = 1 from rfl, show (ByteArray.mk #[41]).size = 1 from rfl, show (ByteArray.mk #[104, 40]).size = 2 from rfl, show (ByteArray.mk #[112, 40]).size = 2 from rfl, show (ByteArray.mk #[101, 40, 107]).size = 3 from rfl, show (ByteArray.mk #[115, 40, 107]).size = 3 from rfl]); omega) v
    go_wp2_with fail
    refine (HIH.out w3 HD3.out.1).mono ?_
    rintro e w4 ⟨t4, hT4, rfl, hD4, hM4⟩
    have HD4 : Hid (Draw W a len cap R w4 ∧ Mut R w w4) := ⟨hD4, HD3.out.2.trans hM4⟩
    have HT4 : Hid (TD f t4) := hT4
    obtain ⟨X4, hX4⟩ : ∃ X, X = t4.txt := ⟨_, rfl⟩
    have hXs4 : X4.size ≤ 32000 := by rw [hX4]; exact hT4.small (by have := HF.out; omega)
    have HX4 : Hid (X4 = t4.txt) := hX4
    rw [← hX4]
    clear hX4 hT4 hD4 hM4
    have ad3 : ∀ v : World, (Op.stringOp .add ((⟨#[115, 40, 107]⟩ ++ D) ++ ⟨#[44]⟩) (X4)).run Tryz.prog v = .ok (.string (((⟨#[115, 40, 107]⟩ ++ D) ++ ⟨#[44]⟩) ++ (X4))) v := fun v => add_ok (by (try simp only [ByteArray.size_append]); (try simp only [show (ByteArray.mk #[97]).size = 1 from rfl, show (ByteArray.mk #[107]).size = 1 from rfl, show (ByteArray.mk #[118]).size = 1 from rfl, show (ByteArray.mk #[44]).size = 1 from rfl, show (ByteArray.mk #[41]).size = 1 from rfl, show (ByteArray.mk #[104, 40]).size = 2 from rfl, show (ByteArray.mk #[112, 40]).size = 2 from rfl, show (ByteArray.mk #[101, 40, 107]).size = 3 from rfl, show (ByteArray.mk #[115, 40, 107]).size = 3 from rfl]); omega) v
    have ad4 : ∀ v : World, (Op.stringOp .add (((⟨#[115, 40, 107]⟩ ++ D) ++ ⟨#[44]⟩) ++ X4) (⟨#[41]⟩)).run Tryz.prog v = .ok (.string ((((⟨#[115, 40, 107]⟩ ++ D) ++ ⟨#[44]⟩) ++ X4) ++ (⟨#[41]⟩))) v := fun v => add_ok (by (try simp only [ByteArray.size_append]); (try simp only [show (ByteArray.mk #[97]).size = 1 from rfl, show (ByteArray.mk #[107]).size = 1 from rfl, show (ByteArray.mk #[118]).size = 1 from rfl, show (ByteArray.mk #[44]).size = 1 from rfl, show (ByteArray.mk #[41]).size = 1 from rfl, show (ByteArray.mk #[104, 40]).size = 2 from rfl, show (ByteArray.mk #[112, 40]).size = 2 from rfl, show (ByteArray.mk #[101, 40, 107]).size = 3 from rfl, show (ByteArray.mk #[115, 40, 107]).size = 3 from rfl]); omega) v
    go_wp2
    go_ret
    exact ⟨⟨.inr (.inr (.inr (7, n, t4)))⟩, HT4.out.keyed (by omega) HN.out, by rw [Tr.txt, ← HX4.out, ← HDD.out]; rfl, HD4.out.1, HD4.out.2⟩
  · skip
    have ad1 : ∀ v : World, (Op.stringOp .add (⟨#[101, 40, 107]⟩) (D)).run Tryz.prog v = .ok (.string ((⟨#[101, 40, 107]⟩) ++ (D))) v := fun v => add_ok (by (try simp only [ByteArray.size_append]); (try simp only [show (ByteArray.mk #[97]).size = 1 from rfl, show (ByteArray.mk #[107]).size = 1 from rfl, show (ByteArray.mk #[118]).size = 1 from rfl, show (ByteArray.mk #[44]).size = 1 from rfl, show (ByteArray.mk #[41]).size = 1 from rfl, show (ByteArray.mk #[104, 40]).size = 2 from rfl, show (ByteArray.mk #[112, 40]).size = 2 from rfl, show (ByteArray.mk #[101, 40, 107]).size = 3 from rfl, show (ByteArray.mk #[115, 40, 107]).size = 3 from rfl]); omega) v
    have ad2 : ∀ v : World, (Op.stringOp .add (⟨#[101, 40, 107]⟩ ++ D) (⟨#[44]⟩)).run Tryz.prog v = .ok (.string ((⟨#[101, 40, 107]⟩ ++ D) ++ (⟨#[44]⟩))) v := fun v => add_ok (by (try simp only [ByteArray.size_append]); (try simp only [show (ByteArray.mk #[97]).size = 1 from rfl, show (ByteArray.mk #[107]).size = 1 from rfl, show (ByteArray.mk #[118]).size = 1 from rfl, show (ByteArray.mk #[44]).size = 1 from rfl, show (ByteArray.mk #[41]).size = 1 from rfl, show (ByteArray.mk #[104, 40]).size = 2 from rfl, show (ByteArray.mk #[112, 40]).size = 2 from rfl, show (ByteArray.mk #[101, 40, 107]).size = 3 from rfl, show (ByteArray.mk #[115, 40, 107]).size = 3 from rfl]); omega) v
    go_wp2_with fail
    refine (HIH.out w3 HD3.out.1).mono ?_
    rintro e w4 ⟨t4, hT4, rfl, hD4, hM4⟩
    have HD4 : Hid (Draw W a len cap R w4 ∧ Mut R w w4) := ⟨hD4, HD3.out.2.trans hM4⟩
    have HT4 : Hid (TD f t4) := hT4
    obtain ⟨X4, hX4⟩ : ∃ X, X = t4.txt := ⟨_, rfl⟩
    have hXs4 : X4.size ≤ 32000 := by rw [hX4]; exact hT4.small (by have := HF.out; omega)
    have HX4 : Hid (X4 = t4.txt) := hX4
    rw [← hX4]
    clear hX4 hT4 hD4 hM4
    have ad3 : ∀ v : World, (Op.stringOp .add ((⟨#[101, 40, 107]⟩ ++ D) ++ ⟨#[44]⟩) (X4)).run Tryz.prog v = .ok (.string (((⟨#[101, 40, 107]⟩ ++ D) ++ ⟨#[44]⟩) ++ (X4))) v := fun v => add_ok (by (try simp only [ByteArray.size_append]); (try simp only [show (ByteArray.mk #[97]).size = 1 from rfl, show (ByteArray.mk #[107]).size = 1 from rfl, show (ByteArray.mk #[118]).size = 1 from rfl, show (ByteArray.mk #[44]).size = 1 from rfl, show (ByteArray.mk #[41]).size = 1 from rfl, show (ByteArray.mk #[104, 40]).size = 2 from rfl, show (ByteArray.mk #[112, 40]).size = 2 from rfl, show (ByteArray.mk #[101, 40, 107]).size = 3 from rfl, show (ByteArray.mk #[115, 40, 107]).size = 3 from rfl]); omega) v
    have ad4 : ∀ v : World, (Op.stringOp .add (((⟨#[101, 40, 107]⟩ ++ D) ++ ⟨#[44]⟩) ++ X4) (⟨#[41]⟩)).run Tryz.prog v = .ok (.string ((((⟨#[101, 40, 107]⟩ ++ D) ++ ⟨#[44]⟩) ++ X4) ++ (⟨#[41]⟩))) v := fun v => add_ok (by (try simp only [ByteArray.size_append]); (try simp only [show (ByteArray.mk #[97]).size = 1 from rfl, show (ByteArray.mk #[107]).size = 1 from rfl, show (ByteArray.mk #[118]).size = 1 from rfl, show (ByteArray.mk #[44]).size = 1 from rfl, show (ByteArray.mk #[41]).size = 1 from rfl, show (ByteArray.mk #[104, 40]).size = 2 from rfl, show (ByteArray.mk #[112, 40]).size = 2 from rfl, show (ByteArray.mk #[101, 40, 107]).size = 3 from rfl, show (ByteArray.mk #[115, 40, 107]).size = 3 from rfl]); omega) v
    go_wp2
    go_ret
    exact ⟨⟨.inr (.inr (.inr (6, n, t4)))⟩, HT4.out.keyed (by omega) HN.out, by rw [Tr.txt, ← HX4.out, ← HDD.out]; rfl, HD4.out.1, HD4.out.2⟩
  · skip
    have ad1 : ∀ v : World, (Op.stringOp .add (⟨#[101, 40, 107]⟩) (D)).run Tryz.prog v = .ok (.string ((⟨#[101, 40, 107]⟩) ++ (D))) v := fun v => add_ok (by (try simp only [ByteArray.size_append]); (try simp only [show (ByteArray.mk #[97]).size = 1 from rfl, show (ByteArray.mk #[107]).size = 1 from rfl, show (ByteArray.mk #[118]).size = 1 from rfl, show (ByteArray.mk #[44]).size = 1 from rfl, show (ByteArray.mk #[41]).size = 1 from rfl, show (ByteArray.mk #[104, 40]).size = 2 from rfl, show (ByteArray.mk #[112, 40]).size = 2 from rfl, show (ByteArray.mk #[101, 40, 107]).size = 3 from rfl, show (ByteArray.mk #[115, 40, 107]).size = 3 from rfl]); omega) v
    have ad2 : ∀ v : World, (Op.stringOp .add (⟨#[101, 40, 107]⟩ ++ D) (⟨#[44]⟩)).run Tryz.prog v = .ok (.string ((⟨#[101, 40, 107]⟩ ++ D) ++ (⟨#[44]⟩))) v := fun v => add_ok (by (try simp only [ByteArray.size_append]); (try simp only [show (ByteArray.mk #[97]).size = 1 from rfl, show (ByteArray.mk #[107]).size = 1 from rfl, show (ByteArray.mk #[118]).size = 1 from rfl, show (ByteArray.mk #[44]).size = 1 from rfl, show (ByteArray.mk #[41]).size = 1 from rfl, show (ByteArray.mk #[104, 40]).size = 2 from rfl, show (ByteArray.mk #[112, 40]).size = 2 from rfl, show (ByteArray.mk #[101, 40, 107]).size = 3 from rfl, show (ByteArray.mk #[115, 40, 107]).size = 3 from rfl]); omega) v
    go_wp2_with fail
    refine (HIH.out w3 HD3.out.1).mono ?_
    rintro e w4 ⟨t4, hT4, rfl, hD4, hM4⟩
    have HD4 : Hid (Draw W a len cap R w4 ∧ Mut R w w4) := ⟨hD4, HD3.out.2.trans hM4⟩
    have HT4 : Hid (TD f t4) := hT4
    obtain ⟨X4, hX4⟩ : ∃ X, X = t4.txt := ⟨_, rfl⟩
    have hXs4 : X4.size ≤ 32000 := by rw [hX4]; exact hT4.small (by have := HF.out; omega)
    have HX4 : Hid (X4 = t4.txt) := hX4
    rw [← hX4]
    clear hX4 hT4 hD4 hM4
    have ad3 : ∀ v : World, (Op.stringOp .add ((⟨#[101, 40, 107]⟩ ++ D) ++ ⟨#[44]⟩) (X4)).run Tryz.prog v = .ok (.string (((⟨#[101, 40, 107]⟩ ++ D) ++ ⟨#[44]⟩) ++ (X4))) v := fun v => add_ok (by (try simp only [ByteArray.size_append]); (try simp only [show (ByteArray.mk #[97]).size = 1 from rfl, show (ByteArray.mk #[107]).size = 1 from rfl, show (ByteArray.mk #[118]).size = 1 from rfl, show (ByteArray.mk #[44]).size = 1 from rfl, show (ByteArray.mk #[41]).size = 1 from rfl, show (ByteArray.mk #[104, 40]).size = 2 from rfl, show (ByteArray.mk #[112, 40]).size = 2 from rfl, show (ByteArray.mk #[101, 40, 107]).size = 3 from rfl, show (ByteArray.mk #[115, 40, 107]).size = 3 from rfl]); omega) v
    have ad4 : ∀ v : World, (Op.stringOp .add (((⟨#[101, 40, 107]⟩ ++ D) ++ ⟨#[44]⟩) ++ X4) (⟨#[41]⟩)).run Tryz.prog v = .ok (.string ((((⟨#[101, 40, 107]⟩ ++ D) ++ ⟨#[44]⟩) ++ X4) ++ (⟨#[41]⟩))) v := fun v => add_ok (by (try simp only [ByteArray.size_append]); (try simp only [show (ByteArray.mk #[97]).size = 1 from rfl, show (ByteArray.mk #[107]).size = 1 from rfl, show (ByteArray.mk #[118]).size = 1 from rfl, show (ByteArray.mk #[44]).size = 1 from rfl, show (ByteArray.mk #[41]).size = 1 from rfl, show (ByteArray.mk #[104, 40]).size = 2 from rfl, show (ByteArray.mk #[112, 40]).size = 2 from rfl, show (ByteArray.mk #[101, 40, 107]).size = 3 from rfl, show (ByteArray.mk #[115, 40, 107]).size = 3 from rfl]); omega) v
    go_wp2
    go_ret
    exact ⟨⟨.inr (.inr (.inr (6, n, t4)))⟩, HT4.out.keyed (by omega) HN.out, by rw [Tr.txt, ← HX4.out, ← HDD.out]; rfl, HD4.out.1, HD4.out.2⟩

/-- r.term -/
theorem drTerm_any (hU : IsU8 W a len cap Z) : ∀ (f : Nat), f ≤ 4 → ∀ (w : World), Draw W a len cap R w → Calls Tryz.prog 32 #[.pointer (some ⟨R, 0, none⟩), .int .i64 (f : Int)] w fun e w' => ∃ t : Tr, TD f t ∧ e = .returned (.string t.txt) ∧ Draw W a len cap R w' ∧ Mut R w w'
  | 0, _, w, h => drZero hU w h
  | f + 1, hf, w, h => drSucc hU f (by omega) (fun w h => drTerm_any hU f (by omega) w h) w h
end
end Go.Proofs.YtpcbhjejpebogaaGreatDoor

namespace Go.Proofs.YtpcbhjejpebogaaGreatDoor
open Go.RowKit Go.Maps
set_option linter.unusedVariables false

/-- texts of drawn terms -/
def KLow (L : List (List UInt8)) : Prop := ∀ x, x ∈ L → ∃ t : Tr, TD 3 t ∧ t.txt.toList = x
theorem LL_atL (L : List (List UInt8)) : LL (atL L) L.length = L := by
  apply List.ext_getElem
  · rw [LL_len]
  · intro i h1 h2
    rw [LL_len] at h1
    have e := LL_at (atL L) h1
    rw [atL_list] at e
    simp only [List.getD, List.getElem?_eq_getElem h2, Option.getD_some] at e
    rw [List.getElem?_eq_getElem (by rw [LL_len]; exact h1), Option.getD_some] at e
    exact e
theorem KLow.sizes {L : List (List UInt8)} (h : KLow L) : ∀ i, i < L.length → (atL L i).size ≤ 1048576 := by
  intro i hi
  have hm : L.getD i [] ∈ L := by
    simp only [List.getD, List.getElem?_eq_getElem hi, Option.getD_some]
    exact List.getElem_mem hi
  obtain ⟨t, ht, e⟩ := h _ hm
  have h1 := ht.small (by omega)
  rw [← atL_list, ByteArray.toList_eq, ByteArray.toList_eq] at e
  have h2 : t.txt = atL L i := ByteArray.ext (Array.ext' e)
  rw [← h2]
  omega
theorem KLow.put {L : List (List UInt8)} {t : Tr} (h : KLow L) (ht : TD 3 t) : KLow (putL L t.txt.toList) := fun x hx => by
  rcases (putL_mem _ _ _).1 hx with h1 | rfl
  · exact h x h1
  · exact ⟨t, ht, rfl⟩
theorem putL_nonempty (s : List UInt8) (L : List (List UInt8)) : putL L s ≠ [] := fun e => by
  have h : s ∈ putL L s := (putL_mem _ _ _).2 (.inr rfl)
  rw [e] at h
  cases h
theorem OwnS.mut {w w' : World} {base g c R : Nat} {L : List (List UInt8)} (h : OwnS w base g c L) (hM : Mut R w w') (hR : R < base) : OwnS w' base g c L :=
  OwnL.kept (p := fun k => k ≠ R) (v := .slice (some ⟨g, 0, none⟩) L.length c) h ⟨hM.os, hM.tape, hM.output, hM.size, hM.block⟩ (fun b hb => by omega)
theorem Draw.grown {W : World} {a : Option Addr} {len cap R : Nat} {w w' : World} {row : Option Nat} (h : Draw W a len cap R w) (hg : w.grownBy w' row) (hr : ∀ k, row = some k → R < k) : Draw W a len cap R w' := by
  obtain ⟨p, hp, hb⟩ := h.box
  have hN := h.new
  exact ⟨h.bel.grown hg h.bel.size (fun k hk => by have := hr k hk; omega), h.new, p, hp, (hg.block R (lt_of_block hb) (fun e => by have := hr R e.symm; omega)).trans hb⟩
theorem a1_txt : (⟨.inl (1, 1)⟩ : Tr).txt = ⟨#[97, 49]⟩ := by
  rw [Tr.txt]
  decide +kernel

section
variable {W : World} {a : Option Addr} {len cap R : Nat} {Z : Nat → Int}
set_option maxRecDepth 8000 in
set_option maxHeartbeats 8000000 in
theorem drKnown_any (hU : IsU8 W a len cap Z) (w : World) (h : Draw W a len cap R w) :
    Calls Tryz.prog 30 #[.pointer (some ⟨R, 0, none⟩), .int .i64 7] w fun e w' => ∃ g c L, e = .returned (.slice (some ⟨g, 0, none⟩) L.length c) ∧ OwnS w' (R + 1) g c L ∧ L.length ≤ 8 ∧ KLow L ∧ Draw W a len cap R w' := by
  obtain ⟨i0, hi, hz0, hz1, hz2⟩ := info_parts info9
  have hRw : R < w.heap.size := h.lt
  have hD1 : Draw W a len cap R (w.alloc (.cells #[] 9)) := h.alloc _
  have HG1 : Hid ((w.alloc (.cells #[] 9)).heap[w.heap.size]? = some (.cells #[] 9 (0, 0))) := heap_alloc_new w _
  have HTM : Hid (∀ (v : World), Draw W a len cap R v → Calls Tryz.prog 32 #[.pointer (some ⟨R, 0, none⟩), .int .i64 3] v fun e w' => ∃ t : Tr, TD 3 t ∧ e = .returned (.string t.txt) ∧ Draw W a len cap R w' ∧ Mut R v w') := fun v hv => drTerm_any hU 3 (by omega) v hv
  have HRW : Hid (R < w.heap.size) := hRw
  clear h hRw
  go_enter Tryz.func30, Tryz.ntmps30
  go_wp2_with fail
  refine (below_any hU 8 (by omega) (by omega) _ hD1).mono ?_
  rintro e w1 ⟨x, hx0, hx1, rfl, hD2, hM2⟩
  have HO1 : Hid (OwnS w1 (R + 1) w.heap.size 0 []) := by
    show OwnS _ _ _ _ _
    refine ⟨rfl, .inr ⟨w.heap.size, 0, #[], rfl, by have := HRW.out; omega, ?_, Nat.le_refl _, Nat.zero_le _, rfl, rfl⟩⟩
    exact (hM2.block w.heap.size (by simp) (by have := HRW.out; omega)).trans HG1.out
  obtain ⟨n, rfl⟩ : ∃ n : Nat, x = (n : Int) := ⟨x.toNat, by omega⟩
  have hn : n ≤ 7 := by omega
  have HD2 : Hid (Draw W a len cap R w1) := hD2
  clear hD1 hD2 hM2 hx0 hx1
  go_wp2
  go_loopw [5, 6] (fun v i wr => ∃ (k g c : Nat) (L : List (List UInt8)), k ≤ 7 ∧ i = .int .i64 k ∧ v = .slice (some ⟨g, 0, none⟩) L.length c ∧ Hid (OwnS wr (R + 1) g c L ∧ L.length + k ≤ 7 ∧ KLow L) ∧ Draw W a len cap R wr) (fun _ i _ => (intOf i).toNat)
  case atStart => exact ⟨n, w.heap.size, 0, [], hn, rfl, rfl, ⟨HO1.out, by simpa using hn, fun x hx => by cases hx⟩, HD2.out⟩
  case round =>
    obtain ⟨k, g, c, L, hk, rfl, rfl, HL, hD⟩ := hrel
    have HD : Hid (Draw W a len cap R wr) := hD
    clear hD
    by_cases h0 : 0 < k
    · have h0I : (0 : Int) < (k : Int) := by omega
      obtain ⟨m, hm⟩ : ∃ m, m = L.length := ⟨_, rfl⟩
      have HM : Hid (m = L.length) := hm
      rw [← hm]
      clear hm
      go_wp2_with fail
      refine (HTM.out wr HD.out).mono ?_
      rintro e w3 ⟨t, hT, rfl, hD3, hM3⟩
      have HO3 : Hid (OwnS w3 (R + 1) g c L) := HL.out.1.mut hM3 (by omega)
      have HD3 : Hid (Draw W a len cap R w3) := hD3
      have HT : Hid (TD 3 t) := hT
      obtain ⟨X, hX⟩ : ∃ X, X = t.txt := ⟨_, rfl⟩
      have HX : Hid (X = t.txt) := hX
      rw [← hX]
      have HLn : Hid (Calls Tryz.prog 10 #[.slice (some ⟨g, 0, none⟩) m c, .string X] w3 fun e w' => ∃ v, e = .returned (.tuple #[v, .bool (lrB (atL L) m X)]) ∧ OwnL w' w3.heap.size v (lrR (atL L) m X) ∧ Below w3.heap.size w3 w') := by
        rw [HM.out]
        exact specLearned_any g L.length c (atL L) X w3 HO3.out.strs HO3.out.lies.2.1 (by have := HL.out.2.1; omega) HL.out.2.2.sizes (by have := hT.small (by omega); rw [hX]; omega)
      clear hT hD3 hM3 hX
      go_wp2_with fail
      refine HLn.out.mono ?_
      rintro e w4 ⟨v, rfl, ho, hB4⟩
      have HD4 : Hid (Draw W a len cap R w4) := HD3.out.below hB4
      have HO4 : Hid (OwnS w4 (R + 1) g c L) := HO3.out.below hB4
      obtain ⟨b, hb⟩ : ∃ b, b = lrB (atL L) m X := ⟨_, rfl⟩
      rw [← hb]
      cases b with
      | false =>
        clear hb ho hB4
        go_wp2
        go_roundw
        case rel => exact ⟨k - 1, g, c, L, by omega, (by rw [show ((k - 1 : Nat) : Int) = (k : Int) - 1 by omega]), by rw [HM.out], ⟨HO4.out, by have := HL.out.2.1; omega, HL.out.2.2⟩, HD4.out⟩
        case measure => simp [intOf]; omega
      | true =>
        have hr : lrR (atL L) m X = putL L X.toList := by
          unfold lrR
          rw [if_pos hb.symm, HM.out, LL_atL]
        rw [hr] at ho
        have hR4 : R + 1 ≤ w3.heap.size := HD3.out.lt
        obtain ⟨g', c', rfl, hf⟩ := own_form (mono_base ho hR4) (L := putL L X.toList) rfl rfl (fun e => by
          have h1 := ho
          unfold OwnL at h1
          rw [e] at h1
          rcases h1.2 with ⟨_, h2⟩ | ⟨g2, c2, cur, h2, _⟩
          · exact putL_nonempty X.toList L (List.eq_nil_of_length_eq_zero h2)
          · cases h2)
        have HN : Hid (OwnS w4 (R + 1) g' c' (putL L X.toList) ∧ (putL L X.toList).length + (k - 1) ≤ 7 ∧ KLow (putL L X.toList)) := ⟨hf, by have h1 := putL_len X.toList L; have h2 := HL.out.2.1; omega, by rw [HX.out]; exact HL.out.2.2.put HT.out⟩
        clear hb hr ho hB4 hf hR4
        obtain ⟨L2, hL2⟩ : ∃ L2, L2 = putL L X.toList := ⟨_, rfl⟩
        rw [← hL2] at HN ⊢
        clear hL2
        go_wp2
        go_roundw
        case rel => exact ⟨k - 1, g', c', L2, by omega, (by rw [show ((k - 1 : Nat) : Int) = (k : Int) - 1 by omega]), rfl, HN, HD4.out⟩
        case measure => simp [intOf]; omega
    · have hk0 : k = 0 := by omega
      subst hk0
      obtain ⟨m, hm⟩ : ∃ m, m = L.length := ⟨_, rfl⟩
      have HM : Hid (m = L.length) := hm
      rw [← hm]
      have hm7 : m ≤ 7 := by have := HL.out.2.1; omega
      clear hm
      go_wp2_with fail
      refine (once_any hU 30 (by omega) (by omega) wr HD.out).mono ?_
      rintro e w3 ⟨x, rfl, hD3, hM3⟩
      have HO3 : Hid (OwnS w3 (R + 1) g c L) := HL.out.1.mut hM3 (by omega)
      have HD3 : Hid (Draw W a len cap R w3) := hD3
      clear hD3 hM3
      cases x with
      | false =>
        go_wp2
        go_ret
        exact ⟨g, c, L, by rw [HM.out]; rfl, HO3.out, by have := HL.out.2.1; omega, HL.out.2.2, HD3.out⟩
      | true =>
        have HO3' : Hid (w3.ownsRow (R + 1) 9 1 (.slice (some ⟨g, 0, none⟩) m c) m (L.map encStr)) := by
          have h1 := HO3.out
          unfold OwnS at h1
          rw [← HM.out] at h1
          exact h1
        have hc1 : (m + 1 : Nat) ≤ maxLen := by unfold maxLen; omega
        have hc2 : (m + 1) * 16 ≤ 140737488355328 := by omega
        go_wp2_with (at_builtin; refine wpList_append_own _ rfl _ _ 24 rfl (R + 1) 9 i0 (.string ⟨#[]⟩) 1 16 Tryz.underlying24 hi hz0 hz1 hz2 rfl (by decide) _ m _ rfl (HO3'.out.alloc _) ⟨w3.heap.size, 0, none⟩ 1 1 [.string ⟨#[97, 49]⟩] rfl rfl (World.news_of_block (heap_alloc_new _ _)) (fun u hu => by simp at hu; subst hu; rfl) hc1 hc2 (by have := HD3.out.lt; simp; omega) ?_; intro v4 w4 hown4 hgrow4 hnil4)
        obtain ⟨g4, gc4, rfl, hf4⟩ := own_form hown4 (L := L ++ [(⟨.inl (1, 1)⟩ : Tr).txt.toList]) (by rw [List.length_append, HM.out]; rfl) (by rw [List.map_append, List.map_cons, List.map_nil, enc_str, a1_txt]) (fun e => by have := (hnil4.1 e).1; cases this)
        have HD4 : Hid (Draw W a len cap R w4) := (HD3.out.alloc _).grown hgrow4 (fun k hk => by have := (HO3'.out.lt k hk).1; omega)
        go_ret
        exact ⟨g4, gc4, _, rfl, hf4, by rw [List.length_append, ← HM.out]; simp; omega, fun x hx => by
          rcases List.mem_append.1 hx with h1 | h1
          · exact HL.out.2.2 x h1
          · exact ⟨⟨.inl (1, 1)⟩, TD.leaf (.inl rfl) (by omega), (List.mem_singleton.1 h1).symm⟩, HD4.out⟩
end
end Go.Proofs.YtpcbhjejpebogaaGreatDoor

namespace Go.Proofs.YtpcbhjejpebogaaGreatDoor
open Go.RowKit Go.Maps
set_option linter.unusedVariables false

theorem bigD_any (a : Option Addr) (len cap : Nat) (w : World) : Calls Tryz.prog 6 #[.slice a len cap] w fun e w' => e = .returned (.bool (decide ((1048576 : Int) < (len : Int)))) ∧ w' = w := by
  go_enter Tryz.func6, Tryz.ntmps6
  go_wp2
  go_ret
  exact ⟨rfl, rfl⟩
theorem openD_any (a : Option Addr) (len cap : Nat) (w : World) : Calls Tryz.prog 29 #[.slice a len cap] w fun e w' => e = .returned (.pointer (some ⟨w.heap.size, 0, none⟩)) ∧ Draw w a len cap w.heap.size w' := by
  go_enter Tryz.func29, Tryz.ntmps29
  go_wp2
  go_ret
  exact ⟨rfl, (Below.refl _ _).alloc (Nat.le_refl _) _, Nat.le_refl _, 0, Nat.zero_le _, heap_alloc_new w _⟩

end Go.Proofs.YtpcbhjejpebogaaGreatDoor

namespace Go.Proofs.YtpcbhjejpebogaaGreatDoor
open Go.ChangeShapes Go.WideShapes Go.ChangeAt Go.RowKit Go.Deep
set_option linter.unusedVariables false



theorem cellsU8 : Tryz.prog.cellsOf 5 = 1 := by kernel_rfl

/-- a slice of bytes that came in reads as bytes -/
theorem open_u8 {H : Type} {enc : TypeId × Value → H} {W : World} {n : Nat} {v : Value} {x : DataW H × List MemPlace} (h : DataW.trod enc Tryz.prog W 0 (fun _ => true) true n 22 [v] = some x) :
    ∃ a len cap Z, v = .slice a len cap ∧ IsU8 W a len cap Z := by
  rcases open_ints Tryz.underlying22 Tryz.underlying5 cellsU8 h with ⟨hcs, _⟩ | ⟨a, l, c, zs, hcs, _, hl, hm, hz, _, hcell, hwz⟩
  · simp at hcs
    exact ⟨none, 0, 0, fun _ => 0, hcs, Nat.le_refl _, by omega, fun _ => by simp, fun h => absurd h (by omega)⟩
  · simp at hcs
    have hrg : ∀ i, 0 ≤ zs.getD i 0 ∧ zs.getD i 0 ≤ 255 := by
      intro i
      by_cases hi : i < zs.length
      · have hw := hwz (zs.getD i 0) (by simp [List.getD, List.getElem?_eq_getElem hi])
        simpa [Lit.wf, IntKind.min, IntKind.max, IntKind.signed, IntKind.bits] using hw
      · rw [List.getD, List.getElem?_eq_none (by omega)]
        simp
    refine ⟨some a, l, c, fun i => zs.getD i 0, hcs, hl, by unfold maxLen at hm; omega, hrg, fun hp => ?_⟩
    obtain ⟨b, off, spot⟩ := a
    have hc0 := hcell 0 (by simp at hz; omega)
    have hspot : spot = none := by simpa [Addr.add] using World.cell?_spot hc0
    subst hspot
    refine ⟨b, off, rfl, ?_, fun i hi => ?_⟩
    · rcases Nat.lt_or_ge b W.heap.size with h' | h'
      · exact h'
      · simp [Addr.add, World.cell?, Array.getElem?_eq_none h'] at hc0
    · have := hcell i (by simp at hz; omega)
      rw [add_plain] at this
      exact this

end Go.Proofs.YtpcbhjejpebogaaGreatDoor
