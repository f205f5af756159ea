/-
  A tally as a list; what all have, plainly. No condition.
-/
import Derived.Test.YtjnngncnfbdpkaaRwL
import Derived.Handy
namespace Go.Proofs.Ytjnngncnfbdpkaa
open Go.RowKit Go.Maps
set_option linter.unusedVariables false

def lst9 (X : Nat → Int) : List Int := (List.range 9).map X
theorem lst9_len (X : Nat → Int) : (lst9 X).length = 9 := by unfold lst9; simp
theorem arr9_list (X : Nat → Int) : (arr9 X).toList = (lst9 X).map (.int .i64 ·) := by
  unfold arr9 copyTo lst9
  rw [List.map_map]
  refine List.map_congr_left fun i hi => ?_
  rw [if_pos (List.mem_range.1 hi)]
  rfl
theorem tl_arr {cs : List Int} (h : cs.length = 9) : tlC cs = arr9 (fun i => cs.getD i 0) := (copy_arr h).symm

theorem nilS (a : Addr) (n c : Nat) (w : World) : (binOp .eql 36 (.slice (some a) n c) (.slice none 0 0)).run Try.prog w = .ok (.bool false) w := by kernel_rfl

set_option maxHeartbeats 1000000 in
theorem clone_any (b c : Nat) (X : Nat → Int) (w : World) (hb : w.heap[b]? = some (.cells (arr9 X) 52)) :
    Calls Try.prog 46 #[.slice (some ⟨b, 0, none⟩) 9 9] w fun e w' => ∃ v, e = .returned v ∧ OwnI w' w.heap.size v (lst9 X) ∧ Below w.heap.size w w' := by
  obtain ⟨i0, hi, hz0, hz1, hz2⟩ := info_parts infoI
  have HM : Hid (∀ j u, ((lst9 X).map (Value.int .i64 ·))[j]? = some u → (w.alloc (.cells #[] 2)).cell? ((⟨b, 0, none⟩ : Addr).add j) = some u) := fun j u hu => by
    have hbl := lt_of_block hb
    have hb' : (w.alloc (.cells #[] 2)).heap[b]? = some (.cells (arr9 X) 52) := by rw [Below.heap_alloc _ _ _ hbl]; exact hb
    have e : (⟨b, 0, none⟩ : Addr).add j = ⟨b, j, none⟩ := by unfold Addr.add; split <;> simp_all
    rw [e, cellN hb', ← hu, ← arr9_list]
    simp
  have HO0 : Hid (OwnI (w.alloc (.cells #[] 2)) w.heap.size (.slice (some ⟨w.heap.size, 0, none⟩) 0 0) []) := World.ownsRow_made w #[] 0 (Nat.le_refl _) (by decide) rfl
  have HB0 : Hid (Below w.heap.size w (w.alloc (.cells #[] 2))) := (Below.refl _ _).alloc (Nat.le_refl _) _
  have HLL : Hid (((lst9 X).map (Value.int .i64 ·)).length = 9 * 1) := by show _ = _; rw [List.length_map, lst9_len]
  have HMX : Hid (0 + 9 ≤ maxLen ∧ (0 + 9) * 8 ≤ 140737488355328) := ⟨by unfold maxLen; omega, by omega⟩
  clear hb
  have hnn := nilS ⟨b, 0, none⟩ 9 9
  go_enter Try.func46, Try.ntmps46
  go_wp2_with (at_builtin; refine wpList_append_own _ rfl _ _ 36 rfl w.heap.size 2 i0 (.int .i64 0) 1 8 Try.underlying36 hi hz0 hz1 hz2 rfl (by decide) _ 0 [] rfl HO0.out ⟨b, 0, none⟩ 9 9 ((lst9 X).map (.int .i64 ·)) rfl HLL.out HM.out (by intro u hu; obtain ⟨z, _, rfl⟩ := List.mem_map.1 hu; rfl) HMX.out.1 HMX.out.2 HB0.out.size ?_; intro v4 w4 hown4 hgrow4 hnil4)
  have HF : Hid (OwnI w4 w.heap.size v4 (lst9 X) ∧ Below w.heap.size w w4) := by
    refine ⟨?_, HB0.out.grown hgrow4 HB0.out.size (fun x hx => (World.ownsRow.lt HO0.out x hx).1)⟩
    unfold OwnI
    rw [lst9_len]
    exact hown4
  clear hown4 hgrow4 hnil4
  go_wp2
  go_ret
  exact ⟨_, rfl, HF.out.1, HF.out.2⟩

set_option maxHeartbeats 1000000 in
theorem list_any (X : Nat → Int) (w : World) :
    Calls Try.prog 30 #[.agg (arr9 X)] w fun e w' => ∃ v, e = .returned v ∧ OwnI w' w.heap.size v (lst9 X) ∧ Below w.heap.size w w' := by
  obtain ⟨p, hp⟩ : ∃ p, p = arr9 X := ⟨_, rfl⟩
  rw [← hp]
  have HP : Hid (p = arr9 X) := hp
  clear hp
  have HB : Hid (Below w.heap.size w (w.alloc (.cells p 52))) := (Below.refl _ _).alloc (Nat.le_refl _) _
  have HG : Hid ((w.alloc (.cells p 52)).heap[w.heap.size]? = some (.cells (arr9 X) 52)) := by rw [← HP.out]; exact heap_alloc_new _ _
  go_enter Try.func30, Try.ntmps30
  go_wp2_with fail
  refine (clone_any w.heap.size 9 X _ HG.out).mono ?_
  rintro e w1 ⟨v, rfl, hO, hB⟩
  have HF : Hid (OwnI w1 w.heap.size v (lst9 X) ∧ Below w.heap.size w w1) := ⟨hO.base HB.out.size, HB.out.trans (hB.mono HB.out.size)⟩
  clear hO hB
  go_wp2
  go_ret
  exact ⟨_, rfl, HF.out.1, HF.out.2⟩

/-- the numbers of one -/
def fZ (L : List Rw) (z : Int) : Nat → Int := fun k => (ofR L z).getD k 0
/-- the least of the first j of these, at place k -/
def stT (L : List Rw) (who : List Int) (j : Nat) : Nat → Int := fun k => ((who.take j).map fun z => fZ L z k).foldl min 1000000
theorem stT_succ (L : List Rw) (who : List Int) {j : Nat} (h : j < who.length) (k : Nat) : stT L who (j + 1) k = min (stT L who j k) (fZ L (who.getD j 0) k) := by
  unfold stT
  rw [List.take_add_one, List.map_append, List.foldl_append]
  have : who[j]?.toList = [who.getD j 0] := by simp [h]
  rw [this]
  rfl
def stB (L : List Rw) (who : List Int) : Bool := rowsB L && (decide (1 ≤ who.length) && decide (who.length ≤ 9))
def stR (L : List Rw) (who : List Int) : List Int := if stB L who = true then lst9 (stT L who who.length) else []
theorem stR_len (L : List Rw) (who : List Int) : (stR L who).length ≤ 9 := by
  unfold stR
  split
  · rw [lst9_len]; omega
  · simp
theorem rowsB_cs {L : List Rw} (h : rowsB L = true) {x : Rw} (hx : x ∈ L) : csB x.cs = true := by
  obtain ⟨i, hi, rfl⟩ := List.getElem_of_mem hx
  have := allB_at h hi
  unfold okR at this
  simp only [Bool.and_eq_true] at this
  have e : L.getD i rwZ = L[i] := by simp [hi]
  rw [e] at this
  exact this.2
theorem csB_z9 : csB z9 = true := by decide
theorem ofR_ok {L : List Rw} (h : rowsB L = true) (z : Int) : csB (ofR L z) = true := by
  unfold ofR lookR
  cases hq : L.find? (fun x => x.who == z) with
  | none => exact csB_z9
  | some x => exact rowsB_cs h (List.mem_of_find?_eq_some hq)
theorem csB_len {cs : List Int} (h : csB cs = true) : cs.length = 9 := by
  unfold csB at h
  simp only [Bool.and_eq_true, decide_eq_true_eq] at h
  exact h.1
theorem fZ_le {L : List Rw} (h : rowsB L = true) (z : Int) {k : Nat} (hk : k < 9) : 0 ≤ fZ L z k ∧ fZ L z k ≤ 1000000 := by
  have h1 := ofR_ok h z
  have h2 := csB_len h1
  unfold csB at h1
  simp only [Bool.and_eq_true] at h1
  have := allB_at h1.2 (show k < (ofR L z).length by omega)
  unfold cAt inB at this
  simp only [Bool.and_eq_true, decide_eq_true_eq] at this
  exact this
theorem stT_le (L : List Rw) (who : List Int) (k : Nat) : ∀ j, j ≤ who.length → stT L who j k ≤ 1000000
  | 0, _ => Int.le_refl _
  | j + 1, h => by
    rw [stT_succ L who (by omega)]
    have := stT_le L who k j (by omega)
    omega
theorem Tb.look9 {w : World} {B c : Nat} {E : DataW Value} {L : List Rw} (h : Tb w B c E (lookR L)) (hr : rowsB L = true) {z : Int} (hz : (Lit.int .i64 z).wf = true) :
    (Instr.lookup 48 (.map (some B)) (.int .i64 z) false).run Try.prog w = .ok (.agg (arr9 (fZ L z))) w := by
  rw [h.look hz]
  show _ = Result.ok (Value.agg (arr9 fun k => (ofR L z).getD k 0)) w
  rw [← tl_arr (csB_len (ofR_ok hr z))]
  rfl
end Go.Proofs.Ytjnngncnfbdpkaa
