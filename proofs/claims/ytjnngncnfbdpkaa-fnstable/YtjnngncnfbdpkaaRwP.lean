/-
  Rows: is there one, the greater of two tallies, marks that are held, a row more. No condition but that the slices read.
-/
import Derived.Test.YtjnngncnfbdpkaaRwX
import Derived.Test.YtjnngncnfbdpkaaRwM
import Derived.StillTailTactics
namespace Go.Proofs.Ytjnngncnfbdpkaa
open Go.RowKit Go.Maps
set_option linter.unusedVariables false

/-- is there a row of one -/
def isR (L : List Rw) (z : Int) : Bool := (lookR L z).isSome

set_option maxRecDepth 10000 in
set_option maxHeartbeats 2000000 in
theorem is_any (v : Value) (L : List Rw) (z : Int) (w : World) (h : RdR w v L) :
    Calls Try.prog 23 #[v, .int .i64 z] w fun e w' => e = .returned (.bool (isR L z)) ∧ Below w.heap.size w w' := by
  obtain ⟨a, cap, rfl, hlc, hcm, hc⟩ := h
  obtain ⟨n, hn⟩ : ∃ n, n = L.length := ⟨_, rfl⟩
  have HN : Hid (n = L.length) := hn
  rw [← hn] at hlc hc ⊢
  clear hn
  go_enter Try.func23, Try.ntmps23
  go_wp2
  go_loopw [5] (fun i wr => ∃ (k : Nat), k ≤ n ∧ i = .int .i64 k ∧ Hid (∀ j, j < k → (L.getD j rwZ).who ≠ z) ∧ Hid (Below w.heap.size w wr)) (fun i _ => n - (intOf i).toNat)
  case atStart => exact ⟨0, Nat.zero_le _, rfl, fun j hj => absurd hj (Nat.not_lt_zero _), Below.refl _ _⟩
  case round =>
    obtain ⟨k, hk, rfl, HA, HB⟩ := hrel
    by_cases hlt : k < n
    · have hltI : (k : Int) < (n : Int) := by omega
      obtain ⟨b, off, rfl, hbs, hcell⟩ := hc (by omega)
      obtain ⟨c0, u, c1, c2⟩ := hcell k hlt
      have d0 := (HB.out.cell (p := ⟨b, off + k * 2, none⟩) hbs).trans c0
      obtain ⟨y, hy⟩ : ∃ y, y = L.getD k rwZ := ⟨_, rfl⟩
      rw [← hy] at d0
      have HY : Hid (y = L.getD k rwZ) := hy
      clear hcell hc c0 c1 c2 hy
      by_cases he : y.who = z
      · have heb : (y.who == z) = true := by simpa using he
        have HF : Hid (true = isR L z) := by
          show _ = _
          unfold isR
          rw [lookR_yes (k := k) (by rw [← HN.out]; exact hlt) HA.out (by rw [← HY.out]; exact he)]
          rfl
        clear he
        go_wp2
        go_ret
        exact ⟨ret_bool HF.out, HB.out⟩
      · have heb : (y.who == z) = false := by simpa using he
        have HA' : Hid (∀ j, j < k + 1 → (L.getD j rwZ).who ≠ z) := fun j hj => by
          rcases Nat.lt_succ_iff_lt_or_eq.1 hj with h1 | rfl
          · exact HA.out j h1
          · rw [← HY.out]; exact he
        clear he
        go_wp2
        go_roundw
        case rel => exact ⟨k + 1, by omega, by go_num, HA', HB⟩
        case measure => simp [intOf]; omega
    · have hke : k = n := by omega
      subst hke
      have HO : Hid (false = isR L z) := by show _ = _; unfold isR; rw [lookR_no (by rw [← HN.out]; exact HA.out)]; rfl
      clear hc
      go_wp2
      go_ret
      exact ⟨ret_bool HO.out, HB.out⟩

set_option maxRecDepth 10000 in
set_option maxHeartbeats 4000000 in
theorem heldRows_any (v : Value) (L : List Rw) (s : Nat) (w : World) (h : RdR w v (mixR s L L.length)) (hl : L.length ≤ 1048576) (hcs : ∀ i, i < L.length → (L.getD i rwZ).cs.length ≤ 1048576) (hs : s ≤ 1000) (hoff : ∀ i, i ≤ L.length → offR L i ≤ 1099512700000) :
    Calls Try.prog 12 #[v, .int .i64 (s : Int)] w fun e w' => e = .returned (.int .i64 ((s + offR L L.length : Nat) : Int)) ∧ Below w.heap.size w w' := by
  obtain ⟨a, cap, rfl, hlc, hcm, hc⟩ := h
  rw [mixR_len] at hlc hc ⊢
  obtain ⟨n, hn⟩ : ∃ n, n = L.length := ⟨_, rfl⟩
  have HN : Hid (n = L.length) := hn
  have HCS : Hid (∀ i, i < n → (L.getD i rwZ).cs.length ≤ 1048576) := by rw [hn]; exact hcs
  have HOF : Hid (∀ i, i ≤ n → offR L i ≤ 1099512700000) := by rw [hn]; exact hoff
  rw [← hn] at hlc hc hl ⊢
  clear hn hcs hoff
  go_enter Try.func12, Try.ntmps12
  go_wp2
  go_loopw [1, 5] (fun x i wr => ∃ (k : Nat), k ≤ n ∧ i = .int .i64 k ∧ x = .int .i64 ((s + offR L k : Nat) : Int) ∧ Hid (Below w.heap.size w wr)) (fun _ i _ => n - (intOf i).toNat)
  case atStart => exact ⟨0, Nat.zero_le _, rfl, rfl, Below.refl _ _⟩
  case round =>
    obtain ⟨k, hk, rfl, rfl, HB⟩ := hrel
    by_cases hlt : k < n
    · have hltI : (k : Int) < (n : Int) := by omega
      obtain ⟨b, off, rfl, hbs, hcell⟩ := hc (by omega)
      obtain ⟨c0, u, c1, c2⟩ := hcell k hlt
      have hkL : k < L.length := by rw [← HN.out]; exact hlt
      rw [mixR_at _ _ _ hkL, if_pos hlt] at c0 c2
      have d0 := (HB.out.cell (p := ⟨b, off + k * 2, none⟩) hbs).trans c0
      have d1 := (HB.out.cell (p := ⟨b, off + k * 2 + 1, none⟩) hbs).trans c1
      have d2 := c2.below HB.out
      obtain ⟨au, cu, hu, _⟩ := d2.shape
      subst hu
      have hsucc := offR_succ L hkL
      have hoffk := HOF.out k hk
      have hck := HCS.out k hlt
      unfold mkRow at d0 d2 d1
      dsimp only at d0 d2 d1
      obtain ⟨q, hq⟩ : ∃ q, q = (L.getD k rwZ).cs.length := ⟨_, rfl⟩
      rw [← hq] at d2 hsucc hck d1
      rw [marksI_len] at d1 d2
      obtain ⟨t, ht⟩ : ∃ t, t = s + offR L k := ⟨_, rfl⟩
      have htb : t ≤ 1099512800000 := by omega
      rw [← ht] at d0 d2 ⊢
      have HD : Hid (RdI wr (.slice au q cu) (marksI (t + 1) q)) := d2
      have hwr : IntKind.i64.wrap ((t : Int) + 1) = (t : Int) + 1 := by rw [IntKind.wrap_i64]; omega
      have htt : ((t : Int) != (t : Int)) = false := by simp
      have HSU : Hid (t + 1 + q = s + offR L (k + 1)) := by show _ = _; rw [hsucc, ht]; omega
      have hneg : decide (((t + 1 + q : Nat) : Int) < 0) = false := decide_eq_false (by omega)
      clear hcell hc c0 c1 c2 hsucc hoffk ht hq d2
      go_wp2_with fail
      have hmk := heldI_any (.slice au q cu) (t + 1) q wr HD.out (by omega) (by omega)
      rw [show (((t + 1 : Nat) : Int)) = (t : Int) + 1 by omega] at hmk
      refine hmk.mono ?_
      rintro e w2 ⟨rfl, hB2⟩
      have HB2 : Hid (Below w.heap.size w w2) := HB.out.trans (hB2.mono HB.out.size)
      clear hB2 hmk
      go_wp2
      go_roundw
      case rel => exact ⟨k + 1, by omega, by go_num, by have := HSU.out; congr 1; omega, HB2⟩
      case measure => simp [intOf]; omega
    · have hke : k = n := by omega
      subst hke
      have hkd : decide ((k : Int) < (k : Int)) = false := by simp
      clear hc
      go_wp2
      go_ret
      exact ⟨rfl, HB.out⟩

/-- a row more -/
theorem ownR_snoc {w w1 w' : World} {lo hi : Nat} {v v' : Value} {L : List Rw} {xs : List Value} {u : Nat → Value} {z : Int} {u' : Value} {cs : List Int}
    (h1 : w.ownsRow lo 46 2 v L.length xs) (h3 : ∀ i, i < L.length → xs[i * 2]? = some (.int .i64 (L.getD i rwZ).who) ∧ xs[i * 2 + 1]? = some (u i) ∧ OwnI w lo (u i) (L.getD i rwZ).cs ∧ ∀ k, (u i).ownBlock = some k → k < hi)
    (h4 : ∀ i j, i < L.length → j < i → ∀ k, (u i).ownBlock = some k → (u j).ownBlock ≠ some k) (hlo : lo ≤ hi) (hB : Below w.heap.size w w1) (hI : OwnI w1 hi u' cs)
    (hown : w'.ownsRow lo 46 2 v' (L.length + 1) (xs ++ [.int .i64 z, u'])) (hG : w1.grownBy w' v.ownBlock) : OwnR w' lo w'.heap.size v' (L ++ [⟨z, cs⟩]) := by
  have hxl : xs.length = L.length * 2 := h1.1
  have h1' := ownsRow_below h1 hB
  have keep : ∀ (base : Nat) (x : Value) (M : List Int), OwnI w1 base x M → OwnI w' base x M := fun base x M hx => hx.blk fun q hq => hG.block q (World.ownsRow.lt hx q hq).2 (fun e => row_ne_int h1' hx hq e.symm)
  have hIk := keep _ _ _ hI
  refine ⟨xs ++ [.int .i64 z, u'], fun i => if i < L.length then u i else u', ?_, fun k hk => (hown.lt k hk).2, fun i hi' => ?_, fun i j hi' hj k hk => ?_⟩
  · rw [List.length_append]; exact hown
  · rw [List.length_append] at hi'
    by_cases hil : i < L.length
    · obtain ⟨c0, c1, c2, c3⟩ := h3 i hil
      have hk2 := keep _ _ _ (c2.below hB)
      dsimp only
      rw [if_pos hil]
      have hg : (L ++ [(⟨z, cs⟩ : Rw)]).getD i rwZ = L.getD i rwZ := by simp [List.getD_eq_getElem?_getD, List.getElem?_append_left hil]
      rw [hg]
      refine ⟨?_, ?_, hk2, fun k hk => (World.ownsRow.lt hk2 k hk).2⟩
      · rw [List.getElem?_append_left (by omega)]; exact c0
      · rw [List.getElem?_append_left (by omega)]; exact c1
    · have e : i = L.length := by simp at hi'; omega
      subst e
      dsimp only
      rw [if_neg hil]
      have hg : (L ++ [(⟨z, cs⟩ : Rw)]).getD L.length rwZ = ⟨z, cs⟩ := by simp [List.getD_eq_getElem?_getD]
      rw [hg]
      refine ⟨?_, ?_, hIk.base hlo, fun k hk => (World.ownsRow.lt hIk k hk).2⟩
      · rw [List.getElem?_append_right (by omega), show L.length * 2 - xs.length = 0 by omega]; rfl
      · rw [List.getElem?_append_right (by omega), show L.length * 2 + 1 - xs.length = 1 by omega]; rfl
  · rw [List.length_append] at hi'
    dsimp only at hk ⊢
    have hjl : j < L.length := by simp at hi'; omega
    rw [if_pos hjl]
    by_cases hil : i < L.length
    · rw [if_pos hil] at hk
      exact h4 i j hil hj k hk
    · rw [if_neg hil] at hk
      intro e
      have q1 := (World.ownsRow.lt hI k hk).1
      have q2 := (h3 j hjl).2.2.2 k e
      omega

/-- number by number the greater one -/
def maxZ (X Y : Nat → Int) : Nat → Int := fun i => max (X i) (Y i)
def mixX (X Y : Nat → Int) (k : Nat) : Nat → Int := fun i => if i < k then maxZ X Y i else X i
theorem arr9_setX {X Y : Nat → Int} {k : Nat} (hk : k < 9) (v : Int) (hv : v = maxZ X Y k) : (arr9 (mixX X Y k)).setIfInBounds k (.int .i64 v) = arr9 (mixX X Y (k + 1)) := by
  apply Array.ext'
  unfold arr9 copyTo
  simp only [Array.toList_setIfInBounds]
  apply List.ext_getElem?
  intro i
  rw [List.getElem?_set]
  by_cases hik : k = i
  · subst hik
    rw [if_pos rfl, hv]
    simp [hk, mixX]
  · rw [if_neg hik]
    by_cases h : i < 9
    · have e : (i < k) ↔ (i < k + 1) := by omega
      simp [h, mixX, e]
    · simp [h]
set_option maxRecDepth 10000 in
set_option maxHeartbeats 2000000 in
theorem raised_any (X Y : Nat → Int) (w : World) :
    Calls Try.prog 27 #[.agg (arr9 X), .agg (arr9 Y)] w fun e w' => e = .returned (.agg (arr9 (maxZ X Y))) ∧ Below w.heap.size w w' := by
  obtain ⟨p, hp⟩ : ∃ p, p = arr9 X := ⟨_, rfl⟩
  obtain ⟨q, hq⟩ : ∃ q, q = arr9 Y := ⟨_, rfl⟩
  rw [← hp, ← hq]
  have HP : Hid (p = arr9 (mixX X Y 0)) := by show _ = _; rw [hp]; exact arr9_ext fun i _ => by unfold mixX; rw [if_neg (by omega)]
  have HQ : Hid (q = arr9 Y) := hq
  clear hp hq
  obtain ⟨W, hW⟩ : ∃ W, W = ((w.alloc (.cells p 52)).alloc (.cells q 52)).alloc (.cells #[.int .i64 0, .int .i64 0, .int .i64 0, .int .i64 0, .int .i64 0, .int .i64 0, .int .i64 0, .int .i64 0, .int .i64 0] 52) := ⟨_, rfl⟩
  have HBW : Hid (Below w.heap.size w W) := by rw [hW]; exact (((Below.refl _ _).alloc (Nat.le_refl _) _).alloc (by simp) _).alloc (by simp; omega) _
  have HG0 : Hid (W.heap[w.heap.size]? = some (.cells p 52)) := by rw [hW, Below.heap_alloc _ _ _ (by simp; omega), Below.heap_alloc _ _ _ (by simp)]; exact heap_alloc_new _ _
  have HG1 : Hid (W.heap[w.heap.size + 1]? = some (.cells q 52)) := by
    show _ = _
    rw [hW, Below.heap_alloc _ _ _ (by simp)]
    have := heap_alloc_new (w.alloc (.cells p 52)) (.cells q 52)
    rw [World.size_alloc] at this
    exact this
  have HG2 : Hid (W.heap[w.heap.size + 1 + 1]? = some (.cells (tlC z9) 52)) := by
    show _ = _
    rw [hW]
    have := heap_alloc_new ((w.alloc (.cells p 52)).alloc (.cells q 52)) (.cells #[.int .i64 0, .int .i64 0, .int .i64 0, .int .i64 0, .int .i64 0, .int .i64 0, .int .i64 0, .int .i64 0, .int .i64 0] 52)
    rw [World.size_alloc, World.size_alloc] at this
    exact this
  have HW : Hid (W = ((w.alloc (.cells p 52)).alloc (.cells q 52)).alloc (.cells #[.int .i64 0, .int .i64 0, .int .i64 0, .int .i64 0, .int .i64 0, .int .i64 0, .int .i64 0, .int .i64 0, .int .i64 0] 52)) := hW
  clear hW
  go_enter Try.func27, Try.ntmps27
  go_wp2
  rw [← HW.out]
  go_loopw [6] (fun i wr => ∃ (k : Nat), k ≤ 9 ∧ i = .int .i64 k ∧ Hid (wr.heap[w.heap.size]? = some (.cells (arr9 (mixX X Y k)) 52) ∧ wr.heap[w.heap.size + 1]? = some (.cells (arr9 Y) 52) ∧ wr.heap[w.heap.size + 1 + 1]? = some (.cells (tlC z9) 52)) ∧ Hid (Below w.heap.size w wr)) (fun i _ => 9 - (intOf i).toNat)
  case atStart => exact ⟨0, Nat.zero_le _, rfl, ⟨by rw [← HP.out]; exact HG0.out, by rw [← HQ.out]; exact HG1.out, HG2.out⟩, HBW⟩
  case round =>
    obtain ⟨k, hk, rfl, HG, HB⟩ := hrel
    by_cases hlt : k < 9
    · have hltI : (k : Int) < 9 := by omega
      obtain ⟨x, hx⟩ : ∃ x, x = mixX X Y k k := ⟨_, rfl⟩
      obtain ⟨y, hy⟩ : ∃ y, y = Y k := ⟨_, rfl⟩
      obtain ⟨wd, hwd⟩ : ∃ wd, wd = wr.drew := ⟨_, rfl⟩
      have hsame : wd.heap = wr.heap := by rw [hwd]; rfl
      have g0 : wd.heap[w.heap.size]? = some (.cells (arr9 (mixX X Y k)) 52) := by rw [hsame]; exact HG.out.1
      have g1 : wd.heap[w.heap.size + 1]? = some (.cells (arr9 Y) 52) := by rw [hsame]; exact HG.out.2.1
      have c0 : wd.cell? ⟨w.heap.size, k, none⟩ = some (.int .i64 x) := by rw [cellN g0, arr9_at _ hlt, hx]
      have c1 : wd.cell? ⟨w.heap.size + 1, k, none⟩ = some (.int .i64 y) := by rw [cellN g1, arr9_at _ hlt, hy]
      have f0 : wd.frozen? ⟨w.heap.size, k, none⟩ = false := frozN g0
      have HV : Hid ((if x < y then y else x) = maxZ X Y k) := by
        show _ = _
        have e : x = X k := by rw [hx]; unfold mixX; rw [if_neg (by omega)]
        rw [e, hy]
        unfold maxZ
        split <;> omega
      have HF : Hid ((wd.setCell ⟨w.heap.size, k, none⟩ (.int .i64 (if x < y then y else x))).heap[w.heap.size]? = some (.cells (arr9 (mixX X Y (k + 1))) 52) ∧ (wd.setCell ⟨w.heap.size, k, none⟩ (.int .i64 (if x < y then y else x))).heap[w.heap.size + 1]? = some (.cells (arr9 Y) 52) ∧ (wd.setCell ⟨w.heap.size, k, none⟩ (.int .i64 (if x < y then y else x))).heap[w.heap.size + 1 + 1]? = some (.cells (tlC z9) 52)) := by
        refine ⟨?_, ?_, ?_⟩
        · rw [heap_setCell_same _ _ _ _ 52 _ g0, arr9_setX hlt _ HV.out]
        · rw [Below.heap_setCell _ _ _ _ (by simp)]; exact g1
        · rw [Below.heap_setCell _ _ _ _ (by simp; omega), hsame]; exact HG.out.2.2
      have HB' : Hid (Below w.heap.size w (wd.setCell ⟨w.heap.size, k, none⟩ (.int .i64 (if x < y then y else x)))) := by
        have : Below w.heap.size w wd := by rw [hwd]; exact HB.out.drew
        exact this.setCell (p := ⟨w.heap.size, k, none⟩) (Nat.le_refl _) _
      clear g0 g1 hx hy hsame
      go_wp2
      refine wp_region_still_tail 9 (by kernel_rfl) (by kernel_rfl) ?_
      simp only [List.take_succ_cons, List.take_zero, List.drop_succ_cons, List.drop_zero]
      rw [show ({ wr with drawn := wr.drawn + 1 } : World) = wd from hwd.symm]
      clear hwd
      repeat still_step
      refine wpStill_nil ?_
      go_wp2
      go_roundw
      case rel => exact ⟨k + 1, by omega, by go_num, HF, HB'⟩
      case measure => simp [intOf]; omega
    · have hke : k = 9 := by omega
      subst hke
      obtain ⟨A, hA⟩ : ∃ A, A = arr9 (mixX X Y 9) := ⟨_, rfl⟩
      have HA : Hid (A = arr9 (maxZ X Y)) := by show _ = _; rw [hA]; exact arr9_ext fun i hi => by unfold mixX; rw [if_pos hi]
      have hAs : A.size = 9 := by rw [hA, arr9_size]
      have hAi : (Try.prog.info? 52).map (·.size) = some A.size := by rw [hAs]; exact infoT
      have hAo : (tlC z9).size = A.size := by rw [hAs]; rfl
      have hA1 : A.all (·.oneCell') = true := by rw [hA]; exact arr9_one _
      have HG0' : Hid (wr.heap[w.heap.size]? = some (.cells A 52)) := by rw [hA]; exact HG.out.1
      clear hA
      go_wp2_with (first
        | (refine wpList_load_row rfl 52 _ rfl w.heap.size rfl 52 A _ _ HG0'.out Try.underlying52 rfl hAi ?_)
        | (refine wpList_store_row rfl 52 _ _ rfl (w.heap.size + 1 + 1) A rfl rfl 52 _ HG.out.2.2 hAi hAo hA1 ?_))
      refine bodyPost_ret (results_cell_row rfl _ _ (w.heap.size + 1 + 1) 52 _ _ _ rfl (setRow_heap _ _ _ _ _ _ HG.out.2.2) Try.underlying52 rfl hAi) rfl ⟨by rw [← HA.out], below_setRow HB.out (by omega) _⟩
end Go.Proofs.Ytjnngncnfbdpkaa
