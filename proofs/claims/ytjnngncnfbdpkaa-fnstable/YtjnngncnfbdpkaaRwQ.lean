/-
  Rows merged: plainly, and the specification's. No condition but that the slices read.
-/
import Derived.Test.YtjnngncnfbdpkaaRwP
import Derived.Test.YtjnngncnfbdpkaaRwV
import Derived.Handy
import Derived.Deep.RegionHeld3
import Derived.Deep.AppendLies
namespace Go.Proofs.Ytjnngncnfbdpkaa
open Go.RowKit Go.Maps
set_option linter.unusedVariables false

def mgIs (A B : List Rw) (z : Int) : Bool := isR A z || isR B z
def mgRow (A B : List Rw) (z : Int) : Rw := ⟨z, lst9 (maxZ (fZ A z) (fZ B z))⟩
/-- those up to k that have a row -/
def whoK (A B : List Rw) : Nat → List Int
  | 0 => []
  | k + 1 => whoK A B k ++ (if mgIs A B ((k : Int) + 1) then [(k : Int) + 1] else [])
def mgK (A B : List Rw) (k : Nat) : List Rw := (whoK A B k).map (mgRow A B)
def mgR (A B : List Rw) : List Rw := if (rowsB A && rowsB B) = true then mgK A B 9 else []
theorem whoK_len (A B : List Rw) : ∀ k, (whoK A B k).length ≤ k
  | 0 => Nat.le_refl _
  | k + 1 => by
    have := whoK_len A B k
    unfold whoK
    rw [List.length_append]
    split <;> simp <;> omega
theorem mgK_len (A B : List Rw) (k : Nat) : (mgK A B k).length ≤ k := by unfold mgK; rw [List.length_map]; exact whoK_len A B k
theorem mgR_len (A B : List Rw) : (mgR A B).length ≤ 9 := by
  unfold mgR
  split
  · exact mgK_len A B 9
  · simp
theorem mgK_yes {A B : List Rw} {k : Nat} (h : mgIs A B ((k : Int) + 1) = true) : mgK A B (k + 1) = mgK A B k ++ [mgRow A B ((k : Int) + 1)] := by
  unfold mgK
  rw [whoK, if_pos h, List.map_append]
  rfl
theorem mgK_no {A B : List Rw} {k : Nat} (h : mgIs A B ((k : Int) + 1) = false) : mgK A B (k + 1) = mgK A B k := by
  unfold mgK
  rw [whoK, if_neg (by rw [h]; decide), List.append_nil]
theorem mgR_cs (A B : List Rw) (i : Nat) : ((mgR A B).getD i rwZ).cs.length ≤ 9 := by
  have hh : ∀ x ∈ mgR A B, x.cs.length ≤ 9 := fun x hx => by
    unfold mgR at hx
    split at hx
    · unfold mgK at hx
      obtain ⟨z, _, rfl⟩ := List.mem_map.1 hx
      unfold mgRow
      rw [lst9_len]
      omega
    · cases hx
  by_cases hi : i < (mgR A B).length
  · have e : (mgR A B).getD i rwZ = (mgR A B)[i] := by simp [hi]
    rw [e]
    exact hh _ (List.getElem_mem _)
  · have e : (mgR A B).getD i rwZ = rwZ := by simp [show (mgR A B).length ≤ i by omega]
    rw [e]
    show (0 : Nat) ≤ 9
    omega
theorem OwnR.nil (w : World) (lo hi : Nat) : OwnR w lo hi (.slice none 0 0) [] :=
  ⟨[], fun _ => .slice none 0 0, ⟨rfl, .inl ⟨rfl, rfl⟩⟩, ⟨fun k hk => (by cases hk), fun i hi => absurd hi (Nat.not_lt_zero _), fun i j hi => absurd hi (Nat.not_lt_zero _)⟩⟩
theorem ret_tup {r : Value} {a b : Bool} (h : a = b) : Ending.returned (.tuple #[r, .bool a]) = .returned (.tuple #[r, .bool b]) := by rw [h]

/-- a number more in the row that is under way -/
theorem cnt_step {w6 wr W' w' : World} {ac : Option Addr} {q cc g cap : Nat} {z m : Int} {M M' : List Int}
    (HG : wr.heap[w6.heap.size]? = some (.cells #[.int .i64 z, .slice ac q cc] 46)) (HC : OwnI wr w6.heap.size (.slice ac q cc) M) (hM : M.length = q) (HB : Below w6.heap.size w6 wr) (hW : Below wr.heap.size wr W') (hM' : M' = M ++ [m]) (hG : W'.grownBy w' (Value.slice ac q cc).ownBlock)
    (hown : w'.ownsRow w6.heap.size 2 1 (.slice (some ⟨g, 0, none⟩) (q + 1) cap) (q + 1) (M.map (.int .i64 ·) ++ [.int .i64 m])) :
    w'.heap[w6.heap.size]? = some (.cells #[.int .i64 z, .slice ac q cc] 46) ∧ Below w6.heap.size w6 w' ∧
      (w'.setCell ⟨w6.heap.size, 1, none⟩ (.slice (some ⟨g, 0, none⟩) (q + 1) cap)).heap[w6.heap.size]? = some (.cells #[.int .i64 z, .slice (some ⟨g, 0, none⟩) (q + 1) cap] 46) ∧
      OwnI (w'.setCell ⟨w6.heap.size, 1, none⟩ (.slice (some ⟨g, 0, none⟩) (q + 1) cap)) w6.heap.size (.slice (some ⟨g, 0, none⟩) (q + 1) cap) M' ∧
      Below w6.heap.size w6 (w'.setCell ⟨w6.heap.size, 1, none⟩ (.slice (some ⟨g, 0, none⟩) (q + 1) cap)) := by
  have hne : ∀ k, (Value.slice ac q cc).ownBlock = some k → k ≠ w6.heap.size := fun k hk e => by
    obtain ⟨cs, hcs⟩ := own_int HC hk
    rw [e, HG] at hcs
    cases hcs
  have hlt : w6.heap.size < wr.heap.size := lt_of_block HG
  have h1 : w'.heap[w6.heap.size]? = some (.cells #[.int .i64 z, .slice ac q cc] 46) := by
    rw [hG.block _ (Nat.lt_of_lt_of_le hlt hW.size) (fun e => hne _ e.symm rfl), hW.block _ hlt]
    exact HG
  have h2 : Below w6.heap.size w6 w' := by
    have hWB : Below w6.heap.size w6 W' := HB.trans (hW.mono HB.size)
    exact hWB.grown hG hWB.size (fun k hk => (World.ownsRow.lt HC k hk).1)
  have hO : OwnI w' w6.heap.size (.slice (some ⟨g, 0, none⟩) (q + 1) cap) M' := by
    unfold OwnI
    rw [hM', List.length_append, hM, List.map_append]
    exact hown
  refine ⟨h1, h2, ?_, hO.blk fun k hk => ?_, h2.setCell (p := ⟨w6.heap.size, 1, none⟩) (Nat.le_refl _) _⟩
  · rw [heap_setCell_same _ _ _ _ 46 _ h1]
    rfl
  · have hkn : k ≠ w6.heap.size := fun e => by
      obtain ⟨cs, hcs⟩ := own_int hO hk
      rw [e, h1] at hcs
      cases hcs
    exact Below.heap_setCell _ _ _ _ hkn

set_option maxRecDepth 10000 in
set_option maxHeartbeats 4000000 in
theorem specMerged_any (v v' : Value) (A B : List Rw) (w : World) (h : RdR w v A) (h' : RdR w v' B) :
    Calls Try.prog 7 #[v, v'] w fun e w' => ∃ r, e = .returned (.tuple #[r, .bool (rowsB A && rowsB B)]) ∧ OwnR w' w.heap.size w'.heap.size r (mgR A B) ∧ Below w.heap.size w w' := by
  obtain ⟨i0, hi, hz0, hz1, hz2⟩ := info_parts infoI
  obtain ⟨i1, hi1, hy0, hy1, hy2⟩ := info_parts infoR
  have OA : Hid (∀ w' z, Below w.heap.size w w' → Calls Try.prog 24 #[v, .int .i64 z] w' fun e w'' => ∃ u, e = .returned u ∧ RdI w'' u (ofR A z) ∧ Below w'.heap.size w' w'') := fun w' z hB => of_any v A z w' (h.below hB)
  have OB : Hid (∀ w' z, Below w.heap.size w w' → Calls Try.prog 24 #[v', .int .i64 z] w' fun e w'' => ∃ u, e = .returned u ∧ RdI w'' u (ofR B z) ∧ Below w'.heap.size w' w'') := fun w' z hB => of_any v' B z w' (h'.below hB)
  have IA : Hid (∀ w' z, Below w.heap.size w w' → Calls Try.prog 23 #[v, .int .i64 z] w' fun e w'' => e = .returned (.bool (isR A z)) ∧ Below w'.heap.size w' w'') := fun w' z hB => is_any v A z w' (h.below hB)
  have IB : Hid (∀ w' z, Below w.heap.size w w' → Calls Try.prog 23 #[v', .int .i64 z] w' fun e w'' => e = .returned (.bool (isR B z)) ∧ Below w'.heap.size w' w'') := fun w' z hB => is_any v' B z w' (h'.below hB)
  have SA : Hid (Calls Try.prog 17 #[v] w fun e w' => e = .returned (.bool (rowsB A)) ∧ Below w.heap.size w w') := specRows_any v A w h
  have SB : Hid (∀ w', Below w.heap.size w w' → Calls Try.prog 17 #[v'] w' fun e w'' => e = .returned (.bool (rowsB B)) ∧ Below w'.heap.size w' w'') := fun w' hB => specRows_any v' B w' (h'.below hB)
  obtain ⟨a0, c0, hv, _⟩ : ∃ a0 c0, v = .slice a0 A.length c0 ∧ True := by obtain ⟨a, c, e, _⟩ := h; exact ⟨a, c, e, trivial⟩
  obtain ⟨a0', c0', hv', _⟩ : ∃ a0 c0, v' = .slice a0 B.length c0 ∧ True := by obtain ⟨a, c, e, _⟩ := h'; exact ⟨a, c, e, trivial⟩
  subst hv
  subst hv'
  clear h h'
  go_enter Try.func7, Try.ntmps7
  go_wp2_with fail
  refine SA.out.mono ?_
  rintro e w1 ⟨rfl, hB1⟩
  have HB1 : Hid (Below w.heap.size w w1) := hB1
  clear hB1
  cases hr : rowsB A with
  | false =>
    have HR : Hid (mgR A B = [] ∧ false = (rowsB A && rowsB B)) := ⟨by unfold mgR; rw [hr]; rfl, by rw [hr]; rfl⟩
    go_wp2
    go_ret2
    exact ⟨_, ret_tup HR.out.2, by rw [HR.out.1]; exact OwnR.nil _ _ _, HB1.out⟩
  | true =>
    have HRA : Hid (rowsB A = true) := hr
    clear hr
    go_wp2_with fail
    refine (SB.out w1 HB1.out).mono ?_
    rintro e w2 ⟨rfl, hB2⟩
    have HB2 : Hid (Below w.heap.size w w2) := HB1.out.trans (hB2.mono HB1.out.size)
    clear hB2
    cases hr : rowsB B with
    | false =>
      have HR : Hid (mgR A B = [] ∧ false = (rowsB A && rowsB B)) := ⟨by unfold mgR; rw [hr, Bool.and_false]; rfl, by rw [hr, Bool.and_false]⟩
      go_wp2
      go_ret2
      exact ⟨_, ret_tup HR.out.2, by rw [HR.out.1]; exact OwnR.nil _ _ _, HB2.out⟩
    | true =>
      have HRB : Hid (rowsB B = true) := hr
      have HR : Hid (mgR A B = mgK A B 9 ∧ true = (rowsB A && rowsB B)) := ⟨by unfold mgR; rw [hr, HRA.out]; rfl, by rw [hr, HRA.out]; rfl⟩
      clear hr
      have HO1 : Hid (OwnR (w2.alloc (.cells #[] 46)) w.heap.size (w2.alloc (.cells #[] 46)).heap.size (.slice (some ⟨w2.heap.size, 0, none⟩) 0 0) (mgK A B 0)) :=
        ⟨[], fun _ => .slice none 0 0, by
          have := World.ownsRow_made (e := 46) (size := 2) w2 #[] 0 HB2.out.size (by decide) rfl
          exact this, fun k hk => by have e : w2.heap.size = k := Option.some.inj hk; subst e; simp, fun i hi => absurd hi (Nat.not_lt_zero _), fun i j hi => absurd hi (Nat.not_lt_zero _)⟩
      have HBA : Hid (Below w.heap.size w (w2.alloc (.cells #[] 46))) := HB2.out.alloc HB2.out.size _
      go_wp2
      go_loopw [6, 7] (fun r i wr => ∃ (k : Nat) (z : Int), k ≤ 9 ∧ i = .int .i64 z ∧ Hid (z = (k : Int) + 1) ∧ Hid (OwnR wr w.heap.size wr.heap.size r (mgK A B k)) ∧ Hid (Below w.heap.size w wr)) (fun _ i _ => 10 - (intOf i).toNat)
      case atStart => exact ⟨0, 1, Nat.zero_le _, rfl, rfl, HO1, HBA⟩
      case round =>
        obtain ⟨k, z, hk, rfl, HZ, HO, HB⟩ := hrel
        by_cases hlt : k < 9
        · have hltI : z ≤ 9 := by have := HZ.out; omega
          have hzA : 1 ≤ z := by have := HZ.out; omega
          have hzB : IntKind.i64.wrap (z + 1) = z + 1 := by rw [IntKind.wrap_i64]; omega
          go_wp2_with fail
          refine (IA.out wr z HB.out).mono ?_
          rintro e w3 ⟨rfl, hB3⟩
          have HB3 : Hid (Below w.heap.size w w3) := HB.out.trans (hB3.mono HB.out.size)
          have HO3 : Hid (OwnR w3 w.heap.size w3.heap.size u6 (mgK A B k)) := (HO.out.below (Nat.le_refl _) hB3).lt hB3.size
          clear hB3
          cases hia : isR A z with
          | true =>
            have HIS : Hid (mgIs A B ((k : Int) + 1) = true) := by show _ = _; unfold mgIs; rw [← HZ.out, hia]; rfl
            go_wp2_with fail
            refine (OA.out w3 z HB3.out).mono ?_
            rintro e w5 ⟨ua, rfl, hIa, hB5⟩
            have HB5 : Hid (Below w.heap.size w w5) := HB3.out.trans (hB5.mono HB3.out.size)
            have HO5 : Hid (OwnR w5 w.heap.size w5.heap.size u6 (mgK A B k)) := (HO3.out.below (Nat.le_refl _) hB5).lt hB5.size
            clear hB5
            obtain ⟨a3, c3, e3, hl1, hl2, hcc⟩ := hIa
            have hl9 : (ofR A z).length = 9 := csB_len (ofR_ok HRA.out z)
            obtain ⟨b3, o3, ha3, hb3, hd3⟩ := hcc (by omega)
            rw [hl9] at hl1
            rw [e3, ha3, hl9]
            have HCA : Hid (∀ w' j, Below w5.heap.size w5 w' → j < 9 → w'.cell? ⟨b3, o3 + j, none⟩ = some (.int .i64 (fZ A z j))) := fun w' j hB hj => (hB.cell (p := ⟨b3, o3 + j, none⟩) hb3).trans (hd3 j (by omega))
            clear hcc hd3 e3 ha3 hl9
            go_wp2_with fail
            refine (OB.out w5 z HB5.out).mono ?_
            rintro e w6 ⟨ub, rfl, hIb, hB6⟩
            have HB6 : Hid (Below w.heap.size w w6) := HB5.out.trans (hB6.mono HB5.out.size)
            have HB56 : Hid (Below w5.heap.size w5 w6) := hB6
            have HO6 : Hid (OwnR w6 w.heap.size w6.heap.size u6 (mgK A B k)) := (HO5.out.below (Nat.le_refl _) hB6).lt hB6.size
            clear hB6
            obtain ⟨a4, c4, e4, hl3, hl4, hcc⟩ := hIb
            have hl9 : (ofR B z).length = 9 := csB_len (ofR_ok HRB.out z)
            obtain ⟨b4, o4, ha4, hb4, hd4⟩ := hcc (by omega)
            rw [hl9] at hl3
            rw [e4, ha4, hl9]
            have HCB : Hid (∀ w' j, Below w6.heap.size w6 w' → j < 9 → w'.cell? ⟨b4, o4 + j, none⟩ = some (.int .i64 (fZ B z j))) := fun w' j hB hj => (hB.cell (p := ⟨b4, o4 + j, none⟩) hb4).trans (hd4 j (by omega))
            clear hcc hd4 e4 ha4 hl9
            obtain ⟨W, hW⟩ : ∃ W, W = w6.alloc (.cells #[.int .i64 z, .slice none 0 0] 46) := ⟨_, rfl⟩
            have HG0 : Hid (W.heap[w6.heap.size]? = some (.cells #[.int .i64 z, .slice none 0 0] 46)) := by rw [hW]; exact heap_alloc_new _ _
            have HW0 : Hid (Below w6.heap.size w6 W) := by rw [hW]; exact (Below.refl _ _).alloc (Nat.le_refl _) _
            have HWW : Hid (W = w6.alloc (.cells #[.int .i64 z, .slice none 0 0] 46)) := hW
            clear hW
            obtain ⟨X, hX⟩ : ∃ X, X = maxZ (fZ A z) (fZ B z) := ⟨_, rfl⟩
            have HX : Hid (X = maxZ (fZ A z) (fZ B z)) := hX
            clear hX
            go_wp2
            rw [← HWW.out]
            go_loopw [11] (fun j wq => ∃ (q : Nat) (cv : Value), q ≤ 9 ∧ j = .int .i64 q ∧ Hid (wq.heap[w6.heap.size]? = some (.cells #[.int .i64 z, cv] 46)) ∧ Hid (OwnI wq w6.heap.size cv (lstK X q)) ∧ Hid (Below w6.heap.size w6 wq)) (fun j _ => 9 - (intOf j).toNat)
            case atStart => exact ⟨0, _, Nat.zero_le _, rfl, HG0, OwnI.nil _ _, HW0⟩
            case round =>
              obtain ⟨q, cv, hq, rfl, HG, HC, HBq⟩ := hrel
              by_cases hq9 : q < 9
              · have hqI : (q : Int) < 9 := by omega
                have hq0 : (0 : Int) ≤ (q : Int) := by omega
                obtain ⟨ac, cc, hcv⟩ := HC.out.slice
                rw [lstK_len] at hcv
                subst hcv
                obtain ⟨x, hx⟩ : ∃ x, x = fZ A z q := ⟨_, rfl⟩
                obtain ⟨y, hy⟩ : ∃ y, y = fZ B z q := ⟨_, rfl⟩
                have ca := HCA.out wr q (HB56.out.trans (HBq.out.mono HB56.out.size)) hq9
                have cb := HCB.out wr q HBq.out hq9
                rw [← hx] at ca
                rw [← hy] at cb
                have cr : wr.cell? ⟨w6.heap.size, 1, none⟩ = some (.slice ac q cc) := cellN HG.out
                have HV : Hid (lstK X (q + 1) = lstK X q ++ [if x < y then y else x]) := by
                  show _ = _
                  rw [lstK_succ]
                  congr 2
                  rw [HX.out, hx, hy]
                  unfold maxZ
                  split <;> omega
                clear hx hy
                have HS : Hid (∀ w', Below w6.heap.size w6 w' → w'.cell? ⟨b3, o3 + q, none⟩ = some (.int .i64 x) ∧ w'.cell? ⟨b4, o4 + q, none⟩ = some (.int .i64 y)) := fun w' hB => by
                  have h1 := (HBq.out.cell (p := ⟨b3, o3 + q, none⟩) (Nat.lt_of_lt_of_le hb3 HB56.out.size)).symm.trans ca
                  have h2 := (HBq.out.cell (p := ⟨b4, o4 + q, none⟩) hb4).symm.trans cb
                  exact ⟨(hB.cell (p := ⟨b3, o3 + q, none⟩) (Nat.lt_of_lt_of_le hb3 HB56.out.size)).trans h1, (hB.cell (p := ⟨b4, o4 + q, none⟩) hb4).trans h2⟩
                have HWd : Hid (∀ o, Below wr.heap.size wr (wr.alloc o).drew) := fun o => ((Below.refl _ _).alloc (Nat.le_refl _) _).drew
                have HOd : Hid (∀ o, (wr.alloc o).drew.ownsRow w6.heap.size 2 1 (.slice ac q cc) q ((lstK X q).map (.int .i64 ·))) := fun o => by
                  have := HC.out.blk (w' := (wr.alloc o).drew) (fun k hk => (HWd.out o).block k (World.ownsRow.lt HC.out k hk).2)
                  unfold OwnI at this
                  rw [lstK_len] at this
                  exact this
                have cr2 : ∀ o, (wr.alloc o).drew.cell? ⟨w6.heap.size, 1, none⟩ = some (.slice ac q cc) := fun o => ((HWd.out o).cell (p := ⟨w6.heap.size, 1, none⟩) (lt_of_block HG.out)).trans cr
                have HQ : Hid (q + 1 ≤ maxLen ∧ (q + 1) * 8 ≤ 140737488355328 ∧ w6.heap.size ≤ wr.heap.size + 1) := ⟨by unfold maxLen; omega, by omega, by have := HBq.out.size; omega⟩
                go_wp2
                go_region_law
                  ((refine step_append_lies _ (by rfl) _ _ _ (by rfl) w6.heap.size 2 i0 (.int .i64 0) 1 8 Try.underlying36 hi hz0 hz1 hz2 rfl (by decide) (.slice ac q cc) q _ (by rfl) (HOd.out _) ⟨wr.heap.size, 0, none⟩ 1 1 [.int .i64 (if x < y then y else x)] (by rfl) rfl (World.news_of_block (heap_alloc_new _ _)) (by simp [Value.oneCell']) (by decide) HQ.out.1 HQ.out.2.1 (by simpa using HQ.out.2.2) _ rfl ?_; intro g cap w8 hown8 hgrow8 hat8 hlt8; have hcs := cnt_step HG.out HC.out (lstK_len X q) HBq.out (HWd.out _) HV.out hgrow8 hown8; have fr8 := frozN (i := 1) hcs.1; have ce8 : w8.cell? ⟨w6.heap.size, 1, none⟩ = some (.slice ac q cc) := cellN hcs.1))
                all_goals
                  have HF : Hid _ := hcs.2.2
                  clear hcs hown8 hgrow8 hat8 hlt8 fr8 ce8
                  go_wp2
                  go_roundw
                  case rel => exact ⟨q + 1, _, by omega, by go_num, HF.out.1, HF.out.2.1, HF.out.2.2⟩
                  case measure => simp [intOf]; omega
              · have hqe : q = 9 := by omega
                subst hqe
                obtain ⟨ac, cc, hcv⟩ := HC.out.slice
                rw [lstK_len] at hcv
                subst hcv
                obtain ⟨xs, uu, h1, h2, h3, h4⟩ := HO6.out
                obtain ⟨n, hn⟩ : ∃ n, n = (mgK A B k).length := ⟨_, rfl⟩
                have hn9 : n ≤ 9 := by rw [hn]; exact Nat.le_trans (mgK_len A B k) hk
                have HBa : Hid (∀ o, Below w6.heap.size w6 (wr.alloc o)) := fun o => HBq.out.alloc HBq.out.size _
                have HOx : Hid (∀ o, (wr.alloc o).ownsRow w.heap.size 46 2 u6 n xs) := fun o => by rw [hn]; exact ownsRow_below h1 (HBa.out o)
                have cr0 : wr.cell? ⟨w6.heap.size, 0, none⟩ = some (.int .i64 z) := cellN HG.out
                have cr1 : wr.cell? ⟨w6.heap.size, 1, none⟩ = some (.slice ac 9 cc) := cellN HG.out
                have HN : Hid (n + 1 ≤ maxLen ∧ (n + 1) * 32 ≤ 140737488355328 ∧ w.heap.size ≤ wr.heap.size + 1) := ⟨by unfold maxLen; omega, by omega, by have := HBq.out.size; have := HB6.out.size; omega⟩
                have HF : Hid (∀ o v7 w7, w7.ownsRow w.heap.size 46 2 v7 (n + 1) (xs ++ [.int .i64 z, .slice ac 9 cc]) → (wr.alloc o).grownBy w7 u6.ownBlock → OwnR w7 w.heap.size w7.heap.size v7 (mgK A B (k + 1)) ∧ Below w.heap.size w w7) := fun o v7 w7 hown hgrow => by
                  rw [hn] at hown
                  have hI : OwnI (wr.alloc o) w6.heap.size (.slice ac 9 cc) (lstK X 9) := HC.out.below ((Below.refl _ _).alloc (Nat.le_refl _) _)
                  have := ownR_snoc h1 h3 h4 HB6.out.size (HBa.out o) hI hown hgrow
                  refine ⟨?_, ?_⟩
                  · rw [mgK_yes HIS.out]
                    unfold mgRow
                    rw [← HZ.out, ← HX.out]
                    exact this
                  · have hb : Below w.heap.size w (wr.alloc o) := HB6.out.trans ((HBa.out o).mono HB6.out.size)
                    exact hb.grown hgrow hb.size (fun x hx => (World.ownsRow.lt h1 x hx).1)
                clear h1 h2 h3 h4 hn
                go_wp2_with (at_builtin; refine wpList_append_own _ rfl _ _ 24 rfl w.heap.size 46 i1 (.agg #[.int .i64 0, .slice none 0 0]) 2 32 Try.underlying24 hi1 hy0 hy1 hy2 rfl (by decide) _ n _ rfl (HOx.out _) ⟨wr.heap.size, 0, none⟩ 1 1 [.int .i64 z, .slice ac 9 cc] rfl rfl (World.news_of_block (heap_alloc_new _ _)) (by simp [Value.oneCell']) HN.out.1 HN.out.2.1 (by simpa using HN.out.2.2) ?_; intro v7 w7 hown7 hgrow7 hnil7)
                have HE : Hid _ := HF.out _ v7 w7 hown7 hgrow7
                clear hown7 hgrow7 hnil7
                go_wp2
                go_roundw
                case rel => exact ⟨k + 1, z + 1, by omega, rfl, by show _ = _; rw [HZ.out]; omega, HE.out.1, HE.out.2⟩
                case measure => simp [intOf]; omega
          | false =>
            go_wp2_with fail
            refine (IB.out w3 z HB3.out).mono ?_
            rintro e w4 ⟨rfl, hB4⟩
            have HB4 : Hid (Below w.heap.size w w4) := HB3.out.trans (hB4.mono HB3.out.size)
            have HO4 : Hid (OwnR w4 w.heap.size w4.heap.size u6 (mgK A B k)) := (HO3.out.below (Nat.le_refl _) hB4).lt hB4.size
            clear hB4
            cases hib : isR B z with
            | true =>
              have HIS : Hid (mgIs A B ((k : Int) + 1) = true) := by show _ = _; unfold mgIs; rw [← HZ.out, hib, Bool.or_true]
              go_wp2_with fail
              refine (OA.out w4 z HB4.out).mono ?_
              rintro e w5 ⟨ua, rfl, hIa, hB5⟩
              have HB5 : Hid (Below w.heap.size w w5) := HB4.out.trans (hB5.mono HB4.out.size)
              have HO5 : Hid (OwnR w5 w.heap.size w5.heap.size u6 (mgK A B k)) := (HO4.out.below (Nat.le_refl _) hB5).lt hB5.size
              clear hB5
              obtain ⟨a3, c3, e3, hl1, hl2, hcc⟩ := hIa
              have hl9 : (ofR A z).length = 9 := csB_len (ofR_ok HRA.out z)
              obtain ⟨b3, o3, ha3, hb3, hd3⟩ := hcc (by omega)
              rw [hl9] at hl1
              rw [e3, ha3, hl9]
              have HCA : Hid (∀ w' j, Below w5.heap.size w5 w' → j < 9 → w'.cell? ⟨b3, o3 + j, none⟩ = some (.int .i64 (fZ A z j))) := fun w' j hB hj => (hB.cell (p := ⟨b3, o3 + j, none⟩) hb3).trans (hd3 j (by omega))
              clear hcc hd3 e3 ha3 hl9
              go_wp2_with fail
              refine (OB.out w5 z HB5.out).mono ?_
              rintro e w6 ⟨ub, rfl, hIb, hB6⟩
              have HB6 : Hid (Below w.heap.size w w6) := HB5.out.trans (hB6.mono HB5.out.size)
              have HB56 : Hid (Below w5.heap.size w5 w6) := hB6
              have HO6 : Hid (OwnR w6 w.heap.size w6.heap.size u6 (mgK A B k)) := (HO5.out.below (Nat.le_refl _) hB6).lt hB6.size
              clear hB6
              obtain ⟨a4, c4, e4, hl3, hl4, hcc⟩ := hIb
              have hl9 : (ofR B z).length = 9 := csB_len (ofR_ok HRB.out z)
              obtain ⟨b4, o4, ha4, hb4, hd4⟩ := hcc (by omega)
              rw [hl9] at hl3
              rw [e4, ha4, hl9]
              have HCB : Hid (∀ w' j, Below w6.heap.size w6 w' → j < 9 → w'.cell? ⟨b4, o4 + j, none⟩ = some (.int .i64 (fZ B z j))) := fun w' j hB hj => (hB.cell (p := ⟨b4, o4 + j, none⟩) hb4).trans (hd4 j (by omega))
              clear hcc hd4 e4 ha4 hl9
              obtain ⟨W, hW⟩ : ∃ W, W = w6.alloc (.cells #[.int .i64 z, .slice none 0 0] 46) := ⟨_, rfl⟩
              have HG0 : Hid (W.heap[w6.heap.size]? = some (.cells #[.int .i64 z, .slice none 0 0] 46)) := by rw [hW]; exact heap_alloc_new _ _
              have HW0 : Hid (Below w6.heap.size w6 W) := by rw [hW]; exact (Below.refl _ _).alloc (Nat.le_refl _) _
              have HWW : Hid (W = w6.alloc (.cells #[.int .i64 z, .slice none 0 0] 46)) := hW
              clear hW
              obtain ⟨X, hX⟩ : ∃ X, X = maxZ (fZ A z) (fZ B z) := ⟨_, rfl⟩
              have HX : Hid (X = maxZ (fZ A z) (fZ B z)) := hX
              clear hX
              go_wp2
              rw [← HWW.out]
              go_loopw [11] (fun j wq => ∃ (q : Nat) (cv : Value), q ≤ 9 ∧ j = .int .i64 q ∧ Hid (wq.heap[w6.heap.size]? = some (.cells #[.int .i64 z, cv] 46)) ∧ Hid (OwnI wq w6.heap.size cv (lstK X q)) ∧ Hid (Below w6.heap.size w6 wq)) (fun j _ => 9 - (intOf j).toNat)
              case atStart => exact ⟨0, _, Nat.zero_le _, rfl, HG0, OwnI.nil _ _, HW0⟩
              case round =>
                obtain ⟨q, cv, hq, rfl, HG, HC, HBq⟩ := hrel
                by_cases hq9 : q < 9
                · have hqI : (q : Int) < 9 := by omega
                  have hq0 : (0 : Int) ≤ (q : Int) := by omega
                  obtain ⟨ac, cc, hcv⟩ := HC.out.slice
                  rw [lstK_len] at hcv
                  subst hcv
                  obtain ⟨x, hx⟩ : ∃ x, x = fZ A z q := ⟨_, rfl⟩
                  obtain ⟨y, hy⟩ : ∃ y, y = fZ B z q := ⟨_, rfl⟩
                  have ca := HCA.out wr q (HB56.out.trans (HBq.out.mono HB56.out.size)) hq9
                  have cb := HCB.out wr q HBq.out hq9
                  rw [← hx] at ca
                  rw [← hy] at cb
                  have cr : wr.cell? ⟨w6.heap.size, 1, none⟩ = some (.slice ac q cc) := cellN HG.out
                  have HV : Hid (lstK X (q + 1) = lstK X q ++ [if x < y then y else x]) := by
                    show _ = _
                    rw [lstK_succ]
                    congr 2
                    rw [HX.out, hx, hy]
                    unfold maxZ
                    split <;> omega
                  clear hx hy
                  have HS : Hid (∀ w', Below w6.heap.size w6 w' → w'.cell? ⟨b3, o3 + q, none⟩ = some (.int .i64 x) ∧ w'.cell? ⟨b4, o4 + q, none⟩ = some (.int .i64 y)) := fun w' hB => by
                    have h1 := (HBq.out.cell (p := ⟨b3, o3 + q, none⟩) (Nat.lt_of_lt_of_le hb3 HB56.out.size)).symm.trans ca
                    have h2 := (HBq.out.cell (p := ⟨b4, o4 + q, none⟩) hb4).symm.trans cb
                    exact ⟨(hB.cell (p := ⟨b3, o3 + q, none⟩) (Nat.lt_of_lt_of_le hb3 HB56.out.size)).trans h1, (hB.cell (p := ⟨b4, o4 + q, none⟩) hb4).trans h2⟩
                  have HWd : Hid (∀ o, Below wr.heap.size wr (wr.alloc o).drew) := fun o => ((Below.refl _ _).alloc (Nat.le_refl _) _).drew
                  have HOd : Hid (∀ o, (wr.alloc o).drew.ownsRow w6.heap.size 2 1 (.slice ac q cc) q ((lstK X q).map (.int .i64 ·))) := fun o => by
                    have := HC.out.blk (w' := (wr.alloc o).drew) (fun k hk => (HWd.out o).block k (World.ownsRow.lt HC.out k hk).2)
                    unfold OwnI at this
                    rw [lstK_len] at this
                    exact this
                  have cr2 : ∀ o, (wr.alloc o).drew.cell? ⟨w6.heap.size, 1, none⟩ = some (.slice ac q cc) := fun o => ((HWd.out o).cell (p := ⟨w6.heap.size, 1, none⟩) (lt_of_block HG.out)).trans cr
                  have HQ : Hid (q + 1 ≤ maxLen ∧ (q + 1) * 8 ≤ 140737488355328 ∧ w6.heap.size ≤ wr.heap.size + 1) := ⟨by unfold maxLen; omega, by omega, by have := HBq.out.size; omega⟩
                  go_wp2
                  go_region_law
                    ((refine step_append_lies _ (by rfl) _ _ _ (by rfl) w6.heap.size 2 i0 (.int .i64 0) 1 8 Try.underlying36 hi hz0 hz1 hz2 rfl (by decide) (.slice ac q cc) q _ (by rfl) (HOd.out _) ⟨wr.heap.size, 0, none⟩ 1 1 [.int .i64 (if x < y then y else x)] (by rfl) rfl (World.news_of_block (heap_alloc_new _ _)) (by simp [Value.oneCell']) (by decide) HQ.out.1 HQ.out.2.1 (by simpa using HQ.out.2.2) _ rfl ?_; intro g cap w8 hown8 hgrow8 hat8 hlt8; have hcs := cnt_step HG.out HC.out (lstK_len X q) HBq.out (HWd.out _) HV.out hgrow8 hown8; have fr8 := frozN (i := 1) hcs.1; have ce8 : w8.cell? ⟨w6.heap.size, 1, none⟩ = some (.slice ac q cc) := cellN hcs.1))
                  all_goals
                    have HF : Hid _ := hcs.2.2
                    clear hcs hown8 hgrow8 hat8 hlt8 fr8 ce8
                    go_wp2
                    go_roundw
                    case rel => exact ⟨q + 1, _, by omega, by go_num, HF.out.1, HF.out.2.1, HF.out.2.2⟩
                    case measure => simp [intOf]; omega
                · have hqe : q = 9 := by omega
                  subst hqe
                  obtain ⟨ac, cc, hcv⟩ := HC.out.slice
                  rw [lstK_len] at hcv
                  subst hcv
                  obtain ⟨xs, uu, h1, h2, h3, h4⟩ := HO6.out
                  obtain ⟨n, hn⟩ : ∃ n, n = (mgK A B k).length := ⟨_, rfl⟩
                  have hn9 : n ≤ 9 := by rw [hn]; exact Nat.le_trans (mgK_len A B k) hk
                  have HBa : Hid (∀ o, Below w6.heap.size w6 (wr.alloc o)) := fun o => HBq.out.alloc HBq.out.size _
                  have HOx : Hid (∀ o, (wr.alloc o).ownsRow w.heap.size 46 2 u6 n xs) := fun o => by rw [hn]; exact ownsRow_below h1 (HBa.out o)
                  have cr0 : wr.cell? ⟨w6.heap.size, 0, none⟩ = some (.int .i64 z) := cellN HG.out
                  have cr1 : wr.cell? ⟨w6.heap.size, 1, none⟩ = some (.slice ac 9 cc) := cellN HG.out
                  have HN : Hid (n + 1 ≤ maxLen ∧ (n + 1) * 32 ≤ 140737488355328 ∧ w.heap.size ≤ wr.heap.size + 1) := ⟨by unfold maxLen; omega, by omega, by have := HBq.out.size; have := HB6.out.size; omega⟩
                  have HF : Hid (∀ o v7 w7, w7.ownsRow w.heap.size 46 2 v7 (n + 1) (xs ++ [.int .i64 z, .slice ac 9 cc]) → (wr.alloc o).grownBy w7 u6.ownBlock → OwnR w7 w.heap.size w7.heap.size v7 (mgK A B (k + 1)) ∧ Below w.heap.size w w7) := fun o v7 w7 hown hgrow => by
                    rw [hn] at hown
                    have hI : OwnI (wr.alloc o) w6.heap.size (.slice ac 9 cc) (lstK X 9) := HC.out.below ((Below.refl _ _).alloc (Nat.le_refl _) _)
                    have := ownR_snoc h1 h3 h4 HB6.out.size (HBa.out o) hI hown hgrow
                    refine ⟨?_, ?_⟩
                    · rw [mgK_yes HIS.out]
                      unfold mgRow
                      rw [← HZ.out, ← HX.out]
                      exact this
                    · have hb : Below w.heap.size w (wr.alloc o) := HB6.out.trans ((HBa.out o).mono HB6.out.size)
                      exact hb.grown hgrow hb.size (fun x hx => (World.ownsRow.lt h1 x hx).1)
                  clear h1 h2 h3 h4 hn
                  go_wp2_with (at_builtin; refine wpList_append_own _ rfl _ _ 24 rfl w.heap.size 46 i1 (.agg #[.int .i64 0, .slice none 0 0]) 2 32 Try.underlying24 hi1 hy0 hy1 hy2 rfl (by decide) _ n _ rfl (HOx.out _) ⟨wr.heap.size, 0, none⟩ 1 1 [.int .i64 z, .slice ac 9 cc] rfl rfl (World.news_of_block (heap_alloc_new _ _)) (by simp [Value.oneCell']) HN.out.1 HN.out.2.1 (by simpa using HN.out.2.2) ?_; intro v7 w7 hown7 hgrow7 hnil7)
                  have HE : Hid _ := HF.out _ v7 w7 hown7 hgrow7
                  clear hown7 hgrow7 hnil7
                  go_wp2
                  go_roundw
                  case rel => exact ⟨k + 1, z + 1, by omega, rfl, by show _ = _; rw [HZ.out]; omega, HE.out.1, HE.out.2⟩
                  case measure => simp [intOf]; omega
            | false =>
              have HIS : Hid (mgIs A B ((k : Int) + 1) = false) := by show _ = _; unfold mgIs; rw [← HZ.out, hia, hib]; rfl
              go_wp2
              go_roundw
              case rel => exact ⟨k + 1, z + 1, by omega, rfl, by show _ = _; rw [HZ.out]; omega, by rw [mgK_no HIS.out]; exact HO4, HB4⟩
              case measure => simp [intOf]; omega
        · have hke : k = 9 := by omega
          subst hke
          have hzd : decide (z ≤ 9) = false := decide_eq_false (by have := HZ.out; omega)
          have HF : Hid (OwnR wr w.heap.size wr.heap.size u6 (mgR A B)) := by show OwnR _ _ _ _ _; rw [HR.out.1]; exact HO.out
          go_wp2
          go_ret2
          exact ⟨_, ret_tup HR.out.2, HF.out, HB.out⟩
end Go.Proofs.Ytjnngncnfbdpkaa
