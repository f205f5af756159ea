/-
  The program's iterators over epochs, for every loop body that keeps what lay before and the blocks of epochs: keysByMember's pairs in order; keysAmong's keys, those that are opened, in order. No condition but that the slices read.
  The program's keysAmong hands out the keys of the epochs that are opened, in order; collected they are a row of the call's own. No condition but that the slices read and the table of powers of ten lies.
  The program's knownTerms once more, with the form of what it answers; wrapped: the wrap of a key. No condition but that the slice reads.
  slices.Collect over the program's keysAmong: a row of the call's own with the keys of the epochs that are opened. No condition but that the slices read and the table of powers of ten lies.
  The program's KeysOf. No condition but that the slices read and the table of powers of ten lies.
-/
import Derived.Test.YtcolcnkjcagbaaaGreatDoorBuK
import Derived.RangeFuncNested
import Derived.RangeFuncBound
import Derived.RangeFuncCalls
import Derived.RangeFuncLeaves
import Derived.RangeFuncFrom
import Derived.RangeFuncBox
import Derived.Shelf.Abstract
import Derived.Shelf.RegionOpen
import Derived.OwnWalkIn
import Derived.TacticsInMore
import Derived.LoopNIn
import Derived.LoopIn
import Derived.Sort.BigQuietIn
namespace Go.Proofs.YtcolcnkjcagbaaaGreatDoor
open Go.RowKit Go.Shelf Go.Maps
attribute [local go_sem] Oper.semAt_some
set_option linter.unusedVariables false

theorem box_cell0 {W : World} {b : Nat} {cs : Array Value} {t : TypeId} {v : Value} (h : W.heap[b]? = some (.cells cs t (0, 0))) (hv : cs[0]? = some v) : W.cell? ⟨b, 0, none⟩ = some v := by
  simp [World.cell?, h, hv]

section
variable (Kp : World → World → Prop)

set_option maxRecDepth 100000 in
set_option maxHeartbeats 2000000 in
theorem pairs_in (n : Nat) (hn : 1 ≤ n) (l Bl : Nat) (a : Option Addr) (len cap : Nat) (K : Nat → Int) (L : Nat → Nat) (M : Nat → Nat → Int) (J Jx : List (Int × Int) → World → Prop)
    (w W : World) (hwW : Below w.heap.size w W) (hk1 : ∀ A B, Kp A B → Below w.heap.size A B) (hk2 : ∀ (A B : World) (b : Nat) (cs : Array Value), Kp A B → A.heap[b]? = some (Obj.cells cs 62 (0, 0)) → B.heap[b]? = A.heap[b]?) (hJ : AbidesFrom W.heap.size J)
    (hY : ∀ pre x W1, J pre W1 → pre.length < (Ep.pairsOf K L M len).length → YieldAt Fence.wide (n - 1) Tryz.prog l (Ep.encP x) W1 fun e W' =>
      (e = .returned (.bool true) ∧ J (pre ++ [x]) W' ∧ Kp W1 W') ∨ (e = .returned (.bool false) ∧ Jx (pre ++ [x]) W'))
    (hBlW : W.cell? ⟨Bl, 0, none⟩ = some (.slice a len cap)) (hI : Ep.IsEps w a len cap K L M) (h0 : J [] W) :
    CallsIn Fence.wide n Tryz.prog 98 #[.func (.yield l) #[] #[], .pointer (some ⟨Bl, 0, none⟩)] W fun e W' => (∃ v, e = .returned v) ∧
      ((∃ ys, ys = Ep.pairsOf K L M len ∧ J ys W') ∨ (∃ pre, pre <+: Ep.pairsOf K L M len ∧ Jx pre W')) := by
  obtain ⟨hlc, hcm, hc⟩ := hI
  refine callsIn_of_wp Tryz.func98 rfl trivial ?_ rfl
  simp only [Tryz.ntmps98, List.size_toArray, List.length_cons, List.length_nil, Nat.reduceAdd, Nat.reduceSub, Array.replicate_succ, Array.replicate_zero, List.push_toArray, List.append_toArray, List.nil_append, List.cons_append]
  gi_wp2
  gi_loopw [4, 6, 9] (fun _ _ i wr => ∃ k : Nat, k ≤ len ∧ i = .int .i64 k ∧ J (Ep.pairsOf K L M k) wr ∧ Below w.heap.size w wr) (fun _ _ i _ => len - (intOf i).toNat)
  case atStart => exact ⟨0, Nat.zero_le _, rfl, h0, hwW⟩
  case round =>
    obtain ⟨k, hk, rfl, hJk, hBk⟩ := hrel
    by_cases hlt : k < len
    · obtain ⟨b, off, A, C, rfl, hbs, hcell⟩ := hc (by omega)
      obtain ⟨c1, c2, c3⟩ := hcell k hlt
      have d1 := (hBk.cell (p := ⟨b, off + k * 2, none⟩) hbs).trans c1
      have d2 := (hBk.cell (p := ⟨b, off + k * 2 + 1, none⟩) hbs).trans c2
      have hLk : L k ≤ 9223372036854775807 := by have := c3.1; have := c3.2.1; omega
      have HC := (show Hid _ from hc)
      have H3 : Hid (Ep.IsI64 w (A k) (L k) (C k) (M k)) := c3
      clear hcell hc c1 c2 c3
      have hJA : J (Ep.partOf K L M k 0) (wr.alloc (.cells #[.int .i64 (K k), .slice (A k) (L k) (C k)] 62)) := by
        rw [Ep.part_zero]
        exact hJ _ _ _ none hJk (World.grownBy_alloc wr _ none) (fun r e => by cases e)
      have hKA : Below w.heap.size w (wr.alloc (.cells #[.int .i64 (K k), .slice (A k) (L k) (C k)] 62)) := hBk.alloc hBk.size _
      have q0 : (wr.alloc (.cells #[.int .i64 (K k), .slice (A k) (L k) (C k)] 62)).heap[wr.heap.size]? = some (.cells #[.int .i64 (K k), .slice (A k) (L k) (C k)] 62 (0, 0)) := World.alloc_heap_new wr _
      generalize A k = Ak at *
      obtain ⟨ce, hce⟩ : ∃ ce, ce = #[Value.int .i64 (K k), Value.slice Ak (L k) (C k)] := ⟨_, rfl⟩
      have HCE : Hid (ce = #[Value.int .i64 (K k), Value.slice Ak (L k) (C k)]) := hce
      have q1 : (wr.alloc (.cells #[.int .i64 (K k), .slice Ak (L k) (C k)] 62)).heap[wr.heap.size]? = some (.cells ce 62 (0, 0)) := by rw [hce]; exact q0
      clear hce q0
      gi_wp2
      gi_loopw [6, 16] (fun _ i w2 => ∃ j : Nat, j ≤ L k ∧ i = .int .i64 j ∧ J (Ep.partOf K L M k j) w2 ∧ Below w.heap.size w w2 ∧ w2.heap[wr.heap.size]? = some (.cells ce 62 (0, 0))) (fun _ i _ => L k - (intOf i).toNat)
      case atStart => exact ⟨0, Nat.zero_le _, rfl, hJA, hKA, q1⟩
      case round =>
        obtain ⟨j, hj, rfl, hJj, hBj, qj⟩ := hrel
        by_cases hjl : j < L k
        · obtain ⟨b2, off2, rfl, hb2, hcell2⟩ := H3.out.2.2 (by omega)
          have x1 := (hBj.cell (p := ⟨b2, off2 + j, none⟩) hb2).trans (hcell2 j hjl)
          have x2 := box_cell0 qj (v := .int .i64 (K k)) (by rw [HCE.out]; rfl)
          clear hcell2
          obtain ⟨fn, tmps, assign, body, hy, hR⟩ := hY (Ep.partOf K L M k j) (M k j, K k) _ hJj (Ep.part_lt hlt hjl)
          dsimp only [Ep.encP] at hy
          gi_wp2
          refine hR.mono ?_
          rintro e W3 (⟨rfl, hJ3, hk3⟩ | ⟨rfl, hJx3⟩)
          · have q3 := (hk2 _ _ _ _ hk3 qj).trans qj
            have hB3 := hBj.trans (hk1 _ _ hk3)
            rw [← Ep.part_succ] at hJ3
            gi_wp2
            go_roundw
            case rel => exact ⟨j + 1, by omega, by go_num, hJ3, hB3, q3⟩
            case measure => simp [intOf]; omega
          · rw [← Ep.part_succ] at hJx3
            gi_wp2
            refine bodyPost_ret (results_none rfl _ _ _) rfl ?_
            exact ⟨⟨_, rfl⟩, .inr ⟨_, Ep.part_prefix hlt (by omega), hJx3⟩⟩
        · have hjL : j = L k := by omega
          subst hjL
          rw [Ep.part_full] at hJj
          gi_wp2
          go_roundw
          case rel => exact ⟨k + 1, by omega, by go_num, hJj, hBj⟩
          case measure => simp [intOf]; omega
    · have hke : k = len := by omega
      subst hke
      gi_wp2
      go_end0
      exact ⟨⟨_, rfl⟩, .inl ⟨_, rfl, hJk⟩⟩

end
end Go.Proofs.YtcolcnkjcagbaaaGreatDoor

namespace Go.Proofs.YtcolcnkjcagbaaaGreatDoor
open Go.RowKit Go.Shelf Go.Maps
attribute [local go_sem] Oper.semAt_some
set_option linter.unusedVariables false

theorem keysL_prefix (O : List (List UInt8)) (K : Nat → Int) : ∀ (n d : Nat), keysL O K n <+: keysL O K (n + d)
  | n, 0 => List.prefix_refl _
  | n, d + 1 => by
    refine (keysL_prefix O K n d).trans ?_
    show keysL O K (n + d) <+: keysL O K (n + d + 1)
    rw [keysL.eq_2]
    exact List.prefix_append _ _
theorem keysL_le (O : List (List UInt8)) (K : Nat → Int) {i n : Nat} (h : i ≤ n) : keysL O K i <+: keysL O K n := by
  obtain ⟨d, rfl⟩ : ∃ d, n = i + d := ⟨n - i, by omega⟩
  exact keysL_prefix O K i d
theorem mix : Tryz.prog.follows .mixedOrders = true := by kernel_rfl

theorem wpIn_region_later {F : Fence} {n : Nat} {P : Program} {id : Nat} {Q : Exit → Act → World → Prop} {a : Act} {w : World} {l : List Oper} (hro : F.round = none) (hm : P.follows .mixedOrders = true) (hB : Region.lexB .any l.toArray = true)
    (h : wpQuietIn F n P l.toArray (fun w' => ∃ s : Later w, w' = s.val) (fun a' => ∀ w', (∃ s : Later w, w' = s.val) → Q .normal a' w') l a) : (Code.region id l.toArray true).wpIn F n P Q a w :=
  wpIn_region_quiet (C := fun w' => ∃ s : Later w, w' = s.val) hro hm hB ⟨⟨_, (Below.refl _ _).drew⟩, rfl⟩ (by simpa using h)
theorem callsIn_later {n : Nat} {f : FuncId} {args : Array Value} {w : World} {s : Later w} {v : Value}
    (h : Calls Tryz.prog f args s.val fun e w' => e = .returned v ∧ Below s.val.heap.size s.val w') : CallsIn Fence.wide n Tryz.prog f args s.val fun e w'' => e = .returned v ∧ ∃ s' : Later w, w'' = s'.val :=
  (callsIn_wide.2 h).mono fun _ w' ⟨he, hb⟩ => ⟨he, ⟨⟨w', s.ok.trans (hb.mono s.ok.size)⟩, rfl⟩⟩

section
variable (Kp : World → World → Prop)

set_option maxRecDepth 100000 in
set_option maxHeartbeats 4000000 in
theorem among_in (n : Nat) (hn : 1 ≤ n) (l Bl Bo bm nn : Nat) (a : Option Addr) (len cap : Nat) (K : Nat → Int) (L : Nat → Nat) (M : Nat → Nat → Int) (E : DataW Value) (O : List (List UInt8)) (J Jx : List Int → World → Prop)
    (w W : World) (hwW : Below w.heap.size w W) (hk1 : ∀ A B, Kp A B → Below w.heap.size A B) (hJ : AbidesFrom W.heap.size J)
    (hY : ∀ pre x W1, J pre W1 → pre.length < (keysL O K len).length → YieldAt Fence.wide (n - 1) Tryz.prog l #[.int .i64 x] W1 fun e W' =>
      (e = .returned (.bool true) ∧ J (pre ++ [x]) W' ∧ Kp W1 W') ∨ (e = .returned (.bool false) ∧ Jx (pre ++ [x]) W'))
    (hBl : w.cell? ⟨Bl, 0, none⟩ = some (.slice a len cap)) (hBo : w.cell? ⟨Bo, 0, none⟩ = some (.map (some bm))) (hI : Ep.IsEps w a len cap K L M) (hS : SetOf w bm nn E) (hE : ∀ x, has E (.string x) = true ↔ x ∈ O) (hP : Pow w) (hK : ∀ i, i < len → 100 ≤ K i ∧ K i ≤ 199) (h0 : J [] W) :
    CallsIn Fence.wide n Tryz.prog 100 #[.func (.yield l) #[] #[], .pointer (some ⟨Bl, 0, none⟩), .pointer (some ⟨Bo, 0, none⟩)] W fun e W' => (∃ v, e = .returned v) ∧
      ((∃ ys, ys = keysL O K len ∧ J ys W') ∨ (∃ pre, pre <+: keysL O K len ∧ Jx pre W')) := by
  obtain ⟨hlc, hcm, hc⟩ := hI
  have hmix := mix
  have hBlW : W.cell? ⟨Bl, 0, none⟩ = some (.slice a len cap) := (hwW.cell (p := ⟨Bl, 0, none⟩) (Ep.cell_lt' hBl)).trans hBl
  have HBO : Hid (w.cell? ⟨Bo, 0, none⟩ = some (.map (some bm))) := hBo
  have HSE : Hid (SetOf w bm nn E) := hS
  have HP : Hid (Pow w) := hP
  have HKK : Hid (∀ i, i < len → 100 ≤ K i ∧ K i ≤ 199) := hK
  have HY := (show Hid _ from hY)
  have HE : Hid (∀ x, has E (.string x) = true ↔ x ∈ O) := hE
  clear hBo hS hP hK hY hE
  refine callsIn_of_wp Tryz.func100 rfl trivial ?_ rfl
  simp only [Tryz.ntmps100, List.size_toArray, List.length_cons, List.length_nil, Nat.reduceAdd, Nat.reduceSub, Array.replicate_succ, Array.replicate_zero, List.push_toArray, List.append_toArray, List.nil_append, List.cons_append]
  gi_wp2
  gi_loopw [5, 8] (fun _ i wr => ∃ k : Nat, k ≤ len ∧ i = .int .i64 k ∧ J (keysL O K k) wr ∧ Below w.heap.size w wr) (fun _ i _ => len - (intOf i).toNat)
  case atStart => exact ⟨0, Nat.zero_le _, rfl, h0, hwW⟩
  case round =>
    obtain ⟨k, hk, rfl, hJk, hBk⟩ := hrel
    by_cases hlt : k < len
    · obtain ⟨b, off, A, C, rfl, hbs, hcell⟩ := hc (by omega)
      obtain ⟨c1, c2, c3⟩ := hcell k hlt
      obtain ⟨mk, hmk⟩ : ∃ mk : Nat, K k = (mk : Int) := ⟨(K k).toNat, by have := HKK.out k hlt; omega⟩
      have HMK : Hid (K k = (mk : Int) ∧ mk ≤ 999) := ⟨hmk, by have := HKK.out k hlt; omega⟩
      rw [hmk] at c1
      have d1 := (hBk.cell (p := ⟨b, off + k * 2, none⟩) hbs).trans c1
      have d2 := (hBk.cell (p := ⟨b, off + k * 2 + 1, none⟩) hbs).trans c2
      have hLk : L k ≤ 9223372036854775807 := by have := c3.1; have := c3.2.1; omega
      have HC := (show Hid _ from hc)
      clear hcell hc c1 c2 c3
      generalize A k = Ak at *
      generalize L k = Lk at *
      generalize C k = Ck at *
      obtain ⟨W1, hW1⟩ : ∃ W1, W1 = wr.alloc (.cells #[.int .i64 (mk : Int), .slice Ak Lk Ck] 62) := ⟨_, rfl⟩
      have HW1 : Hid (W1 = wr.alloc (.cells #[.int .i64 (mk : Int), .slice Ak Lk Ck] 62)) := hW1
      have HB1 : Hid (Below w.heap.size w W1) := by show Below _ _ _; rw [hW1]; exact hBk.alloc hBk.size _
      have HJ1 : Hid (J (keysL O K k) W1) := by
        show J _ _
        rw [hW1]
        exact hJ _ _ _ none hJk (World.grownBy_alloc wr _ none) (fun r e => by cases e)
      have HQ : Hid (W1.heap[wr.heap.size]? = some (.cells #[.int .i64 (mk : Int), .slice Ak Lk Ck] 62 (0, 0))) := by show _ = _; rw [hW1]; exact World.alloc_heap_new wr _
      obtain ⟨kin, hkin⟩ : ∃ kin, kin = has E (.string (keyT0 mk).toList) := ⟨_, rfl⟩
      have HKI : Hid (kin = keyIn O K k) := by
        show _ = _
        rw [hkin]
        unfold keyIn
        have e1 : (K k).toNat = mk := by rw [hmk]; rfl
        rw [e1, keyT_txt]
        cases hh : has E (.string (keyT0 mk).toList) with
        | true => rw [decide_eq_true ((HE.out _).1 hh)]
        | false => rw [decide_eq_false (fun h => by rw [(HE.out _).2 h] at hh; cases hh)]
      have HNX : Hid (keysL O K (k + 1) = keysL O K k ++ (if kin = true then [(mk : Int)] else [])) := by show _ = _; rw [keysL, ← HKI.out, hmk]
      have HCO : Hid (∀ X, Below w.heap.size w X → X.cell? ⟨Bo, 0, none⟩ = some (.map (some bm))) := fun X hX => (hX.cell (p := ⟨Bo, 0, none⟩) (Ep.cell_lt' HBO.out)).trans HBO.out
      have HKT : Hid (∀ X, Below w.heap.size w X → Calls Tryz.prog 102 #[.int .i64 (mk : Int)] X fun e w' => e = .returned (.string (keyT0 mk)) ∧ Below X.heap.size X w') := fun X hX => keyText_any mk HMK.out.2 X (HP.out.below hX)
      have hks := keyT0_small mk HMK.out.2
      obtain ⟨KT, hKT⟩ : ∃ KT, KT = keyT0 mk := ⟨_, rfl⟩
      rw [← hKT] at hkin hks HKT
      have HHS : Hid (∀ X, Below w.heap.size w X → Calls Tryz.prog 101 #[.map (some bm), .string KT] X fun e w' => e = .returned (.bool kin) ∧ Below X.heap.size X w') := fun X hX => by
        rw [hkin]
        exact has71_any bm nn E KT X (HSE.out.below hX) hks
      clear hmk hkin hKT hW1
      have HBD : Hid (Below w.heap.size w W1.drew) := ⟨HB1.out.os, HB1.out.tape, HB1.out.output, HB1.out.size, HB1.out.block⟩
      have q1 : W1.cell? ⟨wr.heap.size, 0, none⟩ = some (.int .i64 (mk : Int)) := box_cell0 HQ.out rfl
      have s1 : wr.heap.size < W1.heap.size := (Array.getElem?_eq_some_iff.1 HQ.out).1
      have o1 := HCO.out W1 HB1.out
      cases kin with
      | true =>
        have hltN : (keysL O K k).length < (keysL O K len).length := by
          have h1 := (keysL_le O K (show k + 1 ≤ len by omega)).length_le
          rw [HNX.out, if_pos rfl, List.length_append] at h1
          simp at h1
          omega
        gi_wp2
        rw [← HW1.out]
        gi_region_with_o (first
          | (refine ⟨trivial, ?_⟩; gi_at_call 102; refine (callsIn_wide.2 (HKT.out W1.drew HBD.out)).mono ?_; rintro e W2 ⟨rfl, hB2⟩; have HB2 : Hid (Below w.heap.size w W2) := HBD.out.trans (hB2.mono HBD.out.size); have o2 := HCO.out W2 HB2.out; have q2 : W2.cell? ⟨wr.heap.size, 0, none⟩ = some (.int .i64 (mk : Int)) := (hB2.cell (p := ⟨wr.heap.size, 0, none⟩) s1).trans q1; have s2 : wr.heap.size < W2.heap.size := Nat.lt_of_lt_of_le s1 hB2.size; have HJ2 : Hid (J (keysL O K k) W2) := hJ _ _ _ none HJ1.out ⟨hB2.os, hB2.tape, hB2.output, hB2.size, fun b hb _ => hB2.block b hb⟩ (fun r e => by cases e); clear hB2)
          | (refine ⟨trivial, ?_⟩; gi_at_call 101; refine (callsIn_wide.2 (HHS.out W2 HB2.out)).mono ?_; rintro e W3 ⟨rfl, hB3⟩; have HB3 : Hid (Below w.heap.size w W3) := HB2.out.trans (hB3.mono HB2.out.size); have q3 : W3.cell? ⟨wr.heap.size, 0, none⟩ = some (.int .i64 (mk : Int)) := (hB3.cell (p := ⟨wr.heap.size, 0, none⟩) s2).trans q2; have HJ3 : J (keysL O K k) W3 := hJ _ _ _ none HJ2.out (grown_below hB3) (fun r e => by cases e); clear hB3; obtain ⟨fn, tmps, assign, body, hy, hR⟩ := HY.out (keysL O K k) (mk : Int) W3 HJ3 hltN)
          | (refine hR.mono ?_; rintro e W4 h4; obtain ⟨bb, rfl, hb4⟩ : ∃ bb : Bool, e = .returned (.bool bb) ∧ ((bb = true ∧ J (keysL O K k ++ [(mk : Int)]) W4 ∧ Kp W3 W4) ∨ (bb = false ∧ Jx (keysL O K k ++ [(mk : Int)]) W4)) := (by rcases h4 with ⟨e1, h⟩ | ⟨e1, h⟩; exact ⟨true, e1, .inl ⟨rfl, h⟩⟩; exact ⟨false, e1, .inr ⟨rfl, h⟩⟩); clear h4))
        all_goals
          rcases hb4 with ⟨rfl, hJ4, hk4⟩ | ⟨rfl, hJx4⟩
          · gi_wp2
            go_roundw
            case rel => exact ⟨k + 1, by omega, by go_num, by rw [HNX.out, if_pos trivial]; exact hJ4, HB3.out.trans (hk1 _ _ hk4)⟩
            case measure => simp [intOf]; omega
          · gi_wp2
            refine bodyPost_ret (results_none rfl _ _ _) rfl ?_
            exact ⟨⟨_, rfl⟩, .inr ⟨_, by have h1 := keysL_le O K (show k + 1 ≤ len by omega); rw [HNX.out, if_pos trivial] at h1; exact h1, hJx4⟩⟩
      | false =>
        have oL : ∀ s : Later W1, s.val.cell? ⟨Bo, 0, none⟩ = some (.map (some bm)) := fun s => s.cell o1
        have qL : ∀ s : Later W1, s.val.cell? ⟨wr.heap.size, 0, none⟩ = some (.int .i64 (mk : Int)) := fun s => s.cell q1
        have hne := Later.any W1
        clear o1 q1
        gi_wp2
        rw [← HW1.out]
        refine wpIn_region_later rfl (by kernel_rfl) (by kernel_rfl) ?_
        repeat (
          refine wpQuietIn_step (fun _ _ _ _ => trivial) (fun K hK => ?_)
          go_simp
          first
            | (refine hK _ ?_; clear hK K)
            | (apply Exists.intro
               refine ⟨fun s => ?_, hK _ ?_⟩
               first
                 | (gi_at_call 102; exact callsIn_later (HKT.out _ (HB1.out.trans (s.ok.mono HB1.out.size))))
                 | (gi_at_call 101; exact callsIn_later (HHS.out _ (HB1.out.trans (s.ok.mono HB1.out.size))))
                 | (refine ⟨trivial, ?_⟩; gi_at_call 102; exact callsIn_later (HKT.out _ (HB1.out.trans (s.ok.mono HB1.out.size))))
                 | (refine ⟨trivial, ?_⟩; gi_at_call 101; exact callsIn_later (HHS.out _ (HB1.out.trans (s.ok.mono HB1.out.size))))
               clear hK K))
        refine wpQuietIn_nil ?_
        rintro _ ⟨⟨w5, hB5⟩, rfl⟩
        gi_wp2
        go_roundw
        case rel => exact ⟨k + 1, by omega, by go_num, by rw [HNX.out, if_neg (by decide), List.append_nil]; exact hJ _ _ _ none HJ1.out (grown_below hB5) (fun r e => by cases e), HB1.out.trans (hB5.mono HB1.out.size)⟩
        case measure => simp [intOf]; omega
    · have hke : k = len := by omega
      subst hke
      gi_wp2
      go_end0
      exact ⟨⟨_, rfl⟩, .inl ⟨_, rfl, hJk⟩⟩

end
end Go.Proofs.YtcolcnkjcagbaaaGreatDoor

namespace Go.Proofs.YtcolcnkjcagbaaaGreatDoor
open Go.RowKit Go.Maps
set_option linter.unusedVariables false

theorem row_slice {w : World} {base size n : Nat} {e : TypeId} {v : Value} {xs : List Value} (h : w.ownsRow base e size v n xs) : ∃ a c, v = .slice a n c := by
  rcases h.2 with ⟨e1, e2⟩ | ⟨g, c, cur, e1, _⟩
  · exact ⟨none, 0, by rw [e1, e2]⟩
  · exact ⟨_, c, e1⟩

set_option maxHeartbeats 2000000 in
theorem knownTermsK_any (a : Option Addr) (len cap : Nat) (S : Nat → ByteArray) (w : World) (h : IsStrs w a len cap S) (hS : ∀ i, i < len → (S i).size ≤ 1048576) :
    Calls Tryz.prog 75 #[.slice a len cap] w fun e w' => (∃ ta tl tc, e = .returned (.tuple #[.slice ta tl tc, .bool (knownB S len)]) ∧ (knownB S len = true → tl = len ∧ ∃ L, TrL S len L ∧ w'.ownsRow w.heap.size 75 1 (.slice ta tl tc) len (L.map Tr.val))) ∧ Below w.heap.size w w' := by
  have hI := h
  obtain ⟨hlc, hcm, hc⟩ := h
  obtain ⟨i0, hi, hz0, hz1, hz2⟩ := info_parts info75
  by_cases h30 : (30 : Int) < (len : Int)
  · have hr : Hid (knownB S len = false) := by
      show _ = _
      unfold knownB
      rw [show decide (len ≤ 30) = false by simp; omega]; rfl
    go_enter Tryz.func75, Tryz.ntmps75
    go_wp2
    go_ret2
    exact ⟨⟨none, 0, 0, retv (by rw [hr.out]; rfl), fun h => by rw [hr.out] at h; cases h⟩, Below.refl _ _⟩
  have hk30 : Hid (decide (len ≤ 30) = true) := by show _ = _; simp; omega
  have h30' : (len : Int) ≤ 30 := by omega
  have h30d : decide ((30 : Int) < (len : Int)) = false := by simpa using h30'
  clear h30
  cases hrise : riseB S len with
  | false =>
    have hr : Hid (knownB S len = false) := by
      show _ = _
      unfold knownB
      rw [hrise, Bool.and_false, Bool.false_and]
    go_enter Tryz.func75, Tryz.ntmps75
    go_wp2_with (go_at_call 97; refine (rises_any a len cap S _ hI (by omega)).mono ?_; rintro e w1 ⟨rfl, hB1⟩; rw [hrise])
    go_ret2
    exact ⟨⟨none, 0, 0, retv (by rw [hr.out]; rfl), fun h => by rw [hr.out] at h; cases h⟩, hB1⟩
  | true =>
  have HRI := (show Hid _ from hrise)
  go_enter Tryz.func75, Tryz.ntmps75
  go_wp2_with (go_at_call 97; refine (rises_any a len cap S _ hI (by omega)).mono ?_; rintro e w1 ⟨rfl, hB1⟩; rw [hrise])
  clear hrise
  go_loopw [19, 4] (fun i v wr => ∃ (k : Nat) (L : List Tr) (ta : Option Addr) (tc : Nat), k ≤ len ∧ i = .int .i64 k ∧ v = .slice ta k tc ∧ wr.ownsRow w.heap.size 75 1 (.slice ta k tc) k (L.map Tr.val) ∧ Hid (termsB S k = true ∧ TrL S k L) ∧ Below w.heap.size w wr)
    (fun i _ _ => len - (intOf i).toNat)
  case atStart => exact ⟨0, [], none, 0, Nat.zero_le _, rfl, rfl, World.ownsRow_nil _ _ _ _, ⟨rfl, rfl, fun i hi => absurd hi (Nat.not_lt_zero _)⟩, hB1⟩
  case round =>
    obtain ⟨k, L, ta, tc, hk, rfl, rfl, how, HR, hB⟩ := hrel
    by_cases hlt : k < len
    · obtain ⟨b, off, rfl, hbs, hcell⟩ := hc (by omega)
      have d1 := (hB.cell (p := ⟨b, off + k, none⟩) hbs).trans (hcell k hlt)
      have hsz := hS k hlt
      have hltI : (k : Int) < (len : Int) := by omega
      have HO := (show Hid _ from how)
      clear hcell hc how
      have hc1 : (k + 1 : Nat) ≤ maxLen := by unfold maxLen; omega
      have hc2 : (k + 1) * 16 ≤ 140737488355328 := by omega
      cases hrt : rT (S k) with
      | none =>
        have hr : Hid (knownB S len = false) := by
          show _ = _
          unfold knownB
          rw [termsB_false hlt hrt, Bool.and_false]
        go_wp2_with (go_at_call 68; refine (termOfText_any (S k) _ hsz).mono ?_; rintro e w2 ⟨rfl, hB2⟩; rw [hrt]; dsimp only [tup2])
        go_ret2
        exact ⟨⟨none, 0, 0, retv (by rw [hr.out]; rfl), fun h => by rw [hr.out] at h; cases h⟩, hB.trans (hB2.mono hB.size)⟩
      | some v =>
        obtain ⟨tr, htr, hfit, htx⟩ := rT_fit hrt
        have HTR : Hid (tr.val = v ∧ Fit tr ∧ tr.txt = S k) := ⟨htr, hfit, htx⟩
        obtain ⟨t, u, rfl⟩ := rT_iface hrt
        clear htr hfit htx
        have HRT := (show Hid (rT (S k) = some (.iface t u)) from hrt)
        have hso : ∀ x ∈ [Value.iface t u], x.oneCell' = true := by simp [Value.oneCell']
        go_wp2_with (first
          | (go_at_call 68; refine (termOfText_any (S k) _ hsz).mono ?_; rintro e w2 ⟨rfl, hB2⟩; rw [hrt]; dsimp only [tup2])
          | (at_builtin; refine wpList_append_own _ rfl _ _ 121 rfl w.heap.size 75 i0 .nilIface 1 16 Tryz.underlying121 hi hz0 hz1 hz2 rfl (by decide) _ _ _ rfl ((ownsRow_below HO.out hB2).alloc _) ⟨w2.heap.size, 0, none⟩ 1 1 [.iface t u] rfl rfl (World.news_of_block (heap_alloc_new _ _)) hso hc1 hc2 (by have := (hB.trans (hB2.mono hB.size)).size; simp; omega) ?_; intro v' w3 hown hgrow _; obtain ⟨ta', tc', rfl⟩ := row_slice hown))
        go_roundw
        case rel =>
          refine ⟨k + 1, L ++ [tr], ta', tc', by omega, by go_num, rfl, by rw [List.map_append, List.map_cons, List.map_nil, HTR.out.1]; exact hown, ?_, ?_⟩
          · refine ⟨?_, HR.out.2.add HTR.out.2.1 HTR.out.2.2⟩
            rw [termsB_succ, HR.out.1, HRT.out]; rfl
          · have hBa := (hB.trans (hB2.mono hB.size)).alloc ((hB.trans (hB2.mono hB.size)).size) (.cells #[.iface t u] 75)
            exact hBa.grown hgrow hBa.size (fun x hx => by have := ((ownsRow_below HO.out hB2).lt x hx).1; omega)
        case measure => simp [intOf]; omega
    · have hke : k = len := by omega
      subst hke
      have hr : Hid (knownB S k = true) := by
        show _ = _
        unfold knownB
        rw [hk30.out, HRI.out, HR.out.1]; rfl
      have HOW := (show Hid _ from how)
      clear how
      go_wp2
      go_ret2
      exact ⟨⟨ta, k, tc, retv (by rw [hr.out]; rfl), fun _ => ⟨rfl, L, HR.out.2, HOW.out⟩⟩, hB⟩

/-- an epoch's key sealed by a member's, as the program has it -/
def wrapV (p : Int × Int) : Value := .iface 106 (.agg #[.int .i64 6, .int .i64 p.1, .iface 104 (.agg #[.int .i64 2, .int .i64 p.2])])
theorem wrapV_is {p : Int × Int} (h1 : 1 ≤ p.1) (h2 : 100 ≤ p.2) : wrapV p = (wrapT p).val := by
  obtain ⟨m, k⟩ := p
  obtain ⟨a, rfl⟩ : ∃ a : Nat, m = (a : Int) := ⟨m.toNat, by simp at h1; omega⟩
  obtain ⟨b, rfl⟩ : ∃ b : Nat, k = (b : Int) := ⟨k.toNat, by simp at h2; omega⟩
  unfold wrapT sealT keyT wrapV
  rw [Tr.val, Tr.val]
  rfl
theorem wrapped_any (m k : Int) (w : World) : Calls Tryz.prog 77 #[.int .i64 m, .int .i64 k] w fun e w' => e = .returned (wrapV (m, k)) ∧ w' = w := by
  go_enter Tryz.func77, Tryz.ntmps77
  go_wp2
  go_ret
  exact ⟨rfl, rfl⟩
end Go.Proofs.YtcolcnkjcagbaaaGreatDoor

namespace Go.Proofs.YtcolcnkjcagbaaaGreatDoor
open Go.RowKit Go.Shelf Go.Maps
attribute [local go_sem] Oper.semAt_some
set_option linter.unusedVariables false

set_option maxHeartbeats 400000 in
theorem keysAmong_in (n : Nat) (a : Option Addr) (len cap bm : Nat) (w : World) :
    CallsIn Fence.wide n Tryz.prog 79 #[.slice a len cap, .map (some bm)] w fun e w' => e = .returned (.func (.func 100) #[] #[.pointer (some ⟨w.heap.size, 0, none⟩), .pointer (some ⟨w.heap.size + 1, 0, none⟩)]) ∧ w' = (w.alloc (.cells #[.slice a len cap] 31)).alloc (.cells #[.map (some bm)] 131) := by
  refine callsIn_of_wp Tryz.func79 rfl trivial ?_ rfl
  simp only [Tryz.ntmps79, List.size_toArray, List.length_cons, List.length_nil, Nat.reduceAdd, Nat.reduceSub, Array.replicate_succ, Array.replicate_zero, List.push_toArray, List.append_toArray, List.nil_append, List.cons_append]
  gi_wp2
  go_ret
  exact ⟨rfl, rfl⟩

section
variable {Bl Bo bm nn : Nat} {a : Option Addr} {len cap : Nat} {K : Nat → Int} {L : Nat → Nat} {M : Nat → Nat → Int} {E : DataW Value} {O : List (List UInt8)} {w : World}

set_option maxRecDepth 100000 in
set_option maxHeartbeats 4000000 in
theorem appendSeq_in (n : Nat) (hn : 3 ≤ n) (hBl : w.cell? ⟨Bl, 0, none⟩ = some (.slice a len cap)) (hBo : w.cell? ⟨Bo, 0, none⟩ = some (.map (some bm))) (hI : Ep.IsEps w a len cap K L M) (hS : SetOf w bm nn E) (hE : ∀ x, has E (.string x) = true ↔ x ∈ O) (hP : Pow w) (hK : ∀ i, i < len → 100 ≤ K i ∧ K i ≤ 199) (hl : len ≤ 1000) :
    CallsIn Fence.wide n Tryz.prog 99 #[.slice none 0 0, .func (.func 100) #[] #[.pointer (some ⟨Bl, 0, none⟩), .pointer (some ⟨Bo, 0, none⟩)]] w fun e W' => ∃ v, e = .returned v ∧ OwnK W' w.heap.size v (keysL O K len) ∧ Below w.heap.size w W' := by
  have h1 : 1 ≤ n := by omega
  obtain ⟨i0, hi, hz0, hz1, hz2⟩ := info_parts Ep.info2
  have hkl := keysL_len O K len
  refine callsIn_of_wp_marks Tryz.func99 rfl trivial ?_ rfl
  simp only [Tryz.ntmps99, List.size_toArray, List.length_cons, List.length_nil, Nat.reduceAdd, Nat.reduceSub, Array.replicate_succ, Array.replicate_zero, List.push_toArray, List.append_toArray, List.nil_append, List.cons_append]
  gi_wp2
  have bO := Boxed.new w 45 (.slice none 0 0)
  have hB0 : Below w.heap.size w (w.alloc (.cells #[.slice none 0 0] 45)) := (Below.refl _ w).alloc (Nat.le_refl _) _
  refine wpIn_rangeFunc_ownF rfl h1 (gf := 100) (lb := #[.pointer (some ⟨Bl, 0, none⟩), .pointer (some ⟨Bo, 0, none⟩)]) rfl trivial (enters_of Tryz.func100 (by kernel_rfl) rfl)
    (encs := fun x : Int => #[.int .i64 x]) (Kp := Below w.heap.size) (S := fun ys => ys = keysL O K len) (Sp := fun pre => pre <+: keysL O K len) (N := (keysL O K len).length) (w0 := w)
    (fun l J Jx W hW hJ _ hY h0 => among_in (Below w.heap.size) (n - 1) (by omega) l Bl Bo bm nn a len cap K L M E O J Jx w W hW (fun _ _ h => h) hJ hY hBl hBo hI hS hE hP hK h0)
    belowK_t (belowK_b (by simp)) hB0 (fun _ => rfl)
    (fun pre W => (∃ v, Boxed W w.heap.size 45 v ∧ W.ownsRow w.heap.size 2 1 v pre.length (pre.map (.int .i64 ·)) ∧ True) ∧ Below w.heap.size w W)
    (fun _ _ _ => False)
    (OwnFrom.and (Own.from (holdsRow_own w.heap.size w.heap.size 45 2 1 (fun pre : List Int => pre.length) (fun pre => pre.map (.int .i64 ·)) (fun _ _ => True)) _) (ownFrom_below (Nat.le_refl _) (by simp)))
    (fun _ _ _ _ _ hs _ _ => hs)
    ⟨⟨_, bO, World.ownsRow_nil _ _ _ _, trivial⟩, hB0⟩
    (fun x => { tmps := #[.slice none 0 0, .func (.func 100) #[] #[.pointer (some ⟨Bl, 0, none⟩), .pointer (some ⟨Bo, 0, none⟩)], .pointer (some ⟨w.heap.size, 0, none⟩), undef, .slice none 0 0, .int .i64 x, .func (.func 100) #[] #[.pointer (some ⟨Bl, 0, none⟩), .pointer (some ⟨Bo, 0, none⟩)], .int .i64 x, undef, undef, undef, undef, undef], defers := [] }) ?assign ?body ?done ?stop
  case assign =>
    intro l x W K hK
    gi_wp2
    exact hK
  case body =>
    rintro l pre x W ⟨⟨v, hv, hrow, _⟩, hB⟩ hlt
    have hc := hv.cell
    gi_wp2_with (gi_at_builtin; refine wpListIn_append_own _ rfl _ _ 45 rfl w.heap.size 2 i0 (.int .i64 0) 1 8 Tryz.underlying45 hi hz0 hz1 hz2 rfl (by decide) _ _ _ rfl (hrow.alloc _) ⟨W.heap.size, 0, none⟩ 1 1 [.int .i64 x] rfl rfl (cell_one_new _ _ _) (by simp [Value.oneCell']) (by unfold maxLen; omega) (by omega) (by have := hB.size; simp; omega) ?_; intro v' w1 hown' hgrow _; obtain ⟨g', cap', rfl⟩ := ownsRow_succ hown'; obtain ⟨hv1, hv2, hr2, hk2, hb2⟩ := hv.appended (by decide) hrow hB.size (Nat.le_refl _) hown' hgrow; have hc1 := hv1.cell; have hf1 := hv1.frozen)
    exact ⟨hk2, hb2, ⟨_, hv2, by simpa using hr2, trivial⟩, hB.trans hb2⟩
  case done =>
    rintro D ys W hD rfl ⟨⟨v, hv, hrow, _⟩, hB⟩ hK
    have hc := hv.cell
    gi_wp2
    refine ⟨by simp, .inl ⟨_, _, rfl, run_takeDeferred hK, ?_⟩⟩
    exact ⟨_, results_tmp rfl _ _ _, v, rfl, ownsRow_putObj hrow _ hK rfl, hB.trans (belowK_b (w := w) (Nat.le_refl _) W D _ _ (by simp at hD; omega) hK rfl rfl)⟩
  case stop =>
    rintro D c pre W _ _ h _
    exact h.elim

set_option maxHeartbeats 400000 in
theorem collect_in (n : Nat) (hn : 4 ≤ n) (hBl : w.cell? ⟨Bl, 0, none⟩ = some (.slice a len cap)) (hBo : w.cell? ⟨Bo, 0, none⟩ = some (.map (some bm))) (hI : Ep.IsEps w a len cap K L M) (hS : SetOf w bm nn E) (hE : ∀ x, has E (.string x) = true ↔ x ∈ O) (hP : Pow w) (hK : ∀ i, i < len → 100 ≤ K i ∧ K i ≤ 199) (hl : len ≤ 1000) :
    CallsIn Fence.wide n Tryz.prog 78 #[.func (.func 100) #[] #[.pointer (some ⟨Bl, 0, none⟩), .pointer (some ⟨Bo, 0, none⟩)]] w fun e W' => ∃ v, e = .returned v ∧ OwnK W' w.heap.size v (keysL O K len) ∧ Below w.heap.size w W' := by
  have HA : Hid (CallsIn Fence.wide (n - 1) Tryz.prog 99 #[.slice none 0 0, .func (.func 100) #[] #[.pointer (some ⟨Bl, 0, none⟩), .pointer (some ⟨Bo, 0, none⟩)]] w fun e W' => ∃ v, e = .returned v ∧ OwnK W' w.heap.size v (keysL O K len) ∧ Below w.heap.size w W') := appendSeq_in (n - 1) (by omega) hBl hBo hI hS hE hP hK hl
  clear hBl hBo hI hS hE hP hK hl
  have h1 : 1 ≤ n := by omega
  refine callsIn_of_wp Tryz.func78 rfl trivial ?_ rfl
  simp only [Tryz.ntmps78, List.size_toArray, List.length_cons, List.length_nil, Nat.reduceAdd, Nat.reduceSub, Array.replicate_succ, Array.replicate_zero, List.push_toArray, List.append_toArray, List.nil_append, List.cons_append]
  gi_wp2_with fail
  refine ⟨trivial, HA.out.mono ?_⟩
  rintro e w1 ⟨v, rfl, ho, hB⟩
  have HO : Hid (OwnK w1 w.heap.size v (keysL O K len)) := ho
  clear ho
  gi_wp2
  go_ret
  exact ⟨_, rfl, HO.out, hB⟩
end
end Go.Proofs.YtcolcnkjcagbaaaGreatDoor

namespace Go.Proofs.YtcolcnkjcagbaaaGreatDoor
open Go.RowKit Go.Shelf Go.Maps
attribute [local go_sem] Oper.semAt_some
set_option linter.unusedVariables false

/-- what a round of KeysOf's loop keeps: what lay at n₀, and the blocks of epochs -/
def KeepE (n₀ : Nat) (A B : World) : Prop := Below n₀ A B ∧ ∀ (b : Nat) (cs : Array Value), A.heap[b]? = some (.cells cs 62 (0, 0)) → B.heap[b]? = A.heap[b]?
theorem keepE_t {n₀ : Nat} {A B C : World} (h : KeepE n₀ A B) (k : KeepE n₀ B C) : KeepE n₀ A C :=
  ⟨h.1.trans k.1, fun b cs e => (k.2 b cs ((h.2 b cs e).trans e)).trans (h.2 b cs e)⟩
theorem keepE_b {n₀ : Nat} {w : World} (hn : n₀ ≤ w.heap.size) (W : World) (l : Nat) (o o' : Obj) (hl : w.heap.size ≤ l) (h : W.heap[l]? = some o) (hc : o.isCells = false) (hw : o.isWalk = false) : KeepE n₀ W (W.putObj l o') := by
  refine ⟨belowK_b hn W l o o' hl h hc hw, fun b cs e => World.putObj_heap_other ?_⟩
  rintro rfl
  rw [h] at e
  cases e
  cases hc
theorem app_keep {W w1 : World} {n₀ B : Nat} {v v' : Value} {k : Nat} {xs : List Value} {tmp : Obj} (hv : Boxed W B 121 v) (hrow : W.ownsRow n₀ 75 1 v k xs) (hgrow : (W.alloc tmp).grownBy w1 v.ownBlock) :
    ∀ (b : Nat) (cs : Array Value), W.heap[b]? = some (.cells cs 62 (0, 0)) → (w1.setCell ⟨B, 0, none⟩ v').heap[b]? = W.heap[b]? := by
  intro b cs e
  have hb : b < W.heap.size := (Array.getElem?_eq_some_iff.1 e).1
  have h1 : b ≠ B := by
    rintro rfl
    have h2 := (show W.heap[b]? = _ from hv).symm.trans e
    simp at h2
  rw [Below.heap_setCell _ _ _ _ h1]
  refine (hgrow.block b (by simp; omega) (fun e2 => ?_)).trans (Below.heap_alloc W tmp b hb)
  rcases hrow.2 with ⟨rfl, _⟩ | ⟨g, cap, cur, rfl, _, hgb, _⟩
  · cases e2
  · have e3 : b = g := Option.some.inj e2
    subst e3
    rw [e] at hgb
    simp at hgb

theorem kn_LL {S : Nat → ByteArray} {n : Nat} (u : Tr) : Kn (atL (LL S n)) (LL S n).length u ↔ Kn S n u := by
  unfold Kn
  rw [LL_len]
  refine and_congr Iff.rfl ⟨?_, ?_⟩
  · rintro ⟨i, hi, e⟩
    exact ⟨i, hi, by rw [e, atL_LL hi]⟩
  · rintro ⟨i, hi, e⟩
    exact ⟨i, hi, by rw [e, atL_LL hi]⟩

set_option maxRecDepth 100000 in
set_option maxHeartbeats 8000000 in
theorem implKeysOf_any (a : Option Addr) (len cap : Nat) (K : Nat → Int) (L : Nat → Nat) (M : Nat → Nat → Int) (ka : Option Addr) (kl kc : Nat) (S : Nat → ByteArray) (w : World) (h : Ep.IsEps w a len cap K L M) (hs : IsStrs w ka kl kc S) (hz : ∀ i, i < kl → (S i).size ≤ 1048576) (hP : Pow w) :
    Calls Tryz.prog 60 #[.slice a len cap, .slice ka kl kc] w fun e w' => ∃ v R, e = .returned v ∧ OwnK w' w.heap.size v R ∧ KeysR K L M len S kl R ∧ Below w.heap.size w w' := by
  refine (callsIn_wide (n := 6)).1 ?_
  have HI : Hid (Ep.IsEps w a len cap K L M) := h
  have HP : Hid (Pow w) := hP
  obtain ⟨eb, heb⟩ : ∃ eb, eb = Ep.epsB K L M len := ⟨_, rfl⟩
  have HEB : Hid (eb = Ep.epsB K L M len) := heb
  obtain ⟨kb, hkb⟩ : ∃ kb, kb = knownB S kl := ⟨_, rfl⟩
  have HKB : Hid (kb = knownB S kl) := hkb
  have HE : Hid (∀ v, Below w.heap.size w v → Calls Tryz.prog 67 #[.slice a len cap] v fun e w' => e = .returned (.bool eb) ∧ Below v.heap.size v w') := fun v hv => by
    rw [HEB.out]
    exact Ep.implEpochsOk_any a len cap K L M v (HI.out.below hv)
  have HKN : Hid (Calls Tryz.prog 75 #[.slice ka kl kc] w fun e w' => (∃ ta tl tc, e = .returned (.tuple #[.slice ta tl tc, .bool kb]) ∧ (kb = true → tl = kl ∧ ∃ Lt, TrL S kl Lt ∧ w'.ownsRow w.heap.size 75 1 (.slice ta tl tc) kl (Lt.map Tr.val))) ∧ Below w.heap.size w w') := by
    rw [hkb]
    exact knownTermsK_any ka kl kc S w hs hz
  clear h hs heb hkb hP
  refine callsIn_of_wp_marks Tryz.func60 rfl trivial ?_ rfl
  simp only [Tryz.ntmps60, List.size_toArray, List.length_cons, List.length_nil, Nat.reduceAdd, Nat.reduceSub, Array.replicate_succ, Array.replicate_zero, List.push_toArray, List.append_toArray, List.nil_append, List.cons_append]
  gi_wp2_with fail
  refine ⟨trivial, (callsIn_wide.2 HKN.out).mono ?_⟩
  rintro e w1 ⟨⟨ta, tl, tc, rfl, hL⟩, hB1⟩
  have HB1 : Hid (Below w.heap.size w w1) := hB1
  cases kb with
  | false =>
    clear hB1 hL
    gi_wp2
    refine ⟨trivial, ?_⟩
    gi_wp2
    exact ⟨_, results_tmp rfl _ _ _, .slice none 0 0, [], rfl, World.ownsRow_nil _ _ _ _, ⟨fun _ h => (by rw [← HKB.out] at h; cases h), fun _ => rfl⟩, HB1.out.alloc HB1.out.size _⟩
  | true =>
  obtain ⟨rfl, Lt, hT, hrow⟩ := hL rfl
  have HT : Hid (TrL S tl Lt) := hT
  have HROW : Hid (w1.ownsRow w.heap.size 75 1 (.slice ta tl tc) tl (Lt.map Tr.val)) := hrow
  obtain ⟨w2, hw2⟩ : ∃ w2, w2 = w1.alloc (.cells #[.slice ta tl tc] 121) := ⟨_, rfl⟩
  have HW2 : Hid (w2 = w1.alloc (.cells #[.slice ta tl tc] 121)) := hw2
  have HB2 : Hid (Below w.heap.size w w2) := by show Below _ _ _; rw [hw2]; exact hB1.alloc hB1.size _
  have HBX2 : Hid (Boxed w2 w1.heap.size 121 (.slice ta tl tc)) := by show Boxed _ _ _ _; rw [hw2]; exact Boxed.new _ _ _
  have HROW2 : Hid (w2.ownsRow w.heap.size 75 1 (.slice ta tl tc) tl (Lt.map Tr.val)) := by show w2.ownsRow _ _ _ _ _ _; rw [hw2]; exact hrow.alloc _
  have c2 := HBX2.out.cell
  have s12 : w1.heap.size < w2.heap.size := HBX2.out.lt
  clear hw2 hT hrow hL hB1
  gi_wp2_with fail
  rw [← HW2.out]
  refine ⟨trivial, (callsIn_wide.2 (HE.out _ HB2.out)).mono ?_⟩
  rintro e w3 ⟨rfl, hB3⟩
  have HB3 : Hid (Below w.heap.size w w3) := HB2.out.trans (hB3.mono HB2.out.size)
  cases eb with
  | false =>
    clear hB3
    gi_wp2
    exact ⟨_, results_tmp rfl _ _ _, .slice none 0 0, [], rfl, World.ownsRow_nil _ _ _ _, ⟨fun h => (by rw [← HEB.out] at h; cases h), fun _ => rfl⟩, HB3.out⟩
  | true =>
  have HBX3 : Hid (Boxed w3 w1.heap.size 121 (.slice ta tl tc)) := (hB3.block w1.heap.size s12).trans HBX2.out
  have HROW3 : Hid (w3.ownsRow w.heap.size 75 1 (.slice ta tl tc) tl (Lt.map Tr.val)) := Ep.ownsRow_below HROW2.out hB3
  clear hB3
  gi_wp2_with fail
  refine ⟨trivial, (Ep.keysBy_in _ _ _ _ _).mono ?_⟩
  rintro e w4 ⟨rfl, hw4⟩
  have HW4 : Hid (w4 = w3.alloc (.cells #[.slice a len cap] 31)) := hw4
  clear hw4
  gi_wp2
  have HB4 : Hid (Below w.heap.size w w4) := by show Below _ _ _; rw [HW4.out]; exact HB3.out.alloc HB3.out.size _
  have HBX4 : Hid (Boxed w4 w1.heap.size 121 (.slice ta tl tc)) := by show Boxed _ _ _ _; rw [HW4.out]; exact HBX3.out.alloc _
  have HROW4 : Hid (w4.ownsRow w.heap.size 75 1 (.slice ta tl tc) tl (Lt.map Tr.val)) := by show w4.ownsRow _ _ _ _ _ _; rw [HW4.out]; exact HROW3.out.alloc _
  have HBL : Hid (w4.cell? ⟨w3.heap.size, 0, none⟩ = some (.slice a len cap)) := by show _ = _; rw [HW4.out]; exact (Boxed.new w3 _ _).cell
  have hpf := pairs_few HEB.out.symm
  have hk30 := (known_of HKB.out.symm).1
  obtain ⟨i0, hi, hz0, hz1, hz2⟩ := info_parts info75
  have hmix := mix
  obtain ⟨s0, hs0⟩ : ∃ s0, s0 = w.heap.size := ⟨_, rfl⟩
  obtain ⟨b1, hb1⟩ : ∃ b1, b1 = w1.heap.size := ⟨_, rfl⟩
  have HS0 : Hid (s0 = w.heap.size ∧ b1 = w1.heap.size ∧ s0 ≤ b1 ∧ b1 ≤ w4.heap.size) := ⟨hs0, hb1, by rw [hs0, hb1]; exact HB1.out.size, by rw [hb1]; exact Nat.le_of_lt HBX4.out.lt⟩
  rw [← hb1] at HBX4 ⊢
  rw [← hs0] at HROW4 HB4
  clear hs0 hb1
  refine wpIn_rangeFunc_ownF rfl (by omega) (gf := 98) (lb := #[.pointer (some ⟨w3.heap.size, 0, none⟩)]) rfl trivial (enters_of Tryz.func98 (by kernel_rfl) rfl)
    (encs := Ep.encP) (Kp := KeepE s0) (S := fun ys => ys = Ep.pairsOf K L M len) (Sp := fun pre => pre <+: Ep.pairsOf K L M len) (N := (Ep.pairsOf K L M len).length) (w0 := w4)
    (fun l J Jx W hW hJ _ hY h0 => by
      rw [HS0.out.1] at hY HB4
      exact pairs_in (KeepE w.heap.size) (6 - 1) (by omega) l w3.heap.size a len cap K L M J Jx w W (HB4.out.trans (hW.mono HB4.out.size)) (fun _ _ h => h.1) (fun _ _ b cs h e => h.2 b cs e) hJ hY ((hW.cell (p := ⟨w3.heap.size, 0, none⟩) (Ep.cell_lt' HBL.out)).trans HBL.out) HI.out h0)
    keepE_t (keepE_b (Nat.le_trans HS0.out.2.2.1 HS0.out.2.2.2)) (Below.refl _ _) (fun _ => rfl)
    (fun pre W => (∃ v, Boxed W b1 121 v ∧ W.ownsRow s0 75 1 v (tl + pre.length) (Lt.map Tr.val ++ pre.map wrapV) ∧ True) ∧ Below s0 w W)
    (fun _ _ _ => False)
    (OwnFrom.and (Own.from (holdsRow_own s0 b1 121 75 1 (fun pre : List (Int × Int) => tl + pre.length) (fun pre => Lt.map Tr.val ++ pre.map wrapV) (fun _ _ => True)) _) (ownFrom_below (by rw [HS0.out.1]; exact Nat.le_refl _) (Nat.le_trans HS0.out.2.2.1 HS0.out.2.2.2)))
    (fun _ _ _ _ _ hs _ _ => hs)
    ⟨⟨_, HBX4.out, by simpa using HROW4.out, trivial⟩, HB4.out⟩
    (fun x => { tmps := #[.slice a len cap, .slice ka tl kc, undef, undef, .slice none 0 0, .pointer (some ⟨b1, 0, none⟩), .bool true, .int .i64 x.1, .int .i64 x.2, .tuple #[.slice ta tl tc, .bool true], .slice ka tl kc, .tuple #[.slice ta tl tc, .bool true], .slice ta tl tc, .bool true, .bool true, .bool false, .bool false, .slice a len cap, .bool true, .bool false, .bool false, .slice a len cap, .func (.func 98) #[] #[.pointer (some ⟨w3.heap.size, 0, none⟩)], .int .i64 x.1, .int .i64 x.2, undef, undef, undef, undef, undef, undef, undef, undef, undef, undef, undef], defers := [] }) ?assign ?body ?done ?stop
  case assign =>
    intro l x W K hK
    gi_wp2
    exact hK
  case body =>
    rintro l pre ⟨x1, x2⟩ W ⟨⟨v, hv, hrow, _⟩, hB⟩ hlt
    obtain ⟨va, vc, rfl⟩ := row_slice hrow
    have hc := hv.cell
    obtain ⟨u, hu⟩ : ∃ u, u = Value.agg #[.int .i64 6, .int .i64 x1, .iface 104 (.agg #[.int .i64 2, .int .i64 x2])] := ⟨_, rfl⟩
    have HWV : Hid (wrapV (x1, x2) = .iface 106 u) := by show _ = _; rw [hu]; rfl
    have HWC : Hid (∀ X : World, Calls Tryz.prog 77 #[.int .i64 x1, .int .i64 x2] X fun e w' => e = .returned (.iface 106 u) ∧ w' = X) := fun X => by
      have := wrapped_any x1 x2 X
      rw [HWV.out] at this
      exact this
    have hso : ∀ x ∈ [Value.iface 106 u], x.oneCell' = true := by simp [Value.oneCell']
    clear hu
    have hbW : b1 < W.heap.size := hv.lt
    have hrd : (W.drew.alloc (.cells #[.iface 106 u] 75)).ownsRow s0 75 1 (.slice va (tl + pre.length) vc) (tl + pre.length) (Lt.map Tr.val ++ pre.map wrapV) := World.ownsRow.alloc (w := W.drew) hrow _
    obtain ⟨v', w5, hap, hown', hgrow, hnn⟩ := run_append_own (P := Tryz.prog) (W.drew.alloc (.cells #[.iface 106 u] 75)) s0 121 121 75 i0 .nilIface 1 16 Tryz.underlying121 hi hz0 hz1 hz2 rfl (by decide) (.slice va (tl + pre.length) vc) (tl + pre.length) (Lt.map Tr.val ++ pre.map wrapV) hrd ⟨W.heap.size, 0, none⟩ 1 1 [.iface 106 u] rfl (cell_one_new W.drew _ _) hso (by unfold maxLen; omega) (by omega) (by have := hB.size; rw [← HS0.out.1] at this; simp; omega)
    obtain ⟨g', cap', rfl⟩ := ownsRow_succ hown'
    have hvd : Boxed W.drew b1 121 (.slice va (tl + pre.length) vc) := hv
    have hrwd : W.drew.ownsRow s0 75 1 (.slice va (tl + pre.length) vc) (tl + pre.length) (Lt.map Tr.val ++ pre.map wrapV) := hrow
    have hs0W : s0 ≤ W.drew.heap.size := by have := hB.size; rw [← HS0.out.1] at this; exact this
    obtain ⟨hv1, hv2, hr2, hk2, hb2⟩ := hvd.appended (by decide) hrwd hs0W HS0.out.2.2.1 hown' hgrow
    have HK2 : Hid (KeepE s0 W (w5.setCell ⟨b1, 0, none⟩ (.slice (some ⟨g', 0, none⟩) (tl + pre.length + 1) cap')) ∧ KeepsOthers W (w5.setCell ⟨b1, 0, none⟩ (.slice (some ⟨g', 0, none⟩) (tl + pre.length + 1) cap'))) := ⟨⟨((Below.refl s0 W).drew).trans hb2, fun b cs e => app_keep (W := W.drew) hvd hrwd hgrow b cs e⟩, (KeepsOthers.drew W).trans hk2⟩
    have HR2 : Hid ((w5.setCell ⟨b1, 0, none⟩ (.slice (some ⟨g', 0, none⟩) (tl + pre.length + 1) cap')).ownsRow s0 75 1 (.slice (some ⟨g', 0, none⟩) (tl + pre.length + 1) cap') (tl + (pre ++ [(x1, x2)]).length) (Lt.map Tr.val ++ (pre ++ [(x1, x2)]).map wrapV)) := by
      show World.ownsRow _ _ _ _ _ _ _
      rw [List.map_append, List.map_cons, List.map_nil, HWV.out, List.length_append, ← List.append_assoc]
      exact hr2
    have HV2 : Hid (Boxed (w5.setCell ⟨b1, 0, none⟩ (.slice (some ⟨g', 0, none⟩) (tl + pre.length + 1) cap')) b1 121 (.slice (some ⟨g', 0, none⟩) (tl + pre.length + 1) cap')) := hv2
    have hc1 := hv1.cell
    have hf1 := hv1.frozen
    clear hk2 hb2 hr2 hv2 hown' hgrow hrd hrwd hvd hnn
    simp [go_sem] at hap
    gi_wp2
    gi_region_with_o (first
      | (refine ⟨trivial, ?_⟩; gi_at_call 77; refine (CallsIn.inRound l (callsIn_wide.2 (HWC.out _))).mono ?_; rintro e w' ⟨rfl, hw'⟩; rw [hw']; clear hw' w')
      | (trace_state; fail))
    all_goals exact ⟨HK2.out.2, HK2.out.1, ⟨_, HV2.out, HR2.out, trivial⟩, hB.trans HK2.out.1.1⟩
  case done =>
    rintro D ys W hD rfl ⟨⟨v, hv, hrow, _⟩, hB⟩ hK
    obtain ⟨va, vc, rfl⟩ := row_slice hrow
    have hc := hv.cell
    obtain ⟨Al, hAl⟩ : ∃ Al, Al = Lt ++ (Ep.pairsOf K L M len).map wrapT := ⟨_, rfl⟩
    have hmap : Lt.map Tr.val ++ (Ep.pairsOf K L M len).map wrapV = Al.map Tr.val := by
      rw [hAl, List.map_append, List.map_map]
      congr 1
      refine List.map_congr_left fun p hp => ?_
      obtain ⟨r1, r2⟩ := pairs_range HEB.out.symm p hp
      exact wrapV_is r1.1 r2.1
    have hAlen : Al.length = tl + (Ep.pairsOf K L M len).length := by rw [hAl, List.length_append, List.length_map, HT.out.1]
    have hfit : ∀ t, t ∈ Al → Fit t := by
      intro t ht
      rw [hAl] at ht
      rcases List.mem_append.1 ht with h1 | h1
      · exact ((HT.out.mem t).1 h1).1
      · obtain ⟨p, hp, rfl⟩ := List.mem_map.1 h1
        obtain ⟨r1, r2⟩ := pairs_range HEB.out.symm p hp
        exact wrapT_fit r1 r2
    rw [hmap] at hrow
    have hIT : IsTs W va vc Al := by
      rcases hrow.2 with ⟨e1, e2⟩ | ⟨g, c, cur, e, _, hg, h1, h2, _⟩
      · exact ⟨by omega, by simp only [Value.slice.injEq] at e1; omega, fun hp => by omega⟩
      · have e' := e
        simp only [Value.slice.injEq] at e'
        obtain ⟨e1, _, e3⟩ := e'
        refine ⟨by omega, by unfold maxLen at h2; omega, fun _ => ⟨g, e1, lt_of_block hg, fun i t ht => ?_⟩⟩
        have := hrow.cells (g := g) (by rw [e]; rfl) i t.val (by rw [List.getElem?_map, ht]; rfl)
        rw [add_at, Nat.zero_add] at this
        exact this
    have hBW : Below w.heap.size w W := by rw [← HS0.out.1]; exact hB
    have HBW : Hid (Below w.heap.size w W) := hBW
    obtain ⟨q, hq⟩ : ∃ q, q = tl + (Ep.pairsOf K L M len).length := ⟨_, rfl⟩
    have HOP : Hid (Calls Tryz.prog 80 #[.slice va q vc] W fun e w' => ∃ E, e = .returned (.map (some W.heap.size)) ∧ SetOf w' W.heap.size 4000 E ∧ (∀ x, has E (.string x) = true ↔ ∃ t, Op (fun u => u ∈ Al) t ∧ t.txt.toList = x) ∧ Below W.heap.size W w') := by
      have := openedOf_any va vc Al W hIT hfit (by omega) (HP.out.below hBW)
      rw [hAlen, ← hq] at this
      exact this
    have HKW : Hid (W.heap[D]? = some (.deferred (some [])) ∧ w4.heap.size ≤ D ∧ D < W.heap.size) := ⟨hK, hD, (Array.getElem?_eq_some_iff.1 hK).1⟩
    have HALL : Hid (∀ u, u ∈ Al ↔ Kn (atL (allL (LL S tl) (wrL (Ep.pairsOf K L M len)))) (allL (LL S tl) (wrL (Ep.pairsOf K L M len))).length u) := fun u => by
      rw [kn_all (Q := LL S tl) HEB.out.symm u, kn_LL, ← HT.out.mem u, hAl, List.mem_append, List.mem_map]
      exact or_congr Iff.rfl ⟨fun ⟨p, hp, e⟩ => ⟨p, hp, e.symm⟩, fun ⟨p, hp, e⟩ => ⟨p, hp, e.symm⟩⟩
    rw [← hq] at hc
    clear hAl hmap hAlen hfit hrow hIT hBW hv hB hK hD hq
    gi_wp2_with fail
    refine ⟨trivial, (callsIn_wide.2 HOP.out).mono ?_⟩
    rintro e w6 ⟨E, rfl, hSE, hE, hB6⟩
    have HB6 : Hid (Below w.heap.size w w6) := HBW.out.trans (hB6.mono HBW.out.size)
    have HW6 : Hid (Below W.heap.size W w6) := hB6
    have HSE : Hid (SetOf w6 W.heap.size 4000 E) := hSE
    obtain ⟨O, hO⟩ : ∃ O, O = (strKeys E).mergeSort (fun x y => decide (x ≤ y)) := ⟨_, rfl⟩
    obtain ⟨hnd, hmem⟩ := strKeys_spec hSE lawS Tryz.underlying9
    have HO : Hid (Up O ∧ (∀ x, has E (.string x) = true ↔ x ∈ O) ∧ ∀ x, x ∈ O ↔ OpT (atL (allL (LL S tl) (wrL (Ep.pairsOf K L M len)))) (allL (LL S tl) (wrL (Ep.pairsOf K L M len))).length x) := by
      have h1 : ∀ x, x ∈ O ↔ has E (.string x) = true := fun x => by rw [hO, (List.mergeSort_perm (strKeys E) _).mem_iff]; exact hmem x
      refine ⟨by rw [hO]; exact sort_up hnd, fun x => (h1 x).symm, fun x => ?_⟩
      rw [h1 x, hE x]
      exact exists_congr fun t => and_congr ⟨fun ho => ho.mono fun u hu => (HALL.out u).1 hu, fun ho => ho.mono fun u hu => (HALL.out u).2 hu⟩ Iff.rfl
    clear hSE hE hB6 hO hnd hmem HOP
    gi_wp2_with fail
    refine ⟨trivial, (keysAmong_in _ a len cap W.heap.size w6).mono ?_⟩
    rintro e w7 ⟨rfl, hw7⟩
    have hB67 : Below w6.heap.size w6 w7 := by rw [hw7]; exact ((Below.refl _ _).alloc (Nat.le_refl _) _).alloc (by simp) _
    have HB7 : Hid (Below w.heap.size w w7) := HB6.out.trans (hB67.mono HB6.out.size)
    have HW7 : Hid (Below W.heap.size W w7) := HW6.out.trans (hB67.mono HW6.out.size)
    have HBl : Hid (w7.cell? ⟨w6.heap.size, 0, none⟩ = some (.slice a len cap)) := by
      show _ = _
      rw [hw7]
      exact ((Boxed.new w6 31 (.slice a len cap)).alloc _).cell
    have HBo : Hid (w7.cell? ⟨w6.heap.size + 1, 0, none⟩ = some (.map (some W.heap.size))) := by
      show _ = _
      rw [hw7]
      have h1 := (Boxed.new (w6.alloc (.cells #[.slice a len cap] 31)) 131 (.map (some W.heap.size))).cell
      rw [World.size_alloc] at h1
      exact h1
    have HCL : Hid (CallsIn Fence.wide 5 Tryz.prog 78 #[.func (.func 100) #[] #[.pointer (some ⟨w6.heap.size, 0, none⟩), .pointer (some ⟨w6.heap.size + 1, 0, none⟩)]] w7 fun e W' => ∃ v, e = .returned v ∧ OwnK W' w7.heap.size v (keysL O K len) ∧ Below w7.heap.size w7 W') :=
      collect_in 5 (by omega) HBl.out HBo.out (HI.out.below HB7.out) (HSE.out.below hB67) HO.out.2.1 (HP.out.below HB7.out) (fun i hi => eps_key HEB.out.symm hi) (by
        rcases Nat.eq_zero_or_pos len with h0 | h0
        · omega
        · have := (eps_few HEB.out.symm h0).2; omega)
    clear hw7 hB67
    gi_wp2_with fail
    refine ⟨trivial, HCL.out.mono ?_⟩
    rintro e w8 ⟨v8, rfl, ho8, hB8⟩
    have HB8 : Hid (Below w.heap.size w w8) := HB7.out.trans (hB8.mono HB7.out.size)
    have HW8 : Hid (Below W.heap.size W w8) := HW7.out.trans (hB8.mono HW7.out.size)
    have HO8 : Hid (OwnK w8 w.heap.size v8 (keysL O K len)) := mono_base ho8 HB7.out.size
    have HK8 : Hid (w8.heap[D]? = some (.deferred (some []))) := (HW8.out.block D HKW.out.2.2).trans HKW.out.1
    clear ho8 hB8
    gi_wp2
    refine ⟨by simp, .inl ⟨_, _, rfl, run_takeDeferred HK8.out, ?_⟩⟩
    exact ⟨_, results_tmp rfl _ _ _, v8, keysL O K len, rfl, ownsRow_putObj HO8.out _ HK8.out rfl, ⟨fun _ _ => ⟨O, HO.out.1, HO.out.2.2, rfl⟩, fun h => h.elim (fun h => (by rw [← HEB.out] at h; cases h)) (fun h => (by rw [← HKB.out] at h; cases h))⟩, HB8.out.trans (belowK_b (w := w) (Nat.le_refl _) w8 D _ _ (by have h1 := HKW.out.2.1; have h2 := HB4.out.size; omega) HK8.out rfl rfl)⟩
  case stop =>
    rintro D c pre W _ _ h _
    exact h.elim
end Go.Proofs.YtcolcnkjcagbaaaGreatDoor
