/-
  Marks on disks. No condition but that they read.
-/
import Derived.Test.YtbohaefmokbgbaaDkXO
import Derived.Laws.BytesString
import Derived.Laws.Concat
import Derived.Lib.ItoaNum
import Derived.Sort.KeysCollected
namespace Go.Proofs.Ytbohaefmokbgbaa
open Go.RowKit
set_option linter.unusedVariables false

/-- nothing outside has turned, and no old block that p names -/
structure Kept (p : Nat → Prop) (w w' : World) : Prop where
  os : w'.os = w.os
  tape : w'.tape = w.tape
  output : w'.output = w.output
  size : w.heap.size ≤ w'.heap.size
  block : ∀ k, k < w.heap.size → p k → w'.heap[k]? = w.heap[k]?

theorem Kept.refl (p : Nat → Prop) (w : World) : Kept p w w := ⟨rfl, rfl, rfl, Nat.le_refl _, fun _ _ _ => rfl⟩

theorem Kept.trans {p : Nat → Prop} {a b c : World} (h : Kept p a b) (k : Kept p b c) : Kept p a c :=
  ⟨k.os.trans h.os, k.tape.trans h.tape, k.output.trans h.output, Nat.le_trans h.size k.size, fun i hi hp => (k.block i (by have := h.size; omega) hp).trans (h.block i hi hp)⟩

theorem Kept.of_below {p : Nat → Prop} {w w' : World} (h : Below w.heap.size w w') : Kept p w w' := ⟨h.os, h.tape, h.output, h.size, fun k hk _ => h.block k hk⟩

theorem Kept.of_grown {p : Nat → Prop} {w w' : World} {row : Option Nat} (h : w.grownBy w' row) (hr : ∀ k, row = some k → ¬ p k) : Kept p w w' :=
  ⟨h.os, h.tape, h.output, h.size, fun k hk hp => h.block k hk (fun e => hr k e.symm hp)⟩

theorem Kept.mono {p q : Nat → Prop} {w w' : World} (h : Kept p w w') (hq : ∀ k, q k → p k) : Kept q w w' := ⟨h.os, h.tape, h.output, h.size, fun k hk hp => h.block k hk (hq k hp)⟩

theorem Kept.below {B : Nat} {w w' : World} (h : Kept (fun k => k < B) w w') (hB : B ≤ w.heap.size) : Below B w w' := ⟨h.os, h.tape, h.output, h.size, fun k hk => h.block k (by omega) hk⟩

/-- the text of one byte -/
def mg (c : Int) : ByteArray := ⟨#[UInt8.ofNat c.toNat]⟩

theorem mg_size (c : Int) : (mg c).size = 1 := rfl

/-- the digits of a number; none of nought -/
def mtR (n : Nat) : ByteArray := if n = 0 then ⟨#[]⟩ else ⟨(Lib.decDigits n).toArray⟩

theorem mtR_zero : mtR 0 = ⟨#[]⟩ := by unfold mtR; rw [if_pos rfl]

theorem mtR_more {n : Nat} (h : n ≠ 0) : mtR n = mtR (n / 10) ++ mg (48 + (n : Int) % 10) := by
  apply ByteArray.ext
  apply Array.ext'
  unfold mtR mg
  rw [if_neg h, show (48 + (n : Int) % 10).toNat = 48 + n % 10 by omega]
  by_cases h2 : n < 10
  · rw [if_pos (by omega), Lib.decDigits_one h2, show n % 10 = n by omega]
    simp
  · rw [if_neg (by omega)]
    conv => lhs; rw [Lib.decDigits, dif_neg h2]
    simp

/-- the text of a mark -/
def mt (n : Nat) : ByteArray := ⟨#[109]⟩ ++ mtR n

theorem mg_string (w : World) (c : Int) : (convert 22 9 (.slice (some ⟨w.heap.size, 0, none⟩) 1 1)).run Try.prog (w.alloc (.cells #[.int .u8 c] 5)) = .ok (.string (mg c)) (w.alloc (.cells #[.int .u8 c] 5)) := by
  rw [run_convert_bytes_string _ 22 9 5 _ _ _ Try.underlying22 Try.underlying5 Try.underlying9]
  rw [run_bytesToString _ _ 1 1 [c] (by simp [loadCells, go_sem])]
  rfl

theorem ret_val' {a b : ByteArray} (h : a = b) : Ending.returned (.string a) = .returned (.string b) := by rw [h]

set_option maxRecDepth 4000 in
set_option maxHeartbeats 400000 in
theorem mt_any (n : Nat) (h0 : 0 < n) (hn : n ≤ 1152921504606846976) (w : World) :
    Calls Try.prog 84 #[.int .i64 n] w fun e w' => e = .returned (.string (mt n)) ∧ Below w.heap.size w w' := by
  have hpos : ¬ ((n : Int) ≤ 0) := by omega
  have hpos' : decide ((n : Int) ≤ 0) = false := by simp; omega
  clear hpos
  go_enter Try.func84, Try.ntmps84
  go_wp2
  clear hpos'
  go_loopw [0, 3] (fun x y wr => ∃ (m : Nat) (t : ByteArray), m ≤ n ∧ x = .int .i64 m ∧ y = .string t ∧ Hid (t.size + m ≤ n) ∧ Hid (mtR n = mtR m ++ t) ∧ Below w.heap.size w wr) (fun x _ _ => (intOf x).toNat)
  case atStart => exact ⟨n, _, Nat.le_refl _, rfl, rfl, by show _ ≤ _; exact Nat.le_of_eq (Nat.zero_add _), by show _ = _; exact ByteArray.append_empty.symm, Below.refl _ _⟩
  case round =>
    obtain ⟨m, t, hm, rfl, rfl, hts, hd, hB⟩ := hrel
    by_cases hz : m = 0
    · subst hz
      have hadd : ∀ w' : World, (Op.stringOp .add (⟨#[109]⟩ : ByteArray) t).run Try.prog w' = .ok (.string ((⟨#[109]⟩ : ByteArray) ++ t)) w' := fun w' => run_string_add_sum w' _ _ (by have := hts.out; have : (⟨#[109]⟩ : ByteArray).size = 1 := rfl; omega)
      have hr : Hid (mt n = ⟨#[109]⟩ ++ t) := by
        show _ = _
        unfold mt
        rw [hd.out, mtR_zero]
        show (⟨#[109]⟩ : ByteArray) ++ (ByteArray.empty ++ t) = _
        rw [ByteArray.empty_append]
      clear hd hts
      go_wp2
      go_ret
      exact ⟨ret_val' hr.out.symm, hB⟩
    · have hadd : ∀ (c : Int) (w' : World), (Op.stringOp .add (mg c) t).run Try.prog w' = .ok (.string (mg c ++ t)) w' := fun c w' => run_string_add_sum w' _ _ (by have := hts.out; have := mg_size c; omega)
      have hcv := mg_string wr
      have hlt : (0 : Int) < (m : Int) := by omega
      have hr : Hid (mtR n = mtR (m / 10) ++ (mg (48 + (m : Int) % 10) ++ t)) := by
        show _ = _
        rw [hd.out, mtR_more hz, ByteArray.append_assoc]
      have hmm : Hid (m ≠ 0) := hz
      clear hz hd
      go_wp2
      go_roundw
      case rel =>
        refine ⟨m / 10, _, by omega, by go_num, rfl, ?_, hr.out, hB.alloc hB.size _⟩
        show _ ≤ _
        have := hts.out
        have := hmm.out
        rw [ByteArray.size_append, mg_size]
        omega
      case measure => have := hmm.out; simp [intOf]; omega


def mkF (k n : Nat) : List Fl := (List.range n).map fun (i : Nat) => ⟨mt (k + i * 2), mt (k + i * 2 + 1)⟩
theorem mkF_len (k n : Nat) : (mkF k n).length = n := by unfold mkF; simp
theorem mkF_at (k n : Nat) {i : Nat} (h : i < n) : (mkF k n).getD i flZ = ⟨mt (k + i * 2), mt (k + i * 2 + 1)⟩ := by unfold mkF; simp [h]

set_option maxRecDepth 10000 in
set_option maxHeartbeats 2000000 in
theorem markFileS_any (base : Nat) (v : Value) (n k0 : Nat) (w : World) (h : OwA2 w base v n) (hk : 0 < k0) (hb : k0 + n * 2 ≤ 1152921504606846976) :
    Calls Try.prog 52 #[v, .int .i64 (k0 : Int)] w fun e w' => e = .returned (.int .i64 ((k0 + n * 2 : Nat) : Int)) ∧ RdF w' v (mkF k0 n) ∧ OwA2 w' base v n ∧ w.grownBy w' v.ownBlock := by
  obtain ⟨xs0, h⟩ := h
  rcases (show _ from h.2) with ⟨rfl, h0⟩ | ⟨g, cap, cur, rfl, hgb, hgh, hcp, hcm, _⟩
  · have hn : n = 0 := by omega
    subst hn
    have HF : Hid (RdF w (.slice none 0 0) (mkF k0 0) ∧ OwA2 w base (.slice none 0 0) 0) := ⟨⟨none, 0, rfl, Nat.le_refl _, by omega, fun h => absurd h (Nat.lt_irrefl _)⟩, OwA2.nil _ _⟩
    clear h
    go_enter Try.func52, Try.ntmps52
    go_wp2
    refine wp_loop_rounds 1 ?_
    rw [rounds_succ]; go_wp2
    go_ret
    exact ⟨rfl, HF.out.1, HF.out.2, World.grownBy.refl _ _⟩
  have hcap : n ≤ cap ∧ cap ≤ 9223372036854775807 := ⟨hcp, by unfold maxLen at hcm; omega⟩
  have HCAP := (show Hid _ from hcap)
  clear hgb hgh hcp hcm hcap
  go_enter Try.func52, Try.ntmps52
  go_wp2
  go_loopw [1, 5] (fun x i wr => ∃ (j : Nat) (xs : List Value), j ≤ n ∧ i = .int .i64 j ∧ x = .int .i64 ((k0 + j * 2 : Nat) : Int) ∧ Hid (wr.ownsRow base 68 2 (.slice (some ⟨g, 0, none⟩) n cap) n xs) ∧ Hid (∀ t, t < j → xs[t * 2]? = some (.string (mt (k0 + t * 2))) ∧ xs[t * 2 + 1]? = some (.string (mt (k0 + t * 2 + 1)))) ∧ Hid (w.grownBy wr (some g)))
    (fun _ i _ => n - (intOf i).toNat)
  case atStart => exact ⟨0, xs0, Nat.zero_le _, rfl, rfl, h, (fun t ht => absurd ht (Nat.not_lt_zero _)), World.grownBy.refl _ _⟩
  case round =>
    obtain ⟨j, xs, hj, rfl, rfl, HO0, HA, HG0⟩ := hrel
    clear h
    by_cases hlt : j < n
    · have hltI : (j : Int) < (n : Int) := by omega
      have hxl : xs.length = n * 2 := HO0.out.1
      go_wp2_with fail
      have hm0 := mt_any (k0 + j * 2) (by omega) (by omega) wr
      
      refine (hm0).mono ?_
      rintro e w1 ⟨rfl, hB1⟩
      have ho0 := ownsRow_below HO0.out hB1
      have HGB0 : Hid (w.grownBy w1 (some g)) := HG0.out.trans ⟨hB1.os, hB1.tape, hB1.output, hB1.size, fun k hk _ => hB1.block k hk⟩
      have f0 := ho0.frozenAt (j * 2)
      obtain ⟨z0, y0⟩ := own_some ho0 (j * 2) (by omega)
      obtain ⟨W0, hW0⟩ : ∃ W0, W0 = w1.setCell ⟨g, j * 2, none⟩ (.string (mt (k0 + j * 2))) := ⟨_, rfl⟩
      have HW0 : Hid (W0 = _) := hW0
      have HO1 : Hid (W0.ownsRow base 68 2 (.slice (some ⟨g, 0, none⟩) n cap) n ((xs).set (j * 2) (.string (mt (k0 + j * 2))))) := by rw [hW0]; exact (ho0.stored _ _).1
      have HG1 : Hid (w.grownBy W0 (some g)) := by rw [hW0]; exact HGB0.out.trans (ho0.stored _ _).2
      clear ho0 hW0 hB1 hm0
      go_wp2_with fail
      have hm1 := mt_any (k0 + j * 2 + 1) (by omega) (by omega) W0
      rw [← HW0.out]
      refine (hm1).mono ?_
      rintro e w2 ⟨rfl, hB2⟩
      have ho1 := ownsRow_below HO1.out hB2
      have HGB1 : Hid (w.grownBy w2 (some g)) := HG1.out.trans ⟨hB2.os, hB2.tape, hB2.output, hB2.size, fun k hk _ => hB2.block k hk⟩
      have f1 := ho1.frozenAt (j * 2 + 1)
      obtain ⟨z1, y1⟩ := own_some ho1 (j * 2 + 1) (by omega)
      obtain ⟨W1, hW1⟩ : ∃ W1, W1 = w2.setCell ⟨g, j * 2 + 1, none⟩ (.string (mt (k0 + j * 2 + 1))) := ⟨_, rfl⟩
      have HW1 : Hid (W1 = _) := hW1
      have HO2 : Hid (W1.ownsRow base 68 2 (.slice (some ⟨g, 0, none⟩) n cap) n (((xs).set (j * 2) (.string (mt (k0 + j * 2)))).set (j * 2 + 1) (.string (mt (k0 + j * 2 + 1))))) := by rw [hW1]; exact (ho1.stored _ _).1
      have HG2 : Hid (w.grownBy W1 (some g)) := by rw [hW1]; exact HGB1.out.trans (ho1.stored _ _).2
      clear ho1 hW1 hB2 hm1
      go_wp2
      rw [← HW1.out]
      go_roundw
      case rel =>
        refine ⟨j + 1, ((xs).set (j * 2) (.string (mt (k0 + j * 2)))).set (j * 2 + 1) (.string (mt (k0 + j * 2 + 1))), by omega, by go_num, by go_num, HO2, ?_, HG2⟩
        intro t ht
        have hxl' := hxl
        rcases Nat.lt_succ_iff_lt_or_eq.1 ht with h1 | rfl
        · refine ⟨?_, ?_⟩
          · rw [List.getElem?_set_ne (by omega), List.getElem?_set_ne (by omega)]; exact (HA.out t h1).1
          · rw [List.getElem?_set_ne (by omega), List.getElem?_set_ne (by omega)]; exact (HA.out t h1).2
        · refine ⟨?_, ?_⟩
          · rw [List.getElem?_set_ne (by omega), List.getElem?_set_self (by first | omega | (simp; omega))]
          · rw [List.getElem?_set_self (by first | omega | (simp; omega))]
      case measure => simp [intOf]; omega
    · have hje : j = n := by omega
      subst hje
      have HF : Hid (RdF wr (.slice (some ⟨g, 0, none⟩) j cap) (mkF k0 j)) := by
        refine ⟨_, cap, by rw [mkF_len], by rw [mkF_len]; exact HCAP.out.1, HCAP.out.2, fun hp => ⟨g, 0, rfl, own_live HO0.out, fun i hi => ?_⟩⟩
        rw [mkF_len] at hi
        rw [mkF_at _ _ hi]
        have q := HA.out i hi
        refine ⟨?_, ?_⟩
        · rw [Nat.zero_add, HO0.out.cellAt _ (by omega)]; exact q.1
        · rw [Nat.zero_add, HO0.out.cellAt _ (by omega)]; exact q.2
      have HX : Hid (OwA2 wr base (.slice (some ⟨g, 0, none⟩) j cap) j) := ⟨xs, HO0.out⟩
      go_wp2
      go_ret
      exact ⟨rfl, HF.out, HX.out, HG0.out⟩

set_option maxRecDepth 10000 in
set_option maxHeartbeats 2000000 in
theorem heldFileS_any (v : Value) (n k0 : Nat) (w : World) (h : RdF w v (mkF k0 n)) (hk : 0 < k0) (hb : k0 + n * 2 ≤ 1152921504606846976) :
    Calls Try.prog 54 #[v, .int .i64 (k0 : Int)] w fun e w' => e = .returned (.int .i64 ((k0 + n * 2 : Nat) : Int)) ∧ Below w.heap.size w w' := by
  obtain ⟨a, cap, rfl, hlc, hcm, hc⟩ := h
  rw [mkF_len] at hlc hc ⊢
  go_enter Try.func54, Try.ntmps54
  go_wp2
  go_loopw [1, 5] (fun x i wr => ∃ (j : Nat), j ≤ n ∧ i = .int .i64 j ∧ x = .int .i64 ((k0 + j * 2 : Nat) : Int) ∧ Hid (Below w.heap.size w wr)) (fun _ i _ => n - (intOf i).toNat)
  case atStart => exact ⟨0, Nat.zero_le _, rfl, rfl, Below.refl _ _⟩
  case round =>
    obtain ⟨j, hj, rfl, rfl, HB0⟩ := hrel
    by_cases hlt : j < n
    · obtain ⟨b, off, rfl, hbs, hl⟩ := hc (by omega)
      have hltI : (j : Int) < (n : Int) := by omega
      have hlj := hl j (by first | exact hlt | (rw [mkF_len]; exact hlt))
      rw [mkF_at _ _ hlt] at hlj
      have HD : Hid (∀ w', Below w.heap.size w w' → w'.cell? ⟨b, off + j * 2, none⟩ = some (.string (mt (k0 + j * 2))) ∧ w'.cell? ⟨b, off + j * 2 + 1, none⟩ = some (.string (mt (k0 + j * 2 + 1)))) := fun w' hB => ⟨(hB.cell (p := ⟨b, off + j * 2, none⟩) hbs).trans (hlj.c0), (hB.cell (p := ⟨b, off + j * 2 + 1, none⟩) hbs).trans (hlj.c1)⟩
      clear hl hlj hc
      have d0 : ∀ s : Later wr, s.val.cell? ⟨b, off + j * 2, none⟩ = some (.string (mt (k0 + j * 2))) := fun s => (HD.out s.val (HB0.out.trans (s.ok.mono HB0.out.size))).1
      have hss0 : ((mt (k0 + j * 2)).toList != (mt (k0 + j * 2)).toList) = false := by simp
      have HX0 : Hid (∀ s : Later wr, Calls Try.prog 84 #[.int .i64 ((k0 + j * 2 : Nat) : Int)] s.val fun e w' => e = .returned (.string (mt (k0 + j * 2))) ∧ Below s.val.heap.size s.val w') := fun s => mt_any (k0 + j * 2) (by omega) (by omega) s.val
      have hany0 := Later.any wr
      go_wp2
      refine wp_region_later (by kernel_rfl) (by kernel_rfl) ?_
      repeat (go_big_quiet_step ((rename_i s; exact Calls.later (HX0.out s))))
      refine wpQuiet_nil ?_
      rintro w1 ⟨⟨wx, hbx⟩, hwx⟩
      have hb1 : Below wr.heap.size wr w1 := by rw [hwx]; exact hbx
      clear hwx hbx wx
      have HB1 : Hid (Below w.heap.size w w1) := HB0.out.trans (hb1.mono HB0.out.size)
      clear d0 hss0 hany0 hb1
      have d1 : ∀ s : Later w1, s.val.cell? ⟨b, off + j * 2 + 1, none⟩ = some (.string (mt (k0 + j * 2 + 1))) := fun s => (HD.out s.val (HB1.out.trans (s.ok.mono HB1.out.size))).2
      have hss1 : ((mt (k0 + j * 2 + 1)).toList != (mt (k0 + j * 2 + 1)).toList) = false := by simp
      have HX1 : Hid (∀ s : Later w1, Calls Try.prog 84 #[.int .i64 ((k0 + j * 2 + 1 : Nat) : Int)] s.val fun e w' => e = .returned (.string (mt (k0 + j * 2 + 1))) ∧ Below s.val.heap.size s.val w') := fun s => mt_any (k0 + j * 2 + 1) (by omega) (by omega) s.val
      have hany1 := Later.any w1
      go_wp2
      refine wp_region_later (by kernel_rfl) (by kernel_rfl) ?_
      repeat (go_big_quiet_step ((rename_i s; exact Calls.later (HX1.out s))))
      refine wpQuiet_nil ?_
      rintro w2 ⟨⟨wx, hbx⟩, hwx⟩
      have hb2 : Below w1.heap.size w1 w2 := by rw [hwx]; exact hbx
      clear hwx hbx wx
      have HB2 : Hid (Below w.heap.size w w2) := HB1.out.trans (hb2.mono HB1.out.size)
      clear d1 hss1 hany1 hb2
      go_wp2
      go_roundw
      case rel => exact ⟨j + 1, by omega, by go_num, by go_num, HB2⟩
      case measure => simp [intOf]; omega
    · have hje : j = n := by omega
      subst hje
      clear hc
      go_wp2
      go_ret
      exact ⟨rfl, HB0.out⟩

def mkO (k n : Nat) : List Dop := (List.range n).map fun (i : Nat) => ⟨((k : Int) + (i : Int) * 4), mt (k + i * 4 + 1), mt (k + i * 4 + 2), mt (k + i * 4 + 3)⟩
theorem mkO_len (k n : Nat) : (mkO k n).length = n := by unfold mkO; simp
theorem mkO_at (k n : Nat) {i : Nat} (h : i < n) : (mkO k n).getD i dopZ = ⟨((k : Int) + (i : Int) * 4), mt (k + i * 4 + 1), mt (k + i * 4 + 2), mt (k + i * 4 + 3)⟩ := by unfold mkO; simp [h]

set_option maxRecDepth 10000 in
set_option maxHeartbeats 2000000 in
theorem markDOpS_any (base : Nat) (v : Value) (n k0 : Nat) (w : World) (h : OwA4 w base v n) (hk : 0 < k0) (hb : k0 + n * 4 ≤ 1152921504606846976) :
    Calls Try.prog 53 #[v, .int .i64 (k0 : Int)] w fun e w' => e = .returned (.int .i64 ((k0 + n * 4 : Nat) : Int)) ∧ RdO w' v (mkO k0 n) ∧ OwA4 w' base v n ∧ w.grownBy w' v.ownBlock := by
  obtain ⟨xs0, h⟩ := h
  rcases (show _ from h.2) with ⟨rfl, h0⟩ | ⟨g, cap, cur, rfl, hgb, hgh, hcp, hcm, _⟩
  · have hn : n = 0 := by omega
    subst hn
    have HF : Hid (RdO w (.slice none 0 0) (mkO k0 0) ∧ OwA4 w base (.slice none 0 0) 0) := ⟨⟨none, 0, rfl, Nat.le_refl _, by omega, fun h => absurd h (Nat.lt_irrefl _)⟩, OwA4.nil _ _⟩
    clear h
    go_enter Try.func53, Try.ntmps53
    go_wp2
    refine wp_loop_rounds 1 ?_
    rw [rounds_succ]; go_wp2
    go_ret
    exact ⟨rfl, HF.out.1, HF.out.2, World.grownBy.refl _ _⟩
  have hcap : n ≤ cap ∧ cap ≤ 9223372036854775807 := ⟨hcp, by unfold maxLen at hcm; omega⟩
  have HCAP := (show Hid _ from hcap)
  clear hgb hgh hcp hcm hcap
  go_enter Try.func53, Try.ntmps53
  go_wp2
  go_loopw [1, 5] (fun x i wr => ∃ (j : Nat) (xs : List Value), j ≤ n ∧ i = .int .i64 j ∧ x = .int .i64 ((k0 + j * 4 : Nat) : Int) ∧ Hid (wr.ownsRow base 49 4 (.slice (some ⟨g, 0, none⟩) n cap) n xs) ∧ Hid (∀ t, t < j → xs[t * 4]? = some (.int .i64 ((k0 : Int) + ( t : Int) * 4)) ∧ xs[t * 4 + 1]? = some (.string (mt (k0 + t * 4 + 1))) ∧ xs[t * 4 + 2]? = some (.string (mt (k0 + t * 4 + 2))) ∧ xs[t * 4 + 3]? = some (.string (mt (k0 + t * 4 + 3)))) ∧ Hid (w.grownBy wr (some g)))
    (fun _ i _ => n - (intOf i).toNat)
  case atStart => exact ⟨0, xs0, Nat.zero_le _, rfl, rfl, h, (fun t ht => absurd ht (Nat.not_lt_zero _)), World.grownBy.refl _ _⟩
  case round =>
    obtain ⟨j, xs, hj, rfl, rfl, HO0, HA, HG0⟩ := hrel
    clear h
    by_cases hlt : j < n
    · have hltI : (j : Int) < (n : Int) := by omega
      have hxl : xs.length = n * 4 := HO0.out.1
      have ho0 := HO0.out
      have HGB0 : Hid (w.grownBy wr (some g)) := HG0
      have f0 := ho0.frozenAt (j * 4)
      obtain ⟨z0, y0⟩ := own_some ho0 (j * 4) (by omega)
      obtain ⟨W0, hW0⟩ : ∃ W0, W0 = wr.setCell ⟨g, j * 4, none⟩ (.int .i64 ((k0 : Int) + ( j : Int) * 4)) := ⟨_, rfl⟩
      have HW0 : Hid (W0 = _) := hW0
      have HO1 : Hid (W0.ownsRow base 49 4 (.slice (some ⟨g, 0, none⟩) n cap) n ((xs).set (j * 4) (.int .i64 ((k0 : Int) + ( j : Int) * 4)))) := by rw [hW0]; exact (ho0.stored _ _).1
      have HG1 : Hid (w.grownBy W0 (some g)) := by rw [hW0]; exact HGB0.out.trans (ho0.stored _ _).2
      clear ho0 hW0
      go_wp2_with fail
      have hm1 := mt_any (k0 + j * 4 + 1) (by omega) (by omega) W0
      rw [← HW0.out]
      refine (hm1).mono ?_
      rintro e w2 ⟨rfl, hB2⟩
      have ho1 := ownsRow_below HO1.out hB2
      have HGB1 : Hid (w.grownBy w2 (some g)) := HG1.out.trans ⟨hB2.os, hB2.tape, hB2.output, hB2.size, fun k hk _ => hB2.block k hk⟩
      have f1 := ho1.frozenAt (j * 4 + 1)
      obtain ⟨z1, y1⟩ := own_some ho1 (j * 4 + 1) (by omega)
      obtain ⟨W1, hW1⟩ : ∃ W1, W1 = w2.setCell ⟨g, j * 4 + 1, none⟩ (.string (mt (k0 + j * 4 + 1))) := ⟨_, rfl⟩
      have HW1 : Hid (W1 = _) := hW1
      have HO2 : Hid (W1.ownsRow base 49 4 (.slice (some ⟨g, 0, none⟩) n cap) n (((xs).set (j * 4) (.int .i64 ((k0 : Int) + ( j : Int) * 4))).set (j * 4 + 1) (.string (mt (k0 + j * 4 + 1))))) := by rw [hW1]; exact (ho1.stored _ _).1
      have HG2 : Hid (w.grownBy W1 (some g)) := by rw [hW1]; exact HGB1.out.trans (ho1.stored _ _).2
      clear ho1 hW1 hB2 hm1
      go_wp2_with fail
      have hm2 := mt_any (k0 + j * 4 + 2) (by omega) (by omega) W1
      rw [← HW1.out]
      refine (hm2).mono ?_
      rintro e w3 ⟨rfl, hB3⟩
      have ho2 := ownsRow_below HO2.out hB3
      have HGB2 : Hid (w.grownBy w3 (some g)) := HG2.out.trans ⟨hB3.os, hB3.tape, hB3.output, hB3.size, fun k hk _ => hB3.block k hk⟩
      have f2 := ho2.frozenAt (j * 4 + 2)
      obtain ⟨z2, y2⟩ := own_some ho2 (j * 4 + 2) (by omega)
      obtain ⟨W2, hW2⟩ : ∃ W2, W2 = w3.setCell ⟨g, j * 4 + 2, none⟩ (.string (mt (k0 + j * 4 + 2))) := ⟨_, rfl⟩
      have HW2 : Hid (W2 = _) := hW2
      have HO3 : Hid (W2.ownsRow base 49 4 (.slice (some ⟨g, 0, none⟩) n cap) n ((((xs).set (j * 4) (.int .i64 ((k0 : Int) + ( j : Int) * 4))).set (j * 4 + 1) (.string (mt (k0 + j * 4 + 1)))).set (j * 4 + 2) (.string (mt (k0 + j * 4 + 2))))) := by rw [hW2]; exact (ho2.stored _ _).1
      have HG3 : Hid (w.grownBy W2 (some g)) := by rw [hW2]; exact HGB2.out.trans (ho2.stored _ _).2
      clear ho2 hW2 hB3 hm2
      go_wp2_with fail
      have hm3 := mt_any (k0 + j * 4 + 3) (by omega) (by omega) W2
      rw [← HW2.out]
      refine (hm3).mono ?_
      rintro e w4 ⟨rfl, hB4⟩
      have ho3 := ownsRow_below HO3.out hB4
      have HGB3 : Hid (w.grownBy w4 (some g)) := HG3.out.trans ⟨hB4.os, hB4.tape, hB4.output, hB4.size, fun k hk _ => hB4.block k hk⟩
      have f3 := ho3.frozenAt (j * 4 + 3)
      obtain ⟨z3, y3⟩ := own_some ho3 (j * 4 + 3) (by omega)
      obtain ⟨W3, hW3⟩ : ∃ W3, W3 = w4.setCell ⟨g, j * 4 + 3, none⟩ (.string (mt (k0 + j * 4 + 3))) := ⟨_, rfl⟩
      have HW3 : Hid (W3 = _) := hW3
      have HO4 : Hid (W3.ownsRow base 49 4 (.slice (some ⟨g, 0, none⟩) n cap) n (((((xs).set (j * 4) (.int .i64 ((k0 : Int) + ( j : Int) * 4))).set (j * 4 + 1) (.string (mt (k0 + j * 4 + 1)))).set (j * 4 + 2) (.string (mt (k0 + j * 4 + 2)))).set (j * 4 + 3) (.string (mt (k0 + j * 4 + 3))))) := by rw [hW3]; exact (ho3.stored _ _).1
      have HG4 : Hid (w.grownBy W3 (some g)) := by rw [hW3]; exact HGB3.out.trans (ho3.stored _ _).2
      clear ho3 hW3 hB4 hm3
      go_wp2
      rw [← HW3.out]
      go_roundw
      case rel =>
        refine ⟨j + 1, ((((xs).set (j * 4) (.int .i64 ((k0 : Int) + ( j : Int) * 4))).set (j * 4 + 1) (.string (mt (k0 + j * 4 + 1)))).set (j * 4 + 2) (.string (mt (k0 + j * 4 + 2)))).set (j * 4 + 3) (.string (mt (k0 + j * 4 + 3))), by omega, by go_num, by go_num, HO4, ?_, HG4⟩
        intro t ht
        have hxl' := hxl
        rcases Nat.lt_succ_iff_lt_or_eq.1 ht with h1 | rfl
        · refine ⟨?_, ?_, ?_, ?_⟩
          · rw [List.getElem?_set_ne (by omega), List.getElem?_set_ne (by omega), List.getElem?_set_ne (by omega), List.getElem?_set_ne (by omega)]; exact (HA.out t h1).1
          · rw [List.getElem?_set_ne (by omega), List.getElem?_set_ne (by omega), List.getElem?_set_ne (by omega), List.getElem?_set_ne (by omega)]; exact (HA.out t h1).2.1
          · rw [List.getElem?_set_ne (by omega), List.getElem?_set_ne (by omega), List.getElem?_set_ne (by omega), List.getElem?_set_ne (by omega)]; exact (HA.out t h1).2.2.1
          · rw [List.getElem?_set_ne (by omega), List.getElem?_set_ne (by omega), List.getElem?_set_ne (by omega), List.getElem?_set_ne (by omega)]; exact (HA.out t h1).2.2.2
        · refine ⟨?_, ?_, ?_, ?_⟩
          · rw [List.getElem?_set_ne (by omega), List.getElem?_set_ne (by omega), List.getElem?_set_ne (by omega), List.getElem?_set_self (by first | omega | (simp; omega))]
          · rw [List.getElem?_set_ne (by omega), List.getElem?_set_ne (by omega), List.getElem?_set_self (by first | omega | (simp; omega))]
          · rw [List.getElem?_set_ne (by omega), List.getElem?_set_self (by first | omega | (simp; omega))]
          · rw [List.getElem?_set_self (by first | omega | (simp; omega))]
      case measure => simp [intOf]; omega
    · have hje : j = n := by omega
      subst hje
      have HF : Hid (RdO wr (.slice (some ⟨g, 0, none⟩) j cap) (mkO k0 j)) := by
        refine ⟨_, cap, by rw [mkO_len], by rw [mkO_len]; exact HCAP.out.1, HCAP.out.2, fun hp => ⟨g, 0, rfl, own_live HO0.out, fun i hi => ?_⟩⟩
        rw [mkO_len] at hi
        rw [mkO_at _ _ hi]
        have q := HA.out i hi
        intro t ht
        rw [Nat.zero_add, HO0.out.cellAt _ (by omega)]
        rcases t with _ | _ | _ | _ | t
        · exact q.1
        · exact q.2.1
        · exact q.2.2.1
        · exact q.2.2.2
        · omega
      have HX : Hid (OwA4 wr base (.slice (some ⟨g, 0, none⟩) j cap) j) := ⟨xs, HO0.out⟩
      go_wp2
      go_ret
      exact ⟨rfl, HF.out, HX.out, HG0.out⟩

set_option maxRecDepth 10000 in
set_option maxHeartbeats 2000000 in
theorem heldDOpS_any (v : Value) (n k0 : Nat) (w : World) (h : RdO w v (mkO k0 n)) (hk : 0 < k0) (hb : k0 + n * 4 ≤ 1152921504606846976) :
    Calls Try.prog 55 #[v, .int .i64 (k0 : Int)] w fun e w' => e = .returned (.int .i64 ((k0 + n * 4 : Nat) : Int)) ∧ Below w.heap.size w w' := by
  obtain ⟨a, cap, rfl, hlc, hcm, hc⟩ := h
  rw [mkO_len] at hlc hc ⊢
  go_enter Try.func55, Try.ntmps55
  go_wp2
  go_loopw [1, 5] (fun x i wr => ∃ (j : Nat), j ≤ n ∧ i = .int .i64 j ∧ x = .int .i64 ((k0 + j * 4 : Nat) : Int) ∧ Hid (Below w.heap.size w wr)) (fun _ i _ => n - (intOf i).toNat)
  case atStart => exact ⟨0, Nat.zero_le _, rfl, rfl, Below.refl _ _⟩
  case round =>
    obtain ⟨j, hj, rfl, rfl, HB0⟩ := hrel
    by_cases hlt : j < n
    · obtain ⟨b, off, rfl, hbs, hl⟩ := hc (by omega)
      have hltI : (j : Int) < (n : Int) := by omega
      have hlj := hl j (by first | exact hlt | (rw [mkO_len]; exact hlt))
      rw [mkO_at _ _ hlt] at hlj
      have HD : Hid (∀ w', Below w.heap.size w w' → w'.cell? ⟨b, off + j * 4, none⟩ = some (.int .i64 ((k0 : Int) + ( j : Int) * 4)) ∧ w'.cell? ⟨b, off + j * 4 + 1, none⟩ = some (.string (mt (k0 + j * 4 + 1))) ∧ w'.cell? ⟨b, off + j * 4 + 2, none⟩ = some (.string (mt (k0 + j * 4 + 2))) ∧ w'.cell? ⟨b, off + j * 4 + 3, none⟩ = some (.string (mt (k0 + j * 4 + 3)))) := fun w' hB => ⟨(hB.cell (p := ⟨b, off + j * 4, none⟩) hbs).trans (hlj 0 (by omega)), (hB.cell (p := ⟨b, off + j * 4 + 1, none⟩) hbs).trans (hlj 1 (by omega)), (hB.cell (p := ⟨b, off + j * 4 + 2, none⟩) hbs).trans (hlj 2 (by omega)), (hB.cell (p := ⟨b, off + j * 4 + 3, none⟩) hbs).trans (hlj 3 (by omega))⟩
      clear hl hlj hc
      have d0 := (HD.out wr HB0.out).1
      have hii0 : (((k0 : Int) + (j : Int) * 4) != ((k0 : Int) + (j : Int) * 4)) = false := by simp
      have HB1 : Hid (Below w.heap.size w wr) := HB0
      have d1 : ∀ s : Later wr, s.val.cell? ⟨b, off + j * 4 + 1, none⟩ = some (.string (mt (k0 + j * 4 + 1))) := fun s => (HD.out s.val (HB1.out.trans (s.ok.mono HB1.out.size))).2.1
      have hss1 : ((mt (k0 + j * 4 + 1)).toList != (mt (k0 + j * 4 + 1)).toList) = false := by simp
      have HX1 : Hid (∀ s : Later wr, Calls Try.prog 84 #[.int .i64 ((k0 + j * 4 + 1 : Nat) : Int)] s.val fun e w' => e = .returned (.string (mt (k0 + j * 4 + 1))) ∧ Below s.val.heap.size s.val w') := fun s => mt_any (k0 + j * 4 + 1) (by omega) (by omega) s.val
      have hany1 := Later.any wr
      go_wp2
      refine wp_region_later (by kernel_rfl) (by kernel_rfl) ?_
      repeat (go_big_quiet_step ((rename_i s; exact Calls.later (HX1.out s))))
      refine wpQuiet_nil ?_
      rintro w2 ⟨⟨wx, hbx⟩, hwx⟩
      have hb2 : Below wr.heap.size wr w2 := by rw [hwx]; exact hbx
      clear hwx hbx wx
      have HB2 : Hid (Below w.heap.size w w2) := HB1.out.trans (hb2.mono HB1.out.size)
      clear d1 hss1 hany1 hb2
      have d2 : ∀ s : Later w2, s.val.cell? ⟨b, off + j * 4 + 2, none⟩ = some (.string (mt (k0 + j * 4 + 2))) := fun s => (HD.out s.val (HB2.out.trans (s.ok.mono HB2.out.size))).2.2.1
      have hss2 : ((mt (k0 + j * 4 + 2)).toList != (mt (k0 + j * 4 + 2)).toList) = false := by simp
      have HX2 : Hid (∀ s : Later w2, Calls Try.prog 84 #[.int .i64 ((k0 + j * 4 + 2 : Nat) : Int)] s.val fun e w' => e = .returned (.string (mt (k0 + j * 4 + 2))) ∧ Below s.val.heap.size s.val w') := fun s => mt_any (k0 + j * 4 + 2) (by omega) (by omega) s.val
      have hany2 := Later.any w2
      go_wp2
      refine wp_region_later (by kernel_rfl) (by kernel_rfl) ?_
      repeat (go_big_quiet_step ((rename_i s; exact Calls.later (HX2.out s))))
      refine wpQuiet_nil ?_
      rintro w3 ⟨⟨wx, hbx⟩, hwx⟩
      have hb3 : Below w2.heap.size w2 w3 := by rw [hwx]; exact hbx
      clear hwx hbx wx
      have HB3 : Hid (Below w.heap.size w w3) := HB2.out.trans (hb3.mono HB2.out.size)
      clear d2 hss2 hany2 hb3
      have d3 : ∀ s : Later w3, s.val.cell? ⟨b, off + j * 4 + 3, none⟩ = some (.string (mt (k0 + j * 4 + 3))) := fun s => (HD.out s.val (HB3.out.trans (s.ok.mono HB3.out.size))).2.2.2
      have hss3 : ((mt (k0 + j * 4 + 3)).toList != (mt (k0 + j * 4 + 3)).toList) = false := by simp
      have HX3 : Hid (∀ s : Later w3, Calls Try.prog 84 #[.int .i64 ((k0 + j * 4 + 3 : Nat) : Int)] s.val fun e w' => e = .returned (.string (mt (k0 + j * 4 + 3))) ∧ Below s.val.heap.size s.val w') := fun s => mt_any (k0 + j * 4 + 3) (by omega) (by omega) s.val
      have hany3 := Later.any w3
      go_wp2
      refine wp_region_later (by kernel_rfl) (by kernel_rfl) ?_
      repeat (go_big_quiet_step ((rename_i s; exact Calls.later (HX3.out s))))
      refine wpQuiet_nil ?_
      rintro w4 ⟨⟨wx, hbx⟩, hwx⟩
      have hb4 : Below w3.heap.size w3 w4 := by rw [hwx]; exact hbx
      clear hwx hbx wx
      have HB4 : Hid (Below w.heap.size w w4) := HB3.out.trans (hb4.mono HB3.out.size)
      clear d3 hss3 hany3 hb4
      go_wp2
      go_roundw
      case rel => exact ⟨j + 1, by omega, by go_num, by go_num, HB4⟩
      case measure => simp [intOf]; omega
    · have hje : j = n := by omega
      subst hje
      clear hc
      go_wp2
      go_ret
      exact ⟨rfl, HB0.out⟩

end Go.Proofs.Ytbohaefmokbgbaa
