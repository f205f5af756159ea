/-
  Marks written into a slice of ops that the call owns, and read again. No condition but that the slice is not too long.
-/
import Derived.Test.YtmlikcblfkkpjaaEvV
import Derived.Laws.BytesString
import Derived.Laws.Concat
import Derived.Lib.ItoaNum
import Derived.Lib.Strings
namespace Go.Proofs.Ytmlikcblfkkpjaa
open Go.RowKit
set_option linter.unusedVariables false

/-- the text of one byte -/
def mg (c : Int) : ByteArray := ⟨#[UInt8.ofNat c.toNat]⟩

theorem mg_size (c : Int) : (mg c).size = 1 := rfl

/-- the digits of a number; none of nought -/
def mtR (n : Nat) : ByteArray := if n = 0 then ⟨#[]⟩ else ⟨(Lib.decDigits n).toArray⟩

theorem mtR_zero : mtR 0 = ⟨#[]⟩ := by unfold mtR; rw [if_pos rfl]

theorem mtR_more {n : Nat} (h : n ≠ 0) : mtR n = mtR (n / 10) ++ mg (48 + (n : Int) % 10) := by
  apply ByteArray.ext
  apply Array.ext'
  unfold mtR mg
  rw [if_neg h, show (48 + (n : Int) % 10).toNat = 48 + n % 10 by omega]
  by_cases h2 : n < 10
  · rw [if_pos (by omega), Lib.decDigits_one h2, show n % 10 = n by omega]
    simp
  · rw [if_neg (by omega)]
    conv => lhs; rw [Lib.decDigits, dif_neg h2]
    simp

/-- the text of a mark -/
def mt (n : Nat) : ByteArray := ⟨#[109]⟩ ++ mtR n


theorem mg_string (w : World) (c : Int) : (convert 56 9 (.slice (some ⟨w.heap.size, 0, none⟩) 1 1)).run Try.prog (w.alloc (.cells #[.int .u8 c] 5)) = .ok (.string (mg c)) (w.alloc (.cells #[.int .u8 c] 5)) := by
  rw [run_convert_bytes_string _ 56 9 5 _ _ _ Try.underlying56 Try.underlying5 Try.underlying9]
  rw [run_bytesToString _ _ 1 1 [c] (by simp [loadCells, go_sem])]
  rfl


theorem ret_val' {a b : ByteArray} (h : a = b) : Ending.returned (.string a) = .returned (.string b) := by rw [h]


set_option maxRecDepth 4000 in
set_option maxHeartbeats 400000 in
theorem mt_any (n : Nat) (h0 : 0 < n) (hn : n ≤ 1152921504606846976) (w : World) :
    Calls Try.prog 34 #[.int .i64 n] w fun e w' => e = .returned (.string (mt n)) ∧ Below w.heap.size w w' := by
  have hpos : ¬ ((n : Int) ≤ 0) := by omega
  have hpos' : decide ((n : Int) ≤ 0) = false := by simp; omega
  clear hpos
  go_enter Try.func34, Try.ntmps34
  go_wp2
  clear hpos'
  go_loopw [0, 3] (fun x y wr => ∃ (m : Nat) (t : ByteArray), m ≤ n ∧ x = .int .i64 m ∧ y = .string t ∧ Hid (t.size + m ≤ n) ∧ Hid (mtR n = mtR m ++ t) ∧ Below w.heap.size w wr) (fun x _ _ => (intOf x).toNat)
  case atStart => exact ⟨n, _, Nat.le_refl _, rfl, rfl, by show _ ≤ _; exact Nat.le_of_eq (Nat.zero_add _), by show _ = _; exact ByteArray.append_empty.symm, Below.refl _ _⟩
  case round =>
    obtain ⟨m, t, hm, rfl, rfl, hts, hd, hB⟩ := hrel
    by_cases hz : m = 0
    · subst hz
      have hadd : ∀ w' : World, (Op.stringOp .add (⟨#[109]⟩ : ByteArray) t).run Try.prog w' = .ok (.string ((⟨#[109]⟩ : ByteArray) ++ t)) w' := fun w' => run_string_add_sum w' _ _ (by have := hts.out; have : (⟨#[109]⟩ : ByteArray).size = 1 := rfl; omega)
      have hr : Hid (mt n = ⟨#[109]⟩ ++ t) := by
        show _ = _
        unfold mt
        rw [hd.out, mtR_zero]
        show (⟨#[109]⟩ : ByteArray) ++ (ByteArray.empty ++ t) = _
        rw [ByteArray.empty_append]
      clear hd hts
      go_wp2
      go_ret
      exact ⟨ret_val' hr.out.symm, hB⟩
    · have hadd : ∀ (c : Int) (w' : World), (Op.stringOp .add (mg c) t).run Try.prog w' = .ok (.string (mg c ++ t)) w' := fun c w' => run_string_add_sum w' _ _ (by have := hts.out; have := mg_size c; omega)
      have hcv := mg_string wr
      have hlt : (0 : Int) < (m : Int) := by omega
      have hr : Hid (mtR n = mtR (m / 10) ++ (mg (48 + (m : Int) % 10) ++ t)) := by
        show _ = _
        rw [hd.out, mtR_more hz, ByteArray.append_assoc]
      have hmm : Hid (m ≠ 0) := hz
      clear hz hd
      go_wp2
      go_roundw
      case rel =>
        refine ⟨m / 10, _, by omega, by go_num, rfl, ?_, hr.out, hB.alloc hB.size _⟩
        show _ ≤ _
        have := hts.out
        have := hmm.out
        rw [ByteArray.size_append, mg_size]
        omega
      case measure => have := hmm.out; simp [intOf]; omega

/-- the marks of one op, from k on -/
def markEv (k : Nat) : Ev := ⟨(k : Int), ((k + 1 : Nat) : Int), ((k + 2 : Nat) : Int), mt (k + 3)⟩
def markL (k n : Nat) : List Ev := (List.range n).map fun i => markEv (k + i * 4)
theorem markL_len (k n : Nat) : (markL k n).length = n := by unfold markL; simp
theorem markL_at {k n i : Nat} (h : i < n) : (markL k n).getD i evZ = markEv (k + i * 4) := by unfold markL; simp [h]
theorem markL_of {k n : Nat} {M : List Ev} (hl : M.length = n) (h : ∀ i, i < n → M.getD i evZ = markEv (k + i * 4)) : M = markL k n := by
  apply List.ext_getElem?
  intro i
  by_cases hi : i < n
  · have h1 := h i hi
    unfold markL
    simp [List.getD_eq_getElem?_getD, show i < M.length by omega] at h1
    simp [hi, show i < M.length by omega, h1]
  · rw [List.getElem?_eq_none (by omega), List.getElem?_eq_none (by rw [markL_len]; omega)]

set_option maxRecDepth 10000 in
set_option maxHeartbeats 4000000 in
theorem markEvs_any (base : Nat) (v : Value) (L : List Ev) (k0 : Nat) (w : World) (h : OwnV w base v L) (hl : L.length ≤ 1048576) (hk : k0 ≤ 1099511627776) :
    Calls Try.prog 15 #[v, .int .i64 k0] w fun e w' => e = .returned (.int .i64 ((k0 + L.length * 4 : Nat) : Int)) ∧ OwnV w' base v (markL k0 L.length) ∧ w.grownBy w' v.ownBlock := by
  rcases h.cases with ⟨rfl, rfl⟩ | ⟨g, cap, rfl, hO⟩
  · go_enter Try.func15, Try.ntmps15
    go_wp2
    refine wp_loop_rounds 1 ?_
    rw [rounds_succ]; go_wp2
    go_ret
    exact ⟨rfl, h, World.grownBy.refl _ _⟩
  obtain ⟨n, hn⟩ : ∃ n, n = L.length := ⟨_, rfl⟩
  have HN : Hid (n = L.length) := hn
  have HO : Hid (w.ownsRow base 35 4 (.slice (some ⟨g, 0, none⟩) n cap) n (cellsL L)) := own_form2 hO hn.symm
  have hcap : n ≤ cap ∧ cap ≤ 9223372036854775807 := by rw [hn]; exact hO.caps
  obtain ⟨hc1, hc2⟩ := hcap
  rw [← hn] at hl ⊢
  clear hn h hO
  go_enter Try.func15, Try.ntmps15
  go_wp2
  go_loopw [1, 5] (fun x i wr => ∃ (j : Nat) (M : List Ev), j ≤ n ∧ i = .int .i64 j ∧ x = .int .i64 ((k0 + j * 4 : Nat) : Int) ∧ Hid (M.length = n ∧ ∀ t, t < j → M.getD t evZ = markEv (k0 + t * 4)) ∧ wr.ownsRow base 35 4 (.slice (some ⟨g, 0, none⟩) n cap) n (cellsL M) ∧ Hid (w.grownBy wr (some g))) (fun _ i _ => n - (intOf i).toNat)
  case atStart => exact ⟨0, L, Nat.zero_le _, rfl, rfl, ⟨HN.out.symm, fun t ht => absurd ht (Nat.not_lt_zero _)⟩, HO.out, World.grownBy.refl _ _⟩
  case round =>
    obtain ⟨j, M, hj, rfl, rfl, HM, how, HG⟩ := hrel
    by_cases hlt : j < n
    · have hltI : (j : Int) < (n : Int) := by omega
      have hml := HM.out.1
      obtain ⟨k, hkk⟩ : ∃ k, k = k0 + j * 4 := ⟨_, rfl⟩
      have hkb : k ≤ 1099520000000 := by omega
      rw [← hkk]
      have f0 := how.frozenAt (j * 4)
      obtain ⟨v0, y0⟩ := own_some how (j * 4) (by omega)
      have f1 := how.frozenAt (j * 4 + 1)
      obtain ⟨v1, y1⟩ := own_some how (j * 4 + 1) (by omega)
      have f2 := how.frozenAt (j * 4 + 2)
      obtain ⟨v2, y2⟩ := own_some how (j * 4 + 2) (by omega)
      have f3 := how.frozenAt (j * 4 + 3)
      obtain ⟨v3, y3⟩ := own_some how (j * 4 + 3) (by omega)
      have HOW : Hid (wr.ownsRow base 35 4 (.slice (some ⟨g, 0, none⟩) n cap) n (cellsL M)) := how
      have HK : Hid (k = k0 + j * 4) := hkk
      clear how hkk f3 y3
      go_wp2_with fail
      refine (mt_any (k + 3) (by omega) (by omega) _).mono ?_
      rintro e w4 ⟨rfl, hB4⟩
      have s1 := World.ownsRow.stored HOW.out (j * 4) (.int .i64 (markEv k).a)
      have s2 := s1.1.stored (j * 4 + 1) (.int .i64 (markEv k).b)
      have s3 := s2.1.stored (j * 4 + 2) (.int .i64 (markEv k).c)
      have o4 := ownsRow_below s3.1 hB4
      have f3 := o4.frozenAt (j * 4 + 3)
      obtain ⟨v3, y3⟩ := own_some o4 (j * 4 + 3) (by omega)
      have HO4 : Hid (_) := o4
      have HG4 : Hid (w.grownBy w4 (some g)) := grownBy_trans HG.out (grownBy_trans s1.2 (grownBy_trans s2.2 (grownBy_trans s3.2 (grownBy_below _ hB4))))
      clear s1 s2 s3 o4 hB4 f0 f1 f2 y0 y1 y2
      go_wp2
      go_roundw
      case rel =>
        have hk := HK.out
        refine ⟨j + 1, M.set j (markEv k), by omega, by go_num, ?_, ⟨by rw [List.length_set]; exact hml, fun t ht => ?_⟩, ?_, ?_⟩
        · rw [show k0 + (j + 1) * 4 = k + 4 by omega]; go_num
        · rcases Nat.lt_succ_iff_lt_or_eq.1 ht with h1 | rfl
          · rw [← HM.out.2 t h1]
            simp [List.getD_eq_getElem?_getD, List.getElem?_set_ne (show j ≠ t by omega)]
          · rw [← hk]
            simp [List.getD_eq_getElem?_getD, hml, hlt]
        · rw [← cellsL_set M j (markEv k) (by omega)]
          exact (World.ownsRow.stored HO4.out _ _).1
        · exact grownBy_trans HG4.out (World.ownsRow.stored HO4.out (j * 4 + 3) (.string (mt (k + 3)))).2
      case measure => simp [intOf]; omega
    · have hje : j = n := by omega
      subst hje
      have hjd : decide ((j : Int) < (j : Int)) = false := by simp
      have HF : Hid (wr.ownsRow base 35 4 (.slice (some ⟨g, 0, none⟩) j cap) j (cellsL (markL k0 j))) := by
        rw [← markL_of HM.out.1 HM.out.2]; exact how
      clear how
      go_wp2
      go_ret
      refine ⟨rfl, ?_, HG.out⟩
      unfold OwnV
      rw [markL_len]
      exact HF.out

set_option maxHeartbeats 4000000 in
theorem heldEvs_any (base : Nat) (v : Value) (k0 n : Nat) (w : World) (h : OwnV w base v (markL k0 n)) (hl : n ≤ 1048576) (hk : k0 ≤ 1099511627776) :
    Calls Try.prog 23 #[v, .int .i64 k0] w fun e w' => e = .returned (.int .i64 ((k0 + n * 4 : Nat) : Int)) ∧ Below w.heap.size w w' := by
  rcases h.cases with ⟨rfl, h0⟩ | ⟨g, cap, rfl, hO⟩
  · have hn0 : n = 0 := by have := congrArg List.length h0; rw [markL_len] at this; exact this
    subst hn0
    go_enter Try.func23, Try.ntmps23
    go_wp2
    refine wp_loop_rounds 1 ?_
    rw [rounds_succ]; go_wp2
    go_ret
    exact ⟨rfl, Below.refl _ _⟩
  rw [markL_len]
  have hcap : n ≤ cap ∧ cap ≤ 9223372036854775807 := by have := hO.caps; rw [markL_len] at this; exact this
  obtain ⟨hc1, hc2⟩ := hcap
  have hgs : g < w.heap.size := hO.lies.2.1
  have hli : Hid (∀ i, i < n → EvAt w g (i * 4) (markEv (k0 + i * 4))) := by
    intro i hi
    have := hO.lies.1 i (by rw [markL_len]; exact hi)
    rw [Nat.zero_add, markL_at hi] at this
    exact this
  clear h hO
  go_enter Try.func23, Try.ntmps23
  go_wp2
  go_loopw [1, 5] (fun x i wr => ∃ (j : Nat), j ≤ n ∧ i = .int .i64 j ∧ x = .int .i64 ((k0 + j * 4 : Nat) : Int) ∧ Below w.heap.size w wr) (fun _ i _ => n - (intOf i).toNat)
  case atStart => exact ⟨0, Nat.zero_le _, rfl, rfl, Below.refl _ _⟩
  case round =>
    obtain ⟨j, hj, rfl, rfl, hB⟩ := hrel
    by_cases hlt : j < n
    · have hltI : (j : Int) < (n : Int) := by omega
      have m1 : EvAt wr g (j * 4) (markEv (k0 + j * 4)) := (hli.out j hlt).grow hgs hB
      obtain ⟨k, hkk⟩ : ∃ k, k = k0 + j * 4 := ⟨_, rfl⟩
      have hkb : k ≤ 1099520000000 := by omega
      rw [← hkk] at m1 ⊢
      obtain ⟨c0, c1, c2, c3⟩ := m1
      unfold markEv at c0 c1 c2 c3
      have HK : Hid (k = k0 + j * 4) := hkk
      have HB : Hid (Below w.heap.size w wr) := hB
      have hne := Later.any wr
      have q3 : ∀ s : Later wr, s.val.cell? ⟨g, j * 4 + 3, none⟩ = some (.string (mt (k + 3))) := fun s => s.cell c3
      have HX : Hid (∀ s : Later wr, Calls Try.prog 34 #[.int .i64 ((k : Int) + 1 + 1 + 1)] s.val fun e w' => e = .returned (.string (mt (k + 3))) ∧ Below s.val.heap.size s.val w') := fun s => by
        have := mt_any (k + 3) (by omega) (by omega) s.val
        rw [show (((k + 3 : Nat) : Int)) = (k : Int) + 1 + 1 + 1 by omega] at this
        exact this
      clear hkk hB c3
      have e0 : ((k : Int) != (k : Int)) = false := by simp
      have e1 : (((k + 1 : Nat) : Int) != (k : Int) + 1) = false := by simp
      have e2 : (((k + 2 : Nat) : Int) != (k : Int) + 1 + 1) = false := by simp; omega
      have e3 : ((mt (k + 3)).toList != (mt (k + 3)).toList) = false := by simp
      go_wp2
      refine wp_region_later (by kernel_rfl) (by kernel_rfl) ?_
      repeat (go_big_quiet_step ((rename_i t; exact Calls.later (HX.out t))))
      refine wpQuiet_nil ?_
      rintro _ ⟨⟨w', hB2⟩, rfl⟩
      go_wp2
      go_roundw
      case rel =>
        have hk := HK.out
        refine ⟨j + 1, by omega, by go_num, ?_, HB.out.trans (hB2.mono HB.out.size)⟩
        rw [show k0 + (j + 1) * 4 = k + 4 by omega]; go_num
      case measure => simp [intOf]; omega
    · have hje : j = n := by omega
      subst hje
      have hjd : decide ((j : Int) < (j : Int)) = false := by simp
      go_wp2
      go_ret
      exact ⟨rfl, hB⟩
end Go.Proofs.Ytmlikcblfkkpjaa
