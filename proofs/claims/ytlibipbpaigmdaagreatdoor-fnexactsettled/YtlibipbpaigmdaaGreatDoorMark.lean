/-
  The laws' own marks: the text of a mark, marks written into a row of texts and looked at again. No condition but bounds.
-/
import Derived.Test.YtlibipbpaigmdaaGreatDoorStr
import Derived.Laws.AppendOwn
import Derived.Lib.ItoaNum
namespace Go.Proofs.YtlibipbpaigmdaaGreatDoor
open Go.RowKit
set_option linter.unusedVariables false

/-- nothing outside has turned, and no old block that p names -/
structure Kept (p : Nat → Prop) (w w' : World) : Prop where
  os : w'.os = w.os
  tape : w'.tape = w.tape
  output : w'.output = w.output
  size : w.heap.size ≤ w'.heap.size
  block : ∀ k, k < w.heap.size → p k → w'.heap[k]? = w.heap[k]?
theorem Kept.refl (p : Nat → Prop) (w : World) : Kept p w w := ⟨rfl, rfl, rfl, Nat.le_refl _, fun _ _ _ => rfl⟩
theorem Kept.trans {p : Nat → Prop} {a b c : World} (h : Kept p a b) (k : Kept p b c) : Kept p a c :=
  ⟨k.os.trans h.os, k.tape.trans h.tape, k.output.trans h.output, Nat.le_trans h.size k.size, fun i hi hp => (k.block i (by have := h.size; omega) hp).trans (h.block i hi hp)⟩
theorem Kept.of_below {p : Nat → Prop} {w w' : World} (h : Below w.heap.size w w') : Kept p w w' := ⟨h.os, h.tape, h.output, h.size, fun k hk _ => h.block k hk⟩
theorem Kept.of_grown {p : Nat → Prop} {w w' : World} {row : Option Nat} (h : w.grownBy w' row) (hr : ∀ k, row = some k → ¬ p k) : Kept p w w' :=
  ⟨h.os, h.tape, h.output, h.size, fun k hk hp => h.block k hk (fun e => hr k e.symm hp)⟩
theorem Kept.mono {p q : Nat → Prop} {w w' : World} (h : Kept p w w') (hq : ∀ k, q k → p k) : Kept q w w' := ⟨h.os, h.tape, h.output, h.size, fun k hk hp => h.block k hk (hq k hp)⟩
theorem Kept.below {B : Nat} {w w' : World} (h : Kept (fun k => k < B) w w') (hB : B ≤ w.heap.size) : Below B w w' := ⟨h.os, h.tape, h.output, h.size, fun k hk => h.block k (by omega) hk⟩

theorem IsStrs.kept {p : Nat → Prop} {w w' : World} {a : Option Addr} {len cap : Nat} {S : Nat → ByteArray} (h : IsStrs w a len cap S) (hK : Kept p w w') (hp : ∀ b off, a = some ⟨b, off, none⟩ → p b) : IsStrs w' a len cap S := by
  obtain ⟨h1, h2, h3⟩ := h
  refine ⟨h1, h2, fun h0 => ?_⟩
  obtain ⟨b, off, e, hb, hc⟩ := h3 h0
  have hbl := hK.block b hb (hp b off e)
  exact ⟨b, off, e, by have := hK.size; omega, fun i hi => (World.cell?_of_block (w := w) (a := ⟨b, off + i, none⟩) hbl).trans (hc i hi)⟩

/-- the text of one byte -/
def mg (c : Int) : ByteArray := ⟨#[UInt8.ofNat c.toNat]⟩
theorem mg_size (c : Int) : (mg c).size = 1 := rfl
/-- the digits of a number; none of nought -/
def mtR (n : Nat) : ByteArray := if n = 0 then ⟨#[]⟩ else ⟨(Lib.decDigits n).toArray⟩
theorem mtR_zero : mtR 0 = ⟨#[]⟩ := by unfold mtR; rw [if_pos rfl]
theorem mtR_more {n : Nat} (h : n ≠ 0) : mtR n = mtR (n / 10) ++ mg (48 + (n : Int) % 10) := by
  apply ByteArray.ext
  apply Array.ext'
  unfold mtR mg
  rw [if_neg h, show (48 + (n : Int) % 10).toNat = 48 + n % 10 by omega]
  by_cases h2 : n < 10
  · rw [if_pos (by omega), Lib.decDigits_one h2, show n % 10 = n by omega]
    simp
  · rw [if_neg (by omega)]
    conv => lhs; rw [Lib.decDigits, dif_neg h2]
    simp
/-- the text of a mark -/
def mt (n : Nat) : ByteArray := ⟨#[109]⟩ ++ mtR n

theorem mg_string (w : World) (c : Int) : (convert 44 9 (.slice (some ⟨w.heap.size, 0, none⟩) 1 1)).run Tryz.prog (w.alloc (.cells #[.int .u8 c] 5)) = .ok (.string (mg c)) (w.alloc (.cells #[.int .u8 c] 5)) := by
  rw [run_convert_bytes_string _ 44 9 5 _ _ _ Tryz.underlying44 Tryz.underlying5 Tryz.underlying9]
  rw [run_bytesToString _ _ 1 1 [c] (by simp [loadCells, go_sem])]
  rfl

theorem ret_val' {a b : ByteArray} (h : a = b) : Ending.returned (.string a) = .returned (.string b) := by rw [h]

set_option maxRecDepth 4000 in
set_option maxHeartbeats 400000 in
theorem mt_any (n : Nat) (h0 : 0 < n) (hn : n ≤ 1152921504606846976) (w : World) :
    Calls Tryz.prog 94 #[.int .i64 n] w fun e w' => e = .returned (.string (mt n)) ∧ Below w.heap.size w w' := by
  have hpos : ¬ ((n : Int) ≤ 0) := by omega
  have hpos' : decide ((n : Int) ≤ 0) = false := by simp; omega
  clear hpos
  go_enter Tryz.func94, Tryz.ntmps94
  go_wp2
  clear hpos'
  go_loopw [0, 3] (fun x y wr => ∃ (m : Nat) (t : ByteArray), m ≤ n ∧ x = .int .i64 m ∧ y = .string t ∧ Hid (t.size + m ≤ n) ∧ Hid (mtR n = mtR m ++ t) ∧ Below w.heap.size w wr) (fun x _ _ => (intOf x).toNat)
  case atStart => exact ⟨n, _, Nat.le_refl _, rfl, rfl, by show _ ≤ _; exact Nat.le_of_eq (Nat.zero_add _), by show _ = _; exact ByteArray.append_empty.symm, Below.refl _ _⟩
  case round =>
    obtain ⟨m, t, hm, rfl, rfl, hts, hd, hB⟩ := hrel
    by_cases hz : m = 0
    · subst hz
      have hadd : ∀ w' : World, (Op.stringOp .add (⟨#[109]⟩ : ByteArray) t).run Tryz.prog w' = .ok (.string ((⟨#[109]⟩ : ByteArray) ++ t)) w' := fun w' => run_string_add_sum w' _ _ (by have := hts.out; have : (⟨#[109]⟩ : ByteArray).size = 1 := rfl; omega)
      have hr : Hid (mt n = ⟨#[109]⟩ ++ t) := by
        show _ = _
        unfold mt
        rw [hd.out, mtR_zero]
        show (⟨#[109]⟩ : ByteArray) ++ (ByteArray.empty ++ t) = _
        rw [ByteArray.empty_append]
      clear hd hts
      go_wp2
      go_ret
      exact ⟨ret_val' hr.out.symm, hB⟩
    · have hadd : ∀ (c : Int) (w' : World), (Op.stringOp .add (mg c) t).run Tryz.prog w' = .ok (.string (mg c ++ t)) w' := fun c w' => run_string_add_sum w' _ _ (by have := hts.out; have := mg_size c; omega)
      have hcv := mg_string wr
      have hlt : (0 : Int) < (m : Int) := by omega
      have hr : Hid (mtR n = mtR (m / 10) ++ (mg (48 + (m : Int) % 10) ++ t)) := by
        show _ = _
        rw [hd.out, mtR_more hz, ByteArray.append_assoc]
      have hmm : Hid (m ≠ 0) := hz
      clear hz hd
      go_wp2
      go_roundw
      case rel =>
        refine ⟨m / 10, _, by omega, by go_num, rfl, ?_, hr.out, hB.alloc hB.size _⟩
        show _ ≤ _
        have := hts.out
        have := hmm.out
        rw [ByteArray.size_append, mg_size]
        omega
      case measure => have := hmm.out; simp [intOf]; omega

/-- n marks from k on -/
def marks (k n : Nat) : List Value := (List.range n).map fun i => .string (mt (k + i))
theorem marks_at {k n i : Nat} (h : i < n) : (marks k n)[i]? = some (.string (mt (k + i))) := by unfold marks; simp [h]
theorem marks_len (k n : Nat) : (marks k n).length = n := by unfold marks; simp
theorem marks_of {k n : Nat} {xs : List Value} (hl : xs.length = n) (h : ∀ i, i < n → xs[i]? = some (.string (mt (k + i)))) : xs = marks k n := by
  apply List.ext_getElem? 
  intro i
  by_cases hi : i < n
  · rw [h i hi, marks_at hi]
  · rw [List.getElem?_eq_none (by omega), List.getElem?_eq_none (by rw [marks_len]; omega)]

set_option maxHeartbeats 1000000 in
theorem markStringS_any (a : Option Addr) (len cap base : Nat) (xs0 : List Value) (k0 : Nat) (w : World) (h : w.ownsRow base 9 1 (.slice a len cap) len xs0) (hk : 0 < k0) (hb : k0 + len ≤ 1152921504606846976) :
    Calls Tryz.prog 25 #[.slice a len cap, .int .i64 k0] w fun e w' => e = .returned (.int .i64 ((k0 + len : Nat) : Int)) ∧ w'.ownsRow base 9 1 (.slice a len cap) len (marks k0 len) ∧ w.grownBy w' (Value.slice a len cap).ownBlock := by
  go_enter Tryz.func25, Tryz.ntmps25
  go_wp2
  go_loopw [1, 5] (fun x i wr => ∃ (j : Nat) (xs : List Value), j ≤ len ∧ i = .int .i64 j ∧ x = .int .i64 ((k0 + j : Nat) : Int) ∧ wr.ownsRow base 9 1 (.slice a len cap) len xs ∧ Hid (∀ t, t < j → xs[t]? = some (.string (mt (k0 + t)))) ∧ w.grownBy wr (Value.slice a len cap).ownBlock)
    (fun _ i _ => len - (intOf i).toNat)
  case atStart => exact ⟨0, xs0, Nat.zero_le _, rfl, rfl, h, fun t ht => absurd ht (Nat.not_lt_zero _), World.grownBy.refl _ _⟩
  case round =>
    obtain ⟨j, xs, hj, rfl, rfl, how, HA, hG⟩ := hrel
    by_cases hlt : j < len
    · obtain ⟨g, rfl⟩ : ∃ g, a = some ⟨g, 0, none⟩ := by
        rcases how.2 with ⟨h', h0⟩ | ⟨g, cap', cur, h', _⟩
        · omega
        · simp only [Value.slice.injEq] at h'
          exact ⟨g, h'.1⟩
      have hltI : (j : Int) < (len : Int) := by omega
      have hxl : xs.length = len * 1 := how.1
      have HO : Hid (_) := how
      have HG : Hid (_) := hG
      clear how hG h
      go_wp2_with fail
      refine (mt_any (k0 + j) (by omega) (by omega) _).mono ?_
      rintro e w1 ⟨rfl, hB1⟩
      have ho1 := ownsRow_below HO.out hB1
      have f1 := ho1.frozenAt j
      obtain ⟨v1, e1⟩ := own_some ho1 j (by omega)
      have HO1 : Hid (_) := ho1
      have HB1 : Hid (_) := hB1
      clear ho1 hB1
      go_wp2
      go_roundw
      case rel =>
        refine ⟨j + 1, xs.set j (.string (mt (k0 + j))), by omega, by go_num, by go_num, (World.ownsRow.stored HO1.out _ _).1, ?_, ?_⟩
        · intro t ht
          rcases Nat.lt_succ_iff_lt_or_eq.1 ht with h1 | rfl
          · rw [List.getElem?_set_ne (by omega)]
            exact HA.out t h1
          · rw [List.getElem?_set_self (by omega)]
        · have hB := HB1.out
          have h1 : wr.grownBy w1 (some g) := ⟨hB.os, hB.tape, hB.output, hB.size, fun k hk _ => hB.block k hk⟩
          exact (HG.out.trans h1).trans (World.ownsRow.stored HO1.out _ _).2
      case measure => simp [intOf]; omega
    · have hje : j = len := by omega
      subst hje
      have hm : xs = marks k0 j := marks_of (by have := how.1; omega) HA.out
      have HO : Hid (wr.ownsRow base 9 1 (.slice a j cap) j (marks k0 j)) := by rw [← hm]; exact how
      clear how hm
      go_wp2
      go_ret
      exact ⟨rfl, HO.out, hG⟩

set_option maxHeartbeats 1000000 in
theorem heldStringS_any (a : Option Addr) (len cap k0 : Nat) (w : World) (h : IsStrs w a len cap (fun i => mt (k0 + i))) (hk : 0 < k0) (hb : k0 + len ≤ 1152921504606846976) :
    Calls Tryz.prog 26 #[.slice a len cap, .int .i64 k0] w fun e w' => e = .returned (.int .i64 ((k0 + len : Nat) : Int)) ∧ Below w.heap.size w w' := by
  obtain ⟨hlc, hcm, hc⟩ := h
  go_enter Tryz.func26, Tryz.ntmps26
  go_wp2
  go_loopw [1, 5] (fun x i wr => ∃ (j : Nat), j ≤ len ∧ i = .int .i64 j ∧ x = .int .i64 ((k0 + j : Nat) : Int) ∧ Below w.heap.size w wr)
    (fun _ i _ => len - (intOf i).toNat)
  case atStart => exact ⟨0, Nat.zero_le _, rfl, rfl, Below.refl _ _⟩
  case round =>
    obtain ⟨j, hj, rfl, rfl, hB⟩ := hrel
    by_cases hlt : j < len
    · obtain ⟨b, off, rfl, hbs, hcell⟩ := hc (by omega)
      have hltI : (j : Int) < (len : Int) := by omega
      have d1 : ∀ s : Later wr, s.val.cell? ⟨b, off + j, none⟩ = some (.string (mt (k0 + j))) := fun s => s.cell ((hB.cell (p := ⟨b, off + j, none⟩) hbs).trans (hcell j hlt))
      have hss : ((mt (k0 + j)).toList != (mt (k0 + j)).toList) = false := by simp
      have HX : Hid (∀ s : Later wr, Calls Tryz.prog 94 #[.int .i64 ((k0 + j : Nat) : Int)] s.val fun e w' => e = .returned (.string (mt (k0 + j))) ∧ Below s.val.heap.size s.val w') := fun s => mt_any (k0 + j) (by omega) (by omega) s.val
      have HB : Hid (Below w.heap.size w wr) := hB
      haveI := Later.any wr
      clear hcell hc hB
      go_wp2
      refine wp_region_later (by kernel_rfl) (by kernel_rfl) ?_
      repeat (go_big_quiet_step ((rename_i s; exact Calls.later (HX.out s))))
      refine wpQuiet_nil ?_
      rintro _ ⟨⟨w', hB2⟩, rfl⟩
      go_wp2
      go_roundw
      case rel => exact ⟨j + 1, by omega, by go_num, by go_num, HB.out.trans (hB2.mono HB.out.size)⟩
      case measure => simp [intOf]; omega
    · have hje : j = len := by omega
      subst hje
      go_wp2
      go_ret
      exact ⟨rfl, hB⟩
end Go.Proofs.YtlibipbpaigmdaaGreatDoor
