/-
  strings.Builder's WriteString and what it asks first, walked at this program. No condition but that the builder lies in memory.
  Contracts of the library at this program.
  The program's DagText. No condition but that the slice reads and that the tables lie.
-/
import Derived.Test.YtlibipbpaigmdaaGreatDoorBase
import Derived.Lib.Builder
import Derived.Laws.Externs
import Derived.Shelf.Strings.Builder1
import Derived.Test.YtlibipbpaigmdaaGreatDoorProg
import Derived.Test.YtlibipbpaigmdaaGreatDoorDgN
namespace Go.Proofs.YtlibipbpaigmdaaGreatDoor
open Go.RowKit
set_option linter.unusedVariables false

theorem infoBld : (Tryz.prog.info? 133).map (·.size) = some 2 := by kernel_rfl
theorem infoByt : (Tryz.prog.info? 5).map (fun i => (i.zero, i.size, i.bytes)) = some (some (.int .u8 0), 1, 1) := by kernel_rfl
theorem liesBld : liesAt Tryz.prog Tryz.prog.depth 133 (2 / Tryz.prog.cellsOf 133) 0 133 1 = true := by kernel_rfl

set_option maxHeartbeats 1000000 in
set_option maxRecDepth 100000 in
theorem check_used (b : Nat) (w : World) (h0 : w.cell? ⟨b, 0, none⟩ = some (.pointer (some ⟨b, 0, none⟩))) :
    Calls Tryz.prog 178 #[.pointer (some ⟨b, 0, none⟩)] w fun e w' => e = .returned (.tuple #[]) ∧ w' = w := by
  obtain ⟨j, hj, _⟩ := Option.map_eq_some_iff.1 infoBld
  go_enter Tryz.func178, Tryz.ntmps178
  go_wp2
  rw [Lib.run_neq_ptr_same w _ Tryz.underlying131 hj]
  go_wp2
  go_end0
  exact ⟨rfl, rfl⟩
set_option maxHeartbeats 1000000 in
set_option maxRecDepth 100000 in
theorem check_fresh (b : Nat) (w : World) (h0 : w.cell? ⟨b, 0, none⟩ = some (.pointer none)) (hsh : w.shape? b = some (133, 2)) (hfz : w.frozen? ⟨b, 0, none⟩ = false) :
    Calls Tryz.prog 178 #[.pointer (some ⟨b, 0, none⟩)] w fun e w' => e = .returned (.tuple #[]) ∧ w' = w.setCell ⟨b, 0, none⟩ (.pointer (some ⟨b, 0, none⟩)) := by
  obtain ⟨j, hj, hjs⟩ := Option.map_eq_some_iff.1 infoBld
  go_enter Tryz.func178, Tryz.ntmps178
  go_wp2
  rw [Lib.run_to_unsafe w ⟨b, 0, none⟩ Tryz.underlying131 Tryz.underlying204 hj (by rw [hjs]; decide) hsh (Nat.zero_lt_succ 1)]
  simp only [Result.andThen]
  rw [Oper.upon_value]
  go_wp2
  rw [run_callFunc_extern Tryz.func210 (by kernel_rfl) (by kernel_rfl) (by kernel_rfl) (e := Extern.AbiNoEscape.same) (by kernel_rfl)]
  rw [Lib.run_noEscape]
  simp only [Result.andThen]
  rw [Oper.upon_value]
  go_wp2
  rw [Lib.run_from_unsafe w ⟨b, 0, none⟩ Tryz.underlying204 Tryz.underlying131 hj hsh liesBld]
  simp only [Result.andThen]
  rw [Oper.upon_value]
  go_wp2
  go_end0
  exact ⟨rfl, rfl⟩

/-- what a writing may turn: the builder's block b, rows of bytes; and it lays new blocks -/
def KeepW (b : Nat) (w w' : World) : Prop := ∀ k, k < w.heap.size → k ≠ b → (∀ cs fr, w.heap[k]? ≠ some (.cells cs 5 fr)) → w'.heap[k]? = w.heap[k]?
theorem KeepW.trans {b : Nat} {A B C : World} (h : KeepW b A B) (hs : A.heap.size ≤ B.heap.size) (k : KeepW b B C) : KeepW b A C := fun i hi h1 h2 => (k i (Nat.lt_of_lt_of_le hi hs) h1 (fun cs fr e => h2 cs fr ((h i hi h1 h2).symm.trans e))).trans (h i hi h1 h2)

theorem check_any (B b : Nat) (bs : List Value) (w : World) (h : Lib.IsBuilder 133 5 B b bs w) :
    Calls Tryz.prog 178 #[.pointer (some ⟨b, 0, none⟩)] w fun e w' => e = .returned (.tuple #[]) ∧ Lib.BuilderAt 133 5 B b (.pointer (some ⟨b, 0, none⟩)) bs w' ∧ Below B w w' ∧ KeepW b w w' := by
  rcases h with h | h
  · refine (check_fresh b w h.cell0 h.shape h.frozen0).mono ?_
    rintro e w' ⟨rfl, rfl⟩
    exact ⟨rfl, h.used _, (Below.refl B w).setCell (p := ⟨b, 0, none⟩) h.1 _, fun k _ hk _ => Below.heap_setCell _ _ _ _ hk⟩
  · refine (check_used b w h.cell0).mono ?_
    rintro e w' ⟨rfl, rfl⟩
    exact ⟨rfl, h, Below.refl B _, fun _ _ _ _ => rfl⟩

set_option maxHeartbeats 2000000 in
set_option maxRecDepth 100000 in
theorem write_any (B b : Nat) (bs : List Value) (s : ByteArray) (w : World) (h : Lib.IsBuilder 133 5 B b bs w) (hlen : bs.length + s.size ≤ 140737488355328) (hBw : B ≤ w.heap.size) :
    Calls Tryz.prog 135 #[.pointer (some ⟨b, 0, none⟩), .string s] w fun e w' => e = .returned (.tuple #[.int .i64 s.size, .nilIface]) ∧ Lib.BuilderAt 133 5 B b (.pointer (some ⟨b, 0, none⟩)) (bs ++ Lib.strCells s) w' ∧ Below B w w' ∧ KeepW b w w' := by
  obtain ⟨i0, hi, hz0, hz1, hz2⟩ := info_parts infoByt
  go_enter Tryz.func135, Tryz.ntmps135
  go_wp2_with fail
  refine (check_any B b bs w h).mono ?_
  rintro e w1 ⟨rfl, h1, hb1, hk1⟩
  obtain ⟨hB, v, hbk, hown, hne⟩ := h1
  have c0 : w1.cell? ⟨b, 0, none⟩ = some (.pointer (some ⟨b, 0, none⟩)) := by rw [Lib.cell_of_heap hbk]; rfl
  have c1 : w1.cell? ⟨b, 1, none⟩ = some v := by rw [Lib.cell_of_heap hbk]; rfl
  have hBw1 : B ≤ w1.heap.size := by have := hb1.size; omega
  go_wp2_with (at_builtin; refine Lib.wpList_append_own_string _ rfl _ _ 44 9 rfl B 5 i0 Tryz.underlying44 Tryz.underlying9 hi hz0 hz1 hz2 _ _ _ rfl hown s rfl ?c3 ?c4 ?c5 ?_)
  case c3 => unfold maxLen; omega
  case c4 => omega
  case c5 => omega
  intro v' w2 hown' hgrow _
  have hlt : b < w1.heap.size := by
    rcases Nat.lt_or_ge b w1.heap.size with h' | h'
    · exact h'
    · simp [Array.getElem?_eq_none h'] at hbk
  have hb2 : w2.heap[b]? = some (.cells #[.pointer (some ⟨b, 0, none⟩), v] 133 (0, 0)) := by
    rw [hgrow.block b hlt (fun e => hne e.symm)]
    exact hbk
  have d0 : w2.cell? ⟨b, 0, none⟩ = some (.pointer (some ⟨b, 0, none⟩)) := by rw [Lib.cell_of_heap hb2]; rfl
  have d1 : w2.cell? ⟨b, 1, none⟩ = some v := by rw [Lib.cell_of_heap hb2]; rfl
  have f1 : w2.frozen? ⟨b, 1, none⟩ = false := Lib.frozen_of_heap hb2 1
  have hk2 : KeepW b w1 w2 := fun k hk hkb hkt => hgrow.block k hk (fun e => by
    rcases hown.2 with ⟨hv, _⟩ | ⟨g, cap, cur, hv, _, hg, _⟩
    · rw [hv] at e; cases e
    · rw [hv] at e
      have e' : k = g := Option.some.inj e
      rw [← e'] at hg
      exact hkt _ _ hg)
  obtain ⟨ao, n', cap, rfl⟩ : ∃ ao n' cap, v' = .slice ao n' cap := by
    rcases hown'.2 with ⟨hv, _⟩ | ⟨g, cap, cur, hv, _⟩
    · exact ⟨_, _, _, hv⟩
    · exact ⟨_, _, _, hv⟩
  go_wp2
  go_ret2
  refine ⟨rfl, ?_, ?_, ?_⟩
  · exact Lib.BuilderAt.put (T := 133) (e := 5) hB hb2 (bs' := bs ++ Lib.strCells s) (by simpa [Lib.strCells_length] using hown') (by decide)
  · exact (hb1.grown hgrow hBw1 (fun k hk => (World.ownsRow.lt hown k hk).1)).setCell (p := ⟨b, 1, none⟩) hB _
  · refine (hk1.trans hb1.size hk2).trans (Nat.le_trans hb1.size hgrow.size) (fun k _ hk _ => Below.heap_setCell _ _ _ _ hk)
theorem strCells_append (a b : ByteArray) : Lib.strCells (a ++ b) = Lib.strCells a ++ Lib.strCells b := by
  unfold Lib.strCells
  rw [← List.map_append]
  congr 1
end Go.Proofs.YtlibipbpaigmdaaGreatDoor

namespace Go.Proofs
open Go.Shelf
def Tryz.lays169_ren : Go.Shelf.Ren := ⟨fun | 169 => 136 | n => n, fun | 70 => 131 | 9 => 9 | 0 => 0 | 72 => 133 | 37 => 44 | 127 => 177 | 3 => 3 | 5 => 5 | n => n, fun | n => n⟩
theorem Tryz.lays169 : Go.Proofs.Lays.n169 Tryz.prog Tryz.lays169_ren := {
  mixed := by kernel_rfl
  f169 := Tryz.func136.trans (congrArg some (by kernel_rfl))
  t0 := Tryz.underlying0
  a0 := Tryz.isAgg0
  z0 := Tryz.sizeOf0
  v0 := Tryz.zeroValue0
  t3 := Tryz.underlying3
  a3 := Tryz.isAgg3
  z3 := Tryz.sizeOf3
  v3 := Tryz.zeroValue3
  t9 := Tryz.underlying9
  a9 := Tryz.isAgg9
  z9 := Tryz.sizeOf9
  v9 := Tryz.zeroValue9
  t37 := Tryz.underlying44
  a37 := Tryz.isAgg44
  z37 := Tryz.sizeOf44
  v37 := Tryz.zeroValue44
  t70 := Tryz.underlying131
  a70 := Tryz.isAgg131
  z70 := Tryz.sizeOf131
  v70 := Tryz.zeroValue131
  t72 := Tryz.underlying133
  a72 := Tryz.isAgg133
  z72 := Tryz.sizeOf133
  v72 := Tryz.zeroValue133
  t127 := Tryz.underlying177
  a127 := Tryz.isAgg177
  z127 := Tryz.sizeOf177
  v127 := Tryz.zeroValue177 }
theorem Tryz.Builder_Extra_169 : Builder.Extra Tryz.prog Tryz.lays169_ren := {
  sizeBuilder := by kernel_rfl
  liesBuilder := by kernel_rfl
  t5 := Tryz.underlying5
  a5 := Tryz.isAgg5
  z5 := Tryz.sizeOf5
  v5 := Tryz.zeroValue5
  infoByte := by kernel_rfl
  cellsByte := by kernel_rfl
  sizeByte := by kernel_rfl
  neB5 := by decide }
open Go.RowKit in
theorem Tryz.Builder_String_any (B b : Nat) (l : List UInt8) (w : World) (h : Lib.IsBuilder 133 5 B b (Lib.byteCells l) w) (hBw : B ≤ w.heap.size) :
    Calls Tryz.prog 136 #[.pointer (some ⟨b, 0, none⟩)] w fun e w' => e = .returned (.string ⟨l.toArray⟩) ∧ Below B w w' := Any.Builder_String_any Tryz.lays169 Tryz.Builder_Extra_169 B b l w h hBw
end Go.Proofs

namespace Go.Proofs.YtlibipbpaigmdaaGreatDoor
open Go.RowKit
set_option linter.unusedVariables false

theorem builder_below {B b : Nat} {bs : List Value} {w w' : World} (h : Lib.IsBuilder 133 5 B b bs w) (hB : Below w.heap.size w w') : Lib.IsBuilder 133 5 B b bs w' := by
  rcases h with ⟨h1, v, h2, h3, h4⟩ | ⟨h1, v, h2, h3, h4⟩
  · exact .inl ⟨h1, v, (hB.block _ (lt_of_block h2)).trans h2, ownsRow_below h3 hB, h4⟩
  · exact .inr ⟨h1, v, (hB.block _ (lt_of_block h2)).trans h2, ownsRow_below h3 hB, h4⟩

set_option maxRecDepth 10000 in
set_option maxHeartbeats 4000000 in
theorem implDagText_any (a : Option Addr) (len cap : Nat) (D : Nat → Nd) (w : World) (h : IsNds w a len cap D) (hf : Fine D len) (hP : AllT w) :
    Calls Tryz.prog 65 #[.slice a len cap] w fun e w' => e = .returned (.string (dagTR D len)) ∧ Below w.heap.size w w' := by
  have HE := (show Hid _ from h)
  have HF := (show Hid _ from hf)
  have HP := (show Hid _ from hP)
  go_enter Tryz.func65, Tryz.ntmps65
  go_wp2_with fail
  refine (implDagOk_any a len cap D w HE.out HF.out HP.out).mono ?_
  rintro e w1 ⟨rfl, hB1⟩
  cases hd : dagB D len with
  | false =>
    have HR : Hid (dagTR D len = ⟨#[]⟩ ∧ Below w.heap.size w w1) := ⟨by unfold dagTR; rw [hd]; rfl, hB1⟩
    clear h hf hP hB1
    go_wp2
    go_ret
    exact ⟨by rw [HR.out.1]; rfl, HR.out.2⟩
  | true =>
    have hl30 : len ≤ 30 := by
      unfold dagB at hd
      simp only [Bool.and_eq_true, decide_eq_true_eq] at hd
      exact hd.1
    have HD : Hid (dagTR D len = dagT D len len) := by show _ = _; unfold dagTR; rw [if_pos hd]
    obtain ⟨W0, hW0⟩ : ∃ W0, W0 = w1.alloc (.cells #[.pointer none, .slice none 0 0] 133) := ⟨_, rfl⟩
    have HW0 := (show Hid _ from hW0)
    have HB10 : Hid (Below w1.heap.size w1 W0) := by rw [hW0]; exact (Below.refl _ _).alloc (Nat.le_refl _) _
    have HB0 : Hid (Below w.heap.size w W0) := hB1.trans (HB10.out.mono hB1.size)
    have HB1 := (show Hid _ from hB1)
    have HBL0 : Hid (W0.heap[w1.heap.size]? = some (.cells #[.pointer none, .slice none 0 0] 133 (0, 0))) := by rw [hW0]; exact heap_alloc_new _ _
    clear hW0 h hf hP hB1
    go_wp2_with fail
    rw [← HW0.out]
    refine (lineOfNumber_any ⟨#[100, 97, 103]⟩ len (by decide) (by omega) W0 (HP.out.below HB0.out).p).mono ?_
    rintro e w2 ⟨rfl, hB2⟩
    obtain ⟨t0, ht0⟩ : ∃ t0, t0 = lineB ⟨#[100, 97, 103]⟩ (decB len) := ⟨_, rfl⟩
    have hz0 : t0.size ≤ 1000 := by rw [ht0]; have := dagT_size D len hl30 0; have e : dagT D len 0 = lineB ⟨#[100, 97, 103]⟩ (decB len) := rfl; rw [e] at this; omega
    rw [← ht0]
    have HT0 := (show Hid _ from ht0)
    clear ht0
    have HBD : Hid (Lib.IsBuilder 133 5 w1.heap.size w1.heap.size (Lib.strCells ⟨#[]⟩) w2) := .inl ⟨Nat.le_refl _, .slice none 0 0, (hB2.block _ (lt_of_block HBL0.out)).trans HBL0.out, World.ownsRow_nil _ _ _ _, by simp [Value.ownBlock]⟩
    have HB2 : Hid (Below w1.heap.size w1 w2) := HB10.out.trans (hB2.mono HB10.out.size)
    clear hB2
    have HLEN : Hid ((Lib.strCells ⟨#[]⟩).length + t0.size ≤ 140737488355328) := by
      have e : (Lib.strCells ⟨#[]⟩).length = 0 := rfl
      show _ ≤ _
      omega
    go_wp2_with fail
    refine (write_any w1.heap.size w1.heap.size (Lib.strCells ⟨#[]⟩) t0 w2 HBD.out HLEN.out HB2.out.size).mono ?_
    rintro e w3 ⟨rfl, hb3, hB3, _⟩
    have HI3 : Hid (Lib.IsBuilder 133 5 w1.heap.size w1.heap.size (Lib.strCells (dagT D len 0)) w3 ∧ Below w1.heap.size w1 w3) := by
      refine ⟨.inr ?_, HB2.out.trans hB3⟩
      have e : dagT D len 0 = ⟨#[]⟩ ++ t0 := by rw [HT0.out]; exact (ByteArray.empty_append).symm
      rw [e, strCells_append]
      exact hb3
    clear hb3 hB3 HBD HB2 HT0 hz0 HLEN
    have HWW : Hid (∀ w', Below w1.heap.size w1 w' → Below w.heap.size w w') := fun w' hB => HB1.out.trans (hB.mono HB1.out.size)
    have HC : Hid (∀ w', Below w.heap.size w w' → ∀ k, k < len → ∃ b off, a = some ⟨b, off, none⟩ ∧ NdAt w' b (off + k * 6) (D k)) := fun w' hB k hk => by
      obtain ⟨_, _, hc⟩ := IsNds.below HE.out hB
      obtain ⟨b, off, rfl, _, hcell⟩ := hc (by omega)
      exact ⟨b, off, rfl, hcell k hk⟩
    have HSZ := dagT_size D len hl30
    go_wp2
    go_loopw [15] (fun i wr => ∃ (k : Nat), k ≤ len ∧ i = .int .i64 k ∧ Hid (Lib.IsBuilder 133 5 w1.heap.size w1.heap.size (Lib.strCells (dagT D len k)) wr ∧ Below w1.heap.size w1 wr)) (fun i _ => len - (Go.RowKit.intOf i).toNat)
    case atStart => exact ⟨0, Nat.zero_le _, rfl, HI3.out.1, HI3.out.2⟩
    case round =>
      obtain ⟨k, hk, rfl, HI⟩ := hrel
      by_cases hlt : k < len
      · have hltI : (k : Int) < (len : Int) := by omega
        obtain ⟨b, off, rfl, nd⟩ := HC.out wr (HWW.out _ HI.out.2) k hlt
        have HSt := (show Hid _ from nd.i)
        obtain ⟨c0, c1, c2, c3, c4, c5, _⟩ := nd
        obtain ⟨w4, hw4⟩ : ∃ w4, w4 = wr.alloc (.cells #[.int .i64 (D k).a, .int .i64 (D k).s, .int .i64 (D k).k, .string (D k).key, .string (D k).text, .slice (D k).u (D k).n (D k).cap] 50) := ⟨_, rfl⟩
        have HB4 : Hid (Below wr.heap.size wr w4) := by rw [hw4]; exact (Below.refl _ _).alloc (Nat.le_refl _) _
        have HW4 := (show Hid _ from hw4)
        obtain ⟨x, hx⟩ : ∃ x, x = (D k).txt := ⟨_, rfl⟩
        have hzx : x.size ≤ 1048576 := by rw [hx]; exact txt_size _
        have e1 : (ByteArray.mk #[10]).size = 1 := rfl
        have a3 := fun v => addT (a := x) (b := ⟨#[10]⟩) (by omega) v
        have HX := (show Hid _ from hx)
        have HP4 : Hid (Pow w4) := (HP.out.below (HWW.out _ (HI.out.2.trans (HB4.out.mono HI.out.2.size)))).p
        clear hw4 hx e1
        go_wp2_with fail
        rw [← HW4.out]
        refine (implNodeText_any _ _ _ _ _ _ _ _ (D k).S w4 (IsStrs.below HSt.out HB4.out) (HF.out k hlt).2.2 (HF.out k hlt).1 (HF.out k hlt).2.1 HP4.out).mono ?_
        rintro e w5 ⟨rfl, hB5⟩
        have e2 : textR (D k).a (D k).s (D k).k (D k).key (D k).text (D k).S (D k).n = x := HX.out.symm
        rw [e2]
        have hB45 : Below wr.heap.size wr w5 := HB4.out.trans (hB5.mono HB4.out.size)
        have HI5 : Hid (Lib.IsBuilder 133 5 w1.heap.size w1.heap.size (Lib.strCells (dagT D len k)) w5 ∧ Below w1.heap.size w1 w5) := ⟨builder_below HI.out.1 hB45, HI.out.2.trans (hB45.mono HI.out.2.size)⟩
        obtain ⟨y, hy⟩ : ∃ y, y = x ++ ⟨#[10]⟩ := ⟨_, rfl⟩
        have HY : Hid (dagT D len (k + 1) = dagT D len k ++ y) := by rw [hy, HX.out]; rfl
        have HLE : Hid ((Lib.strCells (dagT D len k)).length + y.size ≤ 140737488355328) := by
          have h1 := HSZ k
          have h2 : y.size = x.size + 1 := by rw [hy, ByteArray.size_append]; rfl
          rw [Lib.strCells_length]
          show _ ≤ _
          omega
        have HYY := (show Hid _ from hy)
        clear hB5 hB45 e2 HX hy HI
        go_wp2_with fail
        rw [← HYY.out]
        refine (write_any w1.heap.size w1.heap.size (Lib.strCells (dagT D len k)) y w5 HI5.out.1 HLE.out HI5.out.2.size).mono ?_
        rintro e w6 ⟨rfl, hb6, hB6, _⟩
        have HR : Hid (Lib.IsBuilder 133 5 w1.heap.size w1.heap.size (Lib.strCells (dagT D len (k + 1))) w6 ∧ Below w1.heap.size w1 w6) := by
          refine ⟨.inr ?_, HI5.out.2.trans hB6⟩
          rw [HY.out, strCells_append]
          exact hb6
        clear hb6 hB6 HI5
        go_wp2
        go_roundw
        case rel => exact ⟨k + 1, by omega, by go_num, HR.out⟩
        case measure => simp [Go.RowKit.intOf]; omega
      · have hke : k = len := by omega
        subst hke
        have HEND : Hid (Lib.IsBuilder 133 5 w1.heap.size w1.heap.size (Lib.byteCells (dagT D k k).data.toList) wr ∧ Below w1.heap.size w1 wr) := HI.out
        clear HI
        go_wp2_with fail
        refine (Tryz.Builder_String_any w1.heap.size w1.heap.size (dagT D k k).data.toList wr HEND.out.1 HEND.out.2.size).mono ?_
        rintro e w7 ⟨rfl, hB7⟩
        have HB7 : Hid (Below w.heap.size w w7) := HWW.out _ (HEND.out.2.trans hB7)
        clear hB7
        go_wp2
        go_ret
        exact ⟨by rw [HD.out]; simp, HB7.out⟩
end Go.Proofs.YtlibipbpaigmdaaGreatDoor
