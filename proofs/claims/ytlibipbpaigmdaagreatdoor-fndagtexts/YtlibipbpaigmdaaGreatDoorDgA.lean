/-
  DERIVED: THE SHELF's CONTRACTS AT THIS DUMP, IN PLAIN WORDS (tools/lay-plain.mjs out of 'TryzShelfI.lean', which tools/lay-shelf.mjs wrote): THE SAME DECLARATIONS UNDER THE SAME NAMES: 'import', 'namespace', 'open', 'def', 'theorem' AND NOTHING ELSE: no command of the shelf's: FOR A HAND-IN. Each laying: the table of numbers ('.._ren') and one theorem, a field a fact of the dump's own or the kernel's comparison; each contract: ONE APPLICATION.
  The laws' own marks: the text of a mark, marks written into a row of texts and looked at again. No condition but bounds.
  Rising lists of texts, and slices.Sorted over maps.Keys at this program: a new slice that holds the map's keys, rising. No condition but that the map is not great.
  The specification's small functions over lists of texts: l1Has, l1Put. No condition but that the slices read.
  The specification's l1Put: a new list with one text more, at its place. No condition but that the slice reads and is not long.
  The specification's heads of a dag. No condition but that the slice reads.
  The specification's keys of a dag. No condition but that the slice reads.
  The program's heads of a dag are the specification's. No condition but that the slice reads and that the tables lie.
  The program's set of texts, and its keys of a dag: the specification's. No condition but that the slice reads and that the tables lie.
-/
import Derived.Shelf.SlIter.Nil
import Derived.Shelf.SortM.Plain
import Derived.Shelf.SortM.SortNone
import Derived.Shelf.SlMaps.Clone
import Derived.Ground.GgzProg
import Derived.Ground.SlgmProg
import Derived.Ground.SlmcProg
import Derived.Test.YtlibipbpaigmdaaGreatDoorProg
import Derived.Test.YtlibipbpaigmdaaGreatDoorStr
import Derived.Laws.AppendOwn
import Derived.Lib.ItoaNum
import Derived.Test.YtlibipbpaigmdaaGreatDoorDag6
import Derived.Sort.KeysCollected
import Derived.Maps.OwnSet
import Derived.Test.YtlibipbpaigmdaaGreatDoorDag7
namespace Go.Proofs
open Go.Shelf
def Tryz.keys40_ren : Go.Shelf.Ren := ⟨fun | 7 => 91 | 10 => 150 | n => n, fun | 23 => 81 | 26 => 9 | 3 => 92 | 28 => 90 | 0 => 0 | 27 => 89 | 33 => 43 | 4 => 4 | n => n, fun | n => n⟩
theorem Tryz.keys40 : Go.Proofs.SlLaysZ.n7 Tryz.prog Tryz.keys40_ren := {
  mixed := by kernel_rfl
  f7 := ⟨Tryz.f91.name, by decide, Tryz.func91.trans (congrArg some (by kernel_rfl))⟩
  f10 := ⟨Tryz.f150.name, by decide, Tryz.func150.trans (congrArg some (by kernel_rfl))⟩
  t0 := Tryz.underlying0
  a0 := Tryz.isAgg0
  z0 := Tryz.sizeOf0
  v0 := Tryz.zeroValue0
  t4 := Tryz.underlying4
  a4 := Tryz.isAgg4
  z4 := Tryz.sizeOf4
  v4 := Tryz.zeroValue4
  t23 := Tryz.underlying81
  a23 := Tryz.isAgg81
  z23 := Tryz.sizeOf81
  v23 := Tryz.zeroValue81
  t26 := Tryz.underlying9
  a26 := Tryz.isAgg9
  z26 := Tryz.sizeOf9
  v26 := Tryz.zeroValue9
  t27 := Tryz.underlying89
  a27 := Tryz.isAgg89
  z27 := Tryz.sizeOf89
  v27 := Tryz.zeroValue89
  t28 := Tryz.underlying90
  a28 := Tryz.isAgg90
  z28 := Tryz.sizeOf90
  v28 := Tryz.zeroValue90
  t33 := Tryz.underlying43
  a33 := Tryz.isAgg43
  z33 := Tryz.sizeOf43
  v33 := Tryz.zeroValue43 }
def Tryz.keys44_ren : Go.Shelf.Ren := ⟨fun | 7 => 117 | 10 => 166 | n => n, fun | 23 => 97 | 26 => 9 | 3 => 117 | 28 => 90 | 0 => 0 | 27 => 89 | 33 => 43 | 4 => 4 | n => n, fun | n => n⟩
theorem Tryz.keys44 : Go.Proofs.SlLaysZ.n7 Tryz.prog Tryz.keys44_ren := {
  mixed := by kernel_rfl
  f7 := ⟨Tryz.f117.name, by decide, Tryz.func117.trans (congrArg some (by kernel_rfl))⟩
  f10 := ⟨Tryz.f166.name, by decide, Tryz.func166.trans (congrArg some (by kernel_rfl))⟩
  t0 := Tryz.underlying0
  a0 := Tryz.isAgg0
  z0 := Tryz.sizeOf0
  v0 := Tryz.zeroValue0
  t4 := Tryz.underlying4
  a4 := Tryz.isAgg4
  z4 := Tryz.sizeOf4
  v4 := Tryz.zeroValue4
  t23 := Tryz.underlying97
  a23 := Tryz.isAgg97
  z23 := Tryz.sizeOf97
  v23 := Tryz.zeroValue97
  t26 := Tryz.underlying9
  a26 := Tryz.isAgg9
  z26 := Tryz.sizeOf9
  v26 := Tryz.zeroValue9
  t27 := Tryz.underlying89
  a27 := Tryz.isAgg89
  z27 := Tryz.sizeOf89
  v27 := Tryz.zeroValue89
  t28 := Tryz.underlying90
  a28 := Tryz.isAgg90
  z28 := Tryz.sizeOf90
  v28 := Tryz.zeroValue90
  t33 := Tryz.underlying43
  a33 := Tryz.isAgg43
  z33 := Tryz.sizeOf43
  v33 := Tryz.zeroValue43 }
def Tryz.keys72_ren : Go.Shelf.Ren := ⟨fun | 7 => 163 | 10 => 195 | n => n, fun | 23 => 98 | 26 => 9 | 3 => 117 | 28 => 90 | 0 => 0 | 27 => 89 | 33 => 43 | 4 => 4 | n => n, fun | n => n⟩
theorem Tryz.keys72 : Go.Proofs.SlLaysZ.n7 Tryz.prog Tryz.keys72_ren := {
  mixed := by kernel_rfl
  f7 := ⟨Tryz.f163.name, by decide, Tryz.func163.trans (congrArg some (by kernel_rfl))⟩
  f10 := ⟨Tryz.f195.name, by decide, Tryz.func195.trans (congrArg some (by kernel_rfl))⟩
  t0 := Tryz.underlying0
  a0 := Tryz.isAgg0
  z0 := Tryz.sizeOf0
  v0 := Tryz.zeroValue0
  t4 := Tryz.underlying4
  a4 := Tryz.isAgg4
  z4 := Tryz.sizeOf4
  v4 := Tryz.zeroValue4
  t23 := Tryz.underlying98
  a23 := Tryz.isAgg98
  z23 := Tryz.sizeOf98
  v23 := Tryz.zeroValue98
  t26 := Tryz.underlying9
  a26 := Tryz.isAgg9
  z26 := Tryz.sizeOf9
  v26 := Tryz.zeroValue9
  t27 := Tryz.underlying89
  a27 := Tryz.isAgg89
  z27 := Tryz.sizeOf89
  v27 := Tryz.zeroValue89
  t28 := Tryz.underlying90
  a28 := Tryz.isAgg90
  z28 := Tryz.sizeOf90
  v28 := Tryz.zeroValue90
  t33 := Tryz.underlying43
  a33 := Tryz.isAgg43
  z33 := Tryz.sizeOf43
  v33 := Tryz.zeroValue43 }
def Tryz.sorted39_ren : Go.Shelf.Ren := ⟨fun | 6 => 90 | 8 => 148 | 9 => 149 | 11 => 186 | 13 => 188 | 12 => 187 | 23 => 224 | 24 => 225 | 14 => 215 | 15 => 216 | 16 => 217 | 17 => 218 | 18 => 219 | 19 => 220 | 20 => 221 | 21 => 222 | 22 => 223 | 25 => 243 | 26 => 244 | 27 => 245 | 28 => 246 | 29 => 247 | 30 => 214 | 31 => 273 | n => n, fun | 26 => 9 | 28 => 90 | 24 => 25 | 0 => 0 | 3 => 3 | 37 => 127 | 48 => 172 | 50 => 176 | 4 => 4 | 40 => 210 | 39 => 209 | 45 => 206 | 5 => 5 | 9 => 9 | 51 => 232 | 55 => 235 | 57 => 252 | 58 => 253 | 33 => 43 | n => n, fun | n => n⟩
theorem Tryz.sorted39 : Go.Proofs.SlLaysZ.n6 Tryz.prog Tryz.sorted39_ren := {
  mixed := by kernel_rfl
  f6 := ⟨Tryz.f90.name, by decide, Tryz.func90.trans (congrArg some (by kernel_rfl))⟩
  f8 := ⟨Tryz.f148.name, by decide, Tryz.func148.trans (congrArg some (by kernel_rfl))⟩
  f11 := ⟨Tryz.f186.name, by decide, Tryz.func186.trans (congrArg some (by kernel_rfl))⟩
  t0 := Tryz.underlying0
  a0 := Tryz.isAgg0
  z0 := Tryz.sizeOf0
  v0 := Tryz.zeroValue0
  t24 := Tryz.underlying25
  a24 := Tryz.isAgg25
  z24 := Tryz.sizeOf25
  v24 := Tryz.zeroValue25
  t26 := Tryz.underlying9
  a26 := Tryz.isAgg9
  z26 := Tryz.sizeOf9
  v26 := Tryz.zeroValue9
  t28 := Tryz.underlying90
  a28 := Tryz.isAgg90
  z28 := Tryz.sizeOf90
  v28 := Tryz.zeroValue90
  i26 := by kernel_rfl }
def Tryz.sort65_ren : Go.Shelf.Ren := ⟨fun | 6 => 149 | 8 => 188 | 9 => 187 | 19 => 224 | 20 => 225 | 21 => 215 | 22 => 216 | 23 => 217 | 24 => 218 | 25 => 219 | 26 => 220 | 27 => 221 | 28 => 222 | 29 => 223 | 36 => 243 | 31 => 244 | 32 => 245 | 37 => 246 | 38 => 247 | 39 => 214 | 41 => 273 | n => n, fun | 27 => 25 | 29 => 9 | 3 => 3 | 32 => 127 | 26 => 25 | 0 => 0 | 44 => 172 | 46 => 176 | 4 => 4 | 36 => 210 | 35 => 209 | 41 => 206 | 5 => 5 | 9 => 9 | 53 => 232 | 57 => 235 | 63 => 252 | 64 => 253 | n => n, fun | n => n⟩
theorem Tryz.sort65 : Go.Proofs.SlLaysM.n6 Tryz.prog Tryz.sort65_ren := {
  mixed := by kernel_rfl
  f6 := ⟨Tryz.f149.name, by decide, Tryz.func149.trans (congrArg some (by kernel_rfl))⟩
  f8 := Tryz.func188.trans (congrArg some (by kernel_rfl))
  f9 := ⟨Tryz.f187.name, by decide, Tryz.func187.trans (congrArg some (by kernel_rfl))⟩
  f19 := Tryz.func224.trans (congrArg some (by kernel_rfl))
  f20 := Tryz.func225.trans (congrArg some (by kernel_rfl))
  f21 := ⟨Tryz.f215.name, by decide, Tryz.func215.trans (congrArg some (by kernel_rfl))⟩
  f22 := ⟨Tryz.f216.name, by decide, Tryz.func216.trans (congrArg some (by kernel_rfl))⟩
  f23 := ⟨Tryz.f217.name, by decide, Tryz.func217.trans (congrArg some (by kernel_rfl))⟩
  f24 := ⟨Tryz.f218.name, by decide, Tryz.func218.trans (congrArg some (by kernel_rfl))⟩
  f25 := ⟨Tryz.f219.name, by decide, Tryz.func219.trans (congrArg some (by kernel_rfl))⟩
  f26 := ⟨Tryz.f220.name, by decide, Tryz.func220.trans (congrArg some (by kernel_rfl))⟩
  f27 := ⟨Tryz.f221.name, by decide, Tryz.func221.trans (congrArg some (by kernel_rfl))⟩
  f28 := ⟨Tryz.f222.name, by decide, Tryz.func222.trans (congrArg some (by kernel_rfl))⟩
  f29 := ⟨Tryz.f223.name, by decide, Tryz.func223.trans (congrArg some (by kernel_rfl))⟩
  f31 := Tryz.func244.trans (congrArg some (by kernel_rfl))
  f32 := Tryz.func245.trans (congrArg some (by kernel_rfl))
  f36 := ⟨Tryz.f243.name, by decide, Tryz.func243.trans (congrArg some (by kernel_rfl))⟩
  f37 := ⟨Tryz.f246.name, by decide, Tryz.func246.trans (congrArg some (by kernel_rfl))⟩
  f38 := ⟨Tryz.f247.name, by decide, Tryz.func247.trans (congrArg some (by kernel_rfl))⟩
  f39 := ⟨Tryz.f214.name, by decide, Tryz.func214.trans (congrArg some (by kernel_rfl))⟩
  f41 := ⟨Tryz.f273.name, by decide, Tryz.func273.trans (congrArg some (by kernel_rfl))⟩
  t0 := Tryz.underlying0
  a0 := Tryz.isAgg0
  z0 := Tryz.sizeOf0
  v0 := Tryz.zeroValue0
  t3 := Tryz.underlying3
  a3 := Tryz.isAgg3
  z3 := Tryz.sizeOf3
  v3 := Tryz.zeroValue3
  t4 := Tryz.underlying4
  a4 := Tryz.isAgg4
  z4 := Tryz.sizeOf4
  v4 := Tryz.zeroValue4
  t5 := Tryz.underlying5
  a5 := Tryz.isAgg5
  z5 := Tryz.sizeOf5
  v5 := Tryz.zeroValue5
  t9 := Tryz.underlying9
  a9 := Tryz.isAgg9
  z9 := Tryz.sizeOf9
  v9 := Tryz.zeroValue9
  t26 := Tryz.underlying25
  a26 := Tryz.isAgg25
  z26 := Tryz.sizeOf25
  v26 := Tryz.zeroValue25
  t27 := Tryz.underlying25
  a27 := Tryz.isAgg25
  z27 := Tryz.sizeOf25
  v27 := Tryz.zeroValue25
  t29 := Tryz.underlying9
  a29 := Tryz.isAgg9
  z29 := Tryz.sizeOf9
  v29 := Tryz.zeroValue9
  t32 := Tryz.underlying127
  a32 := Tryz.isAgg127
  z32 := Tryz.sizeOf127
  v32 := Tryz.zeroValue127
  t35 := Tryz.underlying209
  a35 := Tryz.isAgg209
  z35 := Tryz.sizeOf209
  v35 := Tryz.zeroValue209
  t36 := Tryz.underlying210
  a36 := Tryz.isAgg210
  z36 := Tryz.sizeOf210
  v36 := Tryz.zeroValue210
  t41 := Tryz.underlying206
  a41 := Tryz.isAgg206
  z41 := Tryz.sizeOf206
  v41 := Tryz.zeroValue206
  t44 := Tryz.underlying172
  a44 := Tryz.isAgg172
  z44 := Tryz.sizeOf172
  v44 := Tryz.zeroValue172
  t46 := Tryz.underlying176
  a46 := Tryz.isAgg176
  z46 := Tryz.sizeOf176
  v46 := Tryz.zeroValue176
  t53 := Tryz.underlying232
  a53 := Tryz.isAgg232
  z53 := Tryz.sizeOf232
  v53 := Tryz.zeroValue232
  t57 := Tryz.underlying235
  a57 := Tryz.isAgg235
  z57 := Tryz.sizeOf235
  v57 := Tryz.zeroValue235
  t63 := Tryz.underlying252
  a63 := Tryz.isAgg252
  z63 := Tryz.sizeOf252
  v63 := Tryz.zeroValue252
  t64 := Tryz.underlying253
  a64 := Tryz.isAgg253
  z64 := Tryz.sizeOf253
  v64 := Tryz.zeroValue253 }
def Tryz.clone38_ren : Go.Shelf.Ren := ⟨fun | 5 => 118 | 7 => 167 | n => n, fun | 23 => 81 | 25 => 9 | 3 => 92 | 4 => 4 | 20 => 20 | n => n, fun | n => n⟩
theorem Tryz.clone38 : Go.Proofs.SlLaysW.n5 Tryz.prog Tryz.clone38_ren := {
  mixed := by kernel_rfl
  f5 := ⟨Tryz.f118.name, by decide, Tryz.func118.trans (congrArg some (by kernel_rfl))⟩
  f7 := Tryz.func167.trans (congrArg some (by kernel_rfl))
  t4 := Tryz.underlying4
  a4 := Tryz.isAgg4
  z4 := Tryz.sizeOf4
  v4 := Tryz.zeroValue4
  t20 := Tryz.underlying20
  a20 := Tryz.isAgg20
  z20 := Tryz.sizeOf20
  v20 := Tryz.zeroValue20
  t23 := Tryz.underlying81
  a23 := Tryz.isAgg81
  z23 := Tryz.sizeOf81
  v23 := Tryz.zeroValue81 }
end Go.Proofs

namespace Go.Proofs.YtlibipbpaigmdaaGreatDoor
open Go.RowKit
set_option linter.unusedVariables false

/-- nothing outside has turned, and no old block that p names -/
structure Kept (p : Nat → Prop) (w w' : World) : Prop where
  os : w'.os = w.os
  tape : w'.tape = w.tape
  output : w'.output = w.output
  size : w.heap.size ≤ w'.heap.size
  block : ∀ k, k < w.heap.size → p k → w'.heap[k]? = w.heap[k]?
theorem Kept.refl (p : Nat → Prop) (w : World) : Kept p w w := ⟨rfl, rfl, rfl, Nat.le_refl _, fun _ _ _ => rfl⟩
theorem Kept.trans {p : Nat → Prop} {a b c : World} (h : Kept p a b) (k : Kept p b c) : Kept p a c :=
  ⟨k.os.trans h.os, k.tape.trans h.tape, k.output.trans h.output, Nat.le_trans h.size k.size, fun i hi hp => (k.block i (by have := h.size; omega) hp).trans (h.block i hi hp)⟩
theorem Kept.of_below {p : Nat → Prop} {w w' : World} (h : Below w.heap.size w w') : Kept p w w' := ⟨h.os, h.tape, h.output, h.size, fun k hk _ => h.block k hk⟩
theorem Kept.of_grown {p : Nat → Prop} {w w' : World} {row : Option Nat} (h : w.grownBy w' row) (hr : ∀ k, row = some k → ¬ p k) : Kept p w w' :=
  ⟨h.os, h.tape, h.output, h.size, fun k hk hp => h.block k hk (fun e => hr k e.symm hp)⟩
theorem Kept.mono {p q : Nat → Prop} {w w' : World} (h : Kept p w w') (hq : ∀ k, q k → p k) : Kept q w w' := ⟨h.os, h.tape, h.output, h.size, fun k hk hp => h.block k hk (hq k hp)⟩
theorem Kept.below {B : Nat} {w w' : World} (h : Kept (fun k => k < B) w w') (hB : B ≤ w.heap.size) : Below B w w' := ⟨h.os, h.tape, h.output, h.size, fun k hk => h.block k (by omega) hk⟩

theorem IsStrs.kept {p : Nat → Prop} {w w' : World} {a : Option Addr} {len cap : Nat} {S : Nat → ByteArray} (h : IsStrs w a len cap S) (hK : Kept p w w') (hp : ∀ b off, a = some ⟨b, off, none⟩ → p b) : IsStrs w' a len cap S := by
  obtain ⟨h1, h2, h3⟩ := h
  refine ⟨h1, h2, fun h0 => ?_⟩
  obtain ⟨b, off, e, hb, hc⟩ := h3 h0
  have hbl := hK.block b hb (hp b off e)
  exact ⟨b, off, e, by have := hK.size; omega, fun i hi => (World.cell?_of_block (w := w) (a := ⟨b, off + i, none⟩) hbl).trans (hc i hi)⟩

/-- the text of one byte -/
def mg (c : Int) : ByteArray := ⟨#[UInt8.ofNat c.toNat]⟩
theorem mg_size (c : Int) : (mg c).size = 1 := rfl
/-- the digits of a number; none of nought -/
def mtR (n : Nat) : ByteArray := if n = 0 then ⟨#[]⟩ else ⟨(Lib.decDigits n).toArray⟩
theorem mtR_zero : mtR 0 = ⟨#[]⟩ := by unfold mtR; rw [if_pos rfl]
theorem mtR_more {n : Nat} (h : n ≠ 0) : mtR n = mtR (n / 10) ++ mg (48 + (n : Int) % 10) := by
  apply ByteArray.ext
  apply Array.ext'
  unfold mtR mg
  rw [if_neg h, show (48 + (n : Int) % 10).toNat = 48 + n % 10 by omega]
  by_cases h2 : n < 10
  · rw [if_pos (by omega), Lib.decDigits_one h2, show n % 10 = n by omega]
    simp
  · rw [if_neg (by omega)]
    conv => lhs; rw [Lib.decDigits, dif_neg h2]
    simp
/-- the text of a mark -/
def mt (n : Nat) : ByteArray := ⟨#[109]⟩ ++ mtR n

theorem mg_string (w : World) (c : Int) : (convert 44 9 (.slice (some ⟨w.heap.size, 0, none⟩) 1 1)).run Tryz.prog (w.alloc (.cells #[.int .u8 c] 5)) = .ok (.string (mg c)) (w.alloc (.cells #[.int .u8 c] 5)) := by
  rw [run_convert_bytes_string _ 44 9 5 _ _ _ Tryz.underlying44 Tryz.underlying5 Tryz.underlying9]
  rw [run_bytesToString _ _ 1 1 [c] (by simp [loadCells, go_sem])]
  rfl

theorem ret_val' {a b : ByteArray} (h : a = b) : Ending.returned (.string a) = .returned (.string b) := by rw [h]

set_option maxRecDepth 4000 in
set_option maxHeartbeats 400000 in
theorem mt_any (n : Nat) (h0 : 0 < n) (hn : n ≤ 1152921504606846976) (w : World) :
    Calls Tryz.prog 94 #[.int .i64 n] w fun e w' => e = .returned (.string (mt n)) ∧ Below w.heap.size w w' := by
  have hpos : ¬ ((n : Int) ≤ 0) := by omega
  have hpos' : decide ((n : Int) ≤ 0) = false := by simp; omega
  clear hpos
  go_enter Tryz.func94, Tryz.ntmps94
  go_wp2
  clear hpos'
  go_loopw [0, 3] (fun x y wr => ∃ (m : Nat) (t : ByteArray), m ≤ n ∧ x = .int .i64 m ∧ y = .string t ∧ Hid (t.size + m ≤ n) ∧ Hid (mtR n = mtR m ++ t) ∧ Below w.heap.size w wr) (fun x _ _ => (intOf x).toNat)
  case atStart => exact ⟨n, _, Nat.le_refl _, rfl, rfl, by show _ ≤ _; exact Nat.le_of_eq (Nat.zero_add _), by show _ = _; exact ByteArray.append_empty.symm, Below.refl _ _⟩
  case round =>
    obtain ⟨m, t, hm, rfl, rfl, hts, hd, hB⟩ := hrel
    by_cases hz : m = 0
    · subst hz
      have hadd : ∀ w' : World, (Op.stringOp .add (⟨#[109]⟩ : ByteArray) t).run Tryz.prog w' = .ok (.string ((⟨#[109]⟩ : ByteArray) ++ t)) w' := fun w' => run_string_add_sum w' _ _ (by have := hts.out; have : (⟨#[109]⟩ : ByteArray).size = 1 := rfl; omega)
      have hr : Hid (mt n = ⟨#[109]⟩ ++ t) := by
        show _ = _
        unfold mt
        rw [hd.out, mtR_zero]
        show (⟨#[109]⟩ : ByteArray) ++ (ByteArray.empty ++ t) = _
        rw [ByteArray.empty_append]
      clear hd hts
      go_wp2
      go_ret
      exact ⟨ret_val' hr.out.symm, hB⟩
    · have hadd : ∀ (c : Int) (w' : World), (Op.stringOp .add (mg c) t).run Tryz.prog w' = .ok (.string (mg c ++ t)) w' := fun c w' => run_string_add_sum w' _ _ (by have := hts.out; have := mg_size c; omega)
      have hcv := mg_string wr
      have hlt : (0 : Int) < (m : Int) := by omega
      have hr : Hid (mtR n = mtR (m / 10) ++ (mg (48 + (m : Int) % 10) ++ t)) := by
        show _ = _
        rw [hd.out, mtR_more hz, ByteArray.append_assoc]
      have hmm : Hid (m ≠ 0) := hz
      clear hz hd
      go_wp2
      go_roundw
      case rel =>
        refine ⟨m / 10, _, by omega, by go_num, rfl, ?_, hr.out, hB.alloc hB.size _⟩
        show _ ≤ _
        have := hts.out
        have := hmm.out
        rw [ByteArray.size_append, mg_size]
        omega
      case measure => have := hmm.out; simp [intOf]; omega

/-- n marks from k on -/
def marks (k n : Nat) : List Value := (List.range n).map fun i => .string (mt (k + i))
theorem marks_at {k n i : Nat} (h : i < n) : (marks k n)[i]? = some (.string (mt (k + i))) := by unfold marks; simp [h]
theorem marks_len (k n : Nat) : (marks k n).length = n := by unfold marks; simp
theorem marks_of {k n : Nat} {xs : List Value} (hl : xs.length = n) (h : ∀ i, i < n → xs[i]? = some (.string (mt (k + i)))) : xs = marks k n := by
  apply List.ext_getElem? 
  intro i
  by_cases hi : i < n
  · rw [h i hi, marks_at hi]
  · rw [List.getElem?_eq_none (by omega), List.getElem?_eq_none (by rw [marks_len]; omega)]

set_option maxHeartbeats 1000000 in
theorem markStringS_any (a : Option Addr) (len cap base : Nat) (xs0 : List Value) (k0 : Nat) (w : World) (h : w.ownsRow base 9 1 (.slice a len cap) len xs0) (hk : 0 < k0) (hb : k0 + len ≤ 1152921504606846976) :
    Calls Tryz.prog 25 #[.slice a len cap, .int .i64 k0] w fun e w' => e = .returned (.int .i64 ((k0 + len : Nat) : Int)) ∧ w'.ownsRow base 9 1 (.slice a len cap) len (marks k0 len) ∧ w.grownBy w' (Value.slice a len cap).ownBlock := by
  go_enter Tryz.func25, Tryz.ntmps25
  go_wp2
  go_loopw [1, 5] (fun x i wr => ∃ (j : Nat) (xs : List Value), j ≤ len ∧ i = .int .i64 j ∧ x = .int .i64 ((k0 + j : Nat) : Int) ∧ wr.ownsRow base 9 1 (.slice a len cap) len xs ∧ Hid (∀ t, t < j → xs[t]? = some (.string (mt (k0 + t)))) ∧ w.grownBy wr (Value.slice a len cap).ownBlock)
    (fun _ i _ => len - (intOf i).toNat)
  case atStart => exact ⟨0, xs0, Nat.zero_le _, rfl, rfl, h, fun t ht => absurd ht (Nat.not_lt_zero _), World.grownBy.refl _ _⟩
  case round =>
    obtain ⟨j, xs, hj, rfl, rfl, how, HA, hG⟩ := hrel
    by_cases hlt : j < len
    · obtain ⟨g, rfl⟩ : ∃ g, a = some ⟨g, 0, none⟩ := by
        rcases how.2 with ⟨h', h0⟩ | ⟨g, cap', cur, h', _⟩
        · omega
        · simp only [Value.slice.injEq] at h'
          exact ⟨g, h'.1⟩
      have hltI : (j : Int) < (len : Int) := by omega
      have hxl : xs.length = len * 1 := how.1
      have HO : Hid (_) := how
      have HG : Hid (_) := hG
      clear how hG h
      go_wp2_with fail
      refine (mt_any (k0 + j) (by omega) (by omega) _).mono ?_
      rintro e w1 ⟨rfl, hB1⟩
      have ho1 := ownsRow_below HO.out hB1
      have f1 := ho1.frozenAt j
      obtain ⟨v1, e1⟩ := own_some ho1 j (by omega)
      have HO1 : Hid (_) := ho1
      have HB1 : Hid (_) := hB1
      clear ho1 hB1
      go_wp2
      go_roundw
      case rel =>
        refine ⟨j + 1, xs.set j (.string (mt (k0 + j))), by omega, by go_num, by go_num, (World.ownsRow.stored HO1.out _ _).1, ?_, ?_⟩
        · intro t ht
          rcases Nat.lt_succ_iff_lt_or_eq.1 ht with h1 | rfl
          · rw [List.getElem?_set_ne (by omega)]
            exact HA.out t h1
          · rw [List.getElem?_set_self (by omega)]
        · have hB := HB1.out
          have h1 : wr.grownBy w1 (some g) := ⟨hB.os, hB.tape, hB.output, hB.size, fun k hk _ => hB.block k hk⟩
          exact (HG.out.trans h1).trans (World.ownsRow.stored HO1.out _ _).2
      case measure => simp [intOf]; omega
    · have hje : j = len := by omega
      subst hje
      have hm : xs = marks k0 j := marks_of (by have := how.1; omega) HA.out
      have HO : Hid (wr.ownsRow base 9 1 (.slice a j cap) j (marks k0 j)) := by rw [← hm]; exact how
      clear how hm
      go_wp2
      go_ret
      exact ⟨rfl, HO.out, hG⟩

set_option maxHeartbeats 1000000 in
theorem heldStringS_any (a : Option Addr) (len cap k0 : Nat) (w : World) (h : IsStrs w a len cap (fun i => mt (k0 + i))) (hk : 0 < k0) (hb : k0 + len ≤ 1152921504606846976) :
    Calls Tryz.prog 26 #[.slice a len cap, .int .i64 k0] w fun e w' => e = .returned (.int .i64 ((k0 + len : Nat) : Int)) ∧ Below w.heap.size w w' := by
  obtain ⟨hlc, hcm, hc⟩ := h
  go_enter Tryz.func26, Tryz.ntmps26
  go_wp2
  go_loopw [1, 5] (fun x i wr => ∃ (j : Nat), j ≤ len ∧ i = .int .i64 j ∧ x = .int .i64 ((k0 + j : Nat) : Int) ∧ Below w.heap.size w wr)
    (fun _ i _ => len - (intOf i).toNat)
  case atStart => exact ⟨0, Nat.zero_le _, rfl, rfl, Below.refl _ _⟩
  case round =>
    obtain ⟨j, hj, rfl, rfl, hB⟩ := hrel
    by_cases hlt : j < len
    · obtain ⟨b, off, rfl, hbs, hcell⟩ := hc (by omega)
      have hltI : (j : Int) < (len : Int) := by omega
      have d1 : ∀ s : Later wr, s.val.cell? ⟨b, off + j, none⟩ = some (.string (mt (k0 + j))) := fun s => s.cell ((hB.cell (p := ⟨b, off + j, none⟩) hbs).trans (hcell j hlt))
      have hss : ((mt (k0 + j)).toList != (mt (k0 + j)).toList) = false := by simp
      have HX : Hid (∀ s : Later wr, Calls Tryz.prog 94 #[.int .i64 ((k0 + j : Nat) : Int)] s.val fun e w' => e = .returned (.string (mt (k0 + j))) ∧ Below s.val.heap.size s.val w') := fun s => mt_any (k0 + j) (by omega) (by omega) s.val
      have HB : Hid (Below w.heap.size w wr) := hB
      haveI := Later.any wr
      clear hcell hc hB
      go_wp2
      refine wp_region_later (by kernel_rfl) (by kernel_rfl) ?_
      repeat (go_big_quiet_step ((rename_i s; exact Calls.later (HX.out s))))
      refine wpQuiet_nil ?_
      rintro _ ⟨⟨w', hB2⟩, rfl⟩
      go_wp2
      go_roundw
      case rel => exact ⟨j + 1, by omega, by go_num, by go_num, HB.out.trans (hB2.mono HB.out.size)⟩
      case measure => simp [intOf]; omega
    · have hje : j = len := by omega
      subst hje
      go_wp2
      go_ret
      exact ⟨rfl, hB⟩
end Go.Proofs.YtlibipbpaigmdaaGreatDoor

namespace Go.Proofs
open Go.RowKit Go.Maps Go.Sort Go.Shelf
theorem Tryz.sorts39 (m : Nat) : AnyZ.SortsIn Tryz.prog Tryz.sorted39_ren Fence.wide m :=
  ⟨fun blk off cap ss W hH hblk hsz => callsIn_wide.2 (AnyM.slices_Sort_string Tryz.sort65 blk off cap ss W hH hblk hsz),
   fun p cap W => callsIn_wide.2 (AnyM.slices_Sort_string_none Tryz.sort65 p cap W)⟩

theorem Tryz.maps_Keys_40 (mb : Option Nat) (W : World) : Calls Tryz.prog 91 #[.map mb] W fun e w' => e = .returned (.func (.func 150) #[] #[.pointer (some ⟨W.heap.size, 0, none⟩)]) ∧ w' = W.alloc (.cells #[.map mb] 81) :=
  (callsIn_wide (n := 5)).1 (AnyZ.keys_in Tryz.keys40 Fence.wide 5 trivial rfl mb W)

set_option maxHeartbeats 1000000 in
theorem Tryz.sorted_keys_40 {H : Type} (b nn : Nat) (D0 : DataW H) (R : Value → Option (DataW H × List MemPlace)) (w : World) (hown : w.ownsMap Tryz.prog 9 R b nn D0) (hmax : Maps.size D0 ≤ maxLen) (hbytes : Maps.size D0 * 16 ≤ 140737488355328) :
    Calls Tryz.prog 90 #[.func (.func 150) #[] #[.pointer (some ⟨w.heap.size, 0, none⟩)]] (w.alloc (.cells #[.map (some b)] 81)) fun e w' => ∃ (v : Value) (ss : List (List UInt8)), e = .returned v ∧ ss.Perm (strKeys D0) ∧
      w'.ownsRow (w.alloc (.cells #[.map (some b)] 81)).heap.size 9 1 v ss.length ((ss.mergeSort (fun x y => decide (x ≤ y))).map encStr) ∧ (v = .slice none 0 0 ↔ ss = []) ∧ Below (w.alloc (.cells #[.map (some b)] 81)).heap.size (w.alloc (.cells #[.map (some b)] 81)) w' := by
  refine (callsIn_wide (n := 5)).1 ?_
  have hbl := hown.lt
  have hseq : SeqGives Fence.wide 2 Tryz.prog 150 #[.pointer (some ⟨w.heap.size, 0, none⟩)] encStr (fun ss => ss.Perm (strKeys D0)) (Maps.size D0) (w.alloc (.cells #[.map (some b)] 81)) :=
    AnyZ.keys_gives (ρ := Tryz.keys40_ren) { Tryz.keys40 with } Fence.wide _ trivial rfl (by omega) w.heap.size b nn D0 _ (by simp) (by simp) (by
      obtain ⟨es, clock, hb, Ft, hs, hD⟩ := hown
      exact ⟨es, clock, (Below.heap_alloc _ _ b hbl).trans hb, Ft, hs, hD⟩)
  exact AnyZ.sorted_in Tryz.sorted39 Fence.wide 5 trivial trivial trivial trivial rfl (by omega) (Tryz.sorts39 _) (enters_of Tryz.func149 (by kernel_rfl) rfl) 150 #[.pointer (some ⟨w.heap.size, 0, none⟩)] trivial (enters_of Tryz.func150 (by kernel_rfl) rfl) _ _ hmax hbytes _ hseq

theorem Tryz.maps_Keys_44 (mb : Option Nat) (W : World) : Calls Tryz.prog 117 #[.map mb] W fun e w' => e = .returned (.func (.func 166) #[] #[.pointer (some ⟨W.heap.size, 0, none⟩)]) ∧ w' = W.alloc (.cells #[.map mb] 97) :=
  (callsIn_wide (n := 5)).1 (AnyZ.keys_in Tryz.keys44 Fence.wide 5 trivial rfl mb W)

set_option maxHeartbeats 1000000 in
theorem Tryz.sorted_keys_44 {H : Type} (b nn : Nat) (D0 : DataW H) (R : Value → Option (DataW H × List MemPlace)) (w : World) (hown : w.ownsMap Tryz.prog 9 R b nn D0) (hmax : Maps.size D0 ≤ maxLen) (hbytes : Maps.size D0 * 16 ≤ 140737488355328) :
    Calls Tryz.prog 90 #[.func (.func 166) #[] #[.pointer (some ⟨w.heap.size, 0, none⟩)]] (w.alloc (.cells #[.map (some b)] 97)) fun e w' => ∃ (v : Value) (ss : List (List UInt8)), e = .returned v ∧ ss.Perm (strKeys D0) ∧
      w'.ownsRow (w.alloc (.cells #[.map (some b)] 97)).heap.size 9 1 v ss.length ((ss.mergeSort (fun x y => decide (x ≤ y))).map encStr) ∧ (v = .slice none 0 0 ↔ ss = []) ∧ Below (w.alloc (.cells #[.map (some b)] 97)).heap.size (w.alloc (.cells #[.map (some b)] 97)) w' := by
  refine (callsIn_wide (n := 5)).1 ?_
  have hbl := hown.lt
  have hseq : SeqGives Fence.wide 2 Tryz.prog 166 #[.pointer (some ⟨w.heap.size, 0, none⟩)] encStr (fun ss => ss.Perm (strKeys D0)) (Maps.size D0) (w.alloc (.cells #[.map (some b)] 97)) :=
    AnyZ.keys_gives (ρ := Tryz.keys44_ren) { Tryz.keys44 with } Fence.wide _ trivial rfl (by omega) w.heap.size b nn D0 _ (by simp) (by simp) (by
      obtain ⟨es, clock, hb, Ft, hs, hD⟩ := hown
      exact ⟨es, clock, (Below.heap_alloc _ _ b hbl).trans hb, Ft, hs, hD⟩)
  exact AnyZ.sorted_in Tryz.sorted39 Fence.wide 5 trivial trivial trivial trivial rfl (by omega) (Tryz.sorts39 _) (enters_of Tryz.func149 (by kernel_rfl) rfl) 166 #[.pointer (some ⟨w.heap.size, 0, none⟩)] trivial (enters_of Tryz.func166 (by kernel_rfl) rfl) _ _ hmax hbytes _ hseq

theorem Tryz.maps_Keys_72 (mb : Option Nat) (W : World) : Calls Tryz.prog 163 #[.map mb] W fun e w' => e = .returned (.func (.func 195) #[] #[.pointer (some ⟨W.heap.size, 0, none⟩)]) ∧ w' = W.alloc (.cells #[.map mb] 98) :=
  (callsIn_wide (n := 5)).1 (AnyZ.keys_in Tryz.keys72 Fence.wide 5 trivial rfl mb W)

set_option maxHeartbeats 1000000 in
theorem Tryz.sorted_keys_72 {H : Type} (b nn : Nat) (D0 : DataW H) (R : Value → Option (DataW H × List MemPlace)) (w : World) (hown : w.ownsMap Tryz.prog 9 R b nn D0) (hmax : Maps.size D0 ≤ maxLen) (hbytes : Maps.size D0 * 16 ≤ 140737488355328) :
    Calls Tryz.prog 90 #[.func (.func 195) #[] #[.pointer (some ⟨w.heap.size, 0, none⟩)]] (w.alloc (.cells #[.map (some b)] 98)) fun e w' => ∃ (v : Value) (ss : List (List UInt8)), e = .returned v ∧ ss.Perm (strKeys D0) ∧
      w'.ownsRow (w.alloc (.cells #[.map (some b)] 98)).heap.size 9 1 v ss.length ((ss.mergeSort (fun x y => decide (x ≤ y))).map encStr) ∧ (v = .slice none 0 0 ↔ ss = []) ∧ Below (w.alloc (.cells #[.map (some b)] 98)).heap.size (w.alloc (.cells #[.map (some b)] 98)) w' := by
  refine (callsIn_wide (n := 5)).1 ?_
  have hbl := hown.lt
  have hseq : SeqGives Fence.wide 2 Tryz.prog 195 #[.pointer (some ⟨w.heap.size, 0, none⟩)] encStr (fun ss => ss.Perm (strKeys D0)) (Maps.size D0) (w.alloc (.cells #[.map (some b)] 98)) :=
    AnyZ.keys_gives (ρ := Tryz.keys72_ren) { Tryz.keys72 with } Fence.wide _ trivial rfl (by omega) w.heap.size b nn D0 _ (by simp) (by simp) (by
      obtain ⟨es, clock, hb, Ft, hs, hD⟩ := hown
      exact ⟨es, clock, (Below.heap_alloc _ _ b hbl).trans hb, Ft, hs, hD⟩)
  exact AnyZ.sorted_in Tryz.sorted39 Fence.wide 5 trivial trivial trivial trivial rfl (by omega) (Tryz.sorts39 _) (enters_of Tryz.func149 (by kernel_rfl) rfl) 195 #[.pointer (some ⟨w.heap.size, 0, none⟩)] trivial (enters_of Tryz.func195 (by kernel_rfl) rfl) _ _ hmax hbytes _ hseq
end Go.Proofs
namespace Go.Proofs.YtlibipbpaigmdaaGreatDoor
open Go.RowKit Go.Maps
set_option linter.unusedVariables false

/-- texts that rise -/
def Up (l : List (List UInt8)) : Prop := l.Pairwise fun x y => Op.bytesLess x y = true
theorem Up.nodup {l : List (List UInt8)} (h : Up l) : l.Nodup := List.Pairwise.imp (fun {x y} hxy e => by subst e; rw [bl_irr] at hxy; cases hxy) h
theorem up_unique {l l' : List (List UInt8)} (h : Up l) (h' : Up l') (hm : ∀ x, x ∈ l ↔ x ∈ l') : l = l' :=
  List.Perm.eq_of_pairwise (le := fun a b => Op.bytesLess a b = true) (fun a b _ _ h1 h2 => by have := bl_asym h1; rw [h2] at this; cases this) h h' ((List.perm_ext_iff_of_nodup h.nodup h'.nodup).2 hm)
theorem bl_eq : ∀ (x y : List UInt8), Op.bytesLess x y = decide (x < y)
  | [], [] => by simp [Op.bytesLess]
  | _ :: _, [] => by simp [Op.bytesLess]
  | [], _ :: _ => by simp [Op.bytesLess]
  | a :: x, b :: y => by
    rw [Op.bytesLess, bl_eq x y]
    simp only [List.cons_lt_cons_iff]
    by_cases h1 : a < b <;> by_cases h2 : a = b <;> by_cases h3 : x < y <;> simp [h1, h2, h3]
theorem sort_up {ss : List (List UInt8)} (hn : ss.Nodup) : Up (ss.mergeSort (fun x y => decide (x ≤ y))) := by
  have tr : ∀ a b c : List UInt8, leB a b = true → leB b c = true → leB a c = true := fun a b c h1 h2 => by simp only [leB, decide_eq_true_eq] at *; exact List.le_trans h1 h2
  have hto : ∀ a b : List UInt8, (leB a b || leB b a) = true := fun a b => by simp only [leB, Bool.or_eq_true, decide_eq_true_eq]; exact List.le_total a b
  have p := List.pairwise_mergeSort tr hto ss
  have nd : (ss.mergeSort leB).Nodup := (List.mergeSort_perm ss leB).nodup_iff.2 hn
  refine (p.and nd).imp fun {x y} hxy => ?_
  obtain ⟨h1, h2⟩ := hxy
  have h3 : Op.bytesLess y x = false := by
    rw [bl_eq]
    simp only [leB, decide_eq_true_eq] at h1
    simpa using h1
  exact bl_tri _ _ h3 (fun e => h2 e.symm)

theorem strKeys_spec {H : Type} {P : Program} {k : TypeId} {R : Value → Option (DataW H × List MemPlace)} {w : World} {b n : Nat} {D0 : DataW H} (hown : w.ownsMap P k R b n D0) (K : Keyed P k) (hk : P.underlying k = some .string) :
    (strKeys D0).Nodup ∧ ∀ x, x ∈ strKeys D0 ↔ has D0 (.string x) = true := by
  obtain ⟨es, hD, hpw, _⟩ := hown.entries K
  obtain ⟨es', hD', hko⟩ := hown.keysOf
  obtain rfl : es = es' := by rw [hD] at hD'; simpa using hD'
  subst hD
  have hks : ∀ p ∈ es, ∃ x, p.1 = .string x := fun p hp => by obtain ⟨v, hv⟩ := hko p hp; obtain ⟨x, _, hx, _⟩ := Maps.keyOf_str hk hv; exact ⟨x, hx⟩
  refine ⟨?_, fun x => ?_⟩
  · show (es.map fun p => strOf p.1).Nodup
    refine List.pairwise_map.2 (hpw.imp_of_mem fun {p q} hp' hq' hne e => hne ?_)
    obtain ⟨a, ha⟩ := hks p hp'
    obtain ⟨b, hb⟩ := hks q hq'
    rw [ha, hb] at e ⊢
    exact congrArg _ e
  · rw [has_eq, List.any_eq_true]
    show x ∈ es.map (fun p => strOf p.1) ↔ _
    rw [List.mem_map]
    constructor
    · rintro ⟨p, hp', rfl⟩
      obtain ⟨a, ha⟩ := hks p hp'
      exact ⟨p, hp', by rw [ha]; simp [Lit.sameKey, strOf]⟩
    · rintro ⟨p, hp', hs⟩
      obtain ⟨a, ha⟩ := hks p hp'
      rw [ha] at hs
      exact ⟨p, hp', by rw [ha]; simpa [Lit.sameKey, strOf] using hs⟩

/-- v is a slice, laid at or above base, that holds the texts L -/
def OwnL (w : World) (base : Nat) (v : Value) (L : List (List UInt8)) : Prop := w.ownsRow base 9 1 v L.length (L.map encStr)
def tx (l : List UInt8) : ByteArray := ⟨l.toArray⟩
/-- the texts of L by their places -/
def atL (L : List (List UInt8)) (i : Nat) : ByteArray := tx (L.getD i [])
theorem OwnL.below {w w' : World} {base : Nat} {v : Value} {L : List (List UInt8)} (h : OwnL w base v L) (hB : Below w.heap.size w w') : OwnL w' base v L := ownsRow_below h hB
theorem OwnL.strs {w : World} {base : Nat} {v : Value} {L : List (List UInt8)} (h : OwnL w base v L) :
    ∃ a cap, v = .slice a L.length cap ∧ IsStrs w a L.length cap (atL L) ∧ ∀ b off, a = some ⟨b, off, none⟩ → base ≤ b := by
  obtain ⟨a, cap, rfl, hI⟩ := strs_of_own (S := atL L) h (fun i hi => by
    rw [List.getElem?_map]
    simp [atL, tx, encStr, List.getD, hi])
  refine ⟨a, cap, rfl, hI, fun b off e => ?_⟩
  subst e
  exact (h.lt b rfl).1
theorem OwnL.len {w : World} {base : Nat} {v : Value} {L : List (List UInt8)} (h : OwnL w base v L) : L.length ≤ 9223372036854775807 := by
  obtain ⟨a, cap, _, hI, _⟩ := h.strs
  have h1 := hI.1
  have h2 := hI.2.1
  omega

theorem mono_base {w : World} {base base' : Nat} {e : TypeId} {size : Nat} {v : Value} {n : Nat} {xs : List Value} (h : w.ownsRow base e size v n xs) (hb : base' ≤ base) : w.ownsRow base' e size v n xs := by
  obtain ⟨h1, h2⟩ := h
  refine ⟨h1, ?_⟩
  rcases h2 with h2 | ⟨g, cap, cur, hv, hg, r⟩
  · exact Or.inl h2
  · exact Or.inr ⟨g, cap, cur, hv, Nat.le_trans hb hg, r⟩

theorem sorted40 {H : Type} (b nn : Nat) (D0 : DataW H) (R : Value → Option (DataW H × List MemPlace)) (w : World) (hown : w.ownsMap Tryz.prog 9 R b nn D0) (hn : nn ≤ 1000000) :
    Calls Tryz.prog 90 #[.func (.func 150) #[] #[.pointer (some ⟨w.heap.size, 0, none⟩)]] (w.alloc (.cells #[.map (some b)] 81)) fun e w' => ∃ (v : Value) (L : List (List UInt8)), e = .returned v ∧ Up L ∧ (∀ x, x ∈ L ↔ has D0 (.string x) = true) ∧ OwnL w' w.heap.size v L ∧ Below w.heap.size w w' := by
  have hs := hown.size_le
  obtain ⟨hnd, hmem⟩ := strKeys_spec hown lawS Tryz.underlying9
  refine (Tryz.sorted_keys_40 b nn D0 R w hown (by unfold maxLen; omega) (by omega)).mono ?_
  rintro e w' ⟨v, ss, rfl, hp, ho, _, hB⟩
  have hss : (ss.mergeSort (fun x y => decide (x ≤ y))).length = ss.length := List.length_mergeSort ss
  refine ⟨v, ss.mergeSort (fun x y => decide (x ≤ y)), rfl, sort_up (hp.nodup_iff.2 hnd), fun x => ?_, ?_, ((Below.refl _ w).alloc (Nat.le_refl _) _).trans (hB.mono (by simp))⟩
  · rw [(List.mergeSort_perm ss _).mem_iff, hp.mem_iff]
    exact hmem x
  · unfold OwnL
    rw [hss]
    exact mono_base ho (by simp)

theorem sorted44 {H : Type} (b nn : Nat) (D0 : DataW H) (R : Value → Option (DataW H × List MemPlace)) (w : World) (hown : w.ownsMap Tryz.prog 9 R b nn D0) (hn : nn ≤ 1000000) :
    Calls Tryz.prog 90 #[.func (.func 166) #[] #[.pointer (some ⟨w.heap.size, 0, none⟩)]] (w.alloc (.cells #[.map (some b)] 97)) fun e w' => ∃ (v : Value) (L : List (List UInt8)), e = .returned v ∧ Up L ∧ (∀ x, x ∈ L ↔ has D0 (.string x) = true) ∧ OwnL w' w.heap.size v L ∧ Below w.heap.size w w' := by
  have hs := hown.size_le
  obtain ⟨hnd, hmem⟩ := strKeys_spec hown lawS Tryz.underlying9
  refine (Tryz.sorted_keys_44 b nn D0 R w hown (by unfold maxLen; omega) (by omega)).mono ?_
  rintro e w' ⟨v, ss, rfl, hp, ho, _, hB⟩
  have hss : (ss.mergeSort (fun x y => decide (x ≤ y))).length = ss.length := List.length_mergeSort ss
  refine ⟨v, ss.mergeSort (fun x y => decide (x ≤ y)), rfl, sort_up (hp.nodup_iff.2 hnd), fun x => ?_, ?_, ((Below.refl _ w).alloc (Nat.le_refl _) _).trans (hB.mono (by simp))⟩
  · rw [(List.mergeSort_perm ss _).mem_iff, hp.mem_iff]
    exact hmem x
  · unfold OwnL
    rw [hss]
    exact mono_base ho (by simp)

theorem sorted72 {H : Type} (b nn : Nat) (D0 : DataW H) (R : Value → Option (DataW H × List MemPlace)) (w : World) (hown : w.ownsMap Tryz.prog 9 R b nn D0) (hn : nn ≤ 1000000) :
    Calls Tryz.prog 90 #[.func (.func 195) #[] #[.pointer (some ⟨w.heap.size, 0, none⟩)]] (w.alloc (.cells #[.map (some b)] 98)) fun e w' => ∃ (v : Value) (L : List (List UInt8)), e = .returned v ∧ Up L ∧ (∀ x, x ∈ L ↔ has D0 (.string x) = true) ∧ OwnL w' w.heap.size v L ∧ Below w.heap.size w w' := by
  have hs := hown.size_le
  obtain ⟨hnd, hmem⟩ := strKeys_spec hown lawS Tryz.underlying9
  refine (Tryz.sorted_keys_72 b nn D0 R w hown (by unfold maxLen; omega) (by omega)).mono ?_
  rintro e w' ⟨v, ss, rfl, hp, ho, _, hB⟩
  have hss : (ss.mergeSort (fun x y => decide (x ≤ y))).length = ss.length := List.length_mergeSort ss
  refine ⟨v, ss.mergeSort (fun x y => decide (x ≤ y)), rfl, sort_up (hp.nodup_iff.2 hnd), fun x => ?_, ?_, ((Below.refl _ w).alloc (Nat.le_refl _) _).trans (hB.mono (by simp))⟩
  · rw [(List.mergeSort_perm ss _).mem_iff, hp.mem_iff]
    exact hmem x
  · unfold OwnL
    rw [hss]
    exact mono_base ho (by simp)
end Go.Proofs.YtlibipbpaigmdaaGreatDoor

namespace Go.Proofs.YtlibipbpaigmdaaGreatDoor
open Go.RowKit
set_option linter.unusedVariables false

set_option maxHeartbeats 400000 in
theorem l1Has_any (a : Option Addr) (len cap : Nat) (I : Nat → ByteArray) (id : ByteArray) (w : World) (h : IsStrs w a len cap I) :
    Calls Tryz.prog 86 #[.slice a len cap, .string id] w fun e w' => e = .returned (.bool (!(outB I len id))) ∧ w' = w := by
  obtain ⟨hlc, hcm, hc⟩ := h
  go_enter Tryz.func86, Tryz.ntmps86
  go_wp2
  go_loop [5] (fun i => ∃ (k : Nat), k ≤ len ∧ i = .int .i64 k ∧ Hid (outB I k id = true)) (fun i => len - (intOf i).toNat)
  case atStart => exact ⟨0, Nat.zero_le _, rfl, rfl⟩
  case round =>
    obtain ⟨k, hk, rfl, HR⟩ := hrel
    by_cases hlt : k < len
    · obtain ⟨b, off, rfl, hbs, hcell⟩ := hc (by omega)
      have d1 := hcell k hlt
      have hltI : (k : Int) < (len : Int) := by omega
      clear hcell hc
      cases hq : ((I k).toList == id.toList) with
      | true =>
        have hr : Hid (outB I len id = false) := by
          show _ = _
          unfold outB
          rw [allB_false hlt (by rw [hq]; rfl)]
        go_wp2
        go_ret
        exact ⟨ret_bool (by rw [hr.out]; rfl), rfl⟩
      | false =>
        have HR' : Hid (outB I (k + 1) id = true) := by
          show _ = _
          have := HR.out
          unfold outB at this ⊢
          rw [allB_succ, this, hq]; rfl
        go_wp2
        go_round
        case rel => exact ⟨k + 1, by omega, by go_num, HR'⟩
        case measure => simp [intOf]; omega
    · have hke : k = len := by omega
      subst hke
      go_wp2
      go_ret
      exact ⟨ret_bool (by rw [HR.out]; rfl), rfl⟩

theorem l1Has_below (a : Option Addr) (len cap : Nat) (I : Nat → ByteArray) (id : ByteArray) (w : World) (h : IsStrs w a len cap I) (b : Bool) (hb : (!(outB I len id)) = b) :
    Calls Tryz.prog 86 #[.slice a len cap, .string id] w fun e w' => e = .returned (.bool b) ∧ Below w.heap.size w w' := by
  refine (l1Has_any a len cap I id w h).mono ?_
  rintro e w' ⟨rfl, rfl⟩
  exact ⟨ret_bool hb, Below.refl _ _⟩

theorem outB_iff (I : Nat → ByteArray) (id : ByteArray) : ∀ n, outB I n id = false ↔ ∃ i, i < n ∧ (I i).toList = id.toList
  | 0 => by simp [outB, allB]
  | n + 1 => by
    rw [outB_succ, Bool.and_eq_false_iff, outB_iff I id n]
    constructor
    · rintro (⟨i, hi, e⟩ | h)
      · exact ⟨i, by omega, e⟩
      · exact ⟨n, Nat.lt_succ_self _, by simpa using h⟩
    · rintro ⟨i, hi, e⟩
      rcases Nat.lt_succ_iff_lt_or_eq.1 hi with h1 | rfl
      · exact .inl ⟨i, h1, e⟩
      · exact .inr (by simp [e])

theorem atL_list (L : List (List UInt8)) (i : Nat) : (atL L i).toList = L.getD i [] := by
  rw [ByteArray.toList_eq]
  simp [atL, tx]
theorem out_mem (L : List (List UInt8)) (id : ByteArray) : outB (atL L) L.length id = false ↔ id.toList ∈ L := by
  rw [outB_iff]
  constructor
  · rintro ⟨i, hi, e⟩
    rw [atL_list] at e
    rw [← e, List.getD_eq_getElem?_getD, List.getElem?_eq_getElem hi]
    exact List.getElem_mem hi
  · intro h
    obtain ⟨i, hi, e⟩ := List.mem_iff_getElem.1 h
    refine ⟨i, hi, ?_⟩
    rw [atL_list, List.getD_eq_getElem?_getD, List.getElem?_eq_getElem hi]
    exact e

/-- L with one text more, at its place -/
def putL : List (List UInt8) → List UInt8 → List (List UInt8)
  | [], s => [s]
  | x :: l, s => if Op.bytesLess x s = true then x :: putL l s else if x = s then x :: l else s :: x :: l
theorem putL_mem (s y : List UInt8) : ∀ L, y ∈ putL L s ↔ y ∈ L ∨ y = s
  | [] => by simp [putL]
  | x :: l => by
    unfold putL
    split
    · rw [List.mem_cons, putL_mem s y l, List.mem_cons]
      constructor
      · rintro (h | h | h)
        · exact .inl (.inl h)
        · exact .inl (.inr h)
        · exact .inr h
      · rintro ((h | h) | h)
        · exact .inl h
        · exact .inr (.inl h)
        · exact .inr (.inr h)
    · split
      · rename_i h; subst h
        simp only [List.mem_cons]
        constructor
        · exact fun h => .inl h
        · rintro (h | h)
          · exact h
          · exact .inl h
      · simp only [List.mem_cons]
        constructor
        · rintro (h | h | h)
          · exact .inr h
          · exact .inl (.inl h)
          · exact .inl (.inr h)
        · rintro ((h | h) | h)
          · exact .inr (.inl h)
          · exact .inr (.inr h)
          · exact .inl h
theorem putL_up (s : List UInt8) : ∀ L, Up L → Up (putL L s)
  | [], _ => by simp [putL, Up]
  | x :: l, h => by
    obtain ⟨h1, h2⟩ := List.pairwise_cons.1 h
    unfold putL
    split
    · rename_i hx
      refine List.pairwise_cons.2 ⟨fun y hy => ?_, putL_up s l h2⟩
      rcases (putL_mem s y l).1 hy with h' | rfl
      · exact h1 y h'
      · exact hx
    · rename_i hx
      split
      · exact h
      · rename_i hne
        have hsx : Op.bytesLess s x = true := bl_tri _ _ (by simpa using hx) hne
        refine List.pairwise_cons.2 ⟨fun y hy => ?_, h⟩
        rcases List.mem_cons.1 hy with rfl | h'
        · exact hsx
        · exact bl_trans _ _ _ hsx (h1 y h')

/-- what putL is where the first k are less and the next is not -/
theorem putL_at (s : List UInt8) : ∀ (L : List (List UInt8)) (k : Nat), k ≤ L.length → (∀ i, i < k → Op.bytesLess (L.getD i []) s = true) → (k < L.length → Op.bytesLess (L.getD k []) s = false) →
    putL L s = if k < L.length ∧ L.getD k [] = s then L else L.take k ++ [s] ++ L.drop k
  | [], k, hk, _, _ => by
    obtain rfl : k = 0 := by simpa using hk
    simp [putL]
  | x :: l, 0, _, _, h0 => by
    have hx : Op.bytesLess x s = false := h0 (Nat.zero_lt_succ _)
    unfold putL
    rw [if_neg (by rw [hx]; decide)]
    by_cases e : x = s
    · rw [if_pos e, if_pos ⟨Nat.zero_lt_succ _, e⟩]
    · rw [if_neg e, if_neg (fun h => e h.2)]
      rfl
  | x :: l, k + 1, hk, hi, h0 => by
    have hx : Op.bytesLess x s = true := hi 0 (Nat.zero_lt_succ _)
    have ih := putL_at s l k (by simpa using hk) (fun i h => by simpa using hi (i + 1) (by omega)) (fun h => by simpa using h0 (by simp; omega))
    rw [show putL (x :: l) s = x :: putL l s by rw [putL, if_pos hx], ih]
    by_cases c : k < l.length ∧ l.getD k [] = s
    · rw [if_pos c, if_pos ⟨by simp; omega, by simpa using c.2⟩]
    · rw [if_neg c, if_neg (fun h => c ⟨by have := h.1; simp at this; omega, by simpa using h.2⟩)]
      simp
end Go.Proofs.YtlibipbpaigmdaaGreatDoor

namespace Go.Proofs.YtlibipbpaigmdaaGreatDoor
open Go.RowKit
set_option linter.unusedVariables false

theorem ret_w {a b : Value} (h : a = b) : Ending.returned a = .returned b := by rw [h]
theorem enc_str (s : ByteArray) : encStr s.toList = .string s := by
  rw [ByteArray.toList_eq]
theorem add_at (b o j : Nat) : (⟨b, o, none⟩ : Addr).add j = ⟨b, o + j, none⟩ := by unfold Addr.add; split <;> simp_all

/-- the cells of L lie from place off of block b on -/
def Lies (w : World) (b off : Nat) (L : List (List UInt8)) : Prop := ∀ i, i < L.length → w.cell? ⟨b, off + i, none⟩ = some (encStr (L.getD i []))
theorem Lies.drop {w : World} {b off : Nat} {L : List (List UInt8)} (h : Lies w b off L) (k : Nat) : Lies w b (off + k) (L.drop k) := by
  intro i hi
  rw [List.length_drop] at hi
  have := h (k + i) (by omega)
  rw [Nat.add_assoc, this]
  simp [List.getD_eq_getElem?_getD, List.getElem?_drop]
theorem Lies.take {w : World} {b off : Nat} {L : List (List UInt8)} (h : Lies w b off L) (k : Nat) : Lies w b off (L.take k) := by
  intro i hi
  rw [List.length_take] at hi
  rw [h i (by omega)]
  simp [List.getD_eq_getElem?_getD, show i < k by omega]
theorem Lies.news {w : World} {b off : Nat} {L : List (List UInt8)} (h : Lies w b off L) : ∀ j u, (L.map encStr)[j]? = some u → w.cell? ((⟨b, off, none⟩ : Addr).add j) = some u := by
  intro j u hu
  rw [List.getElem?_map, Option.map_eq_some_iff] at hu
  obtain ⟨x, hx, rfl⟩ := hu
  have hj : j < L.length := (List.getElem?_eq_some_iff.1 hx).1
  rw [add_at, h j hj, List.getD_eq_getElem?_getD, hx]
  rfl
theorem Lies.below {w w' : World} {b off : Nat} {L : List (List UInt8)} (h : Lies w b off L) (hb : b < w.heap.size) (hB : Below w.heap.size w w') : Lies w' b off L := fun i hi => (hB.cell (p := ⟨b, off + i, none⟩) hb).trans (h i hi)
theorem one_enc (L : List (List UInt8)) : ∀ u ∈ L.map encStr, u.oneCell' = true := by
  intro u hu
  obtain ⟨x, _, rfl⟩ := List.mem_map.1 hu
  rfl

/-- a slice that is not nil, laid at or above base, that holds the texts L -/
def OwnS (w : World) (base g cap : Nat) (L : List (List UInt8)) : Prop := w.ownsRow base 9 1 (.slice (some ⟨g, 0, none⟩) L.length cap) L.length (L.map encStr)
theorem OwnS.below {w w' : World} {base g cap : Nat} {L : List (List UInt8)} (h : OwnS w base g cap L) (hB : Below w.heap.size w w') : OwnS w' base g cap L := ownsRow_below h hB
theorem OwnS.lies {w : World} {base g cap : Nat} {L : List (List UInt8)} (h : OwnS w base g cap L) : Lies w g 0 L ∧ g < w.heap.size ∧ base ≤ g := by
  refine ⟨fun i hi => ?_, own_live h, (h.lt g rfl).1⟩
  rw [Nat.zero_add, h.cellAt i (by omega), List.getElem?_map, List.getD_eq_getElem?_getD, List.getElem?_eq_getElem hi]
  rfl
theorem OwnS.caps {w : World} {base g cap : Nat} {L : List (List UInt8)} (h : OwnS w base g cap L) : L.length ≤ cap ∧ cap ≤ 9223372036854775807 := by
  rcases h.2 with ⟨h', _⟩ | ⟨g', cap', cur, h', _, _, hnc, hcm, _⟩
  · simp at h'
  · simp only [Value.slice.injEq, Option.some.injEq, Addr.mk.injEq, and_true, true_and] at h'
    obtain ⟨rfl, rfl⟩ := h'
    unfold maxLen at hcm
    exact ⟨hnc, by omega⟩
theorem OwnS.strs {w : World} {base g cap : Nat} {L : List (List UInt8)} (h : OwnS w base g cap L) : IsStrs w (some ⟨g, 0, none⟩) L.length cap (atL L) := by
  obtain ⟨h1, h2, h3⟩ := h.lies
  refine ⟨h.caps.1, h.caps.2, fun _ => ⟨g, 0, rfl, h2, fun i hi => ?_⟩⟩
  rw [h1 i hi]
  rfl
theorem own_form {w : World} {base : Nat} {v : Value} {n : Nat} {L : List (List UInt8)} {xs : List Value} (h : w.ownsRow base 9 1 v n xs) (hn : n = L.length) (hx : xs = L.map encStr) (hv : v ≠ .slice none 0 0) : ∃ g cap, v = .slice (some ⟨g, 0, none⟩) L.length cap ∧ OwnS w base g cap L := by
  subst hn
  subst hx
  rcases h.2 with ⟨h', _⟩ | ⟨g, cap, cur, rfl, _⟩
  · exact absurd h' hv
  · exact ⟨g, cap, rfl, h⟩

set_option maxHeartbeats 2000000 in
theorem l1Put_any (b off cap : Nat) (L : List (List UInt8)) (s : ByteArray) (w : World) (h : Lies w b off L) (hb : b < w.heap.size) (hl : L.length ≤ cap) (hc : cap ≤ 9223372036854775807) (h1 : L.length ≤ 1000000) :
    Calls Tryz.prog 113 #[.slice (some ⟨b, off, none⟩) L.length cap, .string s] w fun e w' => ∃ g gc, e = .returned (.slice (some ⟨g, 0, none⟩) (putL L s.toList).length gc) ∧ OwnS w' w.heap.size g gc (putL L s.toList) ∧ Below w.heap.size w w' := by
  obtain ⟨i0, hi, hz0, hz1, hz2⟩ := info_parts info9
  obtain ⟨n, hn⟩ : ∃ n, n = L.length := ⟨_, rfl⟩
  have HL : Hid (Lies w b off L) := h
  rw [← hn] at hl h1 ⊢
  have cel : ∀ i, i < n → w.cell? ⟨b, off + i, none⟩ = some (.string (atL L i)) := fun i hi => h i (by omega)
  have HC : Hid (∀ i, i < n → w.cell? ⟨b, off + i, none⟩ = some (.string (atL L i))) := cel
  have HN : Hid (n = L.length) := hn
  clear h cel hn
  go_enter Tryz.func113, Tryz.ntmps113
  go_wp2
  go_loop [5] (fun i => ∃ (k : Nat), k ≤ n ∧ i = .int .i64 k ∧ Hid (∀ j, j < k → Op.bytesLess (L.getD j []) s.toList = true)) (fun i => n - (intOf i).toNat)
  case atStart => exact ⟨0, Nat.zero_le _, rfl, fun j hj => absurd hj (Nat.not_lt_zero _)⟩
  case round =>
    obtain ⟨k, hk, rfl, HR⟩ := hrel
    by_cases hlt : k < n
    · have d1 := HC.out k hlt
      have hltI : (k : Int) < (n : Int) := by omega
      cases hq : Op.bytesLess (atL L k).toList s.toList with
      | true =>
        have HR' : Hid (∀ j, j < k + 1 → Op.bytesLess (L.getD j []) s.toList = true) := by
          intro j hj
          rcases Nat.lt_succ_iff_lt_or_eq.1 hj with h1 | rfl
          · exact HR.out j h1
          · rw [← atL_list]; exact hq
        go_wp2
        go_round
        case rel => exact ⟨k + 1, by omega, by go_num, HR'⟩
        case measure => simp [intOf]; omega
      | false =>
        have hn := HN.out
        have hat := putL_at s.toList L k (by omega) HR.out (fun _ => by rw [← atL_list]; exact hq)
        cases he : ((atL L k).toList == s.toList) with
        | true =>
          have hp : putL L s.toList = L := by
            rw [hat, if_pos ⟨by omega, by rw [← atL_list]; exact eq_of_beq he⟩]
          have HP : Hid (putL L s.toList = L) := hp
          have hc1 : 0 + n ≤ maxLen := by unfold maxLen; omega
          have hc2 : (0 + n) * 16 ≤ 140737488355328 := by omega
          have HW : Hid (Lies (w.alloc (.cells #[] 9)) b off L) := HL.out.below hb ((Below.refl _ _).alloc (Nat.le_refl _) _)
          clear hp hat hn
          go_wp2_with (at_builtin; refine wpList_append_own _ rfl _ _ 25 rfl w.heap.size 9 i0 (.string ⟨#[]⟩) 1 16 Tryz.underlying25 hi hz0 hz1 hz2 rfl (by decide) _ 0 [] rfl (World.ownsRow_made w #[] 0 (Nat.le_refl _) (by decide) rfl) ⟨b, off, none⟩ n cap (L.map encStr) rfl (by rw [List.length_map, ← HN.out, Nat.mul_one]) HW.out.news (one_enc L) hc1 hc2 (by simp) ?_; intro v' w3 hown hgrow hnil)
          have hf := own_form hown (L := L) (by rw [← HN.out, Nat.zero_add]) (List.nil_append _) (fun e => by have := (hnil.1 e).1; cases this)
          obtain ⟨g, gc, rfl, hf⟩ := hf
          have HF : Hid (OwnS w3 w.heap.size g gc L ∧ Below w.heap.size w w3) := ⟨hf, ((Below.refl _ _).alloc (Nat.le_refl _) _).grown hgrow (by simp) (fun x hx => by have hx' : some w.heap.size = some x := hx; cases hx'; exact Nat.le_refl _)⟩
          clear hown hgrow hnil hf
          go_wp2
          go_ret
          refine ⟨g, gc, ?_, ?_, HF.out.2⟩
          · exact ret_w (by rw [HP.out]; rfl)
          · rw [HP.out]; exact HF.out.1
        | false =>
          have hp : putL L s.toList = L.take k ++ [s.toList] ++ L.drop k := by
            rw [hat, if_neg (fun h => by have h2 := h.2; rw [← atL_list] at h2; rw [h2] at he; simp at he)]
          have HP : Hid (putL L s.toList = L.take k ++ [s.toList] ++ L.drop k) := hp
          have hkl : (L.take k).length = k := by rw [List.length_take]; omega
          have hdl : (L.drop k).length = n - k := by rw [List.length_drop]; omega
          have HKL : Hid ((L.take k).length = k ∧ (L.drop k).length = n - k) := ⟨hkl, hdl⟩
          have hc1 : Hid (0 + k ≤ maxLen) := by show _ ≤ _; unfold maxLen; omega
          have hc2 : Hid ((0 + k) * 16 ≤ 140737488355328) := by show _ ≤ _; omega
          have hc3 : Hid (k + 1 ≤ maxLen) := by show _ ≤ _; unfold maxLen; omega
          have hc4 : Hid ((k + 1) * 16 ≤ 140737488355328) := by show _ ≤ _; omega
          have hc5 : Hid (k + 1 + (n - k) ≤ maxLen) := by show _ ≤ _; unfold maxLen; omega
          have hc6 : Hid ((k + 1 + (n - k)) * 16 ≤ 140737488355328) := by show _ ≤ _; omega
          have HW : Hid (Lies (w.alloc (.cells #[] 9)) b off (L.take k)) := (HL.out.below hb ((Below.refl _ _).alloc (Nat.le_refl _) _)).take k
          clear hp hn hkl hdl
          clear hat
          go_wp2_with (first
            | (at_builtin
               refine wpList_append_own _ rfl _ _ 25 rfl w.heap.size 9 i0 (.string ⟨#[]⟩) 1 16 Tryz.underlying25 hi hz0 hz1 hz2 rfl (by decide) _ 0 [] rfl (World.ownsRow_made w #[] 0 (Nat.le_refl _) (by decide) rfl) ⟨b, off, none⟩ k cap ((L.take k).map encStr) rfl (by rw [List.length_map, HKL.out.1, Nat.mul_one]) HW.out.news (one_enc _) hc1.out hc2.out (by simp) ?_
               intro v' w3 hown hgrow hnil
               obtain ⟨g, gc, rfl, hf⟩ := own_form hown (L := L.take k) (by rw [HKL.out.1, Nat.zero_add]) (List.nil_append _) (fun e => by have := (hnil.1 e).1; cases this)
               have hB3 : Below w.heap.size w w3 := ((Below.refl _ _).alloc (Nat.le_refl _) _).grown hgrow (by simp) (fun x hx => by have hx' : some w.heap.size = some x := hx; cases hx'; exact Nat.le_refl _)
               rw [HKL.out.1]
               have HO3 : Hid (w3.ownsRow w.heap.size 9 1 (.slice (some ⟨g, 0, none⟩) k gc) k ((L.take k).map encStr)) := by
                 have := hf
                 unfold OwnS at this
                 rw [HKL.out.1] at this
                 exact this
               have HB3 : Hid (Below w.heap.size w w3) := hB3
               clear hown hgrow hnil hf hB3)
            | (at_builtin
               refine wpList_append_own _ rfl _ _ 25 rfl w.heap.size 9 i0 (.string ⟨#[]⟩) 1 16 Tryz.underlying25 hi hz0 hz1 hz2 rfl (by decide) _ k _ rfl (HO3.out.alloc _) ⟨w3.heap.size, 0, none⟩ 1 1 [.string s] rfl rfl (World.news_of_block (heap_alloc_new _ _)) (fun u hu => by simp at hu; subst hu; rfl) hc3.out hc4.out (by have := HB3.out.size; simp; omega) ?_
               intro v4 w4 hown4 hgrow4 hnil4
               have hB4 : Below w.heap.size w w4 := (HB3.out.alloc HB3.out.size _).grown hgrow4 (by have := HB3.out.size; simp; omega) (fun x hx => by have := (HO3.out.lt x hx).1; exact this)
               obtain ⟨g4, gc4, rfl, hf4⟩ := own_form hown4 (L := L.take k ++ [s.toList]) (by rw [List.length_append, HKL.out.1]; rfl) (by rw [List.map_append, List.map_cons, List.map_nil, enc_str]) (fun e => by have := (hnil4.1 e).1; cases this)
               have hl4 : (L.take k ++ [s.toList]).length = k + 1 := by rw [List.length_append, HKL.out.1]; rfl
               rw [hl4]
               have HO4 : Hid (w4.ownsRow w.heap.size 9 1 (.slice (some ⟨g4, 0, none⟩) (k + 1) gc4) (k + 1) ((L.take k ++ [s.toList]).map encStr)) := by
                 have := hf4
                 unfold OwnS at this
                 rw [hl4] at this
                 exact this
               have HB4 : Hid (Below w.heap.size w w4) := hB4
               have HW4 : Hid (Lies w4 b (off + k) (L.drop k)) := (fun i hi => (hB4.cell (p := ⟨b, off + k + i, none⟩) hb).trans (HL.out.drop k i hi))
               clear hown4 hgrow4 hnil4 hf4 hB4 hl4)
            | (at_builtin
               refine wpList_append_own _ rfl _ _ 25 rfl w.heap.size 9 i0 (.string ⟨#[]⟩) 1 16 Tryz.underlying25 hi hz0 hz1 hz2 rfl (by decide) _ (k + 1) _ rfl HO4.out ⟨b, off + k, none⟩ (n - k) (cap - k) ((L.drop k).map encStr) rfl (by rw [List.length_map, HKL.out.2, Nat.mul_one]) HW4.out.news (one_enc _) hc5.out hc6.out HB4.out.size ?_
               intro v5 w5 hown5 hgrow5 hnil5
               have hB5 : Below w.heap.size w w5 := HB4.out.grown hgrow5 HB4.out.size (fun x hx => by have := (HO4.out.lt x hx).1; exact this)
               obtain ⟨g5, gc5, rfl, hf5⟩ := own_form hown5 (L := putL L s.toList) (by rw [HP.out, List.length_append, List.length_append, HKL.out.1, HKL.out.2]; rfl) (by rw [HP.out, List.map_append (l₂ := L.drop k)]) (fun e => by have := (hnil5.1 e).1; cases this)
               have HF : Hid (OwnS w5 w.heap.size g5 gc5 (putL L s.toList) ∧ Below w.heap.size w w5) := ⟨hf5, hB5⟩
               clear hown5 hgrow5 hnil5 hf5 hB5))
          go_wp2
          go_ret
          exact ⟨g5, gc5, rfl, HF.out.1, HF.out.2⟩
    · have hke : k = n := by omega
      subst hke
      have hn := HN.out
      have hp : putL L s.toList = L.take k ++ [s.toList] := by
        rw [putL_at s.toList L k (by omega) HR.out (fun h => by omega), if_neg (fun h => by omega), List.drop_eq_nil_of_le (by omega), List.append_nil]
      have HP : Hid (putL L s.toList = L.take k ++ [s.toList]) := hp
      have hkl : (L.take k).length = k := by rw [List.length_take]; omega
      have hdl : (L.drop k).length = 0 := by rw [List.length_drop]; omega
      have HKL : Hid ((L.take k).length = k ∧ (L.drop k).length = 0) := ⟨hkl, hdl⟩
      have hc1 : Hid (0 + k ≤ maxLen) := by show _ ≤ _; unfold maxLen; omega
      have hc2 : Hid ((0 + k) * 16 ≤ 140737488355328) := by show _ ≤ _; omega
      have hc3 : Hid (k + 1 ≤ maxLen) := by show _ ≤ _; unfold maxLen; omega
      have hc4 : Hid ((k + 1) * 16 ≤ 140737488355328) := by show _ ≤ _; omega
      have hc5 : Hid (k + 1 + 0 ≤ maxLen) := by show _ ≤ _; unfold maxLen; omega
      have hc6 : Hid ((k + 1 + 0) * 16 ≤ 140737488355328) := by show _ ≤ _; omega
      have HW : Hid (Lies (w.alloc (.cells #[] 9)) b off (L.take k)) := (HL.out.below hb ((Below.refl _ _).alloc (Nat.le_refl _) _)).take k
      clear hp hn hkl hdl
      by_cases hcap : cap = k
      · have hkc : k = cap := hcap.symm
        clear hcap
        subst hkc
        go_wp2_with (first
          | (at_builtin
             refine wpList_append_own _ rfl _ _ 25 rfl w.heap.size 9 i0 (.string ⟨#[]⟩) 1 16 Tryz.underlying25 hi hz0 hz1 hz2 rfl (by decide) _ 0 [] rfl (World.ownsRow_made w #[] 0 (Nat.le_refl _) (by decide) rfl) ⟨b, off, none⟩ k k ((L.take k).map encStr) rfl (by rw [List.length_map, HKL.out.1, Nat.mul_one]) HW.out.news (one_enc _) hc1.out hc2.out (by simp) ?_
             intro v' w3 hown hgrow hnil
             obtain ⟨g, gc, rfl, hf⟩ := own_form hown (L := L.take k) (by rw [HKL.out.1, Nat.zero_add]) (List.nil_append _) (fun e => by have := (hnil.1 e).1; cases this)
             have hB3 : Below w.heap.size w w3 := ((Below.refl _ _).alloc (Nat.le_refl _) _).grown hgrow (by simp) (fun x hx => by have hx' : some w.heap.size = some x := hx; cases hx'; exact Nat.le_refl _)
             rw [HKL.out.1]
             have HO3 : Hid (w3.ownsRow w.heap.size 9 1 (.slice (some ⟨g, 0, none⟩) k gc) k ((L.take k).map encStr)) := by
               have := hf
               unfold OwnS at this
               rw [HKL.out.1] at this
               exact this
             have HB3 : Hid (Below w.heap.size w w3) := hB3
             clear hown hgrow hnil hf hB3)
          | (at_builtin
             refine wpList_append_own _ rfl _ _ 25 rfl w.heap.size 9 i0 (.string ⟨#[]⟩) 1 16 Tryz.underlying25 hi hz0 hz1 hz2 rfl (by decide) _ k _ rfl (HO3.out.alloc _) ⟨w3.heap.size, 0, none⟩ 1 1 [.string s] rfl rfl (World.news_of_block (heap_alloc_new _ _)) (fun u hu => by simp at hu; subst hu; rfl) hc3.out hc4.out (by have := HB3.out.size; simp; omega) ?_
             intro v4 w4 hown4 hgrow4 hnil4
             have hB4 : Below w.heap.size w w4 := (HB3.out.alloc HB3.out.size _).grown hgrow4 (by have := HB3.out.size; simp; omega) (fun x hx => by have := (HO3.out.lt x hx).1; exact this)
             obtain ⟨g4, gc4, rfl, hf4⟩ := own_form hown4 (L := L.take k ++ [s.toList]) (by rw [List.length_append, HKL.out.1]; rfl) (by rw [List.map_append, List.map_cons, List.map_nil, enc_str]) (fun e => by have := (hnil4.1 e).1; cases this)
             have hl4 : (L.take k ++ [s.toList]).length = k + 1 := by rw [List.length_append, HKL.out.1]; rfl
             rw [hl4]
             have HO4 : Hid (w4.ownsRow w.heap.size 9 1 (.slice (some ⟨g4, 0, none⟩) (k + 1) gc4) (k + 1) ((L.take k ++ [s.toList]).map encStr)) := by
               have := hf4
               unfold OwnS at this
               rw [hl4] at this
               exact this
             have HB4 : Hid (Below w.heap.size w w4) := hB4
             have HW4 : Hid (Lies w4 b (off + k) (L.drop k)) := (fun i hi => (hB4.cell (p := ⟨b, off + k + i, none⟩) hb).trans (HL.out.drop k i hi))
             clear hown4 hgrow4 hnil4 hf4 hB4 hl4)
          | (at_builtin
             first | refine wpList_append_own _ rfl _ _ 25 rfl w.heap.size 9 i0 (.string ⟨#[]⟩) 1 16 Tryz.underlying25 hi hz0 hz1 hz2 rfl (by decide) _ (k + 1) _ rfl HO4.out ⟨b, off, none⟩ 0 _ [] rfl rfl (fun j u hu => by simp at hu) (fun u hu => by simp at hu) hc5.out hc6.out HB4.out.size ?_ | refine wpList_append_own _ rfl _ _ 25 rfl w.heap.size 9 i0 (.string ⟨#[]⟩) 1 16 Tryz.underlying25 hi hz0 hz1 hz2 rfl (by decide) _ (k + 1) _ rfl HO4.out ⟨b, off + k, none⟩ 0 _ [] rfl rfl (fun j u hu => by simp at hu) (fun u hu => by simp at hu) hc5.out hc6.out HB4.out.size ?_
             intro v5 w5 hown5 hgrow5 hnil5
             have hB5 : Below w.heap.size w w5 := HB4.out.grown hgrow5 HB4.out.size (fun x hx => by have := (HO4.out.lt x hx).1; exact this)
             obtain ⟨g5, gc5, rfl, hf5⟩ := own_form hown5 (L := putL L s.toList) (by rw [HP.out, List.length_append, HKL.out.1]; rfl) (by rw [HP.out]; exact List.append_nil _) (fun e => by have := (hnil5.1 e).1; cases this)
             have HF : Hid (OwnS w5 w.heap.size g5 gc5 (putL L s.toList) ∧ Below w.heap.size w w5) := ⟨hf5, hB5⟩
             clear hown5 hgrow5 hnil5 hf5 hB5))
        go_wp2
        go_ret
        exact ⟨g5, gc5, rfl, HF.out.1, HF.out.2⟩
      · skip
        go_wp2_with (first
          | (at_builtin
             refine wpList_append_own _ rfl _ _ 25 rfl w.heap.size 9 i0 (.string ⟨#[]⟩) 1 16 Tryz.underlying25 hi hz0 hz1 hz2 rfl (by decide) _ 0 [] rfl (World.ownsRow_made w #[] 0 (Nat.le_refl _) (by decide) rfl) ⟨b, off, none⟩ k cap ((L.take k).map encStr) rfl (by rw [List.length_map, HKL.out.1, Nat.mul_one]) HW.out.news (one_enc _) hc1.out hc2.out (by simp) ?_
             intro v' w3 hown hgrow hnil
             obtain ⟨g, gc, rfl, hf⟩ := own_form hown (L := L.take k) (by rw [HKL.out.1, Nat.zero_add]) (List.nil_append _) (fun e => by have := (hnil.1 e).1; cases this)
             have hB3 : Below w.heap.size w w3 := ((Below.refl _ _).alloc (Nat.le_refl _) _).grown hgrow (by simp) (fun x hx => by have hx' : some w.heap.size = some x := hx; cases hx'; exact Nat.le_refl _)
             rw [HKL.out.1]
             have HO3 : Hid (w3.ownsRow w.heap.size 9 1 (.slice (some ⟨g, 0, none⟩) k gc) k ((L.take k).map encStr)) := by
               have := hf
               unfold OwnS at this
               rw [HKL.out.1] at this
               exact this
             have HB3 : Hid (Below w.heap.size w w3) := hB3
             clear hown hgrow hnil hf hB3)
          | (at_builtin
             refine wpList_append_own _ rfl _ _ 25 rfl w.heap.size 9 i0 (.string ⟨#[]⟩) 1 16 Tryz.underlying25 hi hz0 hz1 hz2 rfl (by decide) _ k _ rfl (HO3.out.alloc _) ⟨w3.heap.size, 0, none⟩ 1 1 [.string s] rfl rfl (World.news_of_block (heap_alloc_new _ _)) (fun u hu => by simp at hu; subst hu; rfl) hc3.out hc4.out (by have := HB3.out.size; simp; omega) ?_
             intro v4 w4 hown4 hgrow4 hnil4
             have hB4 : Below w.heap.size w w4 := (HB3.out.alloc HB3.out.size _).grown hgrow4 (by have := HB3.out.size; simp; omega) (fun x hx => by have := (HO3.out.lt x hx).1; exact this)
             obtain ⟨g4, gc4, rfl, hf4⟩ := own_form hown4 (L := L.take k ++ [s.toList]) (by rw [List.length_append, HKL.out.1]; rfl) (by rw [List.map_append, List.map_cons, List.map_nil, enc_str]) (fun e => by have := (hnil4.1 e).1; cases this)
             have hl4 : (L.take k ++ [s.toList]).length = k + 1 := by rw [List.length_append, HKL.out.1]; rfl
             rw [hl4]
             have HO4 : Hid (w4.ownsRow w.heap.size 9 1 (.slice (some ⟨g4, 0, none⟩) (k + 1) gc4) (k + 1) ((L.take k ++ [s.toList]).map encStr)) := by
               have := hf4
               unfold OwnS at this
               rw [hl4] at this
               exact this
             have HB4 : Hid (Below w.heap.size w w4) := hB4
             have HW4 : Hid (Lies w4 b (off + k) (L.drop k)) := (fun i hi => (hB4.cell (p := ⟨b, off + k + i, none⟩) hb).trans (HL.out.drop k i hi))
             clear hown4 hgrow4 hnil4 hf4 hB4 hl4)
          | (at_builtin
             first | refine wpList_append_own _ rfl _ _ 25 rfl w.heap.size 9 i0 (.string ⟨#[]⟩) 1 16 Tryz.underlying25 hi hz0 hz1 hz2 rfl (by decide) _ (k + 1) _ rfl HO4.out ⟨b, off, none⟩ 0 _ [] rfl rfl (fun j u hu => by simp at hu) (fun u hu => by simp at hu) hc5.out hc6.out HB4.out.size ?_ | refine wpList_append_own _ rfl _ _ 25 rfl w.heap.size 9 i0 (.string ⟨#[]⟩) 1 16 Tryz.underlying25 hi hz0 hz1 hz2 rfl (by decide) _ (k + 1) _ rfl HO4.out ⟨b, off + k, none⟩ 0 _ [] rfl rfl (fun j u hu => by simp at hu) (fun u hu => by simp at hu) hc5.out hc6.out HB4.out.size ?_
             intro v5 w5 hown5 hgrow5 hnil5
             have hB5 : Below w.heap.size w w5 := HB4.out.grown hgrow5 HB4.out.size (fun x hx => by have := (HO4.out.lt x hx).1; exact this)
             obtain ⟨g5, gc5, rfl, hf5⟩ := own_form hown5 (L := putL L s.toList) (by rw [HP.out, List.length_append, HKL.out.1]; rfl) (by rw [HP.out]; exact List.append_nil _) (fun e => by have := (hnil5.1 e).1; cases this)
             have HF : Hid (OwnS w5 w.heap.size g5 gc5 (putL L s.toList) ∧ Below w.heap.size w w5) := ⟨hf5, hB5⟩
             clear hown5 hgrow5 hnil5 hf5 hB5))
        go_wp2
        go_ret
        exact ⟨g5, gc5, rfl, HF.out.1, HF.out.2⟩
end Go.Proofs.YtlibipbpaigmdaaGreatDoor

namespace Go.Proofs.YtlibipbpaigmdaaGreatDoor
open Go.RowKit
set_option linter.unusedVariables false

/-- x is among the ups of none of the first m nodes -/
def freeB (D : Nat → Nd) (m : Nat) (x : ByteArray) : Bool := allB (fun t => outB (D t).S (D t).n x) m
theorem freeB_succ (D : Nat → Nd) (m : Nat) (x : ByteArray) : freeB D (m + 1) x = (freeB D m x && outB (D m).S (D m).n x) := allB_succ _ _
/-- the heads among the first k nodes -/
def headsL (D : Nat → Nd) (len k : Nat) : List (List UInt8) := ((List.range k).filter fun i => freeB D len (ids D i)).map fun i => (ids D i).toList
theorem headsL_yes {D : Nat → Nd} {len k : Nat} (h : freeB D len (ids D k) = true) : headsL D len (k + 1) = headsL D len k ++ [(ids D k).toList] := by
  unfold headsL
  rw [List.range_succ, List.filter_append, List.map_append]
  simp [h]
theorem headsL_no {D : Nat → Nd} {len k : Nat} (h : freeB D len (ids D k) = false) : headsL D len (k + 1) = headsL D len k := by
  unfold headsL
  rw [List.range_succ, List.filter_append, List.map_append]
  simp [h]
theorem headsL_len (D : Nat → Nd) (len : Nat) : ∀ k, (headsL D len k).length ≤ k
  | 0 => by simp [headsL]
  | k + 1 => by
    have := headsL_len D len k
    cases h : freeB D len (ids D k) with
    | true => rw [headsL_yes h, List.length_append]; simp; omega
    | false => rw [headsL_no h]; omega
theorem headsL_mem (D : Nat → Nd) (len k : Nat) (x : List UInt8) : x ∈ headsL D len k ↔ ∃ i, i < k ∧ freeB D len (ids D i) = true ∧ (ids D i).toList = x := by
  unfold headsL
  rw [List.mem_map]
  constructor
  · rintro ⟨i, hi, rfl⟩
    rw [List.mem_filter, List.mem_range] at hi
    exact ⟨i, hi.1, hi.2, rfl⟩
  · rintro ⟨i, hi, hf, rfl⟩
    exact ⟨i, by rw [List.mem_filter, List.mem_range]; exact ⟨hi, hf⟩, rfl⟩
theorem headsL_up {D : Nat → Nd} {n : Nat} (hr : riseB (ids D) n = true) (len : Nat) : ∀ k, k ≤ n → Up (headsL D len k)
  | 0, _ => by simp [headsL, Up]
  | k + 1, hk => by
    have ih := headsL_up hr len k (by omega)
    cases h : freeB D len (ids D k) with
    | false => rw [headsL_no h]; exact ih
    | true =>
      rw [headsL_yes h]
      unfold Up
      rw [List.pairwise_append]
      refine ⟨ih, by simp, fun x hx y hy => ?_⟩
      obtain ⟨i, hi, _, rfl⟩ := (headsL_mem D len k x).1 hx
      simp at hy
      subst hy
      obtain ⟨d, rfl⟩ : ∃ d, k = i + d + 1 := ⟨k - i - 1, by omega⟩
      exact rise_less hr i d (by omega)

theorem dag_at {w : World} {a : Option Addr} {len cap : Nat} {D : Nat → Nd} {b off : Nat} (h : IsNds w a len cap D) (ha : a = some ⟨b, off, none⟩) (i : Nat) (hi : i < len) : NdAt w b (off + i * 6) (D i) := by
  obtain ⟨_, _, h3⟩ := h
  obtain ⟨b', off', e, _, hc⟩ := h3 (by omega)
  rw [ha] at e
  simp only [Option.some.injEq, Addr.mk.injEq, and_true] at e
  obtain ⟨rfl, rfl⟩ := e
  exact hc i hi

set_option maxHeartbeats 4000000 in
theorem l6Heads_any (a : Option Addr) (len cap : Nat) (D : Nat → Nd) (w : World) (h : IsNds w a len cap D) (hf : Fine D len) (hl : len ≤ 30) :
    Calls Tryz.prog 119 #[.slice a len cap] w fun e w' => ∃ v, e = .returned v ∧ OwnL w' w.heap.size v (headsL D len len) ∧ Below w.heap.size w w' := by
  have HN : Hid (IsNds w a len cap D) := h
  obtain ⟨hlc, hcm, hc⟩ := h
  obtain ⟨i0, hi, hz0, hz1, hz2⟩ := info_parts info9
  have HA : Hid (∀ v, Below w.heap.size w v → Calls Tryz.prog 84 #[.slice a len cap] v fun e w' => ∃ g gc, e = .returned (.slice g len gc) ∧ IsStrs w' g len gc (fun i => (D i).id) ∧ Below v.heap.size v w') := fun v hB => l6All_any a len cap D v (HN.out.below hB) hf hl
  clear hf
  go_enter Tryz.func119, Tryz.ntmps119
  go_wp2_with (go_at_call 84; refine (HA.out w (Below.refl _ _)).mono ?_; rintro e w1 ⟨g, gc, rfl, hI, hB1⟩)
  have HI : Hid (IsStrs w1 g len gc (ids D)) := hI
  have HB1 : Hid (Below w.heap.size w w1) := hB1
  obtain ⟨hglc, hgcm, _⟩ := hI
  clear HA hB1
  go_loopw [5, 4] (fun i v wr => ∃ (k : Nat) (xs : List Value), k ≤ len ∧ i = .int .i64 k ∧ wr.ownsRow w1.heap.size 9 1 v (headsL D len k).length ((headsL D len k).map encStr) ∧ Below w1.heap.size w1 wr)
    (fun i _ _ => len - (intOf i).toNat)
  case atStart => exact ⟨0, [], Nat.zero_le _, rfl, World.ownsRow_made w1 #[] 0 (Nat.le_refl _) (by decide) rfl, (Below.refl _ _).alloc (Nat.le_refl _) _⟩
  case round =>
    obtain ⟨k, _, hk, rfl, how, hB⟩ := hrel
    have HO := (show Hid _ from how)
    have HB : Hid (Below w1.heap.size w1 wr) := hB
    clear how hB
    by_cases hlt : k < len
    · have hltI : (k : Int) < (len : Int) := by omega
      obtain ⟨b, off, ea, hbs, _⟩ := hc (by omega)
      subst ea
      obtain ⟨gb, goff, eg, hgs, hgc⟩ := HI.out.2.2 (by omega)
      subst eg
      have HG : Hid (∀ v, Below w1.heap.size w1 v → v.cell? ⟨gb, goff + k, none⟩ = some (.string (ids D k))) := fun v hB => (hB.cell (p := ⟨gb, goff + k, none⟩) hgs).trans (hgc k hlt)
      have HD : Hid (∀ v, Below w1.heap.size w1 v → ∀ t, t < len → NdAt v b (off + t * 6) (D t)) := fun v hB t ht => dag_at ((HN.out.below HB1.out).below hB) rfl t ht
      clear hgc hc
      go_wp2
      go_loopw [6, 7] (fun u x wi => ∃ (m : Nat) (c : Bool), m ≤ len ∧ x = .int .i64 m ∧ u = .bool c ∧ Hid (freeB D m (ids D k) = !c) ∧ Below wr.heap.size wr wi)
        (fun _ x _ => len - (intOf x).toNat)
      case atStart => exact ⟨0, false, Nat.zero_le _, rfl, rfl, rfl, Below.refl _ _⟩
      case round =>
        obtain ⟨m, c, hm, rfl, rfl, HF, hBi⟩ := hrel
        have hB2 : Below w1.heap.size w1 wr := HB.out.trans (hBi.mono HB.out.size)
        have HBi := (show Hid _ from hBi)
        clear hBi
        by_cases hmt : m < len
        · have hmI : (m : Int) < (len : Int) := by omega
          have p1 : ∀ s : Later wr, s.val.cell? ⟨gb, goff + k, none⟩ = some (.string (ids D k)) := fun s => HG.out _ (hB2.trans (s.ok.mono hB2.size))
          have q5 : ∀ s : Later wr, s.val.cell? ⟨b, off + m * 6 + 5, none⟩ = some (.slice (D m).u (D m).n (D m).cap) := fun s => (HD.out _ (hB2.trans (s.ok.mono hB2.size)) m hmt).c5
          have HX : ∀ c2 : Bool, outB (D m).S (D m).n (ids D k) = !c2 → Hid (∀ s : Later wr, Calls Tryz.prog 86 #[.slice (D m).u (D m).n (D m).cap, .string (ids D k)] s.val fun e w' => e = .returned (.bool c2) ∧ Below s.val.heap.size s.val w') := fun c2 hc2 s => l1Has_below _ _ _ (D m).S _ _ (HD.out _ (hB2.trans (s.ok.mono hB2.size)) m hmt).i _ (by rw [hc2]; simp)
          have hne := Later.any wr
          have hfs := freeB_succ D m (ids D k)
          clear hB2
          have hq := HF.out
          cases c with
          | true =>
            have HS : Hid (freeB D (m + 1) (ids D k) = false) := by show _ = _; rw [hfs, hq]; rfl
            clear hfs hq HF HX
            go_wp2
            refine wp_region_later (by kernel_rfl) (by kernel_rfl) ?_
            repeat (go_big_quiet_step (fail))
            refine wpQuiet_nil ?_
            rintro _ ⟨⟨w', hB2⟩, rfl⟩
            go_wp2
            go_roundw
            case rel => exact ⟨m + 1, true, by omega, by go_num, rfl, HS.out, HBi.out.trans (hB2.mono HBi.out.size)⟩
            case measure => simp [intOf]; omega
          | false =>
            cases hr : outB (D m).S (D m).n (ids D k) with
            | true =>
              have HS : Hid (freeB D (m + 1) (ids D k) = true) := by show _ = _; rw [hfs, hq, hr]; rfl
              have HY := HX false hr
              clear hfs hq hr HF HX
              go_wp2
              refine wp_region_later (by kernel_rfl) (by kernel_rfl) ?_
              repeat (go_big_quiet_step ((rename_i s; exact Calls.later (HY.out s))))
              refine wpQuiet_nil ?_
              rintro _ ⟨⟨w', hB2⟩, rfl⟩
              go_wp2
              go_roundw
              case rel => exact ⟨m + 1, false, by omega, by go_num, rfl, HS.out, HBi.out.trans (hB2.mono HBi.out.size)⟩
              case measure => simp [intOf]; omega
            | false =>
              have HS : Hid (freeB D (m + 1) (ids D k) = false) := by show _ = _; rw [hfs, hq, hr]; rfl
              have HY := HX true hr
              clear hfs hq hr HF HX
              go_wp2
              refine wp_region_later (by kernel_rfl) (by kernel_rfl) ?_
              repeat (go_big_quiet_step ((rename_i s; exact Calls.later (HY.out s))))
              refine wpQuiet_nil ?_
              rintro _ ⟨⟨w', hB2⟩, rfl⟩
              go_wp2
              go_roundw
              case rel => exact ⟨m + 1, true, by omega, by go_num, rfl, HS.out, HBi.out.trans (hB2.mono HBi.out.size)⟩
              case measure => simp [intOf]; omega
        · have hme : m = len := by omega
          subst hme
          have p1 := HG.out _ hB2
          have HO2 := (show Hid _ from ownsRow_below HO.out HBi.out)
          have HB2 : Hid (Below w1.heap.size w1 wr) := hB2
          have hln := headsL_len D m k
          clear hB2
          have hq := HF.out
          cases c with
          | true =>
            have HS : Hid (headsL D m (k + 1) = headsL D m k) := headsL_no hq
            clear hln hq HF
            go_wp2
            go_roundw
            case rel => exact ⟨k + 1, [], by omega, by go_num, by rw [HS.out]; exact HO2.out, HB2.out⟩
            case measure => simp [intOf]; omega
          | false =>
            have HS : Hid (headsL D m (k + 1) = headsL D m k ++ [(ids D k).toList]) := headsL_yes hq
            have hc1 : Hid ((headsL D m k).length + 1 ≤ maxLen) := by show _ ≤ _; unfold maxLen; omega
            have hc2 : Hid (((headsL D m k).length + 1) * 16 ≤ 140737488355328) := by show _ ≤ _; omega
            have hsz : Hid (w1.heap.size ≤ wr.heap.size) := HB2.out.size
            clear hln hq HF
            go_wp2_with (at_builtin; refine wpList_append_own _ rfl _ _ 25 rfl w1.heap.size 9 i0 (.string ⟨#[]⟩) 1 16 Tryz.underlying25 hi hz0 hz1 hz2 rfl (by decide) _ _ _ rfl (World.ownsRow.alloc HO2.out _) ⟨wr.heap.size, 0, none⟩ 1 1 [.string (ids D k)] rfl rfl (World.news_of_block (heap_alloc_new _ _)) (fun u hu => by simp at hu; subst hu; rfl) hc1.out hc2.out (by have := hsz.out; simp; omega) ?_; intro v' w3 hown hgrow _)
            go_roundw
            case rel =>
              refine ⟨k + 1, [], by omega, by go_num, ?_, ?_⟩
              · rw [HS.out, List.length_append, List.map_append, List.map_cons, List.map_nil, enc_str]
                exact hown
              · refine (HB2.out.alloc HB2.out.size _).grown hgrow (by have := HB2.out.size; simp; omega) (fun x hx => (World.ownsRow.lt HO2.out x hx).1)
            case measure => simp [intOf]; omega
    · have hke : k = len := by omega
      subst hke
      go_wp2
      go_ret
      exact ⟨_, rfl, mono_base HO.out HB1.out.size, HB1.out.trans (HB.out.mono HB1.out.size)⟩

/-- the heads of a dag; none where it is not right -/
def headsR (D : Nat → Nd) (len : Nat) : List (List UInt8) := if dagB D len = true then headsL D len len else []
theorem headsR_len (D : Nat → Nd) (len : Nat) : (headsR D len).length ≤ 1000000 := by
  unfold headsR
  split
  · rename_i h
    have h1 := headsL_len D len len
    unfold dagB at h
    simp only [Bool.and_eq_true, decide_eq_true_eq] at h
    omega
  · simp
theorem dagB_parts {D : Nat → Nd} {len : Nat} (h : dagB D len = true) : len ≤ 30 ∧ (∀ i, i < len → (D i).ok = true) ∧ riseB (ids D) len = true ∧ ∀ i, i < len → hasB (ids D) len (D i).S (D i).n = true := by
  unfold dagB at h
  simp only [Bool.and_eq_true, decide_eq_true_eq] at h
  obtain ⟨h1, h2, h3, h4⟩ := h
  have key : ∀ (p : Nat → Bool) (n : Nat), allB p n = true → ∀ i, i < n → p i = true := fun p n ha i hi => by
    cases hq : p i with
    | true => rfl
    | false => rw [allB_false hi hq] at ha; cases ha
  exact ⟨h1, key _ _ h2, h3, key _ _ h4⟩

set_option maxHeartbeats 1000000 in
theorem specHeadsOf_any (a : Option Addr) (len cap : Nat) (D : Nat → Nd) (w : World) (h : IsNds w a len cap D) (hf : Fine D len) :
    Calls Tryz.prog 52 #[.slice a len cap] w fun e w' => ∃ v, e = .returned v ∧ OwnL w' w.heap.size v (headsR D len) ∧ Below w.heap.size w w' := by
  have HS : Hid (Calls Tryz.prog 46 #[.slice a len cap] w fun e w' => e = .returned (.bool (dagB D len)) ∧ Below w.heap.size w w') := specDagOk_any a len cap D w h hf
  cases hq : dagB D len with
  | false =>
    have HR : Hid (headsR D len = []) := by show _ = _; unfold headsR; rw [if_neg (by rw [hq]; decide)]
    rw [hq] at HS
    go_enter Tryz.func52, Tryz.ntmps52
    go_wp2_with (go_at_call 46; refine HS.out.mono ?_; rintro e w1 ⟨rfl, hB1⟩)
    go_ret
    refine ⟨_, rfl, ?_, hB1.alloc hB1.size _⟩
    rw [HR.out]
    exact World.ownsRow_made w1 #[] 0 hB1.size (by decide) rfl
  | true =>
    have HR : Hid (headsR D len = headsL D len len) := by show _ = _; unfold headsR; rw [if_pos hq]
    have HH : Hid (∀ v, Below w.heap.size w v → Calls Tryz.prog 119 #[.slice a len cap] v fun e w' => ∃ x, e = .returned x ∧ OwnL w' v.heap.size x (headsL D len len) ∧ Below v.heap.size v w') := fun v hB => l6Heads_any a len cap D v (h.below hB) hf (dagB_parts hq).1
    rw [hq] at HS
    clear h hf
    go_enter Tryz.func52, Tryz.ntmps52
    go_wp2_with (first
      | (go_at_call 46; refine HS.out.mono ?_; rintro e w1 ⟨rfl, hB1⟩)
      | (go_at_call 119; refine (HH.out w1 hB1).mono ?_; rintro e w2 ⟨x, rfl, ho, hB2⟩))
    go_ret
    refine ⟨_, rfl, ?_, hB1.trans (hB2.mono hB1.size)⟩
    rw [HR.out]
    exact mono_base ho hB1.size
end Go.Proofs.YtlibipbpaigmdaaGreatDoor

namespace Go.Proofs.YtlibipbpaigmdaaGreatDoor
open Go.RowKit
set_option linter.unusedVariables false

/-- the keys that the first k nodes set -/
def keysL (D : Nat → Nd) : Nat → List (List UInt8)
  | 0 => []
  | k + 1 => if (D k).k = 3 then putL (keysL D k) (D k).key.toList else keysL D k
def keysR (D : Nat → Nd) (len : Nat) : List (List UInt8) := if dagB D len = true then keysL D len else []
theorem keysL_yes {D : Nat → Nd} {k : Nat} (h : (D k).k = 3) : keysL D (k + 1) = putL (keysL D k) (D k).key.toList := by rw [keysL, if_pos h]
theorem keysL_no {D : Nat → Nd} {k : Nat} (h : ¬ (D k).k = 3) : keysL D (k + 1) = keysL D k := by rw [keysL, if_neg h]
theorem putL_len (s : List UInt8) : ∀ L : List (List UInt8), (putL L s).length ≤ L.length + 1
  | [] => by simp [putL]
  | x :: l => by
    have := putL_len s l
    unfold putL
    split
    · simp; omega
    · split <;> simp
theorem keysL_len (D : Nat → Nd) : ∀ k, (keysL D k).length ≤ k
  | 0 => by simp [keysL]
  | k + 1 => by
    have := keysL_len D k
    by_cases h : (D k).k = 3
    · rw [keysL_yes h]
      have := putL_len (D k).key.toList (keysL D k)
      omega
    · rw [keysL_no h]; omega
theorem keysL_up (D : Nat → Nd) : ∀ k, Up (keysL D k)
  | 0 => by simp [keysL, Up]
  | k + 1 => by
    have := keysL_up D k
    by_cases h : (D k).k = 3
    · rw [keysL_yes h]; exact putL_up _ _ this
    · rw [keysL_no h]; exact this
theorem keysL_mem (D : Nat → Nd) (x : List UInt8) : ∀ k, x ∈ keysL D k ↔ ∃ i, i < k ∧ (D i).k = 3 ∧ (D i).key.toList = x
  | 0 => by simp [keysL]
  | k + 1 => by
    have ih := keysL_mem D x k
    by_cases h : (D k).k = 3
    · rw [keysL_yes h, putL_mem, ih]
      constructor
      · rintro (⟨i, hi, r⟩ | rfl)
        · exact ⟨i, by omega, r⟩
        · exact ⟨k, Nat.lt_succ_self _, h, rfl⟩
      · rintro ⟨i, hi, h1, h2⟩
        rcases Nat.lt_succ_iff_lt_or_eq.1 hi with h3 | rfl
        · exact .inl ⟨i, h3, h1, h2⟩
        · exact .inr h2.symm
    · rw [keysL_no h, ih]
      constructor
      · rintro ⟨i, hi, r⟩
        exact ⟨i, by omega, r⟩
      · rintro ⟨i, hi, h1, h2⟩
        rcases Nat.lt_succ_iff_lt_or_eq.1 hi with h3 | rfl
        · exact ⟨i, h3, h1, h2⟩
        · exact absurd h1 h
theorem keysR_len (D : Nat → Nd) (len : Nat) : (keysR D len).length ≤ 1000000 := by
  unfold keysR
  split
  · rename_i h
    have h1 := keysL_len D len
    have := (dagB_parts h).1
    omega
  · simp

theorem OwnS.ownL {w : World} {base g cap : Nat} {L : List (List UInt8)} (h : OwnS w base g cap L) : OwnL w base (.slice (some ⟨g, 0, none⟩) L.length cap) L := h
theorem OwnS.made (w : World) (base : Nat) (hb : base ≤ w.heap.size) : OwnS (w.alloc (.cells #[] 9)) base w.heap.size 0 [] := World.ownsRow_made w #[] 0 hb (by decide) rfl

set_option maxHeartbeats 1000000 in
theorem specKeysIn_any (a : Option Addr) (len cap : Nat) (D : Nat → Nd) (w : World) (h : IsNds w a len cap D) (hf : Fine D len) :
    Calls Tryz.prog 81 #[.slice a len cap] w fun e w' => ∃ v, e = .returned v ∧ OwnL w' w.heap.size v (keysR D len) ∧ Below w.heap.size w w' := by
  have HN : Hid (IsNds w a len cap D) := h
  have hBa : Below w.heap.size w (w.alloc (.cells #[] 9)) := (Below.refl _ _).alloc (Nat.le_refl _) _
  have HS : Hid (Calls Tryz.prog 46 #[.slice a len cap] (w.alloc (.cells #[] 9)) fun e w' => e = .returned (.bool (dagB D len)) ∧ Below (w.alloc (.cells #[] 9)).heap.size (w.alloc (.cells #[] 9)) w') := specDagOk_any a len cap D _ (h.below hBa) hf
  have HM : Hid (OwnS (w.alloc (.cells #[] 9)) w.heap.size w.heap.size 0 []) := OwnS.made w _ (Nat.le_refl _)
  have HBa : Hid (Below w.heap.size w (w.alloc (.cells #[] 9))) := hBa
  obtain ⟨hlc, hcm, hc⟩ := h
  clear hf hBa
  cases hq : dagB D len with
  | false =>
    have HR : Hid (keysR D len = []) := by show _ = _; unfold keysR; rw [if_neg (by rw [hq]; decide)]
    rw [hq] at HS
    go_enter Tryz.func81, Tryz.ntmps81
    go_wp2_with (go_at_call 46; refine HS.out.mono ?_; rintro e w1 ⟨rfl, hB1⟩; have HB1 : Hid (Below w.heap.size w w1) := HBa.out.trans (hB1.mono HBa.out.size); have HO1 : Hid (OwnS w1 w.heap.size w.heap.size 0 []) := HM.out.below hB1; clear hB1)
    go_loopw [5, 3] (fun i v wr => i = .int .i64 0 ∧ v = .slice (some ⟨w.heap.size, 0, none⟩) 0 0 ∧ wr = w1) (fun _ _ _ => 0)
    case atStart => exact ⟨rfl, rfl, rfl⟩
    case round =>
      obtain ⟨rfl, rfl, rfl⟩ := hrel
      go_wp2
      go_ret
      refine ⟨_, rfl, ?_, HB1.out⟩
      rw [HR.out]
      exact HO1.out.ownL
  | true =>
    have HR : Hid (keysR D len = keysL D len) := by show _ = _; unfold keysR; rw [if_pos hq]
    have hl := (dagB_parts hq).1
    rw [hq] at HS
    clear hq
    go_enter Tryz.func81, Tryz.ntmps81
    go_wp2_with (go_at_call 46; refine HS.out.mono ?_; rintro e w1 ⟨rfl, hB1⟩; have HB1 : Hid (Below w.heap.size w w1) := HBa.out.trans (hB1.mono HBa.out.size); have HO1 : Hid (OwnS w1 w.heap.size w.heap.size 0 []) := HM.out.below hB1; clear hB1)
    go_loopw [5, 3] (fun i v wr => ∃ (k g gc : Nat), k ≤ len ∧ i = .int .i64 k ∧ v = .slice (some ⟨g, 0, none⟩) (keysL D k).length gc ∧ OwnS wr w.heap.size g gc (keysL D k) ∧ Below w.heap.size w wr)
      (fun i _ _ => len - (intOf i).toNat)
    case atStart => exact ⟨0, w.heap.size, 0, Nat.zero_le _, rfl, rfl, HO1.out, HB1.out⟩
    case round =>
      obtain ⟨k, g, gc, hk, rfl, rfl, ho, hB⟩ := hrel
      have HO := (show Hid _ from ho)
      have HB := (show Hid _ from hB)
      by_cases hlt : k < len
      · have hltI : (k : Int) < (len : Int) := by omega
        obtain ⟨b, off, ea, hbs, _⟩ := hc (by omega)
        subst ea
        have nd := dag_at (HN.out.below hB) rfl k hlt
        have c2 := nd.c2
        have c3 := nd.c3
        have hkl := keysL_len D k
        have HP : Hid (Calls Tryz.prog 113 #[.slice (some ⟨g, 0, none⟩) (keysL D k).length gc, .string (D k).key] wr fun e w' => ∃ g' gc', e = .returned (.slice (some ⟨g', 0, none⟩) (putL (keysL D k) (D k).key.toList).length gc') ∧ OwnS w' wr.heap.size g' gc' (putL (keysL D k) (D k).key.toList) ∧ Below wr.heap.size wr w') := l1Put_any g 0 gc (keysL D k) (D k).key wr ho.lies.1 ho.lies.2.1 ho.caps.1 ho.caps.2 (by omega)
        clear nd ho hB hkl
        by_cases h3 : (D k).k = 3
        · have hd : ((D k).k == 3) = true := by simp [h3]
          have HY : Hid (keysL D (k + 1) = putL (keysL D k) (D k).key.toList) := keysL_yes h3
          clear h3
          go_wp2_with fail
          refine HP.out.mono ?_
          rintro e w2 ⟨g', gc', rfl, ho2, hB2⟩
          have HO2 : Hid (OwnS w2 w.heap.size g' gc' (keysL D (k + 1))) := by
            show OwnS _ _ _ _ _
            rw [HY.out]
            exact mono_base ho2 HB.out.size
          have HB2 : Hid (Below w.heap.size w w2) := HB.out.trans (hB2.mono HB.out.size)
          clear ho2 hB2
          go_wp2
          go_roundw
          case rel => exact ⟨k + 1, g', gc', by omega, by go_num, by rw [HY.out], HO2.out, HB2.out⟩
          case measure => simp [intOf]; omega
        · have hd : ((D k).k == 3) = false := by simp [h3]
          have HY : Hid (keysL D (k + 1) = keysL D k) := keysL_no h3
          clear h3
          go_wp2
          go_roundw
          case rel => exact ⟨k + 1, g, gc, by omega, by go_num, by rw [HY.out], by rw [HY.out]; exact HO.out, HB.out⟩
          case measure => simp [intOf]; omega
      · have hke : k = len := by omega
        subst hke
        clear ho hB
        go_wp2
        go_ret
        refine ⟨_, rfl, ?_, HB.out⟩
        rw [HR.out]
        exact OwnS.ownL HO.out
end Go.Proofs.YtlibipbpaigmdaaGreatDoor

namespace Go.Proofs.YtlibipbpaigmdaaGreatDoor
open Go.RowKit Go.Maps
set_option linter.unusedVariables false

theorem lit_of (x : List UInt8) : keyL (tx x) = .string x := by simp [keyL, tx]
theorem keyL_list (s : ByteArray) : keyL s = .string s.toList := by rw [keyL, ByteArray.toList_eq]
theorem tx_list (x : List UInt8) : (tx x).toList = x := by rw [ByteArray.toList_eq]; simp [tx]
theorem tx_of (s : ByteArray) : tx s.toList = s := by rw [ByteArray.toList_eq]; rfl

theorem mapD_mem (D : Nat → Nd) (b off k : Nat) (x : List UInt8) : has (mapD D b off k) (.string x) = true ↔ ∃ i, i < k ∧ (ids D i).toList = x := by
  constructor
  · intro h
    cases ho : outB (ids D) k (tx x) with
    | true =>
      have := has_false_of_atKey (fun z => (mapD_at D b off (tx x) k).1 ho z)
      rw [lit_of, h] at this
      cases this
    | false =>
      obtain ⟨i, hi, e⟩ := (outB_iff (ids D) (tx x) k).1 ho
      exact ⟨i, hi, by rw [e, tx_list]⟩
  · rintro ⟨i, hi, rfl⟩
    rw [← keyL_list]
    exact mapD_has D b off k i hi

theorem clone38_any {R : Value → Option (DataW Value × List MemPlace)} (b n : Nat) (E : DataW Value) (w : World) (hown : w.ownsMap Tryz.prog 9 R b n E) :
    Calls Tryz.prog 118 #[.map (some b)] w fun e w' => e = .returned (.map (some w.heap.size)) ∧ w'.ownsMap Tryz.prog 9 R w.heap.size n E ∧ Below w.heap.size w w' := by
  refine (AnyW.maps_Clone_owns Tryz.clone38 9 R b n E w hown).mono ?_
  rintro e w' ⟨rfl, h1, h2, hB⟩
  exact ⟨rfl, h1, hB⟩

/-- which texts are left over when the ups of the nodes that v names are struck -/
def Freed (D : Nat → Nd) (len : Nat) (M : DataW Value) (v : Nat → Prop) (E : DataW Value) : Prop :=
  ∀ x, has E (.string x) = true ↔ has M (.string x) = true ∧ ∀ i, i < len → v i → ∀ j, j < (D i).n → ((D i).S j).toList ≠ x

theorem has_del (E : DataW Value) (s : ByteArray) (x : List UInt8) : has (E.del (keyL s)) (.string x) = true ↔ has E (.string x) = true ∧ s.toList ≠ x := by
  by_cases he : s.toList = x
  · subst he
    rw [← keyL_list, has_del_same]
    simp
  · rw [has_del_other (k := keyL s) (by rw [keyL_list]; intro h; apply he; simpa using h.symm)]
    simp [he]

theorem allB_iff {p : Nat → Bool} {n : Nat} : allB p n = true ↔ ∀ i, i < n → p i = true := by
  constructor
  · intro ha i hi
    cases hq : p i with
    | true => rfl
    | false => rw [allB_false hi hq] at ha; cases ha
  · exact fun h => allB_true h
theorem freeB_iff (D : Nat → Nd) (m : Nat) (s : ByteArray) : freeB D m s = true ↔ ∀ t, t < m → ∀ j, j < (D t).n → ((D t).S j).toList ≠ s.toList := by
  unfold freeB
  rw [allB_iff]
  constructor
  · intro h t ht j hj e
    have h1 := h t ht
    have h2 := (outB_iff (D t).S s (D t).n).2 ⟨j, hj, e⟩
    rw [h2] at h1
    cases h1
  · intro h t ht
    cases hq : outB (D t).S (D t).n s with
    | true => rfl
    | false =>
      obtain ⟨j, hj, e⟩ := (outB_iff (D t).S s (D t).n).1 hq
      exact absurd e (h t ht j hj)
theorem heads_of_freed {D : Nat → Nd} {len b off : Nat} {E : DataW Value} {L : List (List UInt8)} (hq : dagB D len = true) (hF : Freed D len (mapD D b off len) (fun _ => True) E) (hU : Up L) (hM : ∀ x, x ∈ L ↔ has E (.string x) = true) : L = headsR D len := by
  have e1 : headsR D len = headsL D len len := by unfold headsR; rw [if_pos hq]
  rw [e1]
  refine up_unique hU (headsL_up (dagB_parts hq).2.2.1 len len (Nat.le_refl _)) (fun x => ?_)
  rw [hM, hF x, headsL_mem, mapD_mem]
  constructor
  · rintro ⟨⟨i, hi, rfl⟩, h2⟩
    exact ⟨i, hi, (freeB_iff D len _).2 (fun t ht j hj => h2 t ht trivial j hj), rfl⟩
  · rintro ⟨i, hi, hf, rfl⟩
    exact ⟨⟨i, hi, rfl⟩, fun t ht _ j hj => (freeB_iff D len _).1 hf t ht j hj⟩

theorem ranges_below_kept {w w' : World} {B r n cnt Hb : Nat} {E : DataW Value} {left : Lit → Bool} (h : w.ranges Tryz.prog 9 PR B r n E left cnt) (hg : w.grownBy w' (some Hb)) (h1 : B ≠ Hb) (h2 : r ≠ Hb) : w'.ranges Tryz.prog 9 PR B r n E left cnt :=
  h.kept hg (by simpa using h1) (by simpa using h2)

set_option maxHeartbeats 2000000 in
theorem implHeadsOf_any (a : Option Addr) (len cap : Nat) (D : Nat → Nd) (w : World) (h : IsNds w a len cap D) (hf : Fine D len) (hP : AllT w) :
    Calls Tryz.prog 51 #[.slice a len cap] w fun e w' => ∃ v, e = .returned v ∧ OwnL w' w.heap.size v (headsR D len) ∧ Below w.heap.size w w' := by
  have HN : Hid (IsNds w a len cap D) := h
  have HF : Hid (Fine D len) := hf
  have HD : Hid (Calls Tryz.prog 88 #[.slice a len cap] w fun e w' => ∃ v, e = .returned (.tuple #[v, .bool (dagB D len)]) ∧ (dagB D len = true → ∃ B b off, v = .map (some B) ∧ w.heap.size ≤ B ∧ (0 < len → a = some ⟨b, off, none⟩) ∧ w'.ownsMap Tryz.prog 9 PR B len (mapD D b off len)) ∧ Below w.heap.size w w') := dagOf_any a len cap D w h hf hP
  clear h hf
  cases hq : dagB D len with
  | false =>
    have HR : Hid (headsR D len = []) := by show _ = _; unfold headsR; rw [if_neg (by rw [hq]; decide)]
    rw [hq] at HD
    go_enter Tryz.func51, Tryz.ntmps51
    go_wp2_with (go_at_call 88; refine HD.out.mono ?_; rintro e w1 ⟨v, rfl, _, hB1⟩)
    go_ret
    refine ⟨_, rfl, ?_, hB1⟩
    rw [HR.out]
    exact World.ownsRow_nil _ _ _ _
  | true =>
    have HQ : Hid (dagB D len = true) := hq
    rw [hq] at HD
    go_enter Tryz.func51, Tryz.ntmps51
    go_wp2_with (first
      | (go_at_call 88
         refine HD.out.mono ?_
         rintro e w1 ⟨v, rfl, hm, hB1⟩
         obtain ⟨B, b, off, rfl, hBB, hab, hown⟩ := hm rfl
         have HO : Hid (w1.ownsMap Tryz.prog 9 PR B len (mapD D b off len)) := hown
         have HB1 : Hid (Below w.heap.size w w1) := hB1
         have HAB : Hid (0 < len → a = some ⟨b, off, none⟩) := hab
         clear hown hB1 hab hm)
      | (go_at_call 118
         refine (clone38_any B len (mapD D b off len) w1 HO.out).mono ?_
         rintro e w2 ⟨rfl, hc2, hB2⟩
         have HC2 : Hid (w2.ownsMap Tryz.prog 9 PR w1.heap.size len (mapD D b off len)) := hc2
         have HO2 : Hid (w2.ownsMap Tryz.prog 9 PR B len (mapD D b off len)) := ownsMap_below HO.out hB2
         have HB2 : Hid (Below w.heap.size w w2) := HB1.out.trans (hB2.mono HB1.out.size)
         clear hc2 hB2)
      | (at_range
         refine wpList_range_own _ rfl _ 81 rfl 9 92 lawS Tryz.underlying81 PR B len (mapD D b off len) rfl HO2.out ?_
         intro w0 hrg0 hg0 hs0))
    go_frame
    have hHB : B ≠ w1.heap.size := by have := HO.out.lt; omega
    have hHr : w2.heap.size ≠ w1.heap.size := by have := HC2.out.lt; omega
    have HHB : Hid (B ≠ w1.heap.size ∧ w2.heap.size ≠ w1.heap.size ∧ w.heap.size ≤ w1.heap.size) := ⟨hHB, hHr, HB1.out.size⟩
    have HR0 : Hid (w0.ranges Tryz.prog 9 PR B w2.heap.size len (mapD D b off len) (has (mapD D b off len)) (Maps.size (mapD D b off len))) := hrg0
    have HC0 : Hid (w0.ownsMap Tryz.prog 9 PR w1.heap.size len (mapD D b off len)) := HC2.out.kept hg0 (by simp)
    have HB0 : Hid (Below w.heap.size w w0) := HB2.out.grown hg0 HB2.out.size (fun j hj => by cases hj)
    clear hrg0 hg0 hs0 hHB hHr
    go_loopw [7] (fun _ wr => ∃ (left : Lit → Bool) (cnt : Nat) (E : DataW Value), wr.ranges Tryz.prog 9 PR B w2.heap.size len (mapD D b off len) left cnt ∧ wr.ownsMap Tryz.prog 9 PR w1.heap.size len E ∧ Hid (Freed D len (mapD D b off len) (fun i => left (keyL (ids D i)) = false) E) ∧ Below w.heap.size w wr)
      (fun _ wr => wr.rangeLeft B w2.heap.size)
    case atStart => exact ⟨_, _, _, HR0.out, HC0.out, (fun x => ⟨fun hx => ⟨hx, fun i hi hv => by have hv' : has (mapD D b off len) (keyL (ids D i)) = false := hv; rw [mapD_has D b off len i hi] at hv'; cases hv'⟩, fun hx => hx.1⟩), HB0.out⟩
    case round =>
      obtain ⟨left, cnt, E, hrg, hE, HS, hB⟩ := hrel
      have HG : Hid (wr.ranges Tryz.prog 9 PR B w2.heap.size len (mapD D b off len) left cnt) := hrg
      have HE := (show Hid _ from hE)
      have HB := (show Hid _ from hB)
      clear hE hB
      go_wp2_with (first
        | (at_next; refine wpList_next_ranges _ rfl _ rfl 9 lawS PR Value.string Value.pointer keyS_inv PR_inv B w2.heap.size len _ _ _ rfl hrg ?_ ?_))
      · intro _ hl0
        clear hrg
        have HFr : Hid (Freed D len (mapD D b off len) (fun _ => True) E) := fun x => by
          rw [HS.out x]
          exact ⟨fun hx => ⟨hx.1, fun i hi _ => hx.2 i hi (hl0 _)⟩, fun hx => ⟨hx.1, fun i hi _ => hx.2 i hi trivial⟩⟩
        have HL : Hid (len ≤ 1000000) := by have := (dagB_parts HQ.out).1; show _ ≤ _; omega
        clear hl0 HS
        go_wp2_with (first
          | (go_at_call 91; refine (Tryz.maps_Keys_40 _ _).mono ?_; rintro e w' ⟨rfl, hw'⟩; rw [hw']; clear hw' w')
          | (go_at_call 90; refine (sorted40 w1.heap.size len E PR _ HE.out HL.out).mono ?_; rintro e w4 ⟨v, L, rfl, hU, hM, hO4, hB4⟩))
        go_ret
        refine ⟨v, rfl, ?_, HB.out.trans (hB4.mono HB.out.size)⟩
        rw [← heads_of_freed HQ.out HFr.out hU hM]
        exact mono_base hO4 HB.out.size
      · intro x c kl y ps w3 cnt3 hkx hlk hRv hat hrg3 hlt3 hg3 hs3 hen
        have hkl := keyS_lit hkx
        subst hkl
        obtain ⟨i, hi, hix, hc⟩ : ∃ i, i < len ∧ (ids D i).toList = x.toList ∧ c = some ⟨b, off + i * 6, none⟩ := by
          have hy : y = .held (.pointer c) := by
            simp only [PR, Option.some.injEq, Prod.mk.injEq] at hRv
            exact hRv.1.symm
          cases ho : outB (ids D) len x with
          | true =>
            have h1 := hat .nil
            rw [(mapD_at D b off x len).1 ho, hy] at h1
            cases h1
          | false =>
            obtain ⟨i, hi, e, ha⟩ := (mapD_at D b off x len).2 ho
            have h1 := hat .nil
            rw [ha, hy] at h1
            simp only [ptr, DataW.held.injEq, Value.pointer.injEq] at h1
            exact ⟨i, hi, e, h1.symm⟩
        subst hc
        have hB3 : Below w.heap.size w w3 := HB.out.grown hg3 HB.out.size (fun j hj => by cases hj; exact HB2.out.size)
        have nd : NdAt w3 b (off + i * 6) (D i) := dag_at (HN.out.below hB3) (HAB.out (by omega)) i hi
        have c5 := nd.c5
        have HU : Hid (IsStrs w (D i).u (D i).n (D i).cap (D i).S) := (dag_at HN.out (HAB.out (by omega)) i hi).i
        have hu1 := nd.i.1
        have hu2 := nd.i.2.1
        have HE3 : Hid (w3.ownsMap Tryz.prog 9 PR w1.heap.size len E) := World.ownsMap.kept HE.out hg3 (by simpa using fun e => HHB.out.2.1 e.symm)
        have HG3 : Hid (w3.ranges Tryz.prog 9 PR B w2.heap.size len (mapD D b off len) (fun z => left z && !z.sameKey (keyL x)) cnt3) := hrg3
        have HB3 : Hid (Below w.heap.size w w3) := hB3
        have HLT : Hid (cnt3 < cnt) := hlt3
        have HIX : Hid ((ids D i).toList = x.toList) := hix
        clear hrg hrg3 hRv hat hkx hlk hg3 hs3 nd hB3 hlt3 hix
        go_wp2
        go_loopw [30] (fun q wr => ∃ (j : Nat) (E' : DataW Value), j ≤ (D i).n ∧ q = .int .i64 j ∧ wr.ranges Tryz.prog 9 PR B w2.heap.size len (mapD D b off len) (fun z => left z && !z.sameKey (keyL x)) cnt3 ∧ wr.ownsMap Tryz.prog 9 PR w1.heap.size len E' ∧ Hid (∀ z, has E' (.string z) = true ↔ has E (.string z) = true ∧ ∀ t, t < j → ((D i).S t).toList ≠ z) ∧ w3.grownBy wr (some w1.heap.size))
          (fun q _ => (D i).n - (intOf q).toNat)
        case atStart => exact ⟨0, E, Nat.zero_le _, rfl, HG3.out, HE3.out, (fun z => ⟨fun h => ⟨h, fun t ht => absurd ht (Nat.not_lt_zero _)⟩, fun h => h.1⟩), World.grownBy.refl _ _⟩
        case round =>
          obtain ⟨j, E', hj, rfl, hrg4, hE4, HS4, hg4⟩ := hrel
          have HG4 : Hid (wr.ranges Tryz.prog 9 PR B w2.heap.size len (mapD D b off len) (fun z => left z && !z.sameKey (keyL x)) cnt3) := hrg4
          have HE4 := (show Hid _ from hE4)
          have HW4 := (show Hid _ from hg4)
          clear hrg4 hE4
          by_cases hjt : j < (D i).n
          · have hjI : (j : Int) < ((D i).n : Int) := by omega
            obtain ⟨ub, uo, hu, hubs, hucell⟩ := HU.out.2.2 (by omega)
            have hB4 : Below w.heap.size w wr := HB3.out.grown hg4 HB3.out.size (fun k hk => by cases hk; exact HHB.out.2.2)
            have d1 := (hB4.cell (p := ⟨ub, uo + j, none⟩) hubs).trans (hucell j hjt)
            have hkey : keyOf Tryz.prog 9 (.string ((D i).S j)) = some (keyL ((D i).S j)) := keyS ((HF.out i hi).2.2 j hjt)
            clear hucell hB4 hg4
            rw [hu]
            go_wp2_with (at_delete; refine wpList_delete_own _ rfl _ _ 81 9 rfl 92 lawS Tryz.underlying81 PR w1.heap.size len E' rfl HE4.out _ _ rfl hkey ?_; intro w5 hown5 hturn5)
            go_roundw
            case rel =>
              have hg5 := hturn5.grown
              refine ⟨j + 1, E'.del (keyL ((D i).S j)), by omega, by go_num, ranges_below_kept HG4.out hg5 HHB.out.1 HHB.out.2.1, hown5, fun z => ?_, World.grownBy.trans HW4.out hg5⟩
              rw [has_del, HS4.out z]
              constructor
              · rintro ⟨⟨h1, h2⟩, h3⟩
                refine ⟨h1, fun t ht => ?_⟩
                rcases Nat.lt_succ_iff_lt_or_eq.1 ht with h4 | rfl
                · exact h2 t h4
                · exact h3
              · rintro ⟨h1, h2⟩
                exact ⟨⟨h1, fun t ht => h2 t (by omega)⟩, h2 j (Nat.lt_succ_self _)⟩
            case measure => simp [intOf]; omega
          · have hje : j = (D i).n := by omega
            have HB4 : Hid (Below w.heap.size w wr) := HB3.out.grown hg4 HB3.out.size (fun k hk => by cases hk; exact HHB.out.2.2)
            have HFr : Hid (Freed D len (mapD D b off len) (fun i' => (left (keyL (ids D i')) && !(keyL (ids D i')).sameKey (keyL x)) = false) E') := fun z => by
              rw [HS4.out z, HS.out z, hje]
              constructor
              · rintro ⟨⟨h1, h2⟩, h3⟩
                refine ⟨h1, fun i' hi' hv j' hj' => ?_⟩
                by_cases hl : left (keyL (ids D i')) = false
                · exact h2 i' hi' hl j' hj'
                · have hl : left (keyL (ids D i')) = true := by simpa using hl
                  have hv' : (left (keyL (ids D i')) && !(keyL (ids D i')).sameKey (keyL x)) = false := hv
                  rw [hl] at hv'
                  have hk := keyL_inj (WideAt.sameKey_eq (show (keyL (ids D i')).sameKey (keyL x) = true by simpa using hv'))
                  obtain rfl := rise_inj (dagB_parts HQ.out).2.2.1 hi' hi (hk.trans HIX.out.symm)
                  exact h3 j' hj'
              · rintro ⟨h1, h2⟩
                have hii : (left (keyL (ids D i)) && !(keyL (ids D i)).sameKey (keyL x)) = false := by
                  have : (keyL (ids D i)).sameKey (keyL x) = true := by rw [keyL_eq HIX.out]; simp [keyL, Lit.sameKey]
                  rw [this]; simp
                exact ⟨⟨h1, fun i' hi' hv => h2 i' hi' (by show (_ && _) = false; rw [show left (keyL (ids D i')) = false from hv]; rfl)⟩, h2 i hi hii⟩
            clear hg4 hje
            go_wp2
            go_roundw
            case rel => exact ⟨fun z => left z && !z.sameKey (keyL x), cnt3, E', HG4.out, HE4.out, HFr.out, HB4.out⟩
            case measure => rw [HG4.out.left_eq, HG.out.left_eq]; exact HLT.out
end Go.Proofs.YtlibipbpaigmdaaGreatDoor

namespace Go.Proofs.YtlibipbpaigmdaaGreatDoor
open Go.RowKit Go.Maps
set_option linter.unusedVariables false

/-- block B is a set of at most n texts that reads as E -/
def SetOf (w : World) (B n : Nat) (E : DataW Value) : Prop := w.ownsMap Tryz.prog 9 unitElem B n E
theorem SetOf.below {w w' : World} {B n : Nat} {E : DataW Value} (h : SetOf w B n E) (hB : Below w.heap.size w w') : SetOf w' B n E := by
  have hl := h.lt
  obtain ⟨es, clock, hb, F, hs, hD⟩ := h
  exact ⟨es, clock, (hB.block _ hl).trans hb, F, hs, hD⟩
/-- E with the text s -/
def putE (E : DataW Value) (s : ByteArray) : DataW Value := E.put (keyL s) (.agg [])
theorem putE_has {E : DataW Value} (hE : IsMap E) (s : ByteArray) (x : List UInt8) : has (putE E s) (.string x) = true ↔ has E (.string x) = true ∨ s.toList = x := by
  unfold putE
  by_cases he : s.toList = x
  · subst he
    rw [← keyL_list, has_put_same hE (keyL_is _)]
    simp
  · rw [has_put_other (k := keyL s) (by rw [keyL_list]; intro h; apply he; simpa using h.symm)]
    simp [he]

set_option maxHeartbeats 400000 in
theorem put_any (B n : Nat) (E : DataW Value) (s : ByteArray) (w : World) (h : SetOf w B n E) (hn : n ≤ 1000000) (hs : s.size ≤ 9223372036854775807) :
    Calls Tryz.prog 143 #[.map (some B), .string s] w fun e w' => e = .returned (.tuple #[]) ∧ SetOf w' B (n + 1) (putE E s) ∧ w.grownBy w' (some B) := by
  have HO : Hid (w.ownsMap Tryz.prog 9 unitElem B n E) := h
  have hkey : keyOf Tryz.prog 9 (.string s) = some (keyL s) := keyS hs
  clear h
  go_enter Tryz.func143, Tryz.ntmps143
  go_wp2_with (at_mapUpdate; refine wpList_mapUpdate_own _ rfl _ _ _ 98 rfl 9 117 lawS Tryz.underlying98 unitElem B n E rfl HO.out (by unfold maxLen; omega) _ _ _ rfl rfl hkey (.agg []) [] unitElem_mk ?_; intro w3 hown3 hgrow3)
  go_end0
  exact ⟨rfl, hown3, hgrow3⟩

set_option maxHeartbeats 400000 in
theorem rising_any (B n : Nat) (E : DataW Value) (w : World) (h : SetOf w B n E) (hn : n ≤ 1000000) :
    Calls Tryz.prog 112 #[.map (some B)] w fun e w' => ∃ (v : Value) (L : List (List UInt8)), e = .returned v ∧ Up L ∧ (∀ x, x ∈ L ↔ has E (.string x) = true) ∧ OwnL w' w.heap.size v L ∧ Below w.heap.size w w' := by
  have HO : Hid (w.ownsMap Tryz.prog 9 unitElem B n E) := h
  clear h
  go_enter Tryz.func112, Tryz.ntmps112
  go_wp2_with (first
    | (go_at_call 163; refine (Tryz.maps_Keys_72 _ _).mono ?_; rintro e w' ⟨rfl, hw'⟩; rw [hw']; clear hw' w')
    | (go_at_call 90; refine (sorted72 B n E unitElem _ HO.out hn).mono ?_; rintro e w4 ⟨v, L, rfl, hU, hM, hO4, hB4⟩))
  go_ret
  exact ⟨v, L, rfl, hU, hM, hO4, hB4⟩

theorem SetOf.isMap {w : World} {B n : Nat} {E : DataW Value} (h : SetOf w B n E) : IsMap E := World.ownsMap.isMap h

set_option maxHeartbeats 1000000 in
theorem implKeysIn_any (a : Option Addr) (len cap : Nat) (D : Nat → Nd) (w : World) (h : IsNds w a len cap D) (hf : Fine D len) (hP : AllT w) :
    Calls Tryz.prog 80 #[.slice a len cap] w fun e w' => ∃ v, e = .returned v ∧ OwnL w' w.heap.size v (keysR D len) ∧ Below w.heap.size w w' := by
  have HN : Hid (IsNds w a len cap D) := h
  have HF : Hid (Fine D len) := hf
  have HD : Hid (Calls Tryz.prog 71 #[.slice a len cap] w fun e w' => e = .returned (.bool (dagB D len)) ∧ Below w.heap.size w w') := implDagOk_any a len cap D w h hf hP
  obtain ⟨hlc, hcm, hc⟩ := h
  clear hf
  cases hq : dagB D len with
  | false =>
    have HR : Hid (keysR D len = []) := by show _ = _; unfold keysR; rw [if_neg (by rw [hq]; decide)]
    rw [hq] at HD
    go_enter Tryz.func80, Tryz.ntmps80
    go_wp2_with (go_at_call 71; refine HD.out.mono ?_; rintro e w1 ⟨rfl, hB1⟩)
    go_ret
    refine ⟨_, rfl, ?_, hB1⟩
    rw [HR.out]
    exact World.ownsRow_nil _ _ _ _
  | true =>
    have HR : Hid (keysR D len = keysL D len) := by show _ = _; unfold keysR; rw [if_pos hq]
    have hl := (dagB_parts hq).1
    have hmm := @run_makeMap Tryz.prog
    rw [hq] at HD
    clear hq
    go_enter Tryz.func80, Tryz.ntmps80
    go_wp2_with (go_at_call 71; refine HD.out.mono ?_; rintro e w1 ⟨rfl, hB1⟩; have HB1 : Hid (Below w.heap.size w w1) := hB1; clear hB1)
    go_loopw [12] (fun i wr => ∃ (k : Nat) (E : DataW Value), k ≤ len ∧ i = .int .i64 k ∧ SetOf wr w1.heap.size k E ∧ Hid (∀ x, has E (.string x) = true ↔ x ∈ keysL D k) ∧ Below w.heap.size w wr)
      (fun i _ => len - (intOf i).toNat)
    case atStart => exact ⟨0, .map [], Nat.zero_le _, rfl, World.ownsMap_made _ _ _ _, (fun x => by simp [has_eq, keysL]), HB1.out.alloc HB1.out.size _⟩
    case round =>
      obtain ⟨k, E, hk, rfl, hs, HS, hB⟩ := hrel
      have HO := (show Hid _ from hs)
      have HB := (show Hid _ from hB)
      by_cases hlt : k < len
      · have hltI : (k : Int) < (len : Int) := by omega
        obtain ⟨b, off, ea, hbs, _⟩ := hc (by omega)
        subst ea
        obtain ⟨c0, c1, c2, c3, c4, c5, _⟩ := dag_at (HN.out.below hB) rfl k hlt
        clear hs hB
        by_cases h3 : (D k).k = 3
        · have hd : ((D k).k == 3) = true := by simp [h3]
          have HY : Hid (keysL D (k + 1) = putL (keysL D k) (D k).key.toList) := keysL_yes h3
          clear h3
          obtain ⟨wa, hwa⟩ : ∃ wa, wa = wr.alloc (.cells #[.int .i64 (D k).a, .int .i64 (D k).s, .int .i64 (D k).k, .string (D k).key, .string (D k).text, .slice (D k).u (D k).n (D k).cap] 50) := ⟨_, rfl⟩
          have hBa : Below wr.heap.size wr wa := by rw [hwa]; exact (Below.refl _ _).alloc (Nat.le_refl _) _
          have HOa : Hid (SetOf wa w1.heap.size k E) := SetOf.below HO.out hBa
          have HBa : Hid (Below w.heap.size w wa) := HB.out.trans (hBa.mono HB.out.size)
          have hks := (HF.out k hlt).1
          have HWA : Hid (wa = wr.alloc (.cells #[.int .i64 (D k).a, .int .i64 (D k).s, .int .i64 (D k).k, .string (D k).key, .string (D k).text, .slice (D k).u (D k).n (D k).cap] 50)) := hwa
          clear hwa hBa
          go_wp2_with fail
          rw [← HWA.out]
          refine (put_any w1.heap.size k E (D k).key wa HOa.out (by omega) hks).mono ?_
          rintro e w2 ⟨rfl, hs2, hg2⟩
          have HS2 : Hid (SetOf w2 w1.heap.size (k + 1) (putE E (D k).key) ∧ Below w.heap.size w w2) := ⟨hs2, HBa.out.grown hg2 HBa.out.size (fun j hj => by cases hj; exact HB1.out.size)⟩
          clear hs2 hg2
          go_wp2
          go_roundw
          case rel =>
            refine ⟨k + 1, _, by omega, by go_num, HS2.out.1, fun x => ?_, HS2.out.2⟩
            rw [putE_has (SetOf.isMap HO.out), HS.out x, HY.out, putL_mem]
            exact or_congr Iff.rfl ⟨fun h => h.symm, fun h => h.symm⟩
          case measure => simp [intOf]; omega
        · have hd : ((D k).k == 3) = false := by simp [h3]
          have HY : Hid (keysL D (k + 1) = keysL D k) := keysL_no h3
          clear h3
          go_wp2
          go_roundw
          case rel =>
            have hBa : Below wr.heap.size wr (wr.alloc (.cells #[.int .i64 (D k).a, .int .i64 (D k).s, .int .i64 (D k).k, .string (D k).key, .string (D k).text, .slice (D k).u (D k).n (D k).cap] 50)) := (Below.refl _ _).alloc (Nat.le_refl _) _
            refine ⟨k + 1, E, by omega, by go_num, World.ownsMap.mono (SetOf.below HO.out hBa) (by omega), fun x => ?_, HB.out.trans (hBa.mono HB.out.size)⟩
            rw [HY.out]
            exact HS.out x
          case measure => simp [intOf]; omega
      · have hke : k = len := by omega
        subst hke
        clear hs hB
        go_wp2_with (go_at_call 112; refine (rising_any w1.heap.size k E _ HO.out (by omega)).mono ?_; rintro e w4 ⟨v, L, rfl, hU, hM, hO4, hB4⟩)
        go_ret
        refine ⟨v, rfl, ?_, HB.out.trans (hB4.mono HB.out.size)⟩
        have e1 : L = keysR D k := by
          rw [HR.out]
          exact up_unique hU (keysL_up D k) (fun x => by rw [hM x, HS.out x])
        rw [← e1]
        exact mono_base hO4 HB.out.size
end Go.Proofs.YtlibipbpaigmdaaGreatDoor
