/-
  Slices of texts that the call owns, marks, rising lists and the specification's putting in of a text. No condition but that the slices read.
-/
import Derived.Test.YtcolcnkjcagbaaaGreatDoorKnownI
import Derived.Laws.AppendOwn
import Derived.Laws.CopyOwn
import Derived.Laws.BytesString
import Derived.Laws.Concat
import Derived.Laws.MakeOwn
import Derived.Laws.Cells
import Derived.Lib.ItoaNum
import Derived.Sort.KeysCollected
import Derived.Deep.AppendLies
namespace Go.Proofs.YtcolcnkjcagbaaaGreatDoor
open Go.RowKit
set_option linter.unusedVariables false

/-- nothing outside has turned, and no old block that p names -/
structure Kept (p : Nat → Prop) (w w' : World) : Prop where
  os : w'.os = w.os
  tape : w'.tape = w.tape
  output : w'.output = w.output
  size : w.heap.size ≤ w'.heap.size
  block : ∀ k, k < w.heap.size → p k → w'.heap[k]? = w.heap[k]?

theorem Kept.refl (p : Nat → Prop) (w : World) : Kept p w w := ⟨rfl, rfl, rfl, Nat.le_refl _, fun _ _ _ => rfl⟩

theorem Kept.trans {p : Nat → Prop} {a b c : World} (h : Kept p a b) (k : Kept p b c) : Kept p a c :=
  ⟨k.os.trans h.os, k.tape.trans h.tape, k.output.trans h.output, Nat.le_trans h.size k.size, fun i hi hp => (k.block i (by have := h.size; omega) hp).trans (h.block i hi hp)⟩

theorem Kept.of_below {p : Nat → Prop} {w w' : World} (h : Below w.heap.size w w') : Kept p w w' := ⟨h.os, h.tape, h.output, h.size, fun k hk _ => h.block k hk⟩

theorem Kept.of_grown {p : Nat → Prop} {w w' : World} {row : Option Nat} (h : w.grownBy w' row) (hr : ∀ k, row = some k → ¬ p k) : Kept p w w' :=
  ⟨h.os, h.tape, h.output, h.size, fun k hk hp => h.block k hk (fun e => hr k e.symm hp)⟩

theorem Kept.mono {p q : Nat → Prop} {w w' : World} (h : Kept p w w') (hq : ∀ k, q k → p k) : Kept q w w' := ⟨h.os, h.tape, h.output, h.size, fun k hk hp => h.block k hk (hq k hp)⟩

theorem Kept.below {B : Nat} {w w' : World} (h : Kept (fun k => k < B) w w') (hB : B ≤ w.heap.size) : Below B w w' := ⟨h.os, h.tape, h.output, h.size, fun k hk => h.block k (by omega) hk⟩


theorem IsStrs.kept {p : Nat → Prop} {w w' : World} {a : Option Addr} {len cap : Nat} {S : Nat → ByteArray} (h : IsStrs w a len cap S) (hK : Kept p w w') (hp : ∀ b off, a = some ⟨b, off, none⟩ → p b) : IsStrs w' a len cap S := by
  obtain ⟨h1, h2, h3⟩ := h
  refine ⟨h1, h2, fun h0 => ?_⟩
  obtain ⟨b, off, e, hb, hc⟩ := h3 h0
  have hbl := hK.block b hb (hp b off e)
  exact ⟨b, off, e, by have := hK.size; omega, fun i hi => (World.cell?_of_block (w := w) (a := ⟨b, off + i, none⟩) hbl).trans (hc i hi)⟩


/-- the text of one byte -/
def mg (c : Int) : ByteArray := ⟨#[UInt8.ofNat c.toNat]⟩

theorem mg_size (c : Int) : (mg c).size = 1 := rfl

/-- the digits of a number; none of nought -/
def mtR (n : Nat) : ByteArray := if n = 0 then ⟨#[]⟩ else ⟨(Lib.decDigits n).toArray⟩

theorem mtR_zero : mtR 0 = ⟨#[]⟩ := by unfold mtR; rw [if_pos rfl]

theorem mtR_more {n : Nat} (h : n ≠ 0) : mtR n = mtR (n / 10) ++ mg (48 + (n : Int) % 10) := by
  apply ByteArray.ext
  apply Array.ext'
  unfold mtR mg
  rw [if_neg h, show (48 + (n : Int) % 10).toNat = 48 + n % 10 by omega]
  by_cases h2 : n < 10
  · rw [if_pos (by omega), Lib.decDigits_one h2, show n % 10 = n by omega]
    simp
  · rw [if_neg (by omega)]
    conv => lhs; rw [Lib.decDigits, dif_neg h2]
    simp

/-- the text of a mark -/
def mt (n : Nat) : ByteArray := ⟨#[109]⟩ ++ mtR n


theorem mg_string (w : World) (c : Int) : (convert 39 9 (.slice (some ⟨w.heap.size, 0, none⟩) 1 1)).run Tryz.prog (w.alloc (.cells #[.int .u8 c] 5)) = .ok (.string (mg c)) (w.alloc (.cells #[.int .u8 c] 5)) := by
  rw [run_convert_bytes_string _ 39 9 5 _ _ _ Tryz.underlying39 Tryz.underlying5 Tryz.underlying9]
  rw [run_bytesToString _ _ 1 1 [c] (by simp [loadCells, go_sem])]
  rfl


theorem ret_val' {a b : ByteArray} (h : a = b) : Ending.returned (.string a) = .returned (.string b) := by rw [h]


/-- n marks from k on -/
def marks (k n : Nat) : List Value := (List.range n).map fun i => .string (mt (k + i))

theorem marks_at {k n i : Nat} (h : i < n) : (marks k n)[i]? = some (.string (mt (k + i))) := by unfold marks; simp [h]

theorem marks_len (k n : Nat) : (marks k n).length = n := by unfold marks; simp

theorem marks_of {k n : Nat} {xs : List Value} (hl : xs.length = n) (h : ∀ i, i < n → xs[i]? = some (.string (mt (k + i)))) : xs = marks k n := by
  apply List.ext_getElem? 
  intro i
  by_cases hi : i < n
  · rw [h i hi, marks_at hi]
  · rw [List.getElem?_eq_none (by omega), List.getElem?_eq_none (by rw [marks_len]; omega)]


theorem ownsRow_zero {w : World} {base : Nat} {e : TypeId} {size : Nat} {v : Value} {n : Nat} {xs : List Value} (h : w.ownsRow base e size v n xs) : w.ownsRow 0 e size v n xs := by
  obtain ⟨h1, h2⟩ := h
  refine ⟨h1, ?_⟩
  rcases h2 with h2 | ⟨g, cap, cur, hv, hg, r⟩
  · exact Or.inl h2
  · exact Or.inr ⟨g, cap, cur, hv, Nat.zero_le _, r⟩


/-- a row of n texts that can be written -/
def Rw (w : World) (g n : Nat) : Prop := ∃ xs, w.ownsRow 0 9 1 (.slice (some ⟨g, 0, none⟩) n n) n xs

theorem Rw.kept {w w' : World} {g n : Nat} (h : Rw w g n) (he : w'.heap[g]? = w.heap[g]?) : Rw w' g n := by
  obtain ⟨xs, h1, h2⟩ := h
  refine ⟨xs, h1, ?_⟩
  rcases h2 with h2 | ⟨g', cap, cur, hv, hg, hh, r⟩
  · exact Or.inl h2
  · have hv' := hv
    simp only [Value.slice.injEq, Option.some.injEq, Addr.mk.injEq, and_true, true_and] at hv'
    obtain ⟨rfl, rfl⟩ := hv'
    exact Or.inr ⟨g, _, cur, hv, hg, he.trans hh, r⟩

theorem Rw.lt {w : World} {g n : Nat} (h : Rw w g n) : g < w.heap.size := by
  obtain ⟨xs, h⟩ := h
  exact own_live h

theorem Rw.below {w w' : World} {g n : Nat} (h : Rw w g n) (hB : Below w.heap.size w w') : Rw w' g n := h.kept (hB.block _ h.lt)

theorem Rw.setCell {w : World} {g n B o : Nat} {v : Value} (h : Rw w g n) (hne : g ≠ B) : Rw (w.setCell ⟨B, o, none⟩ v) g n := h.kept (Below.heap_setCell _ _ _ _ hne)


set_option maxHeartbeats 1000000 in
theorem toStrs_own (a : Option Addr) (len cap : Nat) (S : Nat → ByteArray) (w : World) (h : IsStrs w a len cap S) (hl : len ≤ 1048576) :
    Calls Tryz.prog 12 #[.slice a len cap] w fun e w' => ∃ g, e = .returned (.slice (some ⟨g, 0, none⟩) len len) ∧ IsStrs w' (some ⟨g, 0, none⟩) len len S ∧ Below w.heap.size w w' ∧ w.heap.size ≤ g ∧ Rw w' g len := by
  obtain ⟨hlc, hcm, hc⟩ := h
  obtain ⟨i0, hi, hz0, hz1, hz2⟩ := info_parts info9
  have hb2 : i0.bytes * len ≤ 281474976710656 := by rw [hz2]; omega
  have hb3 : len ≤ maxLen := by unfold maxLen; omega
  go_enter Tryz.func12, Tryz.ntmps12
  go_wp2_with (at_make; refine wpList_make_full _ rfl _ _ 23 rfl w.heap.size 9 i0 (.string ⟨#[]⟩) 1 Tryz.underlying23 hi hz0 hz1 .i64 .i64 _ _ len rfl rfl rfl rfl hb2 hb3 (Nat.le_refl _) ?_; intro w1 hown hgrow)
  have hB1 : Below w.heap.size w w1 := (Below.refl _ w).grown hgrow (Nat.le_refl _) (fun k hk => by cases hk)
  clear hgrow
  go_loopw [4] (fun i wr => ∃ (k : Nat) (xs : List Value), k ≤ len ∧ i = .int .i64 k ∧ wr.ownsRow w.heap.size 9 1 (.slice (some ⟨w.heap.size, 0, none⟩) len len) len xs ∧ Hid (∀ j, j < k → xs[j]? = some (.string (S j))) ∧ Below w.heap.size w wr)
    (fun i _ => len - (intOf i).toNat)
  case atStart => exact ⟨0, _, Nat.zero_le _, rfl, hown, fun j hj => absurd hj (Nat.not_lt_zero _), hB1⟩
  case round =>
    obtain ⟨k, xs, hk, rfl, how, HA, hB⟩ := hrel
    by_cases hlt : k < len
    · obtain ⟨b, off, rfl, hbs, hcell⟩ := hc (by omega)
      have d1 := (hB.cell (p := ⟨b, off + k, none⟩) hbs).trans (hcell k hlt)
      clear hcell hc
      have hxl : xs.length = len * 1 := how.1
      have f1 := how.frozenAt k
      obtain ⟨v1, e1⟩ := own_some how k (by omega)
      have HO := (show Hid _ from how)
      clear how hown
      go_wp2
      go_roundw
      case rel =>
        refine ⟨k + 1, xs.set k (.string (S k)), by omega, by go_num, (World.ownsRow.stored HO.out _ _).1, ?_, hB.setCell (Nat.le_refl _) _⟩
        intro j hj
        rcases Nat.lt_succ_iff_lt_or_eq.1 hj with h1 | rfl
        · rw [List.getElem?_set_ne (by omega)]
          exact HA.out j h1
        · rw [List.getElem?_set_self (by omega)]
      case measure => simp [intOf]; omega
    · have hke : k = len := by omega
      subst hke
      have hfin : IsStrs wr (some ⟨w.heap.size, 0, none⟩) k k S := by
        refine ⟨Nat.le_refl _, by omega, fun hp => ?_⟩
        refine ⟨w.heap.size, 0, rfl, own_live how, fun j hj => ?_⟩
        rw [Nat.zero_add, how.cellAt _ (by omega)]
        exact HA.out j hj
      have HRW : Hid (Rw wr w.heap.size k) := ⟨xs, ownsRow_zero how⟩
      clear how hown hB1 HA
      go_wp2
      go_ret
      exact ⟨_, rfl, hfin, hB, Nat.le_refl _, HRW.out⟩


theorem bl_irr : ∀ x : List UInt8, Op.bytesLess x x = false
  | [] => rfl
  | a :: x => by
    rw [Op.bytesLess, bl_irr x]
    simp


theorem bl_tri : ∀ x y : List UInt8, Op.bytesLess x y = false → x ≠ y → Op.bytesLess y x = true
  | [], [], _, h => absurd rfl h
  | [], _ :: _, h, _ => by simp [Op.bytesLess] at h
  | _ :: _, [], _, _ => rfl
  | a :: x, b :: y, h, hne => by
    rw [Op.bytesLess] at h ⊢
    simp only [Bool.or_eq_false_iff, decide_eq_false_iff_not, Bool.and_eq_false_iff] at h
    obtain ⟨h1, h2⟩ := h
    by_cases e : a = b
    · subst e
      have h3 : Op.bytesLess x y = false := by
        rcases h2 with h2 | h2
        · simp at h2
        · exact h2
      have := bl_tri x y h3 (fun h => hne (by rw [h]))
      simp [this]
    · have : b < a := by
        rw [UInt8.lt_iff_toNat_lt] at h1 ⊢
        have hn : a.toNat ≠ b.toNat := fun h => e (UInt8.toNat_inj.1 h)
        omega
      simp [this]


theorem bl_trans : ∀ x y z : List UInt8, Op.bytesLess x y = true → Op.bytesLess y z = true → Op.bytesLess x z = true
  | [], [], _, h, _ => by simp [Op.bytesLess] at h
  | _ :: _, [], _, h, _ => by simp [Op.bytesLess] at h
  | _, _ :: _, [], _, h => by simp [Op.bytesLess] at h
  | [], _ :: _, _ :: _, _, _ => rfl
  | a :: x, b :: y, c :: z, h, h' => by
    rw [Op.bytesLess] at h h' ⊢
    simp only [Bool.or_eq_true, Bool.and_eq_true, decide_eq_true_eq, beq_iff_eq] at h h' ⊢
    rcases h with h | ⟨rfl, h⟩
    · rcases h' with h' | ⟨rfl, h'⟩
      · left
        rw [UInt8.lt_iff_toNat_lt] at h h' ⊢
        omega
      · exact .inl h
    · rcases h' with h' | ⟨rfl, h'⟩
      · exact .inl h'
      · exact .inr ⟨rfl, bl_trans x y z h h'⟩


theorem bl_asym {x y : List UInt8} (h : Op.bytesLess x y = true) : Op.bytesLess y x = false := by
  cases hq : Op.bytesLess y x with
  | false => rfl
  | true =>
    have := bl_trans _ _ _ h hq
    rw [bl_irr] at this
    cases this


/-- the row owned by v reads as texts -/
theorem strs_of_own {w : World} {base : Nat} {v : Value} {n : Nat} {xs : List Value} {S : Nat → ByteArray} (h : w.ownsRow base 9 1 v n xs) (hx : ∀ i, i < n → xs[i]? = some (.string (S i))) :
    ∃ a cap, v = .slice a n cap ∧ IsStrs w a n cap S := by
  rcases h.2 with ⟨rfl, rfl⟩ | ⟨g, cap, cur, rfl, hb, hg, hnc, hcm, hcs, htake⟩
  · exact ⟨none, 0, rfl, Nat.le_refl _, by omega, fun h => absurd h (Nat.lt_irrefl _)⟩
  · refine ⟨_, cap, rfl, hnc, by unfold maxLen at hcm; omega, fun hp => ⟨g, 0, rfl, (Array.getElem?_eq_some_iff.1 hg).1, fun i hi => ?_⟩⟩
    have := h.cells (g := g) rfl i _ (hx i hi)
    have hadd : (⟨g, 0, none⟩ : Addr).add i = ⟨g, i, none⟩ := by unfold Addr.add; split <;> simp_all
    rw [hadd] at this
    rw [Nat.zero_add]
    exact this


set_option maxHeartbeats 1000000 in
/-- texts that rise -/
def Up (l : List (List UInt8)) : Prop := l.Pairwise fun x y => Op.bytesLess x y = true

theorem Up.nodup {l : List (List UInt8)} (h : Up l) : l.Nodup := List.Pairwise.imp (fun {x y} hxy e => by subst e; rw [bl_irr] at hxy; cases hxy) h

theorem up_unique {l l' : List (List UInt8)} (h : Up l) (h' : Up l') (hm : ∀ x, x ∈ l ↔ x ∈ l') : l = l' :=
  List.Perm.eq_of_pairwise (le := fun a b => Op.bytesLess a b = true) (fun a b _ _ h1 h2 => by have := bl_asym h1; rw [h2] at this; cases this) h h' ((List.perm_ext_iff_of_nodup h.nodup h'.nodup).2 hm)

/-- v is a slice, laid at or above base, that holds the texts L -/
def OwnL (w : World) (base : Nat) (v : Value) (L : List (List UInt8)) : Prop := w.ownsRow base 9 1 v L.length (L.map encStr)

def tx (l : List UInt8) : ByteArray := ⟨l.toArray⟩

/-- the texts of L by their places -/
def atL (L : List (List UInt8)) (i : Nat) : ByteArray := tx (L.getD i [])

theorem OwnL.below {w w' : World} {base : Nat} {v : Value} {L : List (List UInt8)} (h : OwnL w base v L) (hB : Below w.heap.size w w') : OwnL w' base v L := ownsRow_below h hB

theorem OwnL.strs {w : World} {base : Nat} {v : Value} {L : List (List UInt8)} (h : OwnL w base v L) :
    ∃ a cap, v = .slice a L.length cap ∧ IsStrs w a L.length cap (atL L) ∧ ∀ b off, a = some ⟨b, off, none⟩ → base ≤ b := by
  obtain ⟨a, cap, rfl, hI⟩ := strs_of_own (S := atL L) h (fun i hi => by
    rw [List.getElem?_map]
    simp [atL, tx, encStr, List.getD, hi])
  refine ⟨a, cap, rfl, hI, fun b off e => ?_⟩
  subst e
  exact (h.lt b rfl).1

theorem mono_base {w : World} {base base' : Nat} {e : TypeId} {size : Nat} {v : Value} {n : Nat} {xs : List Value} (h : w.ownsRow base e size v n xs) (hb : base' ≤ base) : w.ownsRow base' e size v n xs := by
  obtain ⟨h1, h2⟩ := h
  refine ⟨h1, ?_⟩
  rcases h2 with h2 | ⟨g, cap, cur, hv, hg, r⟩
  · exact Or.inl h2
  · exact Or.inr ⟨g, cap, cur, hv, Nat.le_trans hb hg, r⟩


theorem atL_list (L : List (List UInt8)) (i : Nat) : (atL L i).toList = L.getD i [] := by
  rw [ByteArray.toList_eq]
  simp [atL, tx]

/-- L with one text more, at its place -/
def putL : List (List UInt8) → List UInt8 → List (List UInt8)
  | [], s => [s]
  | x :: l, s => if Op.bytesLess x s = true then x :: putL l s else if x = s then x :: l else s :: x :: l

theorem putL_mem (s y : List UInt8) : ∀ L, y ∈ putL L s ↔ y ∈ L ∨ y = s
  | [] => by simp [putL]
  | x :: l => by
    unfold putL
    split
    · rw [List.mem_cons, putL_mem s y l, List.mem_cons]
      constructor
      · rintro (h | h | h)
        · exact .inl (.inl h)
        · exact .inl (.inr h)
        · exact .inr h
      · rintro ((h | h) | h)
        · exact .inl h
        · exact .inr (.inl h)
        · exact .inr (.inr h)
    · split
      · rename_i h; subst h
        simp only [List.mem_cons]
        constructor
        · exact fun h => .inl h
        · rintro (h | h)
          · exact h
          · exact .inl h
      · simp only [List.mem_cons]
        constructor
        · rintro (h | h | h)
          · exact .inr h
          · exact .inl (.inl h)
          · exact .inl (.inr h)
        · rintro ((h | h) | h)
          · exact .inr (.inl h)
          · exact .inr (.inr h)
          · exact .inl h

theorem putL_up (s : List UInt8) : ∀ L, Up L → Up (putL L s)
  | [], _ => by simp [putL, Up]
  | x :: l, h => by
    obtain ⟨h1, h2⟩ := List.pairwise_cons.1 h
    unfold putL
    split
    · rename_i hx
      refine List.pairwise_cons.2 ⟨fun y hy => ?_, putL_up s l h2⟩
      rcases (putL_mem s y l).1 hy with h' | rfl
      · exact h1 y h'
      · exact hx
    · rename_i hx
      split
      · exact h
      · rename_i hne
        have hsx : Op.bytesLess s x = true := bl_tri _ _ (by simpa using hx) hne
        refine List.pairwise_cons.2 ⟨fun y hy => ?_, h⟩
        rcases List.mem_cons.1 hy with rfl | h'
        · exact hsx
        · exact bl_trans _ _ _ hsx (h1 y h')


/-- what putL is where the first k are less and the next is not -/
theorem putL_at (s : List UInt8) : ∀ (L : List (List UInt8)) (k : Nat), k ≤ L.length → (∀ i, i < k → Op.bytesLess (L.getD i []) s = true) → (k < L.length → Op.bytesLess (L.getD k []) s = false) →
    putL L s = if k < L.length ∧ L.getD k [] = s then L else L.take k ++ [s] ++ L.drop k
  | [], k, hk, _, _ => by
    obtain rfl : k = 0 := by simpa using hk
    simp [putL]
  | x :: l, 0, _, _, h0 => by
    have hx : Op.bytesLess x s = false := h0 (Nat.zero_lt_succ _)
    unfold putL
    rw [if_neg (by rw [hx]; decide)]
    by_cases e : x = s
    · rw [if_pos e, if_pos ⟨Nat.zero_lt_succ _, e⟩]
    · rw [if_neg e, if_neg (fun h => e h.2)]
      rfl
  | x :: l, k + 1, hk, hi, h0 => by
    have hx : Op.bytesLess x s = true := hi 0 (Nat.zero_lt_succ _)
    have ih := putL_at s l k (by simpa using hk) (fun i h => by simpa using hi (i + 1) (by omega)) (fun h => by simpa using h0 (by simp; omega))
    rw [show putL (x :: l) s = x :: putL l s by rw [putL, if_pos hx], ih]
    by_cases c : k < l.length ∧ l.getD k [] = s
    · rw [if_pos c, if_pos ⟨by simp; omega, by simpa using c.2⟩]
    · rw [if_neg c, if_neg (fun h => c ⟨by have := h.1; simp at this; omega, by simpa using h.2⟩)]
      simp

theorem ret_w {a b : Value} (h : a = b) : Ending.returned a = .returned b := by rw [h]

theorem enc_str (s : ByteArray) : encStr s.toList = .string s := by
  rw [ByteArray.toList_eq]

theorem add_at (b o j : Nat) : (⟨b, o, none⟩ : Addr).add j = ⟨b, o + j, none⟩ := by unfold Addr.add; split <;> simp_all


/-- the cells of L lie from place off of block b on -/
def Lies (w : World) (b off : Nat) (L : List (List UInt8)) : Prop := ∀ i, i < L.length → w.cell? ⟨b, off + i, none⟩ = some (encStr (L.getD i []))

theorem Lies.drop {w : World} {b off : Nat} {L : List (List UInt8)} (h : Lies w b off L) (k : Nat) : Lies w b (off + k) (L.drop k) := by
  intro i hi
  rw [List.length_drop] at hi
  have := h (k + i) (by omega)
  rw [Nat.add_assoc, this]
  simp [List.getD_eq_getElem?_getD, List.getElem?_drop]

theorem Lies.take {w : World} {b off : Nat} {L : List (List UInt8)} (h : Lies w b off L) (k : Nat) : Lies w b off (L.take k) := by
  intro i hi
  rw [List.length_take] at hi
  rw [h i (by omega)]
  simp [List.getD_eq_getElem?_getD, show i < k by omega]

theorem Lies.news {w : World} {b off : Nat} {L : List (List UInt8)} (h : Lies w b off L) : ∀ j u, (L.map encStr)[j]? = some u → w.cell? ((⟨b, off, none⟩ : Addr).add j) = some u := by
  intro j u hu
  rw [List.getElem?_map, Option.map_eq_some_iff] at hu
  obtain ⟨x, hx, rfl⟩ := hu
  have hj : j < L.length := (List.getElem?_eq_some_iff.1 hx).1
  rw [add_at, h j hj, List.getD_eq_getElem?_getD, hx]
  rfl

theorem Lies.below {w w' : World} {b off : Nat} {L : List (List UInt8)} (h : Lies w b off L) (hb : b < w.heap.size) (hB : Below w.heap.size w w') : Lies w' b off L := fun i hi => (hB.cell (p := ⟨b, off + i, none⟩) hb).trans (h i hi)

theorem one_enc (L : List (List UInt8)) : ∀ u ∈ L.map encStr, u.oneCell' = true := by
  intro u hu
  obtain ⟨x, _, rfl⟩ := List.mem_map.1 hu
  rfl


/-- a slice that is not nil, laid at or above base, that holds the texts L -/
def OwnS (w : World) (base g cap : Nat) (L : List (List UInt8)) : Prop := w.ownsRow base 9 1 (.slice (some ⟨g, 0, none⟩) L.length cap) L.length (L.map encStr)

theorem OwnS.below {w w' : World} {base g cap : Nat} {L : List (List UInt8)} (h : OwnS w base g cap L) (hB : Below w.heap.size w w') : OwnS w' base g cap L := ownsRow_below h hB

theorem OwnS.lies {w : World} {base g cap : Nat} {L : List (List UInt8)} (h : OwnS w base g cap L) : Lies w g 0 L ∧ g < w.heap.size ∧ base ≤ g := by
  refine ⟨fun i hi => ?_, own_live h, (h.lt g rfl).1⟩
  rw [Nat.zero_add, h.cellAt i (by omega), List.getElem?_map, List.getD_eq_getElem?_getD, List.getElem?_eq_getElem hi]
  rfl

theorem OwnS.caps {w : World} {base g cap : Nat} {L : List (List UInt8)} (h : OwnS w base g cap L) : L.length ≤ cap ∧ cap ≤ 9223372036854775807 := by
  rcases h.2 with ⟨h', _⟩ | ⟨g', cap', cur, h', _, _, hnc, hcm, _⟩
  · simp at h'
  · simp only [Value.slice.injEq, Option.some.injEq, Addr.mk.injEq, and_true, true_and] at h'
    obtain ⟨rfl, rfl⟩ := h'
    unfold maxLen at hcm
    exact ⟨hnc, by omega⟩

theorem OwnS.strs {w : World} {base g cap : Nat} {L : List (List UInt8)} (h : OwnS w base g cap L) : IsStrs w (some ⟨g, 0, none⟩) L.length cap (atL L) := by
  obtain ⟨h1, h2, h3⟩ := h.lies
  refine ⟨h.caps.1, h.caps.2, fun _ => ⟨g, 0, rfl, h2, fun i hi => ?_⟩⟩
  rw [h1 i hi]
  rfl

theorem own_form {w : World} {base : Nat} {v : Value} {n : Nat} {L : List (List UInt8)} {xs : List Value} (h : w.ownsRow base 9 1 v n xs) (hn : n = L.length) (hx : xs = L.map encStr) (hv : v ≠ .slice none 0 0) : ∃ g cap, v = .slice (some ⟨g, 0, none⟩) L.length cap ∧ OwnS w base g cap L := by
  subst hn
  subst hx
  rcases h.2 with ⟨h', _⟩ | ⟨g, cap, cur, rfl, _⟩
  · exact absurd h' hv
  · exact ⟨g, cap, rfl, h⟩


set_option maxHeartbeats 2000000 in
theorem l1Put_any (b off cap : Nat) (L : List (List UInt8)) (s : ByteArray) (w : World) (h : Lies w b off L) (hb : b < w.heap.size) (hl : L.length ≤ cap) (hc : cap ≤ 9223372036854775807) (h1 : L.length ≤ 2000000) :
    Calls Tryz.prog 51 #[.slice (some ⟨b, off, none⟩) L.length cap, .string s] w fun e w' => ∃ g gc, e = .returned (.slice (some ⟨g, 0, none⟩) (putL L s.toList).length gc) ∧ OwnS w' w.heap.size g gc (putL L s.toList) ∧ Below w.heap.size w w' := by
  obtain ⟨i0, hi, hz0, hz1, hz2⟩ := info_parts info9
  obtain ⟨n, hn⟩ : ∃ n, n = L.length := ⟨_, rfl⟩
  have HL : Hid (Lies w b off L) := h
  rw [← hn] at hl h1 ⊢
  have cel : ∀ i, i < n → w.cell? ⟨b, off + i, none⟩ = some (.string (atL L i)) := fun i hi => h i (by omega)
  have HC : Hid (∀ i, i < n → w.cell? ⟨b, off + i, none⟩ = some (.string (atL L i))) := cel
  have HN : Hid (n = L.length) := hn
  clear h cel hn
  go_enter Tryz.func51, Tryz.ntmps51
  go_wp2
  go_loop [5] (fun i => ∃ (k : Nat), k ≤ n ∧ i = .int .i64 k ∧ Hid (∀ j, j < k → Op.bytesLess (L.getD j []) s.toList = true)) (fun i => n - (intOf i).toNat)
  case atStart => exact ⟨0, Nat.zero_le _, rfl, fun j hj => absurd hj (Nat.not_lt_zero _)⟩
  case round =>
    obtain ⟨k, hk, rfl, HR⟩ := hrel
    by_cases hlt : k < n
    · have d1 := HC.out k hlt
      have hltI : (k : Int) < (n : Int) := by omega
      cases hq : Op.bytesLess (atL L k).toList s.toList with
      | true =>
        have HR' : Hid (∀ j, j < k + 1 → Op.bytesLess (L.getD j []) s.toList = true) := by
          intro j hj
          rcases Nat.lt_succ_iff_lt_or_eq.1 hj with h1 | rfl
          · exact HR.out j h1
          · rw [← atL_list]; exact hq
        go_wp2
        go_round
        case rel => exact ⟨k + 1, by omega, by go_num, HR'⟩
        case measure => simp [intOf]; omega
      | false =>
        have hn := HN.out
        have hat := putL_at s.toList L k (by omega) HR.out (fun _ => by rw [← atL_list]; exact hq)
        cases he : ((atL L k).toList == s.toList) with
        | true =>
          have hp : putL L s.toList = L := by
            rw [hat, if_pos ⟨by omega, by rw [← atL_list]; exact eq_of_beq he⟩]
          have HP : Hid (putL L s.toList = L) := hp
          have hc1 : 0 + n ≤ maxLen := by unfold maxLen; omega
          have hc2 : (0 + n) * 16 ≤ 140737488355328 := by omega
          have HW : Hid (Lies (w.alloc (.cells #[] 9)) b off L) := HL.out.below hb ((Below.refl _ _).alloc (Nat.le_refl _) _)
          clear hp hat hn
          go_wp2_with (at_builtin; refine wpList_append_own _ rfl _ _ 23 rfl w.heap.size 9 i0 (.string ⟨#[]⟩) 1 16 Tryz.underlying23 hi hz0 hz1 hz2 rfl (by decide) _ 0 [] rfl (World.ownsRow_made w #[] 0 (Nat.le_refl _) (by decide) rfl) ⟨b, off, none⟩ n cap (L.map encStr) rfl (by rw [List.length_map, ← HN.out, Nat.mul_one]) HW.out.news (one_enc L) hc1 hc2 (by simp) ?_; intro v' w3 hown hgrow hnil)
          have hf := own_form hown (L := L) (by rw [← HN.out, Nat.zero_add]) (List.nil_append _) (fun e => by have := (hnil.1 e).1; cases this)
          obtain ⟨g, gc, rfl, hf⟩ := hf
          have HF : Hid (OwnS w3 w.heap.size g gc L ∧ Below w.heap.size w w3) := ⟨hf, ((Below.refl _ _).alloc (Nat.le_refl _) _).grown hgrow (by simp) (fun x hx => by have hx' : some w.heap.size = some x := hx; cases hx'; exact Nat.le_refl _)⟩
          clear hown hgrow hnil hf
          go_wp2
          go_ret
          refine ⟨g, gc, ?_, ?_, HF.out.2⟩
          · exact ret_w (by rw [HP.out]; rfl)
          · rw [HP.out]; exact HF.out.1
        | false =>
          have hp : putL L s.toList = L.take k ++ [s.toList] ++ L.drop k := by
            rw [hat, if_neg (fun h => by have h2 := h.2; rw [← atL_list] at h2; rw [h2] at he; simp at he)]
          have HP : Hid (putL L s.toList = L.take k ++ [s.toList] ++ L.drop k) := hp
          have hkl : (L.take k).length = k := by rw [List.length_take]; omega
          have hdl : (L.drop k).length = n - k := by rw [List.length_drop]; omega
          have HKL : Hid ((L.take k).length = k ∧ (L.drop k).length = n - k) := ⟨hkl, hdl⟩
          have hc1 : Hid (0 + k ≤ maxLen) := by show _ ≤ _; unfold maxLen; omega
          have hc2 : Hid ((0 + k) * 16 ≤ 140737488355328) := by show _ ≤ _; omega
          have hc3 : Hid (k + 1 ≤ maxLen) := by show _ ≤ _; unfold maxLen; omega
          have hc4 : Hid ((k + 1) * 16 ≤ 140737488355328) := by show _ ≤ _; omega
          have hc5 : Hid (k + 1 + (n - k) ≤ maxLen) := by show _ ≤ _; unfold maxLen; omega
          have hc6 : Hid ((k + 1 + (n - k)) * 16 ≤ 140737488355328) := by show _ ≤ _; omega
          have HW : Hid (Lies (w.alloc (.cells #[] 9)) b off (L.take k)) := (HL.out.below hb ((Below.refl _ _).alloc (Nat.le_refl _) _)).take k
          clear hp hn hkl hdl
          clear hat
          go_wp2_with (first
            | (at_builtin
               refine wpList_append_own _ rfl _ _ 23 rfl w.heap.size 9 i0 (.string ⟨#[]⟩) 1 16 Tryz.underlying23 hi hz0 hz1 hz2 rfl (by decide) _ 0 [] rfl (World.ownsRow_made w #[] 0 (Nat.le_refl _) (by decide) rfl) ⟨b, off, none⟩ k cap ((L.take k).map encStr) rfl (by rw [List.length_map, HKL.out.1, Nat.mul_one]) HW.out.news (one_enc _) hc1.out hc2.out (by simp) ?_
               intro v' w3 hown hgrow hnil
               obtain ⟨g, gc, rfl, hf⟩ := own_form hown (L := L.take k) (by rw [HKL.out.1, Nat.zero_add]) (List.nil_append _) (fun e => by have := (hnil.1 e).1; cases this)
               have hB3 : Below w.heap.size w w3 := ((Below.refl _ _).alloc (Nat.le_refl _) _).grown hgrow (by simp) (fun x hx => by have hx' : some w.heap.size = some x := hx; cases hx'; exact Nat.le_refl _)
               rw [HKL.out.1]
               have HO3 : Hid (w3.ownsRow w.heap.size 9 1 (.slice (some ⟨g, 0, none⟩) k gc) k ((L.take k).map encStr)) := by
                 have := hf
                 unfold OwnS at this
                 rw [HKL.out.1] at this
                 exact this
               have HB3 : Hid (Below w.heap.size w w3) := hB3
               clear hown hgrow hnil hf hB3)
            | (at_builtin
               refine wpList_append_own _ rfl _ _ 23 rfl w.heap.size 9 i0 (.string ⟨#[]⟩) 1 16 Tryz.underlying23 hi hz0 hz1 hz2 rfl (by decide) _ k _ rfl (HO3.out.alloc _) ⟨w3.heap.size, 0, none⟩ 1 1 [.string s] rfl rfl (World.news_of_block (heap_alloc_new _ _)) (fun u hu => by simp at hu; subst hu; rfl) hc3.out hc4.out (by have := HB3.out.size; simp; omega) ?_
               intro v4 w4 hown4 hgrow4 hnil4
               have hB4 : Below w.heap.size w w4 := (HB3.out.alloc HB3.out.size _).grown hgrow4 (by have := HB3.out.size; simp; omega) (fun x hx => by have := (HO3.out.lt x hx).1; exact this)
               obtain ⟨g4, gc4, rfl, hf4⟩ := own_form hown4 (L := L.take k ++ [s.toList]) (by rw [List.length_append, HKL.out.1]; rfl) (by rw [List.map_append, List.map_cons, List.map_nil, enc_str]) (fun e => by have := (hnil4.1 e).1; cases this)
               have hl4 : (L.take k ++ [s.toList]).length = k + 1 := by rw [List.length_append, HKL.out.1]; rfl
               rw [hl4]
               have HO4 : Hid (w4.ownsRow w.heap.size 9 1 (.slice (some ⟨g4, 0, none⟩) (k + 1) gc4) (k + 1) ((L.take k ++ [s.toList]).map encStr)) := by
                 have := hf4
                 unfold OwnS at this
                 rw [hl4] at this
                 exact this
               have HB4 : Hid (Below w.heap.size w w4) := hB4
               have HW4 : Hid (Lies w4 b (off + k) (L.drop k)) := (fun i hi => (hB4.cell (p := ⟨b, off + k + i, none⟩) hb).trans (HL.out.drop k i hi))
               clear hown4 hgrow4 hnil4 hf4 hB4 hl4)
            | (at_builtin
               refine wpList_append_own _ rfl _ _ 23 rfl w.heap.size 9 i0 (.string ⟨#[]⟩) 1 16 Tryz.underlying23 hi hz0 hz1 hz2 rfl (by decide) _ (k + 1) _ rfl HO4.out ⟨b, off + k, none⟩ (n - k) (cap - k) ((L.drop k).map encStr) rfl (by rw [List.length_map, HKL.out.2, Nat.mul_one]) HW4.out.news (one_enc _) hc5.out hc6.out HB4.out.size ?_
               intro v5 w5 hown5 hgrow5 hnil5
               have hB5 : Below w.heap.size w w5 := HB4.out.grown hgrow5 HB4.out.size (fun x hx => by have := (HO4.out.lt x hx).1; exact this)
               obtain ⟨g5, gc5, rfl, hf5⟩ := own_form hown5 (L := putL L s.toList) (by rw [HP.out, List.length_append, List.length_append, HKL.out.1, HKL.out.2]; rfl) (by rw [HP.out, List.map_append (l₂ := L.drop k)]) (fun e => by have := (hnil5.1 e).1; cases this)
               have HF : Hid (OwnS w5 w.heap.size g5 gc5 (putL L s.toList) ∧ Below w.heap.size w w5) := ⟨hf5, hB5⟩
               clear hown5 hgrow5 hnil5 hf5 hB5))
          go_wp2
          go_ret
          exact ⟨g5, gc5, rfl, HF.out.1, HF.out.2⟩
    · have hke : k = n := by omega
      subst hke
      have hn := HN.out
      have hp : putL L s.toList = L.take k ++ [s.toList] := by
        rw [putL_at s.toList L k (by omega) HR.out (fun h => by omega), if_neg (fun h => by omega), List.drop_eq_nil_of_le (by omega), List.append_nil]
      have HP : Hid (putL L s.toList = L.take k ++ [s.toList]) := hp
      have hkl : (L.take k).length = k := by rw [List.length_take]; omega
      have hdl : (L.drop k).length = 0 := by rw [List.length_drop]; omega
      have HKL : Hid ((L.take k).length = k ∧ (L.drop k).length = 0) := ⟨hkl, hdl⟩
      have hc1 : Hid (0 + k ≤ maxLen) := by show _ ≤ _; unfold maxLen; omega
      have hc2 : Hid ((0 + k) * 16 ≤ 140737488355328) := by show _ ≤ _; omega
      have hc3 : Hid (k + 1 ≤ maxLen) := by show _ ≤ _; unfold maxLen; omega
      have hc4 : Hid ((k + 1) * 16 ≤ 140737488355328) := by show _ ≤ _; omega
      have hc5 : Hid (k + 1 + 0 ≤ maxLen) := by show _ ≤ _; unfold maxLen; omega
      have hc6 : Hid ((k + 1 + 0) * 16 ≤ 140737488355328) := by show _ ≤ _; omega
      have HW : Hid (Lies (w.alloc (.cells #[] 9)) b off (L.take k)) := (HL.out.below hb ((Below.refl _ _).alloc (Nat.le_refl _) _)).take k
      clear hp hn hkl hdl
      by_cases hcap : cap = k
      · have hkc : k = cap := hcap.symm
        clear hcap
        subst hkc
        go_wp2_with (first
          | (at_builtin
             refine wpList_append_own _ rfl _ _ 23 rfl w.heap.size 9 i0 (.string ⟨#[]⟩) 1 16 Tryz.underlying23 hi hz0 hz1 hz2 rfl (by decide) _ 0 [] rfl (World.ownsRow_made w #[] 0 (Nat.le_refl _) (by decide) rfl) ⟨b, off, none⟩ k k ((L.take k).map encStr) rfl (by rw [List.length_map, HKL.out.1, Nat.mul_one]) HW.out.news (one_enc _) hc1.out hc2.out (by simp) ?_
             intro v' w3 hown hgrow hnil
             obtain ⟨g, gc, rfl, hf⟩ := own_form hown (L := L.take k) (by rw [HKL.out.1, Nat.zero_add]) (List.nil_append _) (fun e => by have := (hnil.1 e).1; cases this)
             have hB3 : Below w.heap.size w w3 := ((Below.refl _ _).alloc (Nat.le_refl _) _).grown hgrow (by simp) (fun x hx => by have hx' : some w.heap.size = some x := hx; cases hx'; exact Nat.le_refl _)
             rw [HKL.out.1]
             have HO3 : Hid (w3.ownsRow w.heap.size 9 1 (.slice (some ⟨g, 0, none⟩) k gc) k ((L.take k).map encStr)) := by
               have := hf
               unfold OwnS at this
               rw [HKL.out.1] at this
               exact this
             have HB3 : Hid (Below w.heap.size w w3) := hB3
             clear hown hgrow hnil hf hB3)
          | (at_builtin
             refine wpList_append_own _ rfl _ _ 23 rfl w.heap.size 9 i0 (.string ⟨#[]⟩) 1 16 Tryz.underlying23 hi hz0 hz1 hz2 rfl (by decide) _ k _ rfl (HO3.out.alloc _) ⟨w3.heap.size, 0, none⟩ 1 1 [.string s] rfl rfl (World.news_of_block (heap_alloc_new _ _)) (fun u hu => by simp at hu; subst hu; rfl) hc3.out hc4.out (by have := HB3.out.size; simp; omega) ?_
             intro v4 w4 hown4 hgrow4 hnil4
             have hB4 : Below w.heap.size w w4 := (HB3.out.alloc HB3.out.size _).grown hgrow4 (by have := HB3.out.size; simp; omega) (fun x hx => by have := (HO3.out.lt x hx).1; exact this)
             obtain ⟨g4, gc4, rfl, hf4⟩ := own_form hown4 (L := L.take k ++ [s.toList]) (by rw [List.length_append, HKL.out.1]; rfl) (by rw [List.map_append, List.map_cons, List.map_nil, enc_str]) (fun e => by have := (hnil4.1 e).1; cases this)
             have hl4 : (L.take k ++ [s.toList]).length = k + 1 := by rw [List.length_append, HKL.out.1]; rfl
             rw [hl4]
             have HO4 : Hid (w4.ownsRow w.heap.size 9 1 (.slice (some ⟨g4, 0, none⟩) (k + 1) gc4) (k + 1) ((L.take k ++ [s.toList]).map encStr)) := by
               have := hf4
               unfold OwnS at this
               rw [hl4] at this
               exact this
             have HB4 : Hid (Below w.heap.size w w4) := hB4
             have HW4 : Hid (Lies w4 b (off + k) (L.drop k)) := (fun i hi => (hB4.cell (p := ⟨b, off + k + i, none⟩) hb).trans (HL.out.drop k i hi))
             clear hown4 hgrow4 hnil4 hf4 hB4 hl4)
          | (at_builtin
             first | refine wpList_append_own _ rfl _ _ 23 rfl w.heap.size 9 i0 (.string ⟨#[]⟩) 1 16 Tryz.underlying23 hi hz0 hz1 hz2 rfl (by decide) _ (k + 1) _ rfl HO4.out ⟨b, off, none⟩ 0 _ [] rfl rfl (fun j u hu => by simp at hu) (fun u hu => by simp at hu) hc5.out hc6.out HB4.out.size ?_ | refine wpList_append_own _ rfl _ _ 23 rfl w.heap.size 9 i0 (.string ⟨#[]⟩) 1 16 Tryz.underlying23 hi hz0 hz1 hz2 rfl (by decide) _ (k + 1) _ rfl HO4.out ⟨b, off + k, none⟩ 0 _ [] rfl rfl (fun j u hu => by simp at hu) (fun u hu => by simp at hu) hc5.out hc6.out HB4.out.size ?_
             intro v5 w5 hown5 hgrow5 hnil5
             have hB5 : Below w.heap.size w w5 := HB4.out.grown hgrow5 HB4.out.size (fun x hx => by have := (HO4.out.lt x hx).1; exact this)
             obtain ⟨g5, gc5, rfl, hf5⟩ := own_form hown5 (L := putL L s.toList) (by rw [HP.out, List.length_append, HKL.out.1]; rfl) (by rw [HP.out]; exact List.append_nil _) (fun e => by have := (hnil5.1 e).1; cases this)
             have HF : Hid (OwnS w5 w.heap.size g5 gc5 (putL L s.toList) ∧ Below w.heap.size w w5) := ⟨hf5, hB5⟩
             clear hown5 hgrow5 hnil5 hf5 hB5))
        go_wp2
        go_ret
        exact ⟨g5, gc5, rfl, HF.out.1, HF.out.2⟩
      · skip
        go_wp2_with (first
          | (at_builtin
             refine wpList_append_own _ rfl _ _ 23 rfl w.heap.size 9 i0 (.string ⟨#[]⟩) 1 16 Tryz.underlying23 hi hz0 hz1 hz2 rfl (by decide) _ 0 [] rfl (World.ownsRow_made w #[] 0 (Nat.le_refl _) (by decide) rfl) ⟨b, off, none⟩ k cap ((L.take k).map encStr) rfl (by rw [List.length_map, HKL.out.1, Nat.mul_one]) HW.out.news (one_enc _) hc1.out hc2.out (by simp) ?_
             intro v' w3 hown hgrow hnil
             obtain ⟨g, gc, rfl, hf⟩ := own_form hown (L := L.take k) (by rw [HKL.out.1, Nat.zero_add]) (List.nil_append _) (fun e => by have := (hnil.1 e).1; cases this)
             have hB3 : Below w.heap.size w w3 := ((Below.refl _ _).alloc (Nat.le_refl _) _).grown hgrow (by simp) (fun x hx => by have hx' : some w.heap.size = some x := hx; cases hx'; exact Nat.le_refl _)
             rw [HKL.out.1]
             have HO3 : Hid (w3.ownsRow w.heap.size 9 1 (.slice (some ⟨g, 0, none⟩) k gc) k ((L.take k).map encStr)) := by
               have := hf
               unfold OwnS at this
               rw [HKL.out.1] at this
               exact this
             have HB3 : Hid (Below w.heap.size w w3) := hB3
             clear hown hgrow hnil hf hB3)
          | (at_builtin
             refine wpList_append_own _ rfl _ _ 23 rfl w.heap.size 9 i0 (.string ⟨#[]⟩) 1 16 Tryz.underlying23 hi hz0 hz1 hz2 rfl (by decide) _ k _ rfl (HO3.out.alloc _) ⟨w3.heap.size, 0, none⟩ 1 1 [.string s] rfl rfl (World.news_of_block (heap_alloc_new _ _)) (fun u hu => by simp at hu; subst hu; rfl) hc3.out hc4.out (by have := HB3.out.size; simp; omega) ?_
             intro v4 w4 hown4 hgrow4 hnil4
             have hB4 : Below w.heap.size w w4 := (HB3.out.alloc HB3.out.size _).grown hgrow4 (by have := HB3.out.size; simp; omega) (fun x hx => by have := (HO3.out.lt x hx).1; exact this)
             obtain ⟨g4, gc4, rfl, hf4⟩ := own_form hown4 (L := L.take k ++ [s.toList]) (by rw [List.length_append, HKL.out.1]; rfl) (by rw [List.map_append, List.map_cons, List.map_nil, enc_str]) (fun e => by have := (hnil4.1 e).1; cases this)
             have hl4 : (L.take k ++ [s.toList]).length = k + 1 := by rw [List.length_append, HKL.out.1]; rfl
             rw [hl4]
             have HO4 : Hid (w4.ownsRow w.heap.size 9 1 (.slice (some ⟨g4, 0, none⟩) (k + 1) gc4) (k + 1) ((L.take k ++ [s.toList]).map encStr)) := by
               have := hf4
               unfold OwnS at this
               rw [hl4] at this
               exact this
             have HB4 : Hid (Below w.heap.size w w4) := hB4
             have HW4 : Hid (Lies w4 b (off + k) (L.drop k)) := (fun i hi => (hB4.cell (p := ⟨b, off + k + i, none⟩) hb).trans (HL.out.drop k i hi))
             clear hown4 hgrow4 hnil4 hf4 hB4 hl4)
          | (at_builtin
             first | refine wpList_append_own _ rfl _ _ 23 rfl w.heap.size 9 i0 (.string ⟨#[]⟩) 1 16 Tryz.underlying23 hi hz0 hz1 hz2 rfl (by decide) _ (k + 1) _ rfl HO4.out ⟨b, off, none⟩ 0 _ [] rfl rfl (fun j u hu => by simp at hu) (fun u hu => by simp at hu) hc5.out hc6.out HB4.out.size ?_ | refine wpList_append_own _ rfl _ _ 23 rfl w.heap.size 9 i0 (.string ⟨#[]⟩) 1 16 Tryz.underlying23 hi hz0 hz1 hz2 rfl (by decide) _ (k + 1) _ rfl HO4.out ⟨b, off + k, none⟩ 0 _ [] rfl rfl (fun j u hu => by simp at hu) (fun u hu => by simp at hu) hc5.out hc6.out HB4.out.size ?_
             intro v5 w5 hown5 hgrow5 hnil5
             have hB5 : Below w.heap.size w w5 := HB4.out.grown hgrow5 HB4.out.size (fun x hx => by have := (HO4.out.lt x hx).1; exact this)
             obtain ⟨g5, gc5, rfl, hf5⟩ := own_form hown5 (L := putL L s.toList) (by rw [HP.out, List.length_append, HKL.out.1]; rfl) (by rw [HP.out]; exact List.append_nil _) (fun e => by have := (hnil5.1 e).1; cases this)
             have HF : Hid (OwnS w5 w.heap.size g5 gc5 (putL L s.toList) ∧ Below w.heap.size w w5) := ⟨hf5, hB5⟩
             clear hown5 hgrow5 hnil5 hf5 hB5))
        go_wp2
        go_ret
        exact ⟨g5, gc5, rfl, HF.out.1, HF.out.2⟩

theorem OwnL.strs2 {w : World} {base : Nat} {v : Value} {L : List (List UInt8)} (h : OwnL w base v L) :
    ∃ a cap, v = .slice a L.length cap ∧ IsStrs w a L.length cap (atL L) ∧ ∀ b off, a = some ⟨b, off, none⟩ → base ≤ b ∧ b < w.heap.size := by
  obtain ⟨a, cap, rfl, hI, hb⟩ := h.strs
  refine ⟨a, cap, rfl, hI, fun b off e => ⟨hb b off e, ?_⟩⟩
  subst e
  exact (h.lt b rfl).2

theorem OwnL.kept {p : Nat → Prop} {w w' : World} {base : Nat} {v : Value} {L : List (List UInt8)} (h : OwnL w base v L) (hK : Kept p w w') (hp : ∀ b, base ≤ b → p b) : OwnL w' base v L := by
  obtain ⟨h1, h2⟩ := h
  refine ⟨h1, ?_⟩
  rcases h2 with h2 | ⟨g, cap, cur, hv, hg, hh, r⟩
  · exact Or.inl h2
  · exact Or.inr ⟨g, cap, cur, hv, hg, (hK.block g (lt_of_block hh) (hp g hg)).trans hh, r⟩
end Go.Proofs.YtcolcnkjcagbaaaGreatDoor
