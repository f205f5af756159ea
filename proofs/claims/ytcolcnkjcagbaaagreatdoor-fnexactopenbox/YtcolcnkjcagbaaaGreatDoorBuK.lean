/-
  The specification's WrapsOf: each epoch's key sealed by each member's key, rising. No condition but that the slices read.
  What can be made, plainly: it gives nothing more to who learns it; and what is known behind a learning. No condition.
  KeysOf, plainly: all texts that are known or wraps, rising; what is known among them. No condition.
  The specification's KeysOf. No condition but that the slices read.
-/
import Derived.Test.YtcolcnkjcagbaaaGreatDoorBuP
import Derived.Test.YtcolcnkjcagbaaaGreatDoorBuC
import Derived.Test.YtcolcnkjcagbaaaGreatDoorBuL
namespace Go.Proofs.YtcolcnkjcagbaaaGreatDoor
open Go.RowKit Go.Maps
set_option linter.unusedVariables false

/-- an epoch's key sealed by a member's -/
def wrapT (p : Int × Int) : Tr := sealT p.1.toNat (keyT p.2.toNat)
/-- the wraps' texts, rising -/
def wrL (ps : List (Int × Int)) : List (List UInt8) := ps.foldl (fun acc p => putL acc (wrapT p).txt.toList) []
theorem wrL_add (ps : List (Int × Int)) (p : Int × Int) : wrL (ps ++ [p]) = putL (wrL ps) (wrapT p).txt.toList := by unfold wrL; rw [List.foldl_append]; rfl
theorem wrL_mem (x : List UInt8) : ∀ ps : List (Int × Int), x ∈ wrL ps ↔ ∃ p, p ∈ ps ∧ (wrapT p).txt.toList = x := by
  intro ps
  have key : ∀ (ps : List (Int × Int)) (acc : List (List UInt8)), x ∈ ps.foldl (fun acc p => putL acc (wrapT p).txt.toList) acc ↔ x ∈ acc ∨ ∃ p, p ∈ ps ∧ (wrapT p).txt.toList = x := by
    intro ps
    induction ps with
    | nil => intro acc; simp
    | cons q qs ih =>
      intro acc
      rw [List.foldl_cons, ih, putL_mem]
      constructor
      · rintro ((h | h) | ⟨p, h1, h2⟩)
        · exact .inl h
        · exact .inr ⟨q, by simp, h.symm⟩
        · exact .inr ⟨p, List.mem_cons_of_mem _ h1, h2⟩
      · rintro (h | ⟨p, h1, h2⟩)
        · exact .inl (.inl h)
        · rcases List.mem_cons.1 h1 with rfl | h3
          · exact .inl (.inr h2.symm)
          · exact .inr ⟨p, h3, h2⟩
  rw [wrL, key]
  simp

theorem wp_letterK {c : Code} {P : Program} {Q : Exit → Act → World → Prop} {a : Act} {w : World} (h : ∀ a', a' = a → c.wp P Q a' w) : c.wp P Q a w := h a rfl
theorem q_addK (ev : Operand → Value) (o : Oper) (w : World) (x y : Operand) (a b : ByteArray) (h : o.op = .binOp .add 9 x y 9) (hx : ev x = .string a) (hy : ev y = .string b) (hs : a.size + b.size ≤ 1000000) : (execOp ev o).run Tryz.prog w = .ok (.value (.string (a ++ b))) w := by
  have ha := add_ok hs w
  simp [execOp, h, hx, hy]
  go_simp
  omega
theorem q_call1K (ev : Operand → Value) (o : Oper) (w : World) (f : FuncId) (he : ∀ args w, (callFunc f args).run Tryz.prog w = .ok (.enter f args) w) (x : Operand) (ts : Array TypeId) (h : o.op = .call { callee := .value (.func f), args := #[x], argTypes := ts }) (hf : ev (.func f) = .func (.func f) #[] #[]) : (execOp ev o).run Tryz.prog w = .ok (.enter f #[ev x]) w := by
  simp [execOp, h, resolve, invoke, hf, Deferred.ofValue, he]
theorem q_idxE (ev : Operand → Value) (o : Oper) (w : World) (x y : Operand) (b off len cap k : Nat) (h : o.op = .indexAddr 31 x y) (hx : ev x = .slice (some ⟨b, off, none⟩) len cap) (hy : ev y = .int .i64 k) (hk : k < len) : (execOp ev o).run Tryz.prog w = .ok (.value (.pointer (some ⟨b, off + k * 2, none⟩))) w := by
  have hkI : (k : Int) < (len : Int) := by omega
  simp [execOp, h, hx, hy]
  go_simp
theorem q_idxI (ev : Operand → Value) (o : Oper) (w : World) (x y : Operand) (b off len cap k : Nat) (h : o.op = .indexAddr 45 x y) (hx : ev x = .slice (some ⟨b, off, none⟩) len cap) (hy : ev y = .int .i64 k) (hk : k < len) : (execOp ev o).run Tryz.prog w = .ok (.value (.pointer (some ⟨b, off + k, none⟩))) w := by
  have hkI : (k : Int) < (len : Int) := by omega
  simp [execOp, h, hx, hy]
  go_simp
theorem q_fld0 (ev : Operand → Value) (o : Oper) (w : World) (x : Operand) (b k : Nat) (h : o.op = .fieldAddr 62 x 0) (hx : ev x = .pointer (some ⟨b, k, none⟩)) : (execOp ev o).run Tryz.prog w = .ok (.value (.pointer (some ⟨b, k, none⟩))) w := by
  simp [execOp, h, hx]
  go_simp
theorem q_fld1 (ev : Operand → Value) (o : Oper) (w : World) (x : Operand) (b k : Nat) (h : o.op = .fieldAddr 62 x 1) (hx : ev x = .pointer (some ⟨b, k, none⟩)) : (execOp ev o).run Tryz.prog w = .ok (.value (.pointer (some ⟨b, k + 1, none⟩))) w := by
  simp [execOp, h, hx]
  go_simp
theorem q_loadK (ev : Operand → Value) (o : Oper) (w : World) (x : Operand) (a : Addr) (v : Value) (h : o.op = .load 2 x ∨ o.op = .load 45 x) (hx : ev x = .pointer (some a)) (hv : w.cell? a = some v) : (execOp ev o).run Tryz.prog w = .ok (.value v) w := by
  rcases h with h | h
  · simp [execOp, h, hx]
    go_simp
  · simp [execOp, h, hx]
    go_simp
def dsK : List Nat := [27, 28, 29, 30, 31, 32, 33, 34, 35, 36, 37, 38, 39, 40, 41, 42, 43, 44, 45, 46, 47, 3]
def slotK (j : Nat) : Nat := dsK.getD j 0
theorem slotK_inj (i j : Nat) (hi : i < 22) (hj : j < 22) (q : slotK i = slotK j) : i = j := by
  have h : ∀ i : Fin 22, ∀ j : Fin 22, slotK i.val = slotK j.val → i.val = j.val := by decide
  exact h ⟨i, hi⟩ ⟨j, hj⟩ q
theorem slotK_mem (i : Nat) (hi : i < 22) : slotK i ∈ dsK := by
  have h : ∀ i : Fin 22, slotK i.val ∈ dsK := by decide
  exact h ⟨i, hi⟩
def wrapB (n m : Nat) : ByteArray := (((⟨#[101, 40, 107]⟩ ++ decB n) ++ ⟨#[44, 107]⟩) ++ decB m) ++ ⟨#[41]⟩
/-- of the values of the region -/
def KF (base g c : Nat) (Lc : List (List UInt8)) (b off len cap i b2 off2 li ci j n m : Nat) : Nat → Value → World → Prop
  | 0, v, _ => v = .slice (some ⟨g, 0, none⟩) Lc.length c
  | 1, v, _ => v = .slice (some ⟨b, off, none⟩) len cap
  | 2, v, _ => v = .int .i64 i
  | 3, v, _ => v = .pointer (some ⟨b, off + i * 2, none⟩)
  | 4, v, _ => v = .pointer (some ⟨b, off + i * 2 + 1, none⟩)
  | 5, v, _ => v = .slice (some ⟨b2, off2, none⟩) li ci
  | 6, v, _ => v = .int .i64 j
  | 7, v, _ => v = .pointer (some ⟨b2, off2 + j, none⟩)
  | 8, v, _ => v = .int .i64 n
  | 9, v, _ => v = .string (decB n)
  | 10, v, _ => v = .string (⟨#[101, 40, 107]⟩ ++ decB n)
  | 11, v, _ => v = .string ((⟨#[101, 40, 107]⟩ ++ decB n) ++ ⟨#[44, 107]⟩)
  | 12, v, _ => v = .slice (some ⟨b, off, none⟩) len cap
  | 13, v, _ => v = .int .i64 i
  | 14, v, _ => v = .pointer (some ⟨b, off + i * 2, none⟩)
  | 15, v, _ => v = .pointer (some ⟨b, off + i * 2, none⟩)
  | 16, v, _ => v = .int .i64 m
  | 17, v, _ => v = .string (decB m)
  | 18, v, _ => v = .string (((⟨#[101, 40, 107]⟩ ++ decB n) ++ ⟨#[44, 107]⟩) ++ decB m)
  | 19, v, _ => v = .string (wrapB n m)
  | 20, v, w => ∃ g' c', v = .slice (some ⟨g', 0, none⟩) (putL Lc (wrapB n m).toList).length c' ∧ OwnS w base g' c' (putL Lc (wrapB n m).toList)
  | 21, v, w => ∃ g' c', v = .slice (some ⟨g', 0, none⟩) (putL Lc (wrapB n m).toList).length c' ∧ OwnS w base g' c' (putL Lc (wrapB n m).toList)
  | _, _, _ => True
theorem KF.below {base g c : Nat} {Lc : List (List UInt8)} {b off len cap i b2 off2 li ci j n m : Nat} {q : Nat} {v : Value} {w w' : World} (h : KF base g c Lc b off len cap i b2 off2 li ci j n m q v w) (hB : Below w.heap.size w w') : KF base g c Lc b off len cap i b2 off2 li ci j n m q v w' := by
  match q, h with
  | 0, h => exact h
  | 1, h => exact h
  | 2, h => exact h
  | 3, h => exact h
  | 4, h => exact h
  | 5, h => exact h
  | 6, h => exact h
  | 7, h => exact h
  | 8, h => exact h
  | 9, h => exact h
  | 10, h => exact h
  | 11, h => exact h
  | 12, h => exact h
  | 13, h => exact h
  | 14, h => exact h
  | 15, h => exact h
  | 16, h => exact h
  | 17, h => exact h
  | 18, h => exact h
  | 19, h => exact h
  | 20, ⟨g', c', e, ho⟩ => exact ⟨g', c', e, ho.below hB⟩
  | 21, ⟨g', c', e, ho⟩ => exact ⟨g', c', e, ho.below hB⟩
  | (k + 22), _ => trivial
theorem wrap_txt {n m : Nat} : (sealT n (keyT m)).txt = wrapB n m := by
  unfold sealT keyT wrapB
  rw [Tr.txt, Tr.txt]
  rw [show Tr.head 6 = ⟨#[101, 40, 107]⟩ from rfl, show Tr.head 2 = ⟨#[107]⟩ from rfl, show (⟨#[44, 107]⟩ : ByteArray) = ⟨#[44]⟩ ++ ⟨#[107]⟩ from rfl]
  simp only [ByteArray.append_assoc]
theorem lit3K : (ByteArray.mk #[101, 40, 107]).size = 3 := rfl
theorem lit2K : (ByteArray.mk #[44, 107]).size = 2 := rfl
theorem lit1K : (ByteArray.mk #[41]).size = 1 := rfl


theorem eps_few {K : Nat → Int} {L : Nat → Nat} {M : Nat → Nat → Int} {len i : Nat} (h : Ep.epsB K L M len = true) (hi : i < len) : L i ≤ 5 ∧ len ≤ 5 := by
  unfold Ep.epsB Ep.epsTo at h
  rw [Bool.and_eq_true, List.all_eq_true] at h
  have h1 := h.2 i (List.mem_range.2 hi)
  rw [Bool.and_eq_true] at h1
  have h2 := h1.2
  unfold Ep.epB at h2
  rw [Bool.and_eq_true, Bool.and_eq_true] at h2
  exact ⟨(Ep.few (L i) h2.1.2 h2.2).2, of_decide_eq_true h.1⟩
theorem wrL_len : ∀ ps : List (Int × Int), (wrL ps).length ≤ ps.length := by
  intro ps
  have key : ∀ (ps : List (Int × Int)) (acc : List (List UInt8)), (ps.foldl (fun acc p => putL acc (wrapT p).txt.toList) acc).length ≤ acc.length + ps.length := by
    intro ps
    induction ps with
    | nil => intro acc; simp
    | cons q qs ih =>
      intro acc
      rw [List.foldl_cons]
      have h1 := ih (putL acc (wrapT q).txt.toList)
      have h2 := putL_len (wrapT q).txt.toList acc
      simp only [List.length_cons]
      omega
  have := key ps []
  simpa [wrL] using this
theorem pairs_len {K : Nat → Int} {L : Nat → Nat} {M : Nat → Nat → Int} : ∀ n, (∀ i, i < n → L i ≤ 5) → (Ep.pairsOf K L M n).length ≤ 5 * n
  | 0, _ => by simp [Ep.pairsOf]
  | n + 1, h => by
    have h1 := pairs_len (K := K) (M := M) n (fun i hi => h i (by omega))
    have h2 := h n (by omega)
    have e : (Ep.pairsOf K L M (n + 1)).length = (Ep.pairsOf K L M n).length + L n := by
      unfold Ep.pairsOf
      rw [List.range_succ, List.flatMap_append]
      simp
    omega
theorem wrL_few {K : Nat → Int} {L : Nat → Nat} {M : Nat → Nat → Int} {len i j : Nat} (h : Ep.epsB K L M len = true) (hi : i < len) (hj : j ≤ L i) : (wrL (Ep.partOf K L M i j)).length ≤ 2000000 := by
  have h1 := wrL_len (Ep.partOf K L M i j)
  have h2 := pairs_len (K := K) (L := L) (M := M) i (fun t ht => (eps_few h (show t < len by omega)).1)
  have h3 := eps_few h hi
  have e : (Ep.partOf K L M i j).length = (Ep.pairsOf K L M i).length + j := by unfold Ep.partOf; simp
  omega
theorem eps_range {K : Nat → Int} {L : Nat → Nat} {M : Nat → Nat → Int} {len i j : Nat} (h : Ep.epsB K L M len = true) (hi : i < len) (hj : j < L i) : (1 ≤ M i j ∧ M i j ≤ 5) ∧ (100 ≤ K i ∧ K i ≤ 199) := by
  unfold Ep.epsB Ep.epsTo at h
  rw [Bool.and_eq_true, List.all_eq_true] at h
  have h1 := h.2 i (List.mem_range.2 hi)
  rw [Bool.and_eq_true] at h1
  have h2 := h1.2
  unfold Ep.epB Ep.memB at h2
  simp only [Bool.and_eq_true, decide_eq_true_eq, List.all_eq_true] at h2
  have h3 := h2.1.2 j (List.mem_range.2 hj)
  exact ⟨h3, h2.1.1⟩

set_option maxRecDepth 8000 in
set_option maxHeartbeats 16000000 in
theorem specWraps_any (a : Option Addr) (len cap : Nat) (K : Nat → Int) (L : Nat → Nat) (M : Nat → Nat → Int) (w : World) (h : Ep.IsEps w a len cap K L M) (hq : Ep.epsB K L M len = true) :
    Calls Tryz.prog 55 #[.slice a len cap] w fun e w' => ∃ g c, e = .returned (.slice (some ⟨g, 0, none⟩) (wrL (Ep.pairsOf K L M len)).length c) ∧ OwnS w' w.heap.size g c (wrL (Ep.pairsOf K L M len)) ∧ Below w.heap.size w w' := by
  have HI : Hid (Ep.IsEps w a len cap K L M) := h
  have HQ : Hid (Ep.epsB K L M len = true) := hq
  have HB0 : Hid (Below w.heap.size w (w.alloc (.cells #[] 9))) := (Below.refl _ _).alloc (Nat.le_refl _) _
  have HE : Hid (Calls Tryz.prog 28 #[.slice a len cap] (w.alloc (.cells #[] 9)) fun e w' => e = .returned (.bool true) ∧ Below (w.alloc (.cells #[] 9)).heap.size (w.alloc (.cells #[] 9)) w') := by
    have h1 := Ep.specEpochsOk_any a len cap K L M (w.alloc (.cells #[] 9)) (h.below HB0.out)
    rw [hq] at h1
    exact h1
  have HG1 : Hid ((w.alloc (.cells #[] 9)).heap[w.heap.size]? = some (.cells #[] 9 (0, 0))) := heap_alloc_new w _
  clear h hq
  go_enter Tryz.func55, Tryz.ntmps55
  go_wp2_with fail
  refine HE.out.mono ?_
  rintro e w1 ⟨rfl, hB1⟩
  have HB1 : Hid (Below w.heap.size w w1) := HB0.out.trans (hB1.mono HB0.out.size)
  have HO1 : Hid (OwnS w1 w.heap.size w.heap.size 0 []) := ⟨rfl, .inr ⟨w.heap.size, 0, #[], rfl, Nat.le_refl _, (hB1.block _ (by simp)).trans HG1.out, Nat.le_refl _, Nat.zero_le _, rfl, rfl⟩⟩
  clear hB1
  go_wp2
  go_loopw [3, 4] (fun v x wr => ∃ (i g c : Nat), i ≤ len ∧ x = .int .i64 i ∧ v = .slice (some ⟨g, 0, none⟩) (wrL (Ep.pairsOf K L M i)).length c ∧ Hid (OwnS wr w.heap.size g c (wrL (Ep.pairsOf K L M i)) ∧ Below w.heap.size w wr)) (fun _ x _ => len - (intOf x).toNat)
  case atStart => exact ⟨0, w.heap.size, 0, Nat.zero_le _, rfl, rfl, HO1.out, HB1.out⟩
  case round =>
    obtain ⟨i, g, c, hi, rfl, rfl, HR⟩ := hrel
    by_cases hlt : i < len
    · have hltI : (i : Int) < (len : Int) := by omega
      obtain ⟨h51, h52, h53⟩ := HI.out
      obtain ⟨b, off, A, C, rfl, hbs, hcell⟩ := h53 (by omega)
      obtain ⟨c1, c2, c3⟩ := hcell i hlt
      have HCE : Hid (b < w.heap.size ∧ w.cell? ⟨b, off + i * 2, none⟩ = some (.int .i64 (K i)) ∧ w.cell? ⟨b, off + i * 2 + 1, none⟩ = some (.slice (A i) (L i) (C i)) ∧ Ep.IsI64 w (A i) (L i) (C i) (M i)) := ⟨hbs, c1, c2, c3⟩
      obtain ⟨Ai, hAi⟩ : ∃ Ai, Ai = A i := ⟨_, rfl⟩
      obtain ⟨Ci, hCi⟩ : ∃ Ci, Ci = C i := ⟨_, rfl⟩
      obtain ⟨Li, hLi⟩ : ∃ Li, Li = L i := ⟨_, rfl⟩
      rw [← hAi, ← hCi, ← hLi] at HCE
      have HLI : Hid (Li = L i) := hLi
      have hLb : Li ≤ 9223372036854775807 := by have := HCE.out.2.2.2.1; have := HCE.out.2.2.2.2.1; omega
      obtain ⟨G, hG⟩ : ∃ G, G = wrL (Ep.pairsOf K L M i) := ⟨_, rfl⟩
      have HG : Hid (G = wrL (Ep.pairsOf K L M i)) := hG
      rw [← hG] at HR ⊢
      clear h51 h52 h53 hcell c1 c2 c3 hbs hAi hCi hLi hG
      have z1 : wr.cell? ⟨b, off + i * 2 + 1, none⟩ = some (.slice Ai Li Ci) := (HR.out.2.cell (p := ⟨b, off + i * 2 + 1, none⟩) HCE.out.1).trans HCE.out.2.2.1
      go_wp2
      go_loopw [3, 5] (fun v x w2 => ∃ (j g c : Nat), j ≤ Li ∧ x = .int .i64 j ∧ v = .slice (some ⟨g, 0, none⟩) (wrL (Ep.partOf K L M i j)).length c ∧ Hid (OwnS w2 w.heap.size g c (wrL (Ep.partOf K L M i j)) ∧ Below w.heap.size w w2)) (fun _ x _ => Li - (intOf x).toNat)
      case atStart => exact ⟨0, g, c, Nat.zero_le _, rfl, by rw [Ep.part_zero, ← HG.out], by rw [Ep.part_zero, ← HG.out]; exact HR.out⟩
      case round =>
        obtain ⟨j, g2, c2, hj, rfl, rfl, HJ⟩ := hrel
        rename_i w2
        by_cases hjl : j < Li
        · have hjlI : (j : Int) < (Li : Int) := by omega
          obtain ⟨b2, off2, rfl, hb2, hc2⟩ := HCE.out.2.2.2.2.2 (by omega)
          have hrg := eps_range HQ.out hlt (show j < L i by rw [← HLI.out]; exact hjl)
          obtain ⟨n, hn⟩ : ∃ n : Nat, M i j = (n : Int) := ⟨(M i j).toNat, by omega⟩
          obtain ⟨m, hm⟩ : ∃ m : Nat, K i = (m : Int) := ⟨(K i).toNat, by omega⟩
          have HNM : Hid (n ≤ 999 ∧ m ≤ 999 ∧ M i j = (n : Int) ∧ K i = (m : Int)) := ⟨by omega, by omega, hn, hm⟩
          have HCM : Hid (∀ v, Below wr.heap.size wr v → v.cell? ⟨b2, off2 + j, none⟩ = some (.int .i64 (n : Int)) ∧ v.cell? ⟨b, off + i * 2, none⟩ = some (.int .i64 (m : Int)) ∧ v.cell? ⟨b, off + i * 2 + 1, none⟩ = some (.slice (some ⟨b2, off2, none⟩) Li Ci)) := fun v hv => by
            have hw := HJ.out.2.trans (hv.mono HJ.out.2.size)
            refine ⟨?_, ?_, ?_⟩
            · rw [← hn]; exact (hw.cell (p := ⟨b2, off2 + j, none⟩) hb2).trans (hc2 j hjl)
            · rw [← hm]; exact (hw.cell (p := ⟨b, off + i * 2, none⟩) HCE.out.1).trans HCE.out.2.1
            · exact (hw.cell (p := ⟨b, off + i * 2 + 1, none⟩) HCE.out.1).trans HCE.out.2.2.1
          have z2 := (HCM.out wr (Below.refl _ _)).2.2
          obtain ⟨G2, hG2⟩ : ∃ G2, G2 = wrL (Ep.partOf K L M i j) := ⟨_, rfl⟩
          have HG2 : Hid (G2 = wrL (Ep.partOf K L M i j)) := hG2
          rw [← hG2] at HJ ⊢
          have HPUT : Hid (wrL (Ep.partOf K L M i (j + 1)) = putL G2 (wrapB n m).toList) := by
            show _ = _
            rw [Ep.part_succ, wrL_add, ← hG2, ← wrap_txt, hn, hm]
            rfl
          have hGs : G2.length ≤ 2000000 := by
            rw [hG2]
            exact wrL_few HQ.out hlt (by rw [← HLI.out]; exact hj)
          have HGS : Hid (G2.length ≤ 2000000) := hGs
          have en1 : ∀ args w, (callFunc 46 args).run Tryz.prog w = .ok (.enter 46 args) w := enters_of Tryz.func46 (by kernel_rfl) rfl
          have en2 : ∀ args w, (callFunc 51 args).run Tryz.prog w = .ok (.enter 51 args) w := enters_of Tryz.func51 (by kernel_rfl) rfl
          have HEN : Hid ((∀ args w, (callFunc 46 args).run Tryz.prog w = .ok (.enter 46 args) w) ∧ ∀ args w, (callFunc 51 args).run Tryz.prog w = .ok (.enter 51 args) w) := ⟨en1, en2⟩
          clear hb2 hc2 hrg hn hm hG2 hGs en1 en2
          go_wp2_with fail
          refine wp_letterK ?_
          intro fr hfr
          have hs7 : 47 < fr.tmps.size := by rw [hfr]; exact Nat.le_of_ble_eq_true rfl
          have t0 : fr.eval (.tmp 0) = .slice (some ⟨b, off, none⟩) len cap := by rw [hfr]; rfl
          have t3 : fr.eval (.tmp 3) = .slice (some ⟨g2, 0, none⟩) G2.length c2 := by rw [hfr]; rfl
          have t4 : fr.eval (.tmp 4) = .int .i64 (i : Int) := by rw [hfr]; rfl
          have t5 : fr.eval (.tmp 5) = .int .i64 (j : Int) := by rw [hfr]; rfl
          have HFR : Hid _ := hfr
          clear hfr z2
          refine wp_region_rel2 (Rel := fun v v' => Below v.heap.size v v') (fun v => Below.refl _ _) (fun h k => h.trans (k.mono h.size)) (fun v => (Below.refl _ _).drew) (by kernel_rfl) (by kernel_rfl) dsK slotK (KF w.heap.size g2 c2 G2 b off len cap i b2 off2 Li Ci j n m) (fun _ _ _ _ h hB => h.below hB) ?_ ?_ ?_ ?_
          · intro i hi
            exact slotK_mem i hi
          · intro i j hi hj q
            exact slotK_inj i j hi hj q
          · intro ops hops done f wy q o hy ho hdn hfd hcl hd
            have ho2 := ho
            rw [hops] at ho
            have N0 := (canon_eval_ne fr dsK f 0 (by decide)).trans t0
            have N4 := (canon_eval_ne fr dsK f 4 (by decide)).trans t4
            have N5 := (canon_eval_ne fr dsK f 5 (by decide)).trans t5
            have ev : ∀ d, d ∈ dsK → d < 48 → (canon fr dsK f).eval (.tmp d) = f d := fun d h1 h2 => canon_eval fr dsK f d h1 (by omega)
            have hsn := decB_size n
            have hsm := decB_size m
            have hnm1 := HNM.out.1
            have hnm2 := HNM.out.2.1
            have l3 := lit3K
            have l2 := lit2K
            have l1 := lit1K
            have hq : q < 22 := by
              rcases Nat.lt_or_ge q 22 with h | h
              · exact h
              · rw [Array.getElem?_eq_none (by simpa using h)] at ho; cases ho
            have h3f : q = 0 → f 3 = .slice (some ⟨g2, 0, none⟩) G2.length c2 := fun e => by
              subst e
              have h21 : done 21 = false := by
                cases h : done 21 with
                | false => rfl
                | true =>
                  have := hcl 21 _ (by rw [hops]; rfl) h ⟨0, .phase⟩ (by simp) (by decide)
                  rw [hdn] at this; cases this
              exact (hfd 21 (by decide) h21).trans t3
            have hq2 : q = 0 ∨ q = 1 ∨ q = 2 ∨ q = 3 ∨ q = 4 ∨ q = 5 ∨ q = 6 ∨ q = 7 ∨ q = 8 ∨ q = 9 ∨ q = 10 ∨ q = 11 ∨ q = 12 ∨ q = 13 ∨ q = 14 ∨ q = 15 ∨ q = 16 ∨ q = 17 ∨ q = 18 ∨ q = 19 ∨ q = 20 ∨ q = 21 := by omega
            clear hops hcl hfd
            rcases hq2 with rfl | rfl | rfl | rfl | rfl | rfl | rfl | rfl | rfl | rfl | rfl | rfl | rfl | rfl | rfl | rfl | rfl | rfl | rfl | rfl | rfl | rfl <;> simp only [List.getElem?_toArray, List.getElem?_cons_succ, List.getElem?_cons_zero, Option.some.injEq] at ho <;> subst ho
            · refine wpOp_runG ho2 (wanted_none rfl) (q_moveP (canon fr dsK f).eval _ wy _ rfl) ?_
              exact ⟨_, rfl, (ev 3 (by decide) (by decide)).trans (h3f rfl), Below.refl _ _⟩
            · refine wpOp_runG ho2 (wanted_none rfl) (q_moveP (canon fr dsK f).eval _ wy _ rfl) ?_
              exact ⟨_, rfl, N0, Below.refl _ _⟩
            · refine wpOp_runG ho2 (wanted_none rfl) (q_moveP (canon fr dsK f).eval _ wy _ rfl) ?_
              exact ⟨_, rfl, N4, Below.refl _ _⟩
            · refine wpOp_runG ho2 (wanted_none rfl) (q_idxE (canon fr dsK f).eval _ wy _ _ b off len cap i rfl ((ev 28 (by decide) (by decide)).trans (hd ⟨1, .data⟩ (by simp) rfl)) ((ev 29 (by decide) (by decide)).trans (hd ⟨2, .data⟩ (by simp) rfl)) hlt) ?_
              exact ⟨_, rfl, rfl, Below.refl _ _⟩
            · refine wpOp_runG ho2 (wanted_none rfl) (q_fld1 (canon fr dsK f).eval _ wy _ b (off + i * 2) rfl ((ev 30 (by decide) (by decide)).trans (hd ⟨3, .data⟩ (by simp) rfl))) ?_
              exact ⟨_, rfl, rfl, Below.refl _ _⟩
            · refine wpOp_runG ho2 (wanted_none rfl) (q_loadK (canon fr dsK f).eval _ wy _ _ _ (.inr rfl) ((ev 31 (by decide) (by decide)).trans (hd ⟨4, .data⟩ (by simp) rfl)) (HCM.out wy hy).2.2) ?_
              exact ⟨_, rfl, rfl, Below.refl _ _⟩
            · refine wpOp_runG ho2 (wanted_none rfl) (q_moveP (canon fr dsK f).eval _ wy _ rfl) ?_
              exact ⟨_, rfl, N5, Below.refl _ _⟩
            · refine wpOp_runG ho2 (wanted_none rfl) (q_idxI (canon fr dsK f).eval _ wy _ _ b2 off2 Li Ci j rfl ((ev 32 (by decide) (by decide)).trans (hd ⟨5, .data⟩ (by simp) rfl)) ((ev 33 (by decide) (by decide)).trans (hd ⟨6, .data⟩ (by simp) rfl)) hjl) ?_
              exact ⟨_, rfl, rfl, Below.refl _ _⟩
            · refine wpOp_runG ho2 (wanted_none rfl) (q_loadK (canon fr dsK f).eval _ wy _ _ _ (.inl rfl) ((ev 34 (by decide) (by decide)).trans (hd ⟨7, .data⟩ (by simp) rfl)) (HCM.out wy hy).1) ?_
              exact ⟨_, rfl, rfl, Below.refl _ _⟩
            · refine wpOp_enterG ho2 (wanted_none rfl) (q_call1K (canon fr dsK f).eval _ wy _ HEN.out.1 _ _ rfl rfl) ?_
              rw [(ev 35 (by decide) (by decide)).trans (hd ⟨8, .data⟩ (by simp) rfl)]
              refine (l1Dec_any n hnm1 wy).mono ?_
              rintro e wz ⟨rfl, hB⟩
              exact ⟨_, rfl, _, rfl, rfl, hB⟩
            · refine wpOp_runG ho2 (wanted_none rfl) (q_addK (canon fr dsK f).eval _ wy _ _ (ByteArray.mk #[101, 40, 107]) (decB n) rfl rfl ((ev 36 (by decide) (by decide)).trans (hd ⟨9, .data⟩ (by simp) rfl)) (by (try simp only [ByteArray.size_append]); omega)) ?_
              exact ⟨_, rfl, rfl, Below.refl _ _⟩
            · refine wpOp_runG ho2 (wanted_none rfl) (q_addK (canon fr dsK f).eval _ wy _ _ (ByteArray.mk #[101, 40, 107] ++ decB n) (ByteArray.mk #[44, 107]) rfl ((ev 37 (by decide) (by decide)).trans (hd ⟨10, .data⟩ (by simp) rfl)) rfl (by (try simp only [ByteArray.size_append]); omega)) ?_
              exact ⟨_, rfl, rfl, Below.refl _ _⟩
            · refine wpOp_runG ho2 (wanted_none rfl) (q_moveP (canon fr dsK f).eval _ wy _ rfl) ?_
              exact ⟨_, rfl, N0, Below.refl _ _⟩
            · refine wpOp_runG ho2 (wanted_none rfl) (q_moveP (canon fr dsK f).eval _ wy _ rfl) ?_
              exact ⟨_, rfl, N4, Below.refl _ _⟩
            · refine wpOp_runG ho2 (wanted_none rfl) (q_idxE (canon fr dsK f).eval _ wy _ _ b off len cap i rfl ((ev 39 (by decide) (by decide)).trans (hd ⟨12, .data⟩ (by simp) rfl)) ((ev 40 (by decide) (by decide)).trans (hd ⟨13, .data⟩ (by simp) rfl)) hlt) ?_
              exact ⟨_, rfl, rfl, Below.refl _ _⟩
            · refine wpOp_runG ho2 (wanted_none rfl) (q_fld0 (canon fr dsK f).eval _ wy _ b (off + i * 2) rfl ((ev 41 (by decide) (by decide)).trans (hd ⟨14, .data⟩ (by simp) rfl))) ?_
              exact ⟨_, rfl, rfl, Below.refl _ _⟩
            · refine wpOp_runG ho2 (wanted_none rfl) (q_loadK (canon fr dsK f).eval _ wy _ _ _ (.inl rfl) ((ev 42 (by decide) (by decide)).trans (hd ⟨15, .data⟩ (by simp) rfl)) (HCM.out wy hy).2.1) ?_
              exact ⟨_, rfl, rfl, Below.refl _ _⟩
            · refine wpOp_enterG ho2 (wanted_none rfl) (q_call1K (canon fr dsK f).eval _ wy _ HEN.out.1 _ _ rfl rfl) ?_
              rw [(ev 43 (by decide) (by decide)).trans (hd ⟨16, .data⟩ (by simp) rfl)]
              refine (l1Dec_any m hnm2 wy).mono ?_
              rintro e wz ⟨rfl, hB⟩
              exact ⟨_, rfl, _, rfl, rfl, hB⟩
            · refine wpOp_runG ho2 (wanted_none rfl) (q_addK (canon fr dsK f).eval _ wy _ _ ((ByteArray.mk #[101, 40, 107] ++ decB n) ++ ByteArray.mk #[44, 107]) (decB m) rfl ((ev 38 (by decide) (by decide)).trans (hd ⟨11, .data⟩ (by simp) rfl)) ((ev 44 (by decide) (by decide)).trans (hd ⟨17, .data⟩ (by simp) rfl)) (by (try simp only [ByteArray.size_append]); omega)) ?_
              exact ⟨_, rfl, rfl, Below.refl _ _⟩
            · refine wpOp_runG ho2 (wanted_none rfl) (q_addK (canon fr dsK f).eval _ wy _ _ (((ByteArray.mk #[101, 40, 107] ++ decB n) ++ ByteArray.mk #[44, 107]) ++ decB m) (ByteArray.mk #[41]) rfl ((ev 45 (by decide) (by decide)).trans (hd ⟨18, .data⟩ (by simp) rfl)) rfl (by (try simp only [ByteArray.size_append]); omega)) ?_
              exact ⟨_, rfl, rfl, Below.refl _ _⟩
            · refine wpOp_enterG ho2 (wanted_none rfl) (q_call2P (canon fr dsK f).eval _ wy _ HEN.out.2 _ _ _ rfl rfl) ?_
              rw [(ev 27 (by decide) (by decide)).trans (hd ⟨0, .data⟩ (by simp) rfl), (ev 46 (by decide) (by decide)).trans (hd ⟨19, .data⟩ (by simp) rfl)]
              have hoy := HJ.out.1.below hy
              refine (l1Put_any g2 0 c2 G2 (wrapB n m) wy hoy.lies.1 hoy.lies.2.1 hoy.caps.1 hoy.caps.2 HGS.out).mono ?_
              rintro e wz ⟨g', c', rfl, ho', hB⟩
              exact ⟨_, rfl, _, rfl, ⟨g', c', rfl, mono_base ho' (Nat.le_trans HJ.out.2.size hy.size)⟩, hB⟩
            · obtain ⟨g', c', e, ho'⟩ := (hd ⟨20, .data⟩ (by simp) rfl)
              refine wpOp_runG ho2 (wanted_none rfl) (q_assignP (canon fr dsK f).eval _ wy _ rfl) ?_
              exact ⟨_, rfl, ⟨g', c', (ev 47 (by decide) (by decide)).trans e, ho'⟩, Below.refl _ _⟩
          · intro f wy hy hall
            obtain ⟨g', c', h3, ho'⟩ := hall 21 (by decide)
            have HY : Hid (OwnS wy w.heap.size g' c' (putL G2 (wrapB n m).toList) ∧ Below wr.heap.size wr wy) := ⟨ho', hy⟩
            have h3' : f 3 = .slice (some ⟨g', 0, none⟩) (putL G2 (wrapB n m).toList).length c' := h3
            rw [HFR.out]
            simp only [canon, dsK, List.foldl, Act.put, List.setIfInBounds_toArray, List.set_cons_succ, List.set_cons_zero]
            rw [h3']
            clear h3 h3' ho' hy hall t0 t3 t4 t5 hs7
            (try simp only [Exit.inBlock, Exit.then])
            go_wp2
            go_roundw
            case rel => exact ⟨j + 1, g', c', by omega, by go_num, by rw [HPUT.out], by rw [HPUT.out]; exact ⟨HY.out.1, HJ.out.2.trans (HY.out.2.mono HJ.out.2.size)⟩⟩
            case measure => simp [intOf]; omega
        · have hje : j = Li := by omega
          have hjI : ¬ (j : Int) < (Li : Int) := by omega
          have hl5 : len ≤ 5 := (eps_few HQ.out hlt).2
          have hwi : wrap64 ((i : Int) + 1) = ((i + 1 : Nat) : Int) := by unfold wrap64; omega
          have z2 : wr.cell? ⟨b, off + i * 2 + 1, none⟩ = some (.slice Ai Li Ci) := (HJ.out.2.cell (p := ⟨b, off + i * 2 + 1, none⟩) HCE.out.1).trans HCE.out.2.2.1
          have HPF : Hid (Ep.partOf K L M i j = Ep.pairsOf K L M (i + 1)) := by show _ = _; rw [hje, HLI.out, Ep.part_full]
          clear hje
          go_wp2
          go_roundw
          case rel => exact ⟨i + 1, g2, c2, by omega, by go_num, by rw [HPF.out], by rw [← HPF.out]; exact HJ.out⟩
          case measure => simp [intOf]; omega
    · have hke : i = len := by omega
      subst hke
      go_wp2
      go_ret
      exact ⟨g, c, rfl, HR.out.1, HR.out.2⟩
end Go.Proofs.YtcolcnkjcagbaaaGreatDoor

namespace Go.Proofs.YtcolcnkjcagbaaaGreatDoor
open Go.RowKit Go.Maps
set_option linter.unusedVariables false

theorem MkT.base {P : Tr → Prop} : ∀ {t : Tr}, P t → MkT P t
  | ⟨.inl (k, n)⟩, h => by rw [MkT]; exact .inl h
  | ⟨.inr (.inl u)⟩, h => by rw [MkT]; exact .inl h
  | ⟨.inr (.inr (.inl (a, b)))⟩, h => by rw [MkT]; exact .inl h
  | ⟨.inr (.inr (.inr (k, n, a)))⟩, h => by rw [MkT]; exact .inl h
theorem MkT.key {P : Tr → Prop} {n : Nat} : MkT P (keyT n) ↔ P (keyT n) := by
  unfold keyT
  rw [MkT]
  exact ⟨fun h => h.elim id (fun h => absurd rfl h), .inl⟩
theorem MkT.congr {P Q : Tr → Prop} (h : ∀ u, Fit u → (P u ↔ Q u)) : ∀ t : Tr, Fit t → (MkT P t ↔ MkT Q t)
  | ⟨.inl (k, n)⟩, hf => by rw [MkT, MkT, h _ hf]
  | ⟨.inr (.inl u)⟩, hf => by rw [MkT, MkT, h _ hf, MkT.congr h u (hf.kid (by simp [Tr.kids]))]
  | ⟨.inr (.inr (.inl (a, b)))⟩, hf => by rw [MkT, MkT, h _ hf, MkT.congr h a (hf.kid (by simp [Tr.kids])), MkT.congr h b (hf.kid (by simp [Tr.kids]))]
  | ⟨.inr (.inr (.inr (k, n, a)))⟩, hf => by rw [MkT, MkT, h _ hf, MkT.congr h a (hf.kid (by simp [Tr.kids])), h _ (fitKey hf.1.2.1)]
theorem MkT.trans {P Q : Tr → Prop} (h : ∀ u, P u → MkT Q u) : ∀ t : Tr, MkT P t → MkT Q t
  | ⟨.inl (k, n)⟩, ht => by
    rw [MkT] at ht
    rcases ht with h1 | h1
    · exact h _ h1
    · rw [MkT]; exact .inr h1
  | ⟨.inr (.inl u)⟩, ht => by
    rw [MkT] at ht
    rcases ht with h1 | h1
    · exact h _ h1
    · rw [MkT]; exact .inr (MkT.trans h u h1)
  | ⟨.inr (.inr (.inl (a, b)))⟩, ht => by
    rw [MkT] at ht
    rcases ht with h1 | h1
    · exact h _ h1
    · rw [MkT]; exact .inr ⟨MkT.trans h a h1.1, MkT.trans h b h1.2⟩
  | ⟨.inr (.inr (.inr (k, n, a)))⟩, ht => by
    rw [MkT] at ht
    rcases ht with h1 | h1
    · exact h _ h1
    · rw [MkT]; exact .inr ⟨MkT.key.1 (h _ h1.1), MkT.trans h a h1.2⟩
/-- what can be made of what is opened is closed -/
theorem MkT.shut {O : Tr → Prop} (hO : Shut O) : Shut (MkT O) := by
  refine ⟨fun t u h => ?_, fun n t h => ?_, fun n t h hk => ?_⟩
  · unfold pairT at h
    rw [MkT] at h
    rcases h with h1 | h1
    · exact ⟨.base (hO.pair t u h1).1, .base (hO.pair t u h1).2⟩
    · exact h1
  · unfold signT at h
    rw [MkT] at h
    rcases h with h1 | h1
    · exact .base (hO.sign n t h1)
    · exact h1.2
  · unfold sealT at h
    rw [MkT] at h
    rcases h with h1 | h1
    · exact .base (hO.sealK n t h1 (MkT.key.1 hk))
    · exact h1.2
theorem opT_fit {S : Nat → ByteArray} {len : Nat} {u : Tr} (hf : Fit u) : OpT S len u.txt.toList ↔ Op (Kn S len) u :=
  ⟨fun ⟨t, h1, h2⟩ => by rw [← txt_inj (op_fit h1) hf h2]; exact h1, fun h => ⟨u, h, rfl⟩⟩
theorem CanT.mk {S : Nat → ByteArray} {len : Nat} {t : Tr} (hf : Fit t) (hq : knownB S len = true) : CanT S len t.txt ↔ MkT (Op (Kn S len)) t := by
  rw [CanT.at hf hq]
  exact MkT.congr (fun u hu => opT_fit hu) t hf
/-- CUT: what can be made gives nothing more -/
theorem cut_plain {S S' : Nat → ByteArray} {len len' : Nat} {t : ByteArray} (h : CanT S len t) (hq' : knownB S' len' = true) (hk : ∀ u, Kn S' len' u ↔ Kn S len u ∨ (Fit u ∧ u.txt = t)) (x : ByteArray) : CanT S' len' x ↔ CanT S len x := by
  obtain ⟨hq, v, hv, rfl, _⟩ := h
  have hm : MkT (Op (Kn S len)) v := (CanT.mk hv hq).1 ⟨hq, v, hv, rfl, by assumption⟩
  have hop : ∀ u, Op (Kn S' len') u → MkT (Op (Kn S len)) u := fun u hu => hu _ (fun y hy => by
    rcases (hk y).1 hy with h1 | ⟨h1, h2⟩
    · exact .base (.base h1)
    · rw [txt_inj h1 hv (by rw [h2])]; exact hm) (MkT.shut (Op.shut _))
  constructor
  · rintro ⟨_, y, h1, rfl, h2⟩
    have h3 := (MkT.congr (fun u hu => opT_fit hu) y h1).1 h2
    exact (CanT.mk h1 hq).2 (MkT.trans hop y h3)
  · rintro ⟨_, y, h1, rfl, h2⟩
    have h3 := (MkT.congr (fun u hu => opT_fit hu) y h1).1 h2
    exact (CanT.mk h1 hq').2 (MkT.trans (fun u hu => .base (hu.mono (fun z hz => (hk z).2 (.inl hz)))) y h3)

theorem LLa (L : List (List UInt8)) : LL (atL L) L.length = L := by
  apply List.ext_getElem
  · rw [LL_len]
  · intro i h1 h2
    rw [LL_len] at h1
    have e := LL_at (atL L) h1
    rw [atL_list] at e
    simp only [List.getD, List.getElem?_eq_getElem h2, Option.getD_some] at e
    rw [List.getElem?_eq_getElem (by rw [LL_len]; exact h1), Option.getD_some] at e
    exact e
theorem bytes_eq {a b : ByteArray} (h : a.toList = b.toList) : a = b := by
  rw [ByteArray.toList_eq, ByteArray.toList_eq] at h
  exact ByteArray.ext (Array.ext' h)
/-- known: a right term whose text is among them -/
theorem kn_list (L : List (List UInt8)) (u : Tr) : Kn (atL L) L.length u ↔ Fit u ∧ u.txt.toList ∈ L := by
  constructor
  · rintro ⟨hf, i, hi, e⟩
    refine ⟨hf, ?_⟩
    rw [e, atL_list]
    simp only [List.getD, List.getElem?_eq_getElem hi, Option.getD_some]
    exact List.getElem_mem hi
  · rintro ⟨hf, hm⟩
    obtain ⟨i, hi, e⟩ := List.mem_iff_getElem.1 hm
    refine ⟨hf, i, hi, bytes_eq ?_⟩
    rw [atL_list]
    simp only [List.getD, List.getElem?_eq_getElem hi, Option.getD_some]
    exact e.symm
theorem kn_put (L : List (List UInt8)) (t : ByteArray) (u : Tr) : Kn (atL (putL L t.toList)) (putL L t.toList).length u ↔ Kn (atL L) L.length u ∨ (Fit u ∧ u.txt = t) := by
  rw [kn_list, kn_list, putL_mem]
  constructor
  · rintro ⟨hf, h | h⟩
    · exact .inl ⟨hf, h⟩
    · exact .inr ⟨hf, bytes_eq h⟩
  · rintro (⟨hf, h⟩ | ⟨hf, h⟩)
    · exact ⟨hf, .inl h⟩
    · exact ⟨hf, .inr (by rw [h])⟩
/-- a learning that is fine: what is known behind it -/
theorem lr_true {L : List (List UInt8)} {t : ByteArray} (h : lrB (atL L) L.length t = true) : lrR (atL L) L.length t = putL L t.toList ∧ knownB (atL (putL L t.toList)) (putL L t.toList).length = true := by
  have e : lrR (atL L) L.length t = putL L t.toList := by
    unfold lrR
    rw [if_pos h, LLa]
  refine ⟨e, ?_⟩
  unfold lrB at h
  rw [LLa, Bool.and_eq_true] at h
  exact h.2
theorem riseB_up {L : List (List UInt8)} (h : Up L) : riseB (atL L) L.length = true := by
  unfold riseB
  rw [List.all_eq_true]
  intro k hk
  have hk := List.mem_range.1 hk
  cases k with
  | zero => rfl
  | succ j =>
    have h1 := List.pairwise_iff_getElem.1 h j (j + 1) (by omega) hk (by omega)
    have h2 : upB (atL L) (j + 1) = true := by
      unfold upB
      rw [Nat.add_sub_cancel, atL_list, atL_list]
      simp only [List.getD, List.getElem?_eq_getElem hk, List.getElem?_eq_getElem (show j < L.length by omega), Option.getD_some]
      exact h1
    rw [h2]
    simp
theorem up_rise {L : List (List UInt8)} (h : riseB (atL L) L.length = true) : Up L := by
  refine List.pairwise_iff_getElem.2 fun i j hi hj hij => ?_
  obtain ⟨d, rfl⟩ : ∃ d, j = i + d + 1 := ⟨j - i - 1, by omega⟩
  have h1 := rise_lessO h i d hj
  rw [atL_list, atL_list] at h1
  simpa only [List.getD, List.getElem?_eq_getElem hi, List.getElem?_eq_getElem hj, Option.getD_some] using h1
theorem termsB_all {S : Nat → ByteArray} {n : Nat} : termsB S n = true ↔ ∀ i, i < n → (rT (S i)).isSome = true := by
  unfold termsB
  rw [List.all_eq_true]
  exact ⟨fun h i hi => h i (List.mem_range.2 hi), fun h i hi => h i (List.mem_range.1 hi)⟩
/-- a right term can be learned where there is room -/
theorem lr_room {L : List (List UInt8)} {t : Tr} (hq : knownB (atL L) L.length = true) (hl : L.length < 30) (hf : Fit t) : lrB (atL L) L.length t.txt = true := by
  unfold lrB
  rw [LLa, hq, Bool.true_and]
  unfold knL knownB
  obtain ⟨h1, h2, h3⟩ := known_of hq
  have hput := putL_len t.txt.toList L
  rw [Bool.and_eq_true, Bool.and_eq_true]
  refine ⟨⟨decide_eq_true (by omega), riseB_up (putL_up _ _ (up_rise h2))⟩, termsB_all.2 fun i hi => ?_⟩
  have hm : (putL L t.txt.toList).getD i [] ∈ putL L t.txt.toList := by
    simp only [List.getD, List.getElem?_eq_getElem hi, Option.getD_some]
    exact List.getElem_mem hi
  rw [← atL_list] at hm
  rcases (putL_mem _ _ _).1 hm with h4 | h4
  · obtain ⟨j, hj, e⟩ := List.mem_iff_getElem.1 h4
    have h5 := termsB_all.1 h3 j hj
    have e2 : atL L j = atL (putL L t.txt.toList) i := by
      apply bytes_eq
      rw [atL_list L]
      simp only [List.getD, List.getElem?_eq_getElem hj, Option.getD_some]
      exact e
    rw [← e2]
    exact h5
  · rw [bytes_eq h4, rT_txt hf.1 hf.2.1 hf.2.2]
    rfl
end Go.Proofs.YtcolcnkjcagbaaaGreatDoor

namespace Go.Proofs.YtcolcnkjcagbaaaGreatDoor
open Go.RowKit Go.Maps
set_option linter.unusedVariables false

/-- the known texts and the wraps' -/
def allL (L W : List (List UInt8)) : List (List UInt8) := W.foldl putL L
theorem allL_mem (x : List UInt8) : ∀ (W L : List (List UInt8)), x ∈ allL L W ↔ x ∈ L ∨ x ∈ W
  | [], L => by simp [allL]
  | s :: W, L => by
    have h := allL_mem x W (putL L s)
    unfold allL at h ⊢
    rw [List.foldl_cons, h, putL_mem, List.mem_cons]
    constructor
    · rintro ((h | h) | h)
      · exact .inl h
      · exact .inr (.inl h)
      · exact .inr (.inr h)
    · rintro (h | h | h)
      · exact .inl (.inl h)
      · exact .inl (.inr h)
      · exact .inr h
theorem allL_len : ∀ (W L : List (List UInt8)), (allL L W).length ≤ L.length + W.length
  | [], L => by simp [allL]
  | s :: W, L => by
    have h := allL_len W (putL L s)
    have h2 := putL_len s L
    unfold allL at h ⊢
    rw [List.foldl_cons, List.length_cons]
    omega
theorem allL_up : ∀ (W L : List (List UInt8)), Up L → Up (allL L W)
  | [], L, h => by simpa [allL] using h
  | s :: W, L, h => by
    have h2 := allL_up W (putL L s) (putL_up s L h)
    unfold allL at h2 ⊢
    rw [List.foldl_cons]
    exact h2
theorem allL_add (L W : List (List UInt8)) (s : List UInt8) : allL L (W ++ [s]) = putL (allL L W) s := by unfold allL; rw [List.foldl_append]; rfl
theorem wrapT_fit {p : Int × Int} (h1 : 1 ≤ p.1 ∧ p.1 ≤ 5) (h2 : 100 ≤ p.2 ∧ p.2 ≤ 199) : Fit (wrapT p) := by
  refine ⟨?_, ?_, ?_⟩
  · unfold wrapT sealT keyT
    rw [Tr.Ok, Tr.Ok]
    exact ⟨.inl rfl, by omega, .inr (.inl rfl), by omega⟩
  · unfold wrapT sealT keyT
    rw [Tr.size, Tr.size]
    omega
  · unfold wrapT sealT keyT
    rw [Tr.deep, Tr.deep]
    omega
theorem pairs_range {K : Nat → Int} {L : Nat → Nat} {M : Nat → Nat → Int} {len : Nat} (h : Ep.epsB K L M len = true) : ∀ p, p ∈ Ep.pairsOf K L M len → (1 ≤ p.1 ∧ p.1 ≤ 5) ∧ (100 ≤ p.2 ∧ p.2 ≤ 199) := by
  rintro ⟨m, k⟩ hp
  obtain ⟨i, j, hi, hj, rfl, rfl⟩ := Ep.mem_pairs.1 hp
  exact eps_range h hi hj
theorem pairs_few {K : Nat → Int} {L : Nat → Nat} {M : Nat → Nat → Int} {len : Nat} (h : Ep.epsB K L M len = true) : (Ep.pairsOf K L M len).length ≤ 25 := by
  have h1 := pairs_len (K := K) (L := L) (M := M) len (fun i hi => (eps_few h hi).1)
  rcases Nat.eq_zero_or_pos len with h0 | h0
  · subst h0
    simp [Ep.pairsOf]
  · have := (eps_few h h0).2
    omega
/-- all of it: at most sixty right texts, rising -/
theorem all_right {K : Nat → Int} {L : Nat → Nat} {M : Nat → Nat → Int} {len : Nat} {Q : List (List UInt8)} (h : Ep.epsB K L M len = true) (hq : knownB (atL Q) Q.length = true) :
    (allL Q (wrL (Ep.pairsOf K L M len))).length ≤ 60 ∧ riseB (atL (allL Q (wrL (Ep.pairsOf K L M len)))) (allL Q (wrL (Ep.pairsOf K L M len))).length = true ∧ termsB (atL (allL Q (wrL (Ep.pairsOf K L M len)))) (allL Q (wrL (Ep.pairsOf K L M len))).length = true := by
  obtain ⟨h1, h2, h3⟩ := known_of hq
  have e1 := allL_len (wrL (Ep.pairsOf K L M len)) Q
  have e2 := wrL_len (Ep.pairsOf K L M len)
  have e3 := pairs_few h
  refine ⟨by omega, riseB_up (allL_up _ _ (up_rise h2)), termsB_all.2 fun i hi => ?_⟩
  have hm : (atL (allL Q (wrL (Ep.pairsOf K L M len))) i).toList ∈ allL Q (wrL (Ep.pairsOf K L M len)) := by
    rw [atL_list]
    simp only [List.getD, List.getElem?_eq_getElem hi, Option.getD_some]
    exact List.getElem_mem hi
  rcases (allL_mem _ _ _).1 hm with h4 | h4
  · obtain ⟨j, hj, e⟩ := List.mem_iff_getElem.1 h4
    have h5 := termsB_all.1 h3 j hj
    have e4 : atL Q j = atL (allL Q (wrL (Ep.pairsOf K L M len))) i := by
      apply bytes_eq
      rw [atL_list Q]
      simp only [List.getD, List.getElem?_eq_getElem hj, Option.getD_some]
      exact e
    rw [← e4]
    exact h5
  · obtain ⟨p, hp, e⟩ := (wrL_mem _ _).1 h4
    obtain ⟨r1, r2⟩ := pairs_range h p hp
    have hf := wrapT_fit r1 r2
    rw [← bytes_eq e, rT_txt hf.1 hf.2.1 hf.2.2]
    rfl
/-- known among all: what was known, and the wraps -/
theorem kn_all {K : Nat → Int} {L : Nat → Nat} {M : Nat → Nat → Int} {len : Nat} {Q : List (List UInt8)} (h : Ep.epsB K L M len = true) (u : Tr) :
    Kn (atL (allL Q (wrL (Ep.pairsOf K L M len)))) (allL Q (wrL (Ep.pairsOf K L M len))).length u ↔ Kn (atL Q) Q.length u ∨ ∃ p, p ∈ Ep.pairsOf K L M len ∧ u = wrapT p := by
  rw [kn_list, kn_list, allL_mem]
  constructor
  · rintro ⟨hf, h1 | h1⟩
    · exact .inl ⟨hf, h1⟩
    · obtain ⟨p, hp, e⟩ := (wrL_mem _ _).1 h1
      obtain ⟨r1, r2⟩ := pairs_range h p hp
      exact .inr ⟨p, hp, txt_inj hf (wrapT_fit r1 r2) e.symm⟩
  · rintro (⟨hf, h1⟩ | ⟨p, hp, rfl⟩)
    · exact ⟨hf, .inl h1⟩
    · obtain ⟨r1, r2⟩ := pairs_range h p hp
      exact ⟨wrapT_fit r1 r2, .inr ((wrL_mem _ _).2 ⟨p, hp, rfl⟩)⟩
end Go.Proofs.YtcolcnkjcagbaaaGreatDoor

namespace Go.Proofs.YtcolcnkjcagbaaaGreatDoor
open Go.RowKit Go.Maps
set_option linter.unusedVariables false

def OwnK (w : World) (base : Nat) (v : Value) (R : List Int) : Prop := w.ownsRow base 2 1 v R.length (R.map (.int .i64 ·))
theorem OwnK.below {w w' : World} {base : Nat} {v : Value} {R : List Int} (h : OwnK w base v R) (hB : Below w.heap.size w w') : OwnK w' base v R := ownsRow_below h hB
def keyIn (O : List (List UInt8)) (K : Nat → Int) (i : Nat) : Bool := decide ((keyT (K i).toNat).txt.toList ∈ O)
/-- the keys of the first n epochs that are opened -/
def keysL (O : List (List UInt8)) (K : Nat → Int) : Nat → List Int
  | 0 => []
  | n + 1 => keysL O K n ++ (if keyIn O K n then [K n] else [])
theorem keysL_len (O : List (List UInt8)) (K : Nat → Int) : ∀ n, (keysL O K n).length ≤ n
  | 0 => by simp [keysL]
  | n + 1 => by
    have := keysL_len O K n
    rw [keysL, List.length_append]
    split <;> simp <;> omega
/-- what KeysOf answers -/
def KeysR (K : Nat → Int) (L : Nat → Nat) (M : Nat → Nat → Int) (len : Nat) (S : Nat → ByteArray) (kl : Nat) (R : List Int) : Prop :=
  (Ep.epsB K L M len = true → knownB S kl = true → ∃ O, Up O ∧ (∀ x, x ∈ O ↔ OpT (atL (allL (LL S kl) (wrL (Ep.pairsOf K L M len)))) (allL (LL S kl) (wrL (Ep.pairsOf K L M len))).length x) ∧ R = keysL O K len) ∧ (Ep.epsB K L M len = false ∨ knownB S kl = false → R = [])
theorem KeysR.unique {K : Nat → Int} {L : Nat → Nat} {M : Nat → Nat → Int} {len : Nat} {S : Nat → ByteArray} {kl : Nat} {R R' : List Int} (h : KeysR K L M len S kl R) (h' : KeysR K L M len S kl R') : R = R' := by
  cases he : Ep.epsB K L M len with
  | false => rw [h.2 (.inl he), h'.2 (.inl he)]
  | true =>
    cases hk : knownB S kl with
    | false => rw [h.2 (.inr hk), h'.2 (.inr hk)]
    | true =>
      obtain ⟨O, hU, hO, e⟩ := h.1 he hk
      obtain ⟨O', hU', hO', e'⟩ := h'.1 he hk
      rw [e, e', up_unique hU hU' (fun x => (hO x).trans (hO' x).symm)]
theorem atL_LL {S : Nat → ByteArray} {n i : Nat} (hi : i < n) : atL (LL S n) i = S i := by
  apply bytes_eq
  rw [atL_list, LL_at S hi]
theorem known_LL {S : Nat → ByteArray} {n : Nat} (h : knownB S n = true) : knownB (atL (LL S n)) (LL S n).length = true := by
  obtain ⟨h1, h2, h3⟩ := known_of h
  rw [LL_len]
  unfold knownB
  rw [Bool.and_eq_true, Bool.and_eq_true]
  refine ⟨⟨decide_eq_true h1, ?_⟩, termsB_all.2 fun i hi => by rw [atL_LL hi]; exact termsB_all.1 h3 i hi⟩
  unfold riseB at h2 ⊢
  rw [List.all_eq_true] at h2 ⊢
  intro k hk
  have h4 := h2 k hk
  have hkn := List.mem_range.1 hk
  cases k with
  | zero => rfl
  | succ j =>
    unfold upB at h4 ⊢
    rw [Nat.add_sub_cancel] at h4 ⊢
    rw [atL_LL hkn, atL_LL (show j < n by omega)]
    exact h4

theorem own_at {w w' : World} {base g c : Nat} {L : List (List UInt8)} (h : OwnS w base g c L) (he : w'.heap[g]? = w.heap[g]?) : OwnS w' base g c L := by
  refine ⟨h.1, ?_⟩
  rcases h.2 with ⟨e, _⟩ | ⟨g', cap, cur, e, hg, hh, r⟩
  · cases e
  · refine .inr ⟨g', cap, cur, e, hg, ?_, r⟩
    cases e
    rw [he]
    exact hh
/-- a row of numbers is no row of texts -/
theorem row_apart {w : World} {b base g c q : Nat} {L : List (List UInt8)} {v : Value} {xs : List Value} (h : OwnS w b g c L) (k : w.ownsRow base 2 1 v q xs) : ∀ x, v.ownBlock = some x → x ≠ g := by
  intro x hx e
  subst e
  rcases k.2 with ⟨e, _⟩ | ⟨g', cap, cur, e, hg, hh, r⟩
  · rw [e] at hx; cases hx
  · rw [e] at hx
    have hx' : some g' = some x := hx
    cases hx'
    rcases h.2 with ⟨e2, _⟩ | ⟨g2, cap2, cur2, e2, hg2, hh2, r2⟩
    · cases e2
    · cases e2
      rw [hh] at hh2
      simp at hh2

theorem eps_key {K : Nat → Int} {L : Nat → Nat} {M : Nat → Nat → Int} {len i : Nat} (h : Ep.epsB K L M len = true) (hi : i < len) : 100 ≤ K i ∧ K i ≤ 199 := by
  unfold Ep.epsB Ep.epsTo at h
  rw [Bool.and_eq_true, List.all_eq_true] at h
  have h1 := h.2 i (List.mem_range.2 hi)
  rw [Bool.and_eq_true] at h1
  have h2 := h1.2
  unfold Ep.epB at h2
  simp only [Bool.and_eq_true, decide_eq_true_eq] at h2
  exact h2.1.1

set_option maxRecDepth 8000 in
set_option maxHeartbeats 16000000 in
theorem specKeysOf_any (a : Option Addr) (len cap : Nat) (K : Nat → Int) (L : Nat → Nat) (M : Nat → Nat → Int) (ka : Option Addr) (kl kc : Nat) (S : Nat → ByteArray) (w : World) (h : Ep.IsEps w a len cap K L M) (hs : IsStrs w ka kl kc S) (hz : ∀ i, i < kl → (S i).size ≤ 1048576) :
    Calls Tryz.prog 33 #[.slice a len cap, .slice ka kl kc] w fun e w' => ∃ v R, e = .returned v ∧ OwnK w' w.heap.size v R ∧ KeysR K L M len S kl R ∧ Below w.heap.size w w' := by
  have HI : Hid (Ep.IsEps w a len cap K L M) := h
  have HS : Hid (IsStrs w ka kl kc S) := hs
  have HB0 : Hid (Below w.heap.size w (w.alloc (.cells #[] 2))) := (Below.refl _ _).alloc (Nat.le_refl _) _
  obtain ⟨eb, heb⟩ : ∃ eb, eb = Ep.epsB K L M len := ⟨_, rfl⟩
  have HEB : Hid (eb = Ep.epsB K L M len) := heb
  obtain ⟨kb, hkb⟩ : ∃ kb, kb = knownB S kl := ⟨_, rfl⟩
  have HKB : Hid (kb = knownB S kl) := hkb
  have HE : Hid (∀ v, Below w.heap.size w v → Calls Tryz.prog 28 #[.slice a len cap] v fun e w' => e = .returned (.bool eb) ∧ Below v.heap.size v w') := fun v hv => by
    rw [HEB.out]
    exact Ep.specEpochsOk_any a len cap K L M v (HI.out.below hv)
  have HK : Hid (∀ v, Below w.heap.size w v → Calls Tryz.prog 31 #[.slice ka kl kc] v fun e w' => e = .returned (.bool kb) ∧ Below v.heap.size v w') := fun v hv => by
    rw [HKB.out]
    exact specKnown_any ka kl kc S v (HS.out.below hv) hz
  have HO0 : Hid (OwnK (w.alloc (.cells #[] 2)) w.heap.size (.slice (some ⟨w.heap.size, 0, none⟩) 0 0) []) := World.ownsRow_made w #[] 0 (Nat.le_refl _) (by decide) rfl
  clear h hs heb hkb
  go_enter Tryz.func33, Tryz.ntmps33
  go_wp2_with fail
  refine (HE.out _ HB0.out).mono ?_
  rintro e w1 ⟨rfl, hB1⟩
  have HB1 : Hid (Below w.heap.size w w1) := HB0.out.trans (hB1.mono HB0.out.size)
  have HO1 : Hid (OwnK w1 w.heap.size (.slice (some ⟨w.heap.size, 0, none⟩) 0 0) []) := HO0.out.below hB1
  clear hB1
  cases eb with
  | false =>
    go_wp2
    go_ret
    exact ⟨_, [], rfl, HO1.out, ⟨fun h => (by rw [← HEB.out] at h; cases h), fun _ => rfl⟩, HB1.out⟩
  | true =>
  go_wp2_with fail
  refine (HK.out w1 HB1.out).mono ?_
  rintro e w2 ⟨rfl, hB2⟩
  have HB2 : Hid (Below w.heap.size w w2) := HB1.out.trans (hB2.mono HB1.out.size)
  have HO2 : Hid (OwnK w2 w.heap.size (.slice (some ⟨w.heap.size, 0, none⟩) 0 0) []) := HO1.out.below hB2
  clear hB2
  cases kb with
  | false =>
    go_wp2
    go_ret
    exact ⟨_, [], rfl, HO2.out, ⟨fun _ h => (by rw [← HKB.out] at h; cases h), fun _ => rfl⟩, HB2.out⟩
  | true =>
  obtain ⟨w3, hw3⟩ : ∃ w3, w3 = w2.alloc (.cells #[] 9) := ⟨_, rfl⟩
  have HW3 : Hid (w3 = w2.alloc (.cells #[] 9)) := hw3
  have HB23 : Hid (Below w2.heap.size w2 w3) := by show Below _ _ _; rw [hw3]; exact (Below.refl _ _).alloc (Nat.le_refl _) _
  have HG3 : Hid (w3.heap[w2.heap.size]? = some (.cells #[] 9 (0, 0))) := by show _ = _; rw [hw3]; exact heap_alloc_new _ _
  have HS3 : Hid (IsStrs w3 ka kl kc S) := (HS.out.below HB2.out).below HB23.out
  have hk30 := (known_of HKB.out.symm).1
  have hl1 : kl ≤ 1000 := by omega
  obtain ⟨hkc1, hkc2, _⟩ := HS3.out
  clear hw3 hk30
  go_wp2_with (at_builtin; rw [← HW3.out]; refine wpList_app0S rfl _ _ rfl w2.heap.size ka kl kc S rfl rfl HG3.out HS3.out hl1 ?_; intro g4 c4 w4 ho4 hB4; have HO4 : Hid (OwnS w4 w2.heap.size g4 c4 (LL S kl)) := ho4; have HB4 : Hid (Below w2.heap.size w2 w4) := HB23.out.trans hB4; clear ho4 hB4)
  have HB04 : Hid (Below w.heap.size w w4) := HB2.out.trans (HB4.out.mono HB2.out.size)
  have HOK4 : Hid (OwnK w4 w.heap.size (.slice (some ⟨w.heap.size, 0, none⟩) 0 0) []) := HO2.out.below HB4.out
  have HWR : Hid (Calls Tryz.prog 55 #[.slice a len cap] w4 fun e w' => ∃ g c, e = .returned (.slice (some ⟨g, 0, none⟩) (wrL (Ep.pairsOf K L M len)).length c) ∧ OwnS w' w4.heap.size g c (wrL (Ep.pairsOf K L M len)) ∧ Below w4.heap.size w4 w') := specWraps_any a len cap K L M w4 (HI.out.below HB04.out) HEB.out.symm
  go_wp2_with fail
  refine HWR.out.mono ?_
  rintro e w5 ⟨g5, c5, rfl, ho5, hB5⟩
  obtain ⟨Ws, hWs⟩ : ∃ Ws, Ws = wrL (Ep.pairsOf K L M len) := ⟨_, rfl⟩
  have HWS : Hid (Ws = wrL (Ep.pairsOf K L M len) ∧ Ws.length ≤ 25) := ⟨hWs, by rw [hWs]; exact Nat.le_trans (wrL_len _) (pairs_few HEB.out.symm)⟩
  rw [← hWs] at ho5 ⊢
  have HO5 : Hid (OwnS w5 w4.heap.size g5 c5 Ws) := ho5
  have HB5 : Hid (Below w.heap.size w w5) := HB04.out.trans (hB5.mono HB04.out.size)
  have HA5 : Hid (OwnS w5 w.heap.size g4 c4 (LL S kl)) := mono_base (HO4.out.below hB5) HB2.out.size
  have HOK5 : Hid (OwnK w5 w.heap.size (.slice (some ⟨w.heap.size, 0, none⟩) 0 0) []) := HOK4.out.below hB5
  clear ho5 hB5 hWs HWR
  obtain ⟨wl, hwl⟩ : ∃ wl, wl = Ws.length := ⟨_, rfl⟩
  have HWL : Hid (wl = Ws.length) := hwl
  rw [← hwl]
  have hwl2 : wl ≤ 25 := by rw [hwl]; exact HWS.out.2
  clear hwl
  go_wp2
  go_loopw [6, 8] (fun v x wr => ∃ (i g c : Nat), i ≤ wl ∧ x = .int .i64 i ∧ v = .slice (some ⟨g, 0, none⟩) (allL (LL S kl) (Ws.take i)).length c ∧ Hid (OwnS wr w.heap.size g c (allL (LL S kl) (Ws.take i)) ∧ Below w.heap.size w wr ∧ Below w5.heap.size w5 wr)) (fun _ x _ => wl - (intOf x).toNat)
  case atStart => exact ⟨0, g4, c4, Nat.zero_le _, rfl, rfl, HA5.out, HB5.out, Below.refl _ _⟩
  case round =>
    obtain ⟨i, g, c, hi, rfl, rfl, HR⟩ := hrel
    by_cases hlt : i < wl
    · have hltI : (i : Int) < (wl : Int) := by omega
      have hd := HO5.out.lies.1 i (by rw [← HWL.out]; exact hlt)
      have d1 : wr.cell? ⟨g5, i, none⟩ = some (.string (atL Ws i)) := by
        have h1 := (HR.out.2.2.cell (p := ⟨g5, 0 + i, none⟩) HO5.out.lies.2.1).trans hd
        rw [Nat.zero_add] at h1
        rw [h1, ← enc_str, atL_list]
      have HAD : Hid (allL (LL S kl) (Ws.take (i + 1)) = putL (allL (LL S kl) (Ws.take i)) (atL Ws i).toList) := by
        show _ = _
        have e : Ws.take (i + 1) = Ws.take i ++ [(atL Ws i).toList] := by
          rw [List.take_add_one, atL_list, List.getD_eq_getElem?_getD, List.getElem?_eq_getElem (by rw [← HWL.out]; exact hlt)]
          rfl
        rw [e, allL_add]
      have HLN : Hid ((allL (LL S kl) (Ws.take i)).length ≤ 2000000) := by
        show _ ≤ _
        have h1 := allL_len (Ws.take i) (LL S kl)
        rw [LL_len, List.length_take] at h1
        omega
      obtain ⟨s, hs⟩ : ∃ s, s = atL Ws i := ⟨_, rfl⟩
      rw [← hs] at d1 HAD
      obtain ⟨Ai, hAi⟩ : ∃ Ai, Ai = allL (LL S kl) (Ws.take i) := ⟨_, rfl⟩
      rw [← hAi] at HR HAD HLN ⊢
      have hcap := HR.out.1.caps
      obtain ⟨hcap1, hcap2⟩ := hcap
      have HPU : Hid (Calls Tryz.prog 51 #[.slice (some ⟨g, 0, none⟩) Ai.length c, .string s] wr fun e w' => ∃ g' gc, e = .returned (.slice (some ⟨g', 0, none⟩) (putL Ai s.toList).length gc) ∧ OwnS w' wr.heap.size g' gc (putL Ai s.toList) ∧ Below wr.heap.size wr w') := l1Put_any g 0 c Ai s wr HR.out.1.lies.1 HR.out.1.lies.2.1 hcap1 hcap2 HLN.out
      clear hd hs hAi
      go_wp2_with fail
      refine HPU.out.mono ?_
      rintro e w6 ⟨g6, c6, rfl, ho6, hB6⟩
      have HN6 : Hid (OwnS w6 w.heap.size g6 c6 (putL Ai s.toList) ∧ Below w.heap.size w w6 ∧ Below w5.heap.size w5 w6) := ⟨mono_base ho6 HR.out.2.1.size, HR.out.2.1.trans (hB6.mono HR.out.2.1.size), HR.out.2.2.trans (hB6.mono HR.out.2.2.size)⟩
      clear ho6 hB6 d1
      go_wp2
      go_roundw
      case rel => exact ⟨i + 1, g6, c6, by omega, by go_num, by rw [HAD.out], by rw [HAD.out]; exact HN6.out⟩
      case measure => simp [intOf]; omega
    · have hke : i = wl := by omega
      subst hke
      have htk : Ws.take i = Ws := by rw [HWL.out, List.take_length]
      rw [htk] at HR ⊢
      have HAR : Hid (KnW (atL (allL (LL S kl) Ws)) (allL (LL S kl) Ws).length) := by
        have h1 := all_right HEB.out.symm (known_LL HKB.out.symm)
        rw [← HWS.out.1] at h1
        exact h1
      have HOP : Hid (Calls Tryz.prog 56 #[.slice (some ⟨g, 0, none⟩) (allL (LL S kl) Ws).length c] wr fun e w' => ∃ go oc O, e = .returned (.slice (some ⟨go, 0, none⟩) O.length oc) ∧ OwnS w' wr.heap.size go oc O ∧ Up O ∧ (∀ x, x ∈ O ↔ OpT (atL (allL (LL S kl) Ws)) (allL (LL S kl) Ws).length x) ∧ Below wr.heap.size wr w') := l2Opened_any _ _ _ c wr HR.out.1.strs HAR.out
      have HOKR : Hid (OwnK wr w.heap.size (.slice (some ⟨w.heap.size, 0, none⟩) 0 0) []) := HOK5.out.below HR.out.2.2
      obtain ⟨al, hal⟩ : ∃ al, al = (allL (LL S kl) Ws).length := ⟨_, rfl⟩
      have HAL : Hid (al = (allL (LL S kl) Ws).length) := hal
      rw [← hal] at HOP ⊢
      clear htk hal
      go_wp2_with fail
      refine HOP.out.mono ?_
      rintro e w7 ⟨go, oc, O, rfl, hoO, hUO, hMO, hB7⟩
      have HO7 : Hid (OwnS w7 wr.heap.size go oc O) := hoO
      have HUM : Hid (Up O ∧ ∀ x, x ∈ O ↔ OpT (atL (allL (LL S kl) (wrL (Ep.pairsOf K L M len)))) (allL (LL S kl) (wrL (Ep.pairsOf K L M len))).length x) := ⟨hUO, by rw [← HWS.out.1, ← HAL.out]; exact hMO⟩
      have HB7 : Hid (Below w.heap.size w w7) := HR.out.2.1.trans (hB7.mono HR.out.2.1.size)
      have HOK7 : Hid (OwnK w7 w.heap.size (.slice (some ⟨w.heap.size, 0, none⟩) 0 0) []) := HOKR.out.below hB7
      clear hoO hUO hMO hB7 HOP
      have HOW : Hid (OwnS w7 w.heap.size go oc O) := mono_base HO7.out HR.out.2.1.size
      obtain ⟨ol, hol⟩ : ∃ ol, ol = O.length := ⟨_, rfl⟩
      have HOL : Hid (ol = O.length) := hol
      have hocap := HO7.out.caps
      rw [← hol] at hocap ⊢
      obtain ⟨hocap1, hocap2⟩ := hocap
      clear hol
      go_wp2
      go_loopw [5, 10] (fun v x wr => ∃ (k : Nat), k ≤ len ∧ x = .int .i64 k ∧ Hid (OwnK wr w.heap.size v (keysL O K k) ∧ Below w.heap.size w wr ∧ OwnS wr w.heap.size go oc O)) (fun _ x _ => len - (intOf x).toNat)
      case atStart => exact ⟨0, Nat.zero_le _, rfl, HOK7.out, HB7.out, HOW.out⟩
      case round =>
        obtain ⟨k, hk, rfl, HQ⟩ := hrel
        by_cases hlk : k < len
        · have hlkI : (k : Int) < (len : Int) := by omega
          obtain ⟨h51, h52, h53⟩ := HI.out
          obtain ⟨b, off, A, C, rfl, hbs, hcell⟩ := h53 (by omega)
          have hkr := eps_key HEB.out.symm hlk
          have hl5 := (eps_few HEB.out.symm hlk).2
          obtain ⟨mk, hmk⟩ : ∃ mk : Nat, K k = (mk : Int) := ⟨(K k).toNat, by omega⟩
          have HMK : Hid (K k = (mk : Int) ∧ mk ≤ 999) := ⟨hmk, by omega⟩
          have hcw := (hcell k hlk).1
          rw [hmk] at hcw
          have HCW : Hid (∀ v, Below w.heap.size w v → v.cell? ⟨b, off + k * 2, none⟩ = some (.int .i64 (mk : Int))) := fun v hv => (hv.cell (p := ⟨b, off + k * 2, none⟩) hbs).trans hcw
          have z1 := HCW.out wr HQ.out.2.1
          have HKT : Hid ((keyT (K k).toNat).txt = ⟨#[107]⟩ ++ decB mk) := by show _ = _; rw [keyT_txt, hmk]; rfl
          obtain ⟨kin, hkin⟩ : ∃ kin, kin = keyIn O K k := ⟨_, rfl⟩
          have HKI : Hid (kin = keyIn O K k) := hkin
          have HHS : Hid (∀ v, OwnS v w.heap.size go oc O → Calls Tryz.prog 57 #[.slice (some ⟨go, 0, none⟩) ol oc, .string (⟨#[107]⟩ ++ decB mk)] v fun e w' => e = .returned (.bool kin) ∧ w' = v) := fun v hv => by
            have h1 := hasM_any _ go oc O (⟨#[107]⟩ ++ decB mk) v hv
            rw [← HOL.out] at h1
            rw [HKI.out]
            unfold keyIn
            rw [HKT.out]
            exact h1
          have HAD : Hid (∀ v : World, (Op.stringOp .add ⟨#[107]⟩ (decB mk)).run Tryz.prog v = .ok (.string (⟨#[107]⟩ ++ decB mk)) v) := fun v => add_ok (by have h1 := decB_size mk; have e : (ByteArray.mk #[107]).size = 1 := rfl; have h2 := HMK.out.2; omega) v
          have HNX : Hid (keysL O K (k + 1) = keysL O K k ++ (if kin = true then [(mk : Int)] else [])) := by show _ = _; rw [keysL, ← hkin, hmk]
          have HRL : Hid ((keysL O K k).length + 1 ≤ maxLen ∧ ((keysL O K k).length + 1) * 8 ≤ 140737488355328) := by
            have h1 := keysL_len O K k
            exact ⟨by unfold maxLen; omega, by omega⟩
          clear h51 h52 h53 hcell hcw hkr hmk hkin hbs
          go_wp2_with fail
          refine (l1Dec_any mk HMK.out.2 wr).mono ?_
          rintro e w8 ⟨rfl, hB8⟩
          have HB8 : Hid (OwnK w8 w.heap.size u5 (keysL O K k) ∧ Below w.heap.size w w8 ∧ OwnS w8 w.heap.size go oc O) := ⟨HQ.out.1.below hB8, HQ.out.2.1.trans (hB8.mono HQ.out.2.1.size), HQ.out.2.2.below hB8⟩
          have ad := HAD.out w8
          have z2 := HCW.out w8 HB8.out.2.1
          clear hB8 z1
          go_wp2_with fail
          refine (HHS.out w8 HB8.out.2.2).mono ?_
          rintro e w9 ⟨rfl, hw9⟩
          rw [hw9]
          clear hw9 w9 ad
          cases kin with
          | false =>
            clear z2
            go_wp2
            go_roundw
            case rel => exact ⟨k + 1, by omega, by go_num, by rw [HNX.out, if_neg (by decide), List.append_nil]; exact HB8.out⟩
            case measure => simp [intOf]; omega
          | true =>
            obtain ⟨i0, hi0, hz0, hz1, hz2⟩ := info_parts Ep.info2
            obtain ⟨q, hq⟩ : ∃ q, q = (keysL O K k).length := ⟨_, rfl⟩
            have HO' : Hid (w8.ownsRow w.heap.size 2 1 u5 q ((keysL O K k).map (.int .i64 ·))) := by rw [hq]; exact HB8.out.1
            have HQ' : Hid (q = (keysL O K k).length ∧ q + 1 ≤ maxLen ∧ (q + 1) * 8 ≤ 140737488355328) := ⟨hq, by rw [hq]; exact HRL.out.1, by rw [hq]; exact HRL.out.2⟩
            clear hq
            go_wp2_with (at_builtin; refine wpList_append_own _ rfl _ _ 45 rfl w.heap.size 2 i0 (.int .i64 0) 1 8 Tryz.underlying45 hi0 hz0 hz1 hz2 rfl (by decide) _ q _ rfl (HO'.out.alloc _) ⟨w8.heap.size, 0, none⟩ 1 1 [.int .i64 mk] rfl rfl (World.news_of_block (heap_alloc_new _ _)) (by simp [Value.oneCell']) HQ'.out.2.1 HQ'.out.2.2 (by have := HB8.out.2.1.size; simp; omega) ?_; intro v4 w10 hown4 hgrow4 hnil4)
            have HF : Hid (OwnK w10 w.heap.size v4 (keysL O K (k + 1)) ∧ Below w.heap.size w w10 ∧ OwnS w10 w.heap.size go oc O) := by
              refine ⟨?_, (HB8.out.2.1.alloc HB8.out.2.1.size _).grown hgrow4 (by have := HB8.out.2.1.size; simp; omega) (fun x hx => (HO'.out.lt x hx).1), ?_⟩
              · unfold OwnK
                rw [HNX.out, if_pos trivial, List.length_append, ← HQ'.out.1, List.map_append]
                exact hown4
              · have hal8 : OwnS (w8.alloc (.cells #[.int .i64 mk] 2)) w.heap.size go oc O := HB8.out.2.2.alloc _
                exact own_at hal8 (hgrow4.block go hal8.lies.2.1 (fun e => row_apart hal8 (HO'.out.alloc _) go e.symm rfl))
            clear hown4 hgrow4 hnil4 z2
            go_wp2
            go_roundw
            case rel => exact ⟨k + 1, by omega, by go_num, HF.out⟩
            case measure => simp [intOf]; omega
        · have hke : k = len := by omega
          subst hke
          go_wp2
          go_ret
          exact ⟨_, keysL O K k, rfl, HQ.out.1, ⟨fun _ _ => ⟨O, HUM.out.1, HUM.out.2, rfl⟩, fun h => h.elim (fun h => (by rw [← HEB.out] at h; cases h)) (fun h => (by rw [← HKB.out] at h; cases h))⟩, HQ.out.2.1⟩
end Go.Proofs.YtcolcnkjcagbaaaGreatDoor
