/-
  The statement FnSeqBothSaid: at every code the law returns true, and the code reads afterwards as it read before. No condition.
-/
import Derived.Test.YtjfciokpnhnhbaaSqM8
import Derived.Test.YtjfciokpnhnhbaaSqM7
import Derived.Test.YtjfciokpnhnhbaaOpenU5
import Derived.Test.YtjfciokpnhnhbaaRows
namespace Go.Proofs.Ytjfciokpnhnhbaa
open Go.ChangeShapes Go.WideShapes Go.ChangeAt Go.RowKit Go.Deep
set_option linter.unusedVariables false

/-- the program's SeqInserted where it goes through -/
theorem insYes (a : Option Addr) (n cap : Nat) (A : List Ev) (author z : Int) (sg : ByteArray) (hsg : sg.size ≤ 8) (w : World) (hn : n = A.length) (h : IsEvs w a n cap (gD A)) (hG : Good A) (ok : okI (gD A) A.length author z sg = true) (X : Ev) (hX : X = opI (gD A) A.length author z sg) :
    Calls Try.prog 18 #[.slice a n cap, .int .i64 author, .int .i64 z, .string sg] w fun e w' => ∃ b c, e = .returned (.tuple #[.slice b (n + 1) c, .agg #[.int .i64 X.a, .int .i64 X.b, .int .i64 X.c, .string X.d], .bool true]) ∧ OwnV w' w.heap.size (.slice b (n + 1) c) (A ++ [X]) ∧ Below w.heap.size w w' := by
  subst hn
  have := implInserted_any a A.length cap (gD A) author z sg (by omega) w h hG.2
  rw [listD_gD] at this
  refine this.mono ?_
  rintro e w' ⟨v, he, hO, hB⟩
  rw [ok, if_pos rfl] at he
  rw [ok, if_pos rfl, ← hX] at hO
  rw [← hX] at he
  obtain ⟨b, c, hv, _⟩ := hO.evs
  rw [List.length_append] at hv
  change v = .slice b (A.length + 1) c at hv
  subst hv
  exact ⟨b, c, he, hO, hB⟩

/-- the program's SeqMerged where it goes through -/
theorem mrgYes (b1 b2 : Nat) (v u : Value) (A B M : List Ev) (w : World) (h1 : OwnV w b1 v A) (h2 : OwnV w b2 u B) (hA : A ≠ []) (hB : B ≠ []) (hIA : InL A) (hIB : InL B) (hm : mergedB A B = true) (hM : mergeS A B = M) :
    Calls Try.prog 14 #[v, u] w fun e w' => ∃ vm, e = .returned (.tuple #[vm, .bool true]) ∧ OwnV w' w.heap.size vm M ∧ Below w.heap.size w w' := by
  rcases h1.cases with ⟨_, e⟩ | ⟨g, c, rfl, e1⟩
  · exact absurd e hA
  · rcases h2.cases with ⟨_, e⟩ | ⟨g', c', rfl, e2⟩
    · exact absurd e hB
    · refine (implMerged_any g 0 c g' 0 c' A B w e1.lies.1 e1.lies.2.1 e1.caps.1 e1.caps.2 e2.lies.1 e2.lies.2.1 e2.caps.1 e2.caps.2 hIA hIB).mono ?_
      rintro e w' ⟨vm, rfl, hg, hB⟩
      have := hg.res
      unfold resM at this
      rw [if_pos hm, hM] at this
      rw [hm]
      exact ⟨vm, rfl, this, hB⟩
/-- a variable of the type SOp -/
def Box (w : World) (g : Nat) (x : Ev) : Prop := w.heap[g]? = some (.cells #[.int .i64 x.a, .int .i64 x.b, .int .i64 x.c, .string x.d] 36 (0, 0))
theorem Box.below {w w' : World} {g : Nat} {x : Ev} (h : Box w g x) (hB : Below w.heap.size w w') : Box w' g x := (hB.block _ (lt_of_block h)).trans h
theorem Box.new (w : World) (x : Ev) : Box (w.alloc (.cells #[.int .i64 x.a, .int .i64 x.b, .int .i64 x.c, .string x.d] 36)) w.heap.size x := heap_alloc_new _ _
/-- where each of the four stands -/
theorem four_pos {A : List Ev} {j : Nat} {X Y P Q : Ev} (h : Four A j X Y P Q) {L : List Int} (hL : L = idA (A ++ [X] ++ [P] ++ [Y] ++ [Q])) : j + 3 < L.length ∧ L.length ≤ 40 ∧ ∀ i, i < L.length → (L.getD i 0 == X.a) = decide (i = j + 2) ∧ (L.getD i 0 == Y.a) = decide (i = j + 3) ∧ (L.getD i 0 == P.a) = decide (i = j) ∧ (L.getD i 0 == Q.a) = decide (i = j + 1) := by
  have hi := h.ids
  have hz := h.zl
  have hlen : ((idA A).take j).length = j := by rw [List.length_take]; omega
  have hnd : L.Nodup := by rw [hL]; exact idsR_nodup hi.1
  have h40 : L.length ≤ 40 := by rw [hL]; exact idsR_len _ _
  rw [hi.2] at hL
  have hl : L.length = (idA A).length + 4 := by
    rw [hL, List.length_append, hlen]
    simp only [List.length_cons, List.length_drop]
    omega
  have at0 : L.getD j 0 = P.a := by rw [hL, List.getD_eq_getElem?_getD, List.getElem?_append_right (by omega), hlen, Nat.sub_self]; rfl
  have at1 : L.getD (j + 1) 0 = Q.a := by rw [hL, List.getD_eq_getElem?_getD, List.getElem?_append_right (by omega), hlen, show j + 1 - j = 1 by omega]; rfl
  have at2 : L.getD (j + 2) 0 = X.a := by rw [hL, List.getD_eq_getElem?_getD, List.getElem?_append_right (by omega), hlen, show j + 2 - j = 2 by omega]; rfl
  have at3 : L.getD (j + 3) 0 = Y.a := by rw [hL, List.getD_eq_getElem?_getD, List.getElem?_append_right (by omega), hlen, show j + 3 - j = 3 by omega]; rfl
  have key : ∀ i k, i < L.length → k < L.length → (L.getD i 0 == L.getD k 0) = decide (i = k) := fun i k h1 h2 => by
    by_cases e : i = k
    · subst e; simp
    · rw [decide_eq_false e]
      have : L.getD i 0 ≠ L.getD k 0 := fun q => e ((List.getElem?_inj h1 hnd).1 (by
        simp only [List.getD_eq_getElem?_getD, List.getElem?_eq_getElem h1, List.getElem?_eq_getElem h2, Option.getD_some] at q
        rw [List.getElem?_eq_getElem h1, List.getElem?_eq_getElem h2, q]))
      simpa using this
  refine ⟨by omega, h40, fun i hi => ⟨?_, ?_, ?_, ?_⟩⟩
  · rw [← at2]; exact key i (j + 2) hi (by omega)
  · rw [← at3]; exact key i (j + 3) hi (by omega)
  · rw [← at0]; exact key i j hi (by omega)
  · rw [← at1]; exact key i (j + 1) hi (by omega)

/-- where the four are looked for, in the law's order -/
def posOf (j : Nat) : Nat → Nat
  | 0 => j + 2
  | 1 => j + 3
  | 2 => j
  | _ => j + 1
def el4 (x y p q : Ev) : Nat → Ev
  | 0 => x
  | 1 => y
  | 2 => p
  | _ => q
/-- the place that was found among the first i -/
def plI (pos i : Nat) : Int := if pos < i then (pos : Int) else -1
def plK (j i k c : Nat) : Int := if c < k then plI (posOf j c) (i + 1) else plI (posOf j c) i
def PlAt (w : World) (g : Nat) (f : Nat → Int) : Prop := w.heap[g]? = some (.cells #[.int .i64 (f 0), .int .i64 (f 1), .int .i64 (f 2), .int .i64 (f 3)] 3 (0, 0))
theorem PlAt.congr {w : World} {g : Nat} {f f' : Nat → Int} (h : PlAt w g f) (e : ∀ c, c < 4 → f c = f' c) : PlAt w g f' := by
  unfold PlAt at *
  rw [← e 0 (by omega), ← e 1 (by omega), ← e 2 (by omega), ← e 3 (by omega)]
  exact h
theorem PlAt.cell {w : World} {g : Nat} {f : Nat → Int} (h : PlAt w g f) {k : Nat} (hk : k < 4) : w.cell? ⟨g, k, none⟩ = some (.int .i64 (f k)) := by
  have : k = 0 ∨ k = 1 ∨ k = 2 ∨ k = 3 := by omega
  rcases this with rfl | rfl | rfl | rfl <;> exact cellN h
theorem PlAt.put {w : World} {g : Nat} {f : Nat → Int} (h : PlAt w g f) {k : Nat} (hk : k < 4) (v : Int) : PlAt (w.setCell ⟨g, k, none⟩ (.int .i64 v)) g (fun c => if c = k then v else f c) := by
  have hs := setCell_heap (o := k) (v := .int .i64 v) h
  unfold PlAt
  rw [hs]
  have : k = 0 ∨ k = 1 ∨ k = 2 ∨ k = 3 := by omega
  rcases this with rfl | rfl | rfl | rfl <;> simp
def LitAt (w : World) (g : Nat) (x y p q : Ev) : Prop := w.heap[g]? = some (.cells #[.int .i64 x.a, .int .i64 x.b, .int .i64 x.c, .string x.d, .int .i64 y.a, .int .i64 y.b, .int .i64 y.c, .string y.d, .int .i64 p.a, .int .i64 p.b, .int .i64 p.c, .string p.d, .int .i64 q.a, .int .i64 q.b, .int .i64 q.c, .string q.d] 36 (0, 0))
theorem LitAt.ev {w : World} {g : Nat} {x y p q : Ev} (h : LitAt w g x y p q) {k : Nat} (hk : k < 4) : EvAt w g (k * 4) (el4 x y p q k) := by
  have : k = 0 ∨ k = 1 ∨ k = 2 ∨ k = 3 := by omega
  rcases this with rfl | rfl | rfl | rfl <;> exact ⟨cellN h, cellN h, cellN h, cellN h⟩
/-- the law's state within its two loops -/
structure PS (w0 w : World) (g gl : Nat) (f : Nat → Int) (x y p q : Ev) : Prop where
  pl : PlAt w g f
  lit : LitAt w gl x y p q
  bel : Below w0.heap.size w0 w
  ge : w0.heap.size ≤ g
  ne : gl ≠ g
theorem PS.below {w0 w w' : World} {g gl : Nat} {f : Nat → Int} {x y p q : Ev} (h : PS w0 w g gl f x y p q) (hB : Below w.heap.size w w') : PS w0 w' g gl f x y p q :=
  ⟨(hB.block _ (lt_of_block h.pl)).trans h.pl, (hB.block _ (lt_of_block h.lit)).trans h.lit, h.bel.trans (hB.mono h.bel.size), h.ge, h.ne⟩
theorem PS.put {w0 w : World} {g gl : Nat} {f : Nat → Int} {x y p q : Ev} (h : PS w0 w g gl f x y p q) {k : Nat} (hk : k < 4) (v : Int) : PS w0 (w.setCell ⟨g, k, none⟩ (.int .i64 v)) g gl (fun c => if c = k then v else f c) x y p q :=
  ⟨h.pl.put hk v, (Below.heap_setCell _ _ _ _ h.ne).trans h.lit, h.bel.setCell h.ge _, h.ge, h.ne⟩
theorem PS.congr {w0 w : World} {g gl : Nat} {f f' : Nat → Int} {x y p q : Ev} (h : PS w0 w g gl f x y p q) (e : ∀ c, c < 4 → f c = f' c) : PS w0 w g gl f' x y p q := ⟨h.pl.congr e, h.lit, h.bel, h.ge, h.ne⟩
theorem wrap64_small {z : Int} (h : -9223372036854775808 ≤ z) (h' : z ≤ 9223372036854775807) : IntKind.i64.wrap z = z := by
  rw [IntKind.wrap_i64]
  omega
theorem pl_hit {j i k : Nat} (hk : k < 4) (h : i = posOf j k) : ∀ c, c < 4 → (if c = k then (i : Int) else plK j i k c) = plK j i (k + 1) c := by
  intro c hc
  by_cases e : c = k
  · subst e
    rw [if_pos rfl]
    unfold plK plI
    rw [if_pos (by omega), if_pos (by omega), h]
  · rw [if_neg e]
    unfold plK
    by_cases hlt : c < k
    · rw [if_pos hlt, if_pos (by omega)]
    · rw [if_neg hlt, if_neg (by omega)]
theorem pl_miss {j i k : Nat} (hk : k < 4) (h : i ≠ posOf j k) : ∀ c, c < 4 → plK j i k c = plK j i (k + 1) c := by
  intro c hc
  unfold plK plI
  by_cases hlt : c < k
  · rw [if_pos hlt, if_pos (show c < k + 1 by omega)]
  · by_cases e : c = k
    · subst e
      rw [if_neg hlt, if_pos (show c < c + 1 by omega)]
      by_cases h2 : posOf j c < i
      · rw [if_pos h2, if_pos (by omega)]
      · rw [if_neg h2, if_neg (by omega)]
    · rw [if_neg hlt, if_neg (show ¬ c < k + 1 by omega)]

set_option maxRecDepth 10000 in
set_option maxHeartbeats 8000000 in
theorem sqboth_walk {a : Option Addr} {len cap : Nat} {Z : Nat → Int} (W : World) (hU : IsU8 W a len cap Z) :
    Calls Try.prog 6 #[.slice a len cap] W fun e w' => e = .returned (.bool true) ∧ Below W.heap.size W w' := by
  go_enter Try.func6, Try.ntmps6
  go_wp2_with fail
  refine (big_any a len cap W).mono ?_
  rintro e wq ⟨rfl, hwq⟩
  rw [hwq]
  clear hwq wq
  cases hbig : decide ((1048576 : Int) < (len : Int)) with
  | true =>
    go_wp2
    go_ret
    exact ⟨rfl, Below.refl _ _⟩
  | false =>
    go_wp2_with fail
    refine (drawInsb_any W hU).mono ?_
    rintro e w1 ⟨v, A, author0, z, sg0, rfl, _, hO1, hG, hB1, hSM, hsq⟩
    obtain ⟨va, vc, hv, hE1⟩ := hO1.evs
    subst hv
    obtain ⟨n, hn⟩ : ∃ n, n = A.length := ⟨_, rfl⟩
    have HN := (show Hid _ from hn)
    have HB1 : Hid (Below W.heap.size W w1) := hB1
    have HE : Hid (∀ w', Below w1.heap.size w1 w' → IsEvs w' va n vc (gD A)) := by rw [hn]; exact fun w' hB => IsEvs.below hE1 hB
    have HG : Hid (Good A ∧ SmK 0 A ∧ okA A) := ⟨hG, hSM, hsq⟩
    rw [← hn]
    clear hn hO1 hG hB1 hE1 hSM hsq
    obtain ⟨ok, hok⟩ : ∃ ok, ok = okI (gD A) n 1 z sgX := ⟨_, rfl⟩
    obtain ⟨x, hx⟩ : ∃ x, x = (if ok then opI (gD A) n 1 z sgX else evZ) := ⟨_, rfl⟩
    obtain ⟨B, hB⟩ : ∃ B, B = (if ok then A ++ [opI (gD A) n 1 z sgX] else []) := ⟨_, rfl⟩
    have HI : Hid (∀ w', Below w1.heap.size w1 w' → Calls Try.prog 18 #[.slice va n vc, .int .i64 1, .int .i64 z, .string ⟨#[120]⟩] w' fun e w'' => ∃ v, e = .returned (.tuple #[v, .agg #[.int .i64 x.a, .int .i64 x.b, .int .i64 x.c, .string x.d], .bool ok]) ∧ OwnV w'' w'.heap.size v B ∧ Below w'.heap.size w' w'') := fun w' hB' => by
      have := implInserted_any va n vc (gD A) 1 z sgX (by decide) w' (HE.out w' hB') (by rw [HN.out]; exact HG.out.1.2)
      have e1 : listD (gD A) n = A := by rw [HN.out]; exact listD_gD A
      rw [e1] at this
      rw [hB, hx, hok]
      exact this
    have HS : Hid (∀ w', Below w1.heap.size w1 w' → Calls Try.prog 19 #[.slice va n vc, .int .i64 1, .int .i64 z, .string ⟨#[120]⟩] w' fun e w'' => ∃ v, e = .returned (.tuple #[v, .agg #[.int .i64 x.a, .int .i64 x.b, .int .i64 x.c, .string x.d], .bool ok]) ∧ OwnV w'' w'.heap.size v B ∧ Below w'.heap.size w' w'') := fun w' hB' => by
      have := specInserted_any va n vc (gD A) 1 z sgX (by decide) w' (HE.out w' hB') (by rw [HN.out]; exact HG.out.1.2)
      have e1 : listD (gD A) n = A := by rw [HN.out]; exact listD_gD A
      rw [e1] at this
      rw [hB, hx, hok]
      exact this
    have HK : Hid (ok = okI (gD A) n 1 z sgX ∧ x = (if ok then opI (gD A) n 1 z sgX else evZ) ∧ B = (if ok then A ++ [opI (gD A) n 1 z sgX] else [])) := ⟨hok, hx, hB⟩
    have hokn : (ok != ok) = false := by simp
    have hoke : (ok == ok) = true := by simp
    clear hok hx hB
    go_wp2_with fail
    refine (HI.out w1 (Below.refl _ _)).mono ?_
    rintro e w2 ⟨vm, rfl, hm2, hB2⟩
    obtain ⟨w3, hw3⟩ : ∃ w3, w3 = w2.alloc (.cells #[.int .i64 x.a, .int .i64 x.b, .int .i64 x.c, .string x.d] 36) := ⟨_, rfl⟩
    have hB23 : Below w2.heap.size w2 w3 := by rw [hw3]; exact (Below.refl _ _).alloc (Nat.le_refl _) _
    have HB3 : Hid (Below w1.heap.size w1 w3) := hB2.trans (hB23.mono hB2.size)
    have HM3 : Hid (OwnV w3 w1.heap.size vm B ∧ w3.heap[w2.heap.size]? = some (.cells #[.int .i64 x.a, .int .i64 x.b, .int .i64 x.c, .string x.d] 36 (0, 0))) := ⟨hm2.below hB23, by rw [hw3]; exact heap_alloc_new _ _⟩
    have HW3 := (show Hid _ from hw3)
    clear hm2 hB2 hB23 hw3
    go_wp2_with fail
    rw [← HW3.out]
    refine (HS.out w3 HB3.out).mono ?_
    rintro e w4 ⟨vs, rfl, hs4, hB4⟩
    obtain ⟨w5, hw5⟩ : ∃ w5, w5 = w4.alloc (.cells #[.int .i64 x.a, .int .i64 x.b, .int .i64 x.c, .string x.d] 36) := ⟨_, rfl⟩
    have hB45 : Below w4.heap.size w4 w5 := by rw [hw5]; exact (Below.refl _ _).alloc (Nat.le_refl _) _
    have hB35 : Below w3.heap.size w3 w5 := hB4.trans (hB45.mono hB4.size)
    have HB5 : Hid (Below w1.heap.size w1 w5) := HB3.out.trans (hB35.mono HB3.out.size)
    have HM5 : Hid (OwnV w5 w1.heap.size vm B) := HM3.out.1.below hB35
    obtain ⟨gx, hgx⟩ : ∃ gx, gx = w2.heap.size := ⟨_, rfl⟩
    have HX5 : Hid (w5.heap[gx]? = some (.cells #[.int .i64 x.a, .int .i64 x.b, .int .i64 x.c, .string x.d] 36 (0, 0))) := by rw [hgx]; exact (hB35.block _ (lt_of_block HM3.out.2)).trans HM3.out.2
    have HW5 := (show Hid _ from hw5)
    clear hs4 hB4 hB45 hB35 hw5 HW3 HM3 HB3
    cases ok with
    | false =>
      have HB6 : Hid (Below W.heap.size W w5) := HB1.out.trans (HB5.out.mono HB1.out.size)
      go_wp2
      rw [← HW5.out]
      go_ret
      exact ⟨rfl, HB6.out⟩
    | true =>
      obtain ⟨j, hj⟩ : ∃ j : Nat, z = (j : Int) := by
        have k := HK.out.1.symm
        unfold okI at k
        simp only [Bool.and_eq_true] at k
        have k5 := k.1
        unfold inB at k5
        simp only [Bool.and_eq_true, decide_eq_true_eq] at k5
        exact ⟨z.toNat, by omega⟩
      subst hj
      have HJ : Hid (j ≤ (idA A).length) := by
        have k := HK.out.1.symm
        unfold okI at k
        simp only [Bool.and_eq_true] at k
        have k5 := k.1
        unfold inB at k5
        simp only [Bool.and_eq_true, decide_eq_true_eq] at k5
        show j ≤ (idsR (gD A) A.length).length
        rw [HN.out] at k5
        omega
      have HX : Hid (x = bX A j ∧ B = A ++ [x]) := by
        obtain ⟨_, k2, k3⟩ := HK.out
        rw [if_pos rfl] at k2 k3
        rw [← k2] at k3
        refine ⟨?_, k3⟩
        rw [k2, HN.out]
        rfl
      have HF : Hid (_) := four_of HG.out.2.2 HG.out.2.1 HJ.out
      have HGX : Hid (Good (A ++ [x])) := by
        rw [HX.out.1]
        exact opI_in HG.out.1 (by decide) (by have := HK.out.1.symm; rw [HN.out] at this; exact this)
      obtain ⟨y, hy⟩ : ∃ y, y = bY A j := ⟨_, rfl⟩
      obtain ⟨p, hp⟩ : ∃ p, p = bP A j := ⟨_, rfl⟩
      obtain ⟨q, hq⟩ : ∃ q, q = bQ A j := ⟨_, rfl⟩
      have HY := (show Hid _ from hy)
      have HP := (show Hid _ from hp)
      have HQ := (show Hid _ from hq)
      clear hy hp hq hokn hoke HI HS
      have hn10 : n ≤ 10 := by rw [HN.out]; have := HG.out.2.1.1; omega
      have hj20 : j ≤ 40 := Nat.le_trans HJ.out (idsR_len _ _)
      obtain ⟨ab, ac, hvm, hEm⟩ := HM5.out.evs
      have hBl : B.length = n + 1 := by rw [HX.out.2, List.length_append, HN.out]; rfl
      rw [hBl] at hvm hEm
      subst hvm
      have HEm : Hid (∀ w', Below w5.heap.size w5 w' → IsEvs w' ab (n + 1) ac (gD (A ++ [x]))) := by
        rw [← HX.out.2]
        exact fun w' hB => IsEvs.below hEm hB
      clear hEm hBl
      have HCY : Hid (∀ w', Below w5.heap.size w5 w' → Calls Try.prog 18 #[.slice ab (n + 1) ac, .int .i64 1, .int .i64 ((j : Int) + 1), .string ⟨#[121]⟩] w' fun e w'' => ∃ b c, e = .returned (.tuple #[.slice b (n + 1 + 1) c, .agg #[.int .i64 y.a, .int .i64 y.b, .int .i64 y.c, .string y.d], .bool true]) ∧ OwnV w'' w'.heap.size (.slice b (n + 1 + 1) c) (A ++ [x] ++ [y]) ∧ Below w'.heap.size w' w'') := fun w' hB => by
        refine insYes ab (n + 1) ac (A ++ [x]) 1 ((j : Int) + 1) sgY (by decide) w' (by rw [List.length_append, HN.out]; rfl) (HEm.out w' hB) HGX.out ?_ y ?_
        · rw [HX.out.1]; exact HF.out.2.1
        · rw [HX.out.1]; exact HY.out
      have HCP : Hid (∀ w', Below w1.heap.size w1 w' → Calls Try.prog 18 #[.slice va n vc, .int .i64 2, .int .i64 (j : Int), .string ⟨#[112]⟩] w' fun e w'' => ∃ b c, e = .returned (.tuple #[.slice b (n + 1) c, .agg #[.int .i64 p.a, .int .i64 p.b, .int .i64 p.c, .string p.d], .bool true]) ∧ OwnV w'' w'.heap.size (.slice b (n + 1) c) (A ++ [p]) ∧ Below w'.heap.size w' w'') := fun w' hB =>
        insYes va n vc A 2 (j : Int) sgP (by decide) w' HN.out (HE.out w' hB) HG.out.1 HF.out.2.2.1 p HP.out
      have HGP : Hid (Good (A ++ [p])) := by rw [HP.out]; exact opI_in HG.out.1 (by decide) HF.out.2.2.1
      have hnw1 : (j : Int) + 1 ≤ 41 := by omega
      have HX5' : Hid (Box w5 gx x) := HX5.out
      go_wp2_with fail
      rw [← HW5.out, ← hgx]
      clear hgx HX5 HW5
      refine (HCY.out w5 (Below.refl _ _)).mono ?_
      rintro e w6 ⟨yb, yc, rfl, hO6, hB6⟩
      obtain ⟨w7, hw7⟩ : ∃ w7, w7 = w6.alloc (.cells #[.int .i64 y.a, .int .i64 y.b, .int .i64 y.c, .string y.d] 36) := ⟨_, rfl⟩
      obtain ⟨gy, hgy⟩ : ∃ gy, gy = w6.heap.size := ⟨_, rfl⟩
      have hB67 : Below w6.heap.size w6 w7 := by rw [hw7]; exact (Below.refl _ _).alloc (Nat.le_refl _) _
      have hB57 : Below w5.heap.size w5 w7 := hB6.trans (hB67.mono hB6.size)
      have HB7 : Hid (Below w1.heap.size w1 w7) := HB5.out.trans (hB57.mono HB5.out.size)
      have HX7 : Hid (Box w7 gx x ∧ Box w7 gy y) := ⟨HX5'.out.below hB57, by rw [hw7, hgy]; exact Box.new _ _⟩
      have HM7 : Hid (OwnV w7 w5.heap.size (.slice yb (n + 1 + 1) yc) (A ++ [x] ++ [y])) := hO6.below hB67
      have HW7 := (show Hid _ from hw7)
      clear hO6 hB6 hB67 hB57 hw7 HX5' HM5 HCY HEm
      go_wp2_with fail
      rw [← HW7.out, ← hgy]
      clear hgy HW7
      refine (HCP.out w7 HB7.out).mono ?_
      rintro e w8 ⟨pb, pc, rfl, hO8, hB8⟩
      obtain ⟨w9, hw9⟩ : ∃ w9, w9 = w8.alloc (.cells #[.int .i64 p.a, .int .i64 p.b, .int .i64 p.c, .string p.d] 36) := ⟨_, rfl⟩
      obtain ⟨gp, hgp⟩ : ∃ gp, gp = w8.heap.size := ⟨_, rfl⟩
      have hB89 : Below w8.heap.size w8 w9 := by rw [hw9]; exact (Below.refl _ _).alloc (Nat.le_refl _) _
      have hB79 : Below w7.heap.size w7 w9 := hB8.trans (hB89.mono hB8.size)
      have HB9 : Hid (Below w1.heap.size w1 w9) := HB7.out.trans (hB79.mono HB7.out.size)
      have HX9 : Hid (Box w9 gx x ∧ Box w9 gy y ∧ Box w9 gp p) := ⟨HX7.out.1.below hB79, HX7.out.2.below hB79, by rw [hw9, hgp]; exact Box.new _ _⟩
      have HM9 : Hid (OwnV w9 w5.heap.size (.slice yb (n + 1 + 1) yc) (A ++ [x] ++ [y])) := HM7.out.below hB79
      have HE9 : Hid (IsEvs w9 pb (n + 1) pc (gD (A ++ [p]))) := by
        obtain ⟨b', c', e, hE⟩ := (hO8.below hB89).evs
        have hl : (A ++ [p]).length = n + 1 := by rw [List.length_append, HN.out]; rfl
        rw [hl] at e hE
        simp only [Value.slice.injEq, true_and] at e
        obtain ⟨rfl, rfl⟩ := e
        exact hE
      have HW9 := (show Hid _ from hw9)
      clear hO8 hB8 hB89 hB79 hw9 HX7 HM7 HCP HB7
      have HCQ : Hid (Calls Try.prog 18 #[.slice pb (n + 1) pc, .int .i64 2, .int .i64 ((j : Int) + 1), .string ⟨#[113]⟩] w9 fun e w'' => ∃ b c, e = .returned (.tuple #[.slice b (n + 1 + 1) c, .agg #[.int .i64 q.a, .int .i64 q.b, .int .i64 q.c, .string q.d], .bool true]) ∧ OwnV w'' w9.heap.size (.slice b (n + 1 + 1) c) (A ++ [p] ++ [q]) ∧ Below w9.heap.size w9 w'') := by
        refine insYes pb (n + 1) pc (A ++ [p]) 2 ((j : Int) + 1) sgQ (by decide) w9 (by rw [List.length_append, HN.out]; rfl) HE9.out HGP.out ?_ q ?_
        · rw [HP.out]; exact HF.out.2.2.2
        · rw [HP.out]; exact HQ.out
      go_wp2_with fail
      rw [← HW9.out, ← hgp]
      clear hgp HW9
      refine HCQ.out.mono ?_
      rintro e w10 ⟨qb, qc, rfl, hO10, hB10⟩
      obtain ⟨w11, hw11⟩ : ∃ w11, w11 = w10.alloc (.cells #[.int .i64 q.a, .int .i64 q.b, .int .i64 q.c, .string q.d] 36) := ⟨_, rfl⟩
      obtain ⟨gq, hgq⟩ : ∃ gq, gq = w10.heap.size := ⟨_, rfl⟩
      have hB1011 : Below w10.heap.size w10 w11 := by rw [hw11]; exact (Below.refl _ _).alloc (Nat.le_refl _) _
      have hB911 : Below w9.heap.size w9 w11 := hB10.trans (hB1011.mono hB10.size)
      have HB11 : Hid (Below w1.heap.size w1 w11) := HB9.out.trans (hB911.mono HB9.out.size)
      have HX11 : Hid (Box w11 gx x ∧ Box w11 gy y ∧ Box w11 gp p ∧ Box w11 gq q) := ⟨HX9.out.1.below hB911, HX9.out.2.1.below hB911, HX9.out.2.2.below hB911, by rw [hw11, hgq]; exact Box.new _ _⟩
      have HM11 : Hid (OwnV w11 w5.heap.size (.slice yb (n + 1 + 1) yc) (A ++ [x] ++ [y]) ∧ OwnV w11 w9.heap.size (.slice qb (n + 1 + 1) qc) (A ++ [p] ++ [q])) := ⟨HM9.out.below hB911, hO10.below hB1011⟩
      have HW11 := (show Hid _ from hw11)
      clear hO10 hB10 hB1011 hB911 hw11 HX9 HM9 HCQ HB9 HE9
      obtain ⟨M, hM⟩ : ∃ M, M = A ++ [x] ++ [p] ++ [y] ++ [q] := ⟨_, rfl⟩
      have H4 : Hid (Four A j x y p q) := by rw [HX.out.1, HY.out, HP.out, HQ.out]; exact HF.out.1
      have HIN : Hid (InL (A ++ [x] ++ [y]) ∧ InL (A ++ [p] ++ [q])) := by
        refine ⟨?_, ?_⟩
        · have hy := HY.out
          unfold bY at hy
          rw [← HX.out.1] at hy
          rw [hy]
          exact (opI_in HGX.out (by decide) (by rw [HX.out.1]; exact HF.out.2.1)).2
        · have hq := HQ.out
          unfold bQ at hq
          rw [← HP.out] at hq
          rw [hq]
          exact (opI_in HGP.out (by decide) (by rw [HP.out]; exact HF.out.2.2.2)).2
      have HCM : Hid (Calls Try.prog 14 #[.slice yb (n + 1 + 1) yc, .slice qb (n + 1 + 1) qc] w11 fun e w' => ∃ vm, e = .returned (.tuple #[vm, .bool true]) ∧ OwnV w' w11.heap.size vm M ∧ Below w11.heap.size w11 w') := by
        rw [hM]
        exact mrgYes _ _ _ _ _ _ _ w11 HM11.out.1 HM11.out.2 (by simp) (by simp) HIN.out.1 HIN.out.2 H4.out.merged.1 H4.out.merged.2
      have HIM : Hid (InL M) := by rw [hM, ← H4.out.merged.2]; exact mergeS_in HIN.out.1 HIN.out.2
      have HMM := (show Hid _ from hM)
      clear hM
      go_wp2_with fail
      rw [← HW11.out, ← hgq]
      clear hgq HW11
      refine HCM.out.mono ?_
      rintro e w12 ⟨vm, rfl, hO12, hB12⟩
      have HB12 : Hid (Below w1.heap.size w1 w12) := HB11.out.trans (hB12.mono HB11.out.size)
      have HX12 : Hid (Box w12 gx x ∧ Box w12 gy y ∧ Box w12 gp p ∧ Box w12 gq q) := ⟨HX11.out.1.below hB12, HX11.out.2.1.below hB12, HX11.out.2.2.1.below hB12, HX11.out.2.2.2.below hB12⟩
      obtain ⟨mb, mc, hvm, hEM⟩ := hO12.evs
      subst hvm
      have HEM : Hid (IsEvs w12 mb M.length mc (gD M)) := hEM
      clear hO12 hB12 hEM HX11 HM11 HCM HB11
      go_wp2_with fail
      refine (implIds_any mb M.length mc (gD M) w12 HEM.out HIM.out).mono ?_
      rintro e w13 ⟨vi, rfl, hO13, hB13⟩
      have HB13 : Hid (Below w1.heap.size w1 w13) := HB12.out.trans (hB13.mono HB12.out.size)
      have HX13 : Hid (Box w13 gx x ∧ Box w13 gy y ∧ Box w13 gp p ∧ Box w13 gq q) := ⟨HX12.out.1.below hB13, HX12.out.2.1.below hB13, HX12.out.2.2.1.below hB13, HX12.out.2.2.2.below hB13⟩
      obtain ⟨L, hL⟩ : ∃ L, L = idsR (gD M) M.length := ⟨_, rfl⟩
      rw [← hL] at hO13
      have HPOS : Hid (j + 3 < L.length ∧ L.length ≤ 40 ∧ ∀ i, i < L.length → (L.getD i 0 == x.a) = decide (i = j + 2) ∧ (L.getD i 0 == y.a) = decide (i = j + 3) ∧ (L.getD i 0 == p.a) = decide (i = j) ∧ (L.getD i 0 == q.a) = decide (i = j + 1)) := four_pos H4.out (by rw [hL, HMM.out]; rfl)
      obtain ⟨la, lc, hvl, hll, hlm, hlc⟩ := hO13.rd
      obtain ⟨r, hr⟩ : ∃ r, r = L.length := ⟨_, rfl⟩
      have HRR := (show Hid _ from hr)
      rw [← hr] at hvl hll hlc
      subst hvl
      have hr40 : r ≤ 40 := by rw [hr]; exact HPOS.out.2.1
      have hjr : j + 3 < r := by rw [hr]; exact HPOS.out.1
      clear hL hr hO13 hB13 HX12 HB12 HEM
      have HHIT : Hid (∀ i k, i < r → k < 4 → (L.getD i 0 == (el4 x y p q k).a) = decide (i = posOf j k)) := fun i k hi hk => by
        have h0 := HPOS.out.2.2 i (by rw [← HRR.out]; exact hi)
        have : k = 0 ∨ k = 1 ∨ k = 2 ∨ k = 3 := by omega
        rcases this with rfl | rfl | rfl | rfl
        · exact h0.1
        · exact h0.2.1
        · exact h0.2.2.1
        · exact h0.2.2.2
      have HCL : Hid (∀ w', Below w13.heap.size w13 w' → ∀ k, k < r → ∃ b off, la = some ⟨b, off, none⟩ ∧ w'.cell? ⟨b, off + k, none⟩ = some (.int .i64 (L.getD k 0))) := fun w' hB k hk => by
        obtain ⟨b, off, rfl, hbs, hcell⟩ := hlc (by omega)
        exact ⟨b, off, rfl, (hB.cell (p := ⟨b, off + k, none⟩) hbs).trans (hcell k hk)⟩
      have HWW : Hid (∀ w', Below w13.heap.size w13 w' → Below W.heap.size W w') := fun w' hB => HB1.out.trans ((HB13.out.trans (hB.mono HB13.out.size)).mono HB1.out.size)
      clear hlc HG HE HB5 HB13 HMM H4 HIN HIM HF HGX HGP HX HY HP HQ HK HJ
      obtain ⟨w14, hw14⟩ : ∃ w14, w14 = w13.alloc (.cells #[.int .i64 (-1), .int .i64 (-1), .int .i64 (-1), .int .i64 (-1)] 3) := ⟨_, rfl⟩
      obtain ⟨g, hg⟩ : ∃ g, g = w13.heap.size := ⟨_, rfl⟩
      have HP0 : Hid (PlAt w14 g (fun c => plI (posOf j c) 0)) := by rw [hw14, hg]; exact heap_alloc_new _ _
      have HB14 : Hid (Below w13.heap.size w13 w14) := by rw [hw14]; exact (Below.refl _ _).alloc (Nat.le_refl _) _
      have HGE : Hid (w13.heap.size ≤ g) := by rw [hg]; exact Nat.le_refl _
      have HW14 := (show Hid _ from hw14)
      clear hw14
      go_wp2
      rw [← HW14.out, ← hg]
      clear hg HW14
      go_loopw [24] (fun i wr => ∃ (k : Nat), k ≤ r ∧ i = .int .i64 k ∧ Hid (PlAt wr g (fun c => plI (posOf j c) k)) ∧ Hid (Below w13.heap.size w13 wr)) (fun i _ => r - (Go.RowKit.intOf i).toNat)
      case atStart => exact ⟨0, Nat.zero_le _, rfl, HP0.out, HB14.out⟩
      case round =>
        obtain ⟨i, hi, rfl, HPL, HBr⟩ := hrel
        by_cases hlt : i < r
        · have hltI : (i : Int) < (r : Int) := by omega
          have q1 := HX13.out.1.below HBr.out
          have q2 := HX13.out.2.1.below HBr.out
          have q3 := HX13.out.2.2.1.below HBr.out
          have q4 := HX13.out.2.2.2.below HBr.out
          have x0 : wr.cell? ⟨gx, 0, none⟩ = some (.int .i64 x.a) := cellN q1
          have x1 : wr.cell? ⟨gx, 1, none⟩ = some (.int .i64 x.b) := cellN q1
          have x2 : wr.cell? ⟨gx, 2, none⟩ = some (.int .i64 x.c) := cellN q1
          have x3 : wr.cell? ⟨gx, 3, none⟩ = some (.string x.d) := cellN q1
          have y0 : wr.cell? ⟨gy, 0, none⟩ = some (.int .i64 y.a) := cellN q2
          have y1 : wr.cell? ⟨gy, 1, none⟩ = some (.int .i64 y.b) := cellN q2
          have y2 : wr.cell? ⟨gy, 2, none⟩ = some (.int .i64 y.c) := cellN q2
          have y3 : wr.cell? ⟨gy, 3, none⟩ = some (.string y.d) := cellN q2
          have p0 : wr.cell? ⟨gp, 0, none⟩ = some (.int .i64 p.a) := cellN q3
          have p1 : wr.cell? ⟨gp, 1, none⟩ = some (.int .i64 p.b) := cellN q3
          have p2 : wr.cell? ⟨gp, 2, none⟩ = some (.int .i64 p.c) := cellN q3
          have p3 : wr.cell? ⟨gp, 3, none⟩ = some (.string p.d) := cellN q3
          have r0 : wr.cell? ⟨gq, 0, none⟩ = some (.int .i64 q.a) := cellN q4
          have r1 : wr.cell? ⟨gq, 1, none⟩ = some (.int .i64 q.b) := cellN q4
          have r2 : wr.cell? ⟨gq, 2, none⟩ = some (.int .i64 q.c) := cellN q4
          have r3 : wr.cell? ⟨gq, 3, none⟩ = some (.string q.d) := cellN q4
          clear q1 q2 q3 q4
          obtain ⟨w15, hw15⟩ : ∃ w15, w15 = wr.alloc (.cells #[.int .i64 x.a, .int .i64 x.b, .int .i64 x.c, .string x.d, .int .i64 y.a, .int .i64 y.b, .int .i64 y.c, .string y.d, .int .i64 p.a, .int .i64 p.b, .int .i64 p.c, .string p.d, .int .i64 q.a, .int .i64 q.b, .int .i64 q.c, .string q.d] 36) := ⟨_, rfl⟩
          obtain ⟨gl, hgl⟩ : ∃ gl, gl = wr.heap.size := ⟨_, rfl⟩
          have HPS : Hid (PS w13 w15 g gl (plK j i 0) x y p q) := by
            have hB : Below wr.heap.size wr w15 := by rw [hw15]; exact (Below.refl _ _).alloc (Nat.le_refl _) _
            have hlt := lt_of_block HPL.out
            refine ⟨?_, ?_, HBr.out.trans (hB.mono HBr.out.size), HGE.out, by omega⟩
            · exact PlAt.congr (show PlAt w15 g (fun c => plI (posOf j c) i) from (hB.block _ hlt).trans HPL.out) (fun c _ => by unfold plK; rw [if_neg (by omega)])
            · rw [hw15, hgl]
              exact heap_alloc_new _ _
          have HW15 := (show Hid _ from hw15)
          clear hw15
          go_wp2
          rw [← HW15.out, ← hgl]
          clear hgl HW15 x0 x1 x2 x3 y0 y1 y2 y3 p0 p1 p2 p3 r0 r1 r2 r3
          go_loopw [124] (fun u wr => ∃ (k : Nat), k ≤ 4 ∧ u = .int .i64 k ∧ Hid (PS w13 wr g gl (plK j i k) x y p q)) (fun u _ => 4 - (Go.RowKit.intOf u).toNat)
          case atStart => exact ⟨0, Nat.zero_le _, rfl, HPS.out⟩
          case round =>
            obtain ⟨k, hk, rfl, HS⟩ := hrel
            by_cases hlt4 : k < 4
            · have hltI4 : (k : Int) < 4 := by omega
              obtain ⟨o, ho⟩ : ∃ o, o = el4 x y p q k := ⟨_, rfl⟩
              have hev := HS.out.lit.ev hlt4
              rw [← ho] at hev
              obtain ⟨d0, d1, d2, d3⟩ := hev
              obtain ⟨w16, hw16⟩ : ∃ w16, w16 = wr.alloc (.cells #[.int .i64 o.a, .int .i64 o.b, .int .i64 o.c, .string o.d] 36) := ⟨_, rfl⟩
              have HB16 : Hid (Below wr.heap.size wr w16) := by rw [hw16]; exact (Below.refl _ _).alloc (Nat.le_refl _) _
              have HS16 : Hid (PS w13 w16 g gl (plK j i k) x y p q) := HS.out.below HB16.out
              obtain ⟨lb, lo, rfl, hcl⟩ := HCL.out w16 HS16.out.bel i hlt
              obtain ⟨y', hy'⟩ : ∃ y', y' = L.getD i 0 := ⟨_, rfl⟩
              rw [← hy'] at hcl
              have HT : Hid ((y' == o.a) = decide (i = posOf j k)) := by rw [hy', ho]; exact HHIT.out i k hlt hlt4
              have hbo : w16.cell? ⟨wr.heap.size, 0, none⟩ = some (.int .i64 o.a) := by rw [hw16]; exact cellN (heap_alloc_new _ _)
              have HW16 := (show Hid _ from hw16)
              clear hw16 hy' ho
              have hpc : ∀ n, (w16.drewN n).cell? ⟨g, k, none⟩ = some (.int .i64 (plK j i k k)) := fun n => HS16.out.pl.cell hlt4
              have hpf : ∀ n, (w16.drewN n).frozen? ⟨g, k, none⟩ = false := fun n => frozN HS16.out.pl
              cases he : (y' == o.a) with
              | true =>
                have HE : Hid (i = posOf j k) := by have := HT.out; rw [he] at this; show i = posOf j k; exact of_decide_eq_true this.symm
                go_wp2
                rw [← HW16.out]
                go_quiet (fail)
                go_wp2
                go_roundw
                case rel => exact ⟨k + 1, by omega, by go_num, ((HS16.out.below (below_drewN (Below.refl _ _) _)).put hlt4 (i : Int)).congr (pl_hit hlt4 HE.out)⟩
                case measure => simp [Go.RowKit.intOf]; omega
              | false =>
                have HE : Hid (i ≠ posOf j k) := by have := HT.out; rw [he] at this; show ¬ i = posOf j k; exact of_decide_eq_false this.symm
                go_wp2
                rw [← HW16.out]
                go_quiet (fail)
                go_wp2
                go_roundw
                case rel => exact ⟨k + 1, by omega, by go_num, (HS16.out.below (below_drewN (Below.refl _ _) _)).congr (pl_miss hlt4 HE.out)⟩
                case measure => simp [Go.RowKit.intOf]; omega
            · have hke : k = 4 := by omega
              subst hke
              have HPN : Hid (PlAt wr g (fun c => plI (posOf j c) (i + 1)) ∧ Below w13.heap.size w13 wr) := ⟨HS.out.pl.congr (fun c hc => by unfold plK; rw [if_pos hc]), HS.out.bel⟩
              clear HS
              go_wp2
              go_roundw
              case rel => exact ⟨i + 1, by omega, by go_num, HPN.out.1, HPN.out.2⟩
              case measure => simp [Go.RowKit.intOf]; omega
        · have hke : i = r := by omega
          subst hke
          have e0 : wr.cell? ⟨g, 0, none⟩ = some (.int .i64 ((j : Int) + 2)) := by
            rw [HPL.out.cell (k := 0) (by omega)]
            show some (Value.int .i64 (plI (j + 2) i)) = _
            unfold plI
            rw [if_pos (by omega)]
            rfl
          have e1 : wr.cell? ⟨g, 1, none⟩ = some (.int .i64 ((j : Int) + 3)) := by
            rw [HPL.out.cell (k := 1) (by omega)]
            show some (Value.int .i64 (plI (j + 3) i)) = _
            unfold plI
            rw [if_pos (by omega)]
            rfl
          have e2 : wr.cell? ⟨g, 2, none⟩ = some (.int .i64 (j : Int)) := by
            rw [HPL.out.cell (k := 2) (by omega)]
            show some (Value.int .i64 (plI j i)) = _
            unfold plI
            rw [if_pos (by omega)]
          have e3 : wr.cell? ⟨g, 3, none⟩ = some (.int .i64 ((j : Int) + 1)) := by
            rw [HPL.out.cell (k := 3) (by omega)]
            show some (Value.int .i64 (plI (j + 1) i)) = _
            unfold plI
            rw [if_pos (by omega)]
            rfl
          obtain ⟨a0, h0⟩ : ∃ a0 : Int, a0 = (j : Int) + 2 := ⟨_, rfl⟩
          obtain ⟨a1, h1⟩ : ∃ a1 : Int, a1 = (j : Int) + 3 := ⟨_, rfl⟩
          obtain ⟨a2, h2⟩ : ∃ a2 : Int, a2 = (j : Int) := ⟨_, rfl⟩
          obtain ⟨a3, h3⟩ : ∃ a3 : Int, a3 = (j : Int) + 1 := ⟨_, rfl⟩
          rw [← h0] at e0
          rw [← h1] at e1
          rw [← h2] at e2
          rw [← h3] at e3
          have k0 : decide ((0 : Int) ≤ a0) = true := decide_eq_true (by omega)
          have k2 : decide ((0 : Int) ≤ a2) = true := decide_eq_true (by omega)
          have l0 : (0 : Int) ≤ a0 := by omega
          have l2 : (0 : Int) ≤ a2 := by omega
          have u0 : IntKind.i64.wrap (a0 + 1) = a1 := by
            have : IntKind.i64.wrap (a0 + 1) = a0 + 1 := wrap64_small (by omega) (by omega)
            omega
          have u2 : IntKind.i64.wrap (a2 + 1) = a3 := by
            have : IntKind.i64.wrap (a2 + 1) = a2 + 1 := wrap64_small (by omega) (by omega)
            omega
          have s1 : (a1 == a1) = true := by simp
          have s3 : (a3 == a3) = true := by simp
          clear h0 h1 h2 h3
          go_wp2
          go_quiet (fail)
          go_wp2
          go_ret
          exact ⟨rfl, HWW.out _ (below_drewN HBr.out _)⟩

set_option maxRecDepth 100000 in
theorem sqboth_lifted (os : Os) (started : os.Started) (H : Type) (enc : TypeId × Value → H) :
    ReturnsInHanded {} Try.checked os 6 .any (Rows.fnSeqBothSpec.pre6 enc Try.prog Try.f6 Rows.fnSeqBothRow.domain false) (Rows.fnSeqBothSpec.post enc Try.prog Try.f6 false true false false) := by
  refine returnsInHanded_of_change (C := Try.checked) own started (by kernel_rfl) Try.func6
    (ChangeSpec.witness6 (enc := enc) (C := Try.checked) false ⟨#[], #[.slice none 0 0], []⟩ 8 (by kernel_rfl) (by kernel_rfl) (by kernel_rfl) (by kernel_rfl)) ?_
  intro W base args ds gs before hval0 hW hcnd _
  have hval : ∀ (j : Nat) t v, Try.f6.params[j]? = some t → args[j]? = some v → Value.okWide Try.prog W .any base t v := hval0
  have hW' := hW
  obtain ⟨p, q, hA0, hV, rfl, hfz, hnd⟩ := hW
  have hA : DataW.TrodAll enc Try.prog W 0 (fun _ => true) true Try.f6.params.toList args.toList ds p := hA0
  rw [Try.params6] at hA hval
  obtain ⟨v0, vs0, d0, ds0, p0, q0, hargs, rfl, rfl, h0, r0⟩ := trodAll_cons hA
  obtain ⟨rfl, rfl, rfl⟩ := trodAll_nil r0
  obtain rfl : args = #[v0] := by cases args; simp_all
  obtain ⟨rfl, rfl⟩ := trodVars_none hV
  obtain ⟨a0, len0, cap0, rfl⟩ := okWide_slice Try.underlying22 (hval 0 22 v0 rfl rfl)
  have k0 := h0
  have lt0 : ∀ x ∈ p0, x.block < W.heap.size := by obtain ⟨m, hm⟩ := k0; exact DataW.trod_lt m _ _ _ hm
  obtain ⟨Z, w0⟩ : ∃ Z, IsU8 W a0 len0 cap0 Z := by
    obtain ⟨fuel, hf⟩ := h0
    obtain ⟨a, len, cap, Z, e, hI⟩ := open_u8 (by simpa [Value.cells] using hf)
    simp at e
    obtain ⟨rfl, rfl, rfl⟩ := e
    exact ⟨Z, hI⟩
  clear hA0 hval0
  refine (sqboth_walk W w0).mono fun e W' ⟨he, bel⟩ => ?_
  subst he
  exact ⟨_, rfl, _, _, _, [], _, [], hW', trodAll_mk1 (shut_bool Try.underlying4 _), (trodAll_cons_mk (Below.trod laidOut (by kernel_rfl) (of_decide_eq_true (by kernel_rfl)) k0 bel lt0) trodAll_mk0), rfl, bel.frame _, fun h => by cases h⟩

theorem sqboth_proved : Rows.FnSeqBothSaid :=
  OpenClaim.holds_of_wide 6 Try.f6 rfl rfl rfl rfl rfl rfl rfl ⟨rfl, rfl, rfl, rfl, rfl⟩ rfl rfl rfl rfl rfl (by kernel_rfl) Try.func6 (by kernel_rfl)
    (of_decide_eq_true (by kernel_rfl)) (by unfold Func.isWrapper; first | (rw [if_pos (by decide +kernel)]; kernel_rfl) | (rw [if_neg (by decide +kernel)]; exact ⟨rfl, rfl⟩))
    (fun os started H enc _ => sqboth_lifted os started H enc)
#print axioms sqboth_proved
end Go.Proofs.Ytjfciokpnhnhbaa
