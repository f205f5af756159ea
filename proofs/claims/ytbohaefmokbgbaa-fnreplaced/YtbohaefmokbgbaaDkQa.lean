/-
  Drawn disks: the reader of codes, and what it draws of ops. No condition.
  The specification's Crash. No condition but that the slices read and that the sizes are small.
  Disks, plainly: a right disk stays right behind Sync and Do; what is left of it when all ops are kept, and when none is. No condition.
  Regions that draw their order, each step with its own account of what stays. No condition.
  The size of a disk, with what is left. No condition but that it reads.
  Regions of the law FnExactDo. No condition.
  A drawn disk reads, its sizes are small, and the reader of codes stays. No condition.
  The program's Crash. No condition but that the slices read and that the sizes are small.
  FnCrashedSaid, under way: the drawing, the comparison, the walk of the law. No condition but that the code reads.
  spec.DrawReplace: a drawn disk, a name and data. No condition but that the code reads and is not huge.
-/
import Derived.Test.YtbohaefmokbgbaaDkA2
import Derived.Test.YtbohaefmokbgbaaDrawO
import Derived.Test.YtbohaefmokbgbaaDkDs
import Derived.Test.YtbohaefmokbgbaaDkCa
import Derived.Test.YtbohaefmokbgbaaDkDv
import Derived.Test.YtbohaefmokbgbaaRegL
import Derived.Test.YtbohaefmokbgbaaDkX
import Derived.Test.YtbohaefmokbgbaaDkDi
namespace Go.Proofs.Ytbohaefmokbgbaa
open Go.RowKit
set_option linter.unusedVariables false

theorem big_any (a : Option Addr) (len cap : Nat) (w : World) : Calls Try.prog 6 #[.slice a len cap] w fun e w' => e = .returned (.bool (decide ((1048576 : Int) < (len : Int)))) ∧ w' = w := by
  go_enter Try.func6, Try.ntmps6
  go_wp2
  go_ret
  exact ⟨rfl, rfl⟩

theorem open_any (a : Option Addr) (len cap : Nat) (w : World) : Calls Try.prog 26 #[.slice a len cap] w fun e w' => e = .returned (.pointer (some ⟨w.heap.size, 0, none⟩)) ∧ Draw w a len cap w.heap.size w' := by
  go_enter Try.func26, Try.ntmps26
  go_wp2
  go_ret
  exact ⟨rfl, (Below.refl _ _).alloc (Nat.le_refl _) _, Nat.le_refl _, 0, Nat.zero_le _, heap_alloc_new w _⟩

/-- a row that is new since the start is written -/
theorem Mut.row {R : Nat} {a w : World} (h : Mut R a w) {k : Nat} (q : Array Value) (hk : a.heap.size ≤ k) : Mut R a (w.setRow k q) :=
  ⟨h.os, h.tape, h.output, by simpa [World.setRow] using h.size, fun i hi hr => by rw [setRow_other _ _ _ _ (show i ≠ k by omega)]; exact h.block i hi hr⟩
theorem Draw.row {W : World} {a : Option Addr} {len cap R : Nat} {w : World} (h : Draw W a len cap R w) {k : Nat} (q : Array Value) (hk : R < k) : Draw W a len cap R (w.setRow k q) := by
  obtain ⟨p, hp, hb⟩ := h.box
  exact ⟨below_setRow h.bel (by have := h.new; omega) _, h.new, p, hp, by rw [setRow_other _ _ _ _ (show R ≠ k by omega)]; exact hb⟩
theorem HasD.mut {R : Nat} {w w' : World} {base : Nat} {x y z : Value} {L S : List Fl} {O : List Dop} (h : HasD w base x y z L S O) (hM : Mut R w w') (hR : R < base) : HasD w' base x y z L S O :=
  h.kept hM.size (fun k hk => hM.block k (h.lt hk).2 (by have := (h.lt hk).1; omega))

section
variable {W : World} {a : Option Addr} {len cap R : Nat} {Z : Nat → Int}

set_option maxHeartbeats 1000000 in
theorem text_any (hU : IsU8 W a len cap Z) (w : World) (h : Draw W a len cap R w) :
    Calls Try.prog 30 #[.pointer (some ⟨R, 0, none⟩)] w fun e w' => ∃ t : ByteArray, t.size ≤ 3 ∧ e = .returned (.string t) ∧ Draw W a len cap R w' ∧ Mut R w w' := by
  go_enter Try.func30, Try.ntmps30
  have HM0 : Hid (∀ o, Mut R w (w.alloc o)) := fun o => (Mut.refl R w).alloc o
  have HR : Hid (R < w.heap.size) := h.lt
  go_wp2_with fail
  refine (below_any hU 6 (by omega) (by omega) _ (h.alloc _)).mono ?_
  rintro e w3 ⟨y, hy0, hy1, rfl, hD3, hM3⟩
  have hc := lit_cells hM3 HR.out
  have c0 := hc 0
  have c1 := hc 1
  have c2 := hc 2
  have c3 := hc 3
  have c4 := hc 4
  have c5 := hc 5
  clear hc
  have hM4 : Hid (Mut R w w3) := (HM0.out _).trans hM3
  clear hM3 HM0
  have hy : y = 0 ∨ y = 1 ∨ y = 2 ∨ y = 3 ∨ y = 4 ∨ y = 5 := by omega
  rcases hy with rfl | rfl | rfl | rfl | rfl | rfl <;> (go_wp2; go_ret; exact ⟨_, by decide, rfl, hD3, hM4.out⟩)

theorem below1_any (w : World) (h : Draw W a len cap R w) :
    Calls Try.prog 28 #[.pointer (some ⟨R, 0, none⟩), .int .i64 1] w fun e w' => e = .returned (.int .i64 0) ∧ w' = w := by
  go_enter Try.func28, Try.ntmps28
  go_wp2
  go_ret
  exact ⟨rfl, rfl⟩

set_option maxHeartbeats 1000000 in
theorem size_any (hU : IsU8 W a len cap Z) (w : World) (h : Draw W a len cap R w) (hlen : len ≤ 1048576) :
    Calls Try.prog 59 #[.pointer (some ⟨R, 0, none⟩), .int .i64 3, .int .i64 10] w fun e w' => ∃ n : Nat, 1 ≤ n ∧ n ≤ 10 ∧ e = .returned (.int .i64 (n : Int)) ∧ Draw W a len cap R w' ∧ Mut R w w' := by
  have HD : Hid (Draw W a len cap R w) := h
  obtain ⟨p, hp, hb⟩ := h.box
  have c0 : w.cell? ⟨R, 0, none⟩ = some (.slice a len cap) := cellN hb
  have c1 : w.cell? ⟨R, 1, none⟩ = some (.int .i64 p) := cellN hb
  clear hb hp h
  obtain ⟨m, hm⟩ : ∃ m : Nat, m = len / 3 := ⟨_, rfl⟩
  have hm1 : (len : Int) / 3 = (m : Int) := by omega
  have hm2 : (len : Int).tdiv 3 = (m : Int) := by rw [Int.tdiv_eq_ediv_of_nonneg (by omega)]; exact hm1
  have hmm : m ≤ 1048576 := by omega
  clear hm
  go_enter Try.func59, Try.ntmps59
  by_cases h9 : 9 < m
  · have h9I : (10 : Int) < 1 + (m : Int) := by omega
    go_wp2_with fail
    refine (below_any hU 10 (by omega) (by omega) w HD.out).mono ?_
    rintro e w3 ⟨y, hy0, hy1, rfl, hD3, hM3⟩
    go_wp2
    go_ret
    exact ⟨(1 + y).toNat, by omega, by omega, by rw [Int.toNat_of_nonneg (by omega)]; rfl, hD3, hM3⟩
  · have h9I : ¬ (10 : Int) < 1 + (m : Int) := by omega
    by_cases h0 : m = 0
    · subst h0
      go_wp2_with fail
      refine (below1_any w HD.out).mono ?_
      rintro e w3 ⟨rfl, rfl⟩
      go_wp2
      go_ret
      exact ⟨1, by omega, by omega, rfl, HD.out, Mut.refl _ _⟩
    · go_wp2_with fail
      refine (below_any hU (1 + (m : Int)) (by omega) (by omega) w HD.out).mono ?_
      rintro e w3 ⟨y, hy0, hy1, rfl, hD3, hM3⟩
      go_wp2
      go_ret
      exact ⟨(1 + y).toNat, by omega, by omega, by rw [Int.toNat_of_nonneg (by omega)]; rfl, hD3, hM3⟩

theorem infoDp : (Try.prog.info? 49).map (·.size) = some 4 := by kernel_rfl
theorem rowDp (k : Int) (x y z : ByteArray) : ∃ q : Array Value, q = #[.int .i64 k, .string x, .string y, .string z] ∧ (Try.prog.info? 49).map (·.size) = some q.size ∧ (#[Value.int .i64 0, .string ⟨#[]⟩, .string ⟨#[]⟩, .string ⟨#[]⟩] : Array Value).size = q.size ∧ q.all (·.oneCell') = true :=
  ⟨_, rfl, infoDp, rfl, by simp [Value.oneCell']⟩

set_option maxRecDepth 4000 in
set_option maxHeartbeats 2000000 in
theorem dop_any (hU : IsU8 W a len cap Z) (w : World) (h : Draw W a len cap R w) :
    Calls Try.prog 61 #[.pointer (some ⟨R, 0, none⟩)] w fun e w' => ∃ o : Dop, (o.n.size ≤ 100 ∧ o.t.size ≤ 100 ∧ o.d.size ≤ 100) ∧ e = .returned (.agg #[.int .i64 o.k, .string o.n, .string o.t, .string o.d]) ∧ Draw W a len cap R w' ∧ Mut R w w' := by
  have HR : Hid (R < w.heap.size) := h.lt
  have HD : Hid (Draw W a len cap R w) := h
  obtain ⟨X, hX⟩ : ∃ X, X = w.alloc (.cells #[.int .i64 0, .string ⟨#[]⟩, .string ⟨#[]⟩, .string ⟨#[]⟩] 49) := ⟨_, rfl⟩
  have HX := (show Hid _ from hX)
  have HXS : Hid (X.heap.size = w.heap.size + 1) := by show _ = _; rw [hX]; simp
  have HMX : Hid (Mut R w X) := by rw [hX]; exact (Mut.refl R w).alloc _
  have HDX : Hid (Draw W a len cap R X) := by rw [hX]; exact h.alloc _
  have HRX : Hid (R < X.heap.size) := by show _ < _; rw [hX]; have := h.lt; simp; omega
  have HBX : Hid (∀ w', Mut R X w' → w'.heap[w.heap.size]? = some (.cells #[.int .i64 0, .string ⟨#[]⟩, .string ⟨#[]⟩, .string ⟨#[]⟩] 49 (0, 0))) := fun w' hM => (hM.block _ (by rw [hX]; simp) (by have := h.lt; omega)).trans (by rw [hX]; exact heap_alloc_new _ _)
  clear hX h
  go_enter Try.func61, Try.ntmps61
  go_wp2_with fail
  rw [← HX.out]
  refine (below_any hU 4 (by omega) (by omega) _ (HDX.out.alloc _)).mono ?_
  rintro e w3 ⟨y, hy0, hy1, rfl, hD3, hM3⟩
  have hc := lit_cells hM3 HRX.out
  have hMX3 : Hid (Mut R X w3) := ((Mut.refl R X).alloc _).trans hM3
  have HD3 : Hid (Draw W a len cap R w3) := hD3
  rw [HXS.out] at hc
  obtain ⟨k, rfl⟩ : ∃ k : Nat, y = (k : Int) := ⟨y.toNat, by omega⟩
  have hk : k < 4 := by omega
  have hkI : (k : Int) < 4 := by omega
  obtain ⟨nm, hnm, c0⟩ : ∃ nm : ByteArray, nm.size ≤ 8 ∧ w3.cell? ⟨w.heap.size + 1, k, none⟩ = some (.string nm) := by
    have : k = 0 ∨ k = 1 ∨ k = 2 ∨ k = 3 := by omega
    rcases this with rfl | rfl | rfl | rfl
    · exact ⟨_, by decide, hc 0⟩
    · exact ⟨_, by decide, hc 1⟩
    · exact ⟨_, by decide, hc 2⟩
    · exact ⟨_, by decide, hc 3⟩
  have HNM : Hid (nm.size ≤ 8) := hnm
  clear hc hM3 hD3 hy0 hy1 hnm HX
  go_wp2_with fail
  refine (below_any hU 5 (by omega) (by omega) w3 HD3.out).mono ?_
  rintro e w4 ⟨y, hy0, hy1, rfl, hD4, hM4⟩
  have HD4 : Hid (Draw W a len cap R w4) := hD4
  have HM4 : Hid (Mut R X w4) := hMX3.out.trans hM4
  clear hD4 hM4 c0 hk hkI HD3 hMX3
  have HFIN : Hid (∀ w' q, Mut R X w' → Mut R w (w'.setRow w.heap.size q)) := fun w' q hM => (HMX.out.trans hM).row q (Nat.le_refl _)
  by_cases h0 : y = 0
  · have h0b : (y == 0) = true := by rw [h0]; rfl
    clear h0
    go_wp2_with fail
    refine (below_any hU 3 (by omega) (by omega) _ (HD4.out.alloc _)).mono ?_
    rintro e w5 ⟨y2, hz0, hz1, rfl, hD5, hM5⟩
    have hc := lit_cells hM5 (HD4.out.lt)
    have HM5 : Hid (Mut R X w5) := HM4.out.trans (((Mut.refl R w4).alloc _).trans hM5)
    obtain ⟨k, rfl⟩ : ∃ k : Nat, y2 = (k : Int) := ⟨y2.toNat, by omega⟩
    have hk : k < 3 := by omega
    have hkI : (k : Int) < 3 := by omega
    obtain ⟨nt, hnt, c0⟩ : ∃ nt : ByteArray, nt.size ≤ 4 ∧ w5.cell? ⟨w4.heap.size, k, none⟩ = some (.string nt) := by
      have : k = 0 ∨ k = 1 ∨ k = 2 := by omega
      rcases this with rfl | rfl | rfl
      · exact ⟨_, by decide, hc 0⟩
      · exact ⟨_, by decide, hc 1⟩
      · exact ⟨_, by decide, hc 2⟩
    have HNT : Hid (nt.size ≤ 4) := hnt
    have HD5 : Hid (Draw W a len cap R w5) := hD5
    have HB5 : Hid (w5.heap[w.heap.size]? = some (.cells #[.int .i64 0, .string ⟨#[]⟩, .string ⟨#[]⟩, .string ⟨#[]⟩] 49 (0, 0))) := HBX.out w5 HM5.out
    obtain ⟨q, hq, hi6, ho6, h16⟩ := rowDp 2 nm nt ⟨#[]⟩
    clear hc hM5 hD5 hz0 hz1 hnt
    go_wp2_with (refine wpList_store_row rfl 49 _ _ rfl w.heap.size q rfl (congrArg Value.agg hq.symm) 49 _ HB5.out hi6 ho6 h16 ?_)
    subst hq
    refine bodyPost_ret (results_cell_row rfl _ _ w.heap.size 49 _ _ _ rfl (setRow_heap _ _ _ _ _ _ HB5.out) Try.underlying49 rfl hi6) rfl ⟨⟨2, nm, nt, ⟨#[]⟩⟩, ⟨Nat.le_trans HNM.out (by omega), Nat.le_trans HNT.out (by omega), Nat.zero_le _⟩, rfl, HD5.out.row _ HR.out, HFIN.out _ _ HM5.out⟩
  · have h0b : (y == 0) = false := by simpa using h0
    by_cases h1 : y = 1
    · have h1b : (y == 1) = true := by rw [h1]; rfl
      have HB5 : Hid (w4.heap[w.heap.size]? = some (.cells #[.int .i64 0, .string ⟨#[]⟩, .string ⟨#[]⟩, .string ⟨#[]⟩] 49 (0, 0))) := HBX.out w4 HM4.out
      obtain ⟨q, hq, hi6, ho6, h16⟩ := rowDp 3 nm ⟨#[]⟩ ⟨#[]⟩
      clear h0 h1
      go_wp2_with (refine wpList_store_row rfl 49 _ _ rfl w.heap.size q rfl (congrArg Value.agg hq.symm) 49 _ HB5.out hi6 ho6 h16 ?_)
      subst hq
      refine bodyPost_ret (results_cell_row rfl _ _ w.heap.size 49 _ _ _ rfl (setRow_heap _ _ _ _ _ _ HB5.out) Try.underlying49 rfl hi6) rfl ⟨⟨3, nm, ⟨#[]⟩, ⟨#[]⟩⟩, ⟨Nat.le_trans HNM.out (by omega), Nat.zero_le _, Nat.zero_le _⟩, rfl, HD4.out.row _ HR.out, HFIN.out _ _ HM4.out⟩
    · have h1b : (y == 1) = false := by simpa using h1
      clear h0 h1
      go_wp2_with fail
      refine (text_any hU w4 HD4.out).mono ?_
      rintro e w5 ⟨tx, htx, rfl, hD5, hM5⟩
      have HM5 : Hid (Mut R X w5) := HM4.out.trans hM5
      have HD5 : Hid (Draw W a len cap R w5) := hD5
      have HTX : Hid (tx.size ≤ 3) := htx
      have HB5 : Hid (w5.heap[w.heap.size]? = some (.cells #[.int .i64 0, .string ⟨#[]⟩, .string ⟨#[]⟩, .string ⟨#[]⟩] 49 (0, 0))) := HBX.out w5 HM5.out
      obtain ⟨q, hq, hi6, ho6, h16⟩ := rowDp 1 nm ⟨#[]⟩ tx
      clear hM5 hD5 htx
      go_wp2_with (refine wpList_store_row rfl 49 _ _ rfl w.heap.size q rfl (congrArg Value.agg hq.symm) 49 _ HB5.out hi6 ho6 h16 ?_)
      subst hq
      refine bodyPost_ret (results_cell_row rfl _ _ w.heap.size 49 _ _ _ rfl (setRow_heap _ _ _ _ _ _ HB5.out) Try.underlying49 rfl hi6) rfl ⟨⟨1, nm, ⟨#[]⟩, tx⟩, ⟨Nat.le_trans HNM.out (by omega), Nat.zero_le _, Nat.le_trans HTX.out (by omega)⟩, rfl, HD5.out.row _ HR.out, HFIN.out _ _ HM5.out⟩

end
end Go.Proofs.Ytbohaefmokbgbaa

namespace Go.Proofs.Ytbohaefmokbgbaa
open Go.RowKit
set_option linter.unusedVariables false

/-- whether there is an answer -/
def crOk (L S : List Fl) (O : List Dop) (Z : List Int) (tn : Int) : Bool := diskB L S O && (decide (0 ≤ tn) && (placesB O.length Z && filesB (crF S O Z tn.toNat Z.length)))
/-- the files behind it -/
def crR (L S : List Fl) (O : List Dop) (Z : List Int) (tn : Int) : List Fl := if crOk L S O Z tn = true then crF S O Z tn.toNat Z.length else []
theorem cr_no {L S : List Fl} {O : List Dop} {Z : List Int} {tn : Int} (h : crOk L S O Z tn = false) : crR L S O Z tn = [] := by
  unfold crR
  rw [h]
  rfl
theorem cr_yes {L S : List Fl} {O : List Dop} {Z : List Int} {tn : Int} (h : crOk L S O Z tn = true) : crR L S O Z tn = crF S O Z tn.toNat Z.length := by
  unfold crR
  rw [if_pos h]

theorem wpList_app0F {ops : Array Oper} {rest : List Oper} {o : Oper} {a : Act} {Q : Exit → Act → World → Prop} {w : World} (hgd : o.guard = none) (x y : Operand) (base g : Nat) (L : List Fl) (ho : o.op = .call { callee := .builtin .append, args := #[x, y], argTypes := #[24, 24] }) (hx : a.eval x = .slice (some ⟨g, 0, none⟩) 0 0) (hg : w.heap[g]? = some (.cells #[] 68 (0, 0))) (hb : base ≤ g) (hy : RdF w (a.eval y) L) (hL : L.length ≤ 1048576)
    (h : ∀ v w', HoldF w' base v L → Below w.heap.size w w' → wpList Try.prog ops Q rest (a.put o.dst v) w') : wpList Try.prog ops Q (o :: rest) a w := by
  refine wpList_plain hgd fun K hK => ?_
  obtain ⟨v', w', hr, h1, h2⟩ := app0F w base o.type g (a.eval y) L hg hb hy hL
  unfold Oper.wp
  simp [execOp, ho, resolve, invoke, builtin, hx, hr, Result.andThen]
  exact hK _ _ (h _ _ h1 h2)

theorem wpList_build2 {ops : Array Oper} {rest : List Oper} {o : Oper} {A : Act} {Q : Exit → Act → World → Prop} {w : World} (hgd : o.guard = none) (x y : Operand) {a b : Option Addr} {i j k l : Nat} (ho : o.op = .build 27 #[(0, x), (1, y)]) (hx : A.eval x = .slice a i j) (hy : A.eval y = .slice b k l)
    (h : wpList Try.prog ops Q rest (A.put o.dst (.agg #[.slice a i j, .slice b k l, .slice none 0 0])) w) : wpList Try.prog ops Q (o :: rest) A w := by
  refine wpList_plain hgd fun K hK => ?_
  unfold Oper.wp
  rw [q_build2 A.eval o w x y ho hx hy]
  exact hK _ _ h

set_option maxRecDepth 10000 in
set_option maxHeartbeats 8000000 in
theorem specCrash_any (vL vS vO vK : Value) (L S : List Fl) (O : List Dop) (Z : List Int) (tn : Int) (w : World) (h : RdD w vL vS vO L S O) (hK : RdI w vK Z) (hz : SmallD L S O) (hn : L.length ≤ 1048576 ∧ S.length ≤ 1048576 ∧ O.length ≤ 1048576) (hkz : Z.length ≤ 1048576) :
    Calls Try.prog 22 #[.agg #[vL, vS, vO], vK, .int .i64 tn] w fun e w' => ∃ x y z, e = .returned (.tuple #[.agg #[x, y, z], .bool (crOk L S O Z tn)]) ∧ RdD w' x y z (crR L S O Z tn) (crR L S O Z tn) [] ∧ Below w.heap.size w w' := by
  have HN : Hid (L.length ≤ 1048576 ∧ S.length ≤ 1048576 ∧ O.length ≤ 1048576) := hn
  have HZ : Hid (SmallD L S O) := hz
  have HA : Hid (∀ w', Below w.heap.size w w' → RdD w' vL vS vO L S O) := fun w' hB => h.below hB
  have HKR : Hid (∀ w', Below w.heap.size w w' → RdI w' vK Z) := fun w' hB => hK.below hB
  obtain ⟨aL, cL, eL⟩ := h.1.slice
  obtain ⟨nL, hnL⟩ : ∃ n, n = L.length := ⟨_, rfl⟩
  rw [← hnL] at eL
  obtain ⟨aS, cS, eS⟩ := h.2.1.slice
  obtain ⟨nS, hnS⟩ : ∃ n, n = S.length := ⟨_, rfl⟩
  rw [← hnS] at eS
  obtain ⟨aO, cO, eO⟩ := h.2.2.slice
  obtain ⟨nO, hnO⟩ : ∃ n, n = O.length := ⟨_, rfl⟩
  rw [← hnO] at eO
  subst eL eS eO
  have HE : Hid (nL = L.length ∧ nS = S.length ∧ nO = O.length) := ⟨hnL, hnS, hnO⟩
  have HCO : Hid (0 < nO → ∃ b off, aO = some ⟨b, off, none⟩ ∧ ∀ w', Below w.heap.size w w' → ∀ i, i < nO → ∀ t, t < 4 → w'.cell? ⟨b, off + i * 4 + t, none⟩ = (encO (O.getD i dopZ))[t]?) := fun hp => by
    obtain ⟨a', c', e', _, _, h3⟩ := h.2.2
    simp only [Value.slice.injEq] at e'
    obtain ⟨ea, _, _⟩ := e'
    obtain ⟨b, off, e, hb, hcc⟩ := h3 (by omega)
    exact ⟨b, off, ea.trans e, fun w' hB i hi t ht => (hB.cell (p := ⟨b, off + i * 4 + t, none⟩) hb).trans (hcc i (by omega) t ht)⟩
  obtain ⟨aK, cK, eK, hkc, hkm, hkk⟩ := hK
  obtain ⟨nK, hnK⟩ : ∃ n, n = Z.length := ⟨_, rfl⟩
  rw [← hnK] at eK hkc hkk
  subst eK
  have HNK : Hid (nK = Z.length) := hnK
  have HCK : Hid (0 < nK → ∃ b off, aK = some ⟨b, off, none⟩ ∧ ∀ w', Below w.heap.size w w' → ∀ i, i < nK → w'.cell? ⟨b, off + i, none⟩ = some (.int .i64 (Z.getD i 0))) := fun hp => by
    obtain ⟨b, off, e, hb, hcc⟩ := hkk hp
    exact ⟨b, off, e, fun w' hB i hi => (hB.cell (p := ⟨b, off + i, none⟩) hb).trans (hcc i hi)⟩
  have HKL : Hid (nK ≤ 1048576) := by show _ ≤ _; omega
  obtain ⟨X, hX⟩ : ∃ X, X = (w.alloc (.cells #[.slice aL nL cL, .slice aS nS cS, .slice aO nO cO] 27)).alloc (.cells #[.slice none 0 0, .slice none 0 0, .slice none 0 0] 27) := ⟨_, rfl⟩
  have hBX : Below w.heap.size w X := by rw [hX]; exact ((Below.refl _ _).alloc (Nat.le_refl _) _).alloc (by simp) _
  have gX : X.heap[w.heap.size]? = some (.cells #[.slice aL nL cL, .slice aS nS cS, .slice aO nO cO] 27 (0, 0)) := by rw [hX, Below.heap_alloc _ _ _ (by simp)]; exact heap_alloc_new _ _
  have gR : X.heap[w.heap.size + 1]? = some (.cells #[.slice none 0 0, .slice none 0 0, .slice none 0 0] 27 (0, 0)) := by
    rw [hX]
    have := heap_alloc_new (w.alloc (.cells #[.slice aL nL cL, .slice aS nS cS, .slice aO nO cO] 27)) (.cells #[.slice none 0 0, .slice none 0 0, .slice none 0 0] 27)
    simpa using this
  have HX := (show Hid _ from hX)
  have HBX : Hid (Below w.heap.size w X) := hBX
  have HG : Hid (∀ w', Below X.heap.size X w' → At3 w' w.heap.size 27 (.slice aL nL cL) (.slice aS nS cS) (.slice aO nO cO) ∧ At3 w' (w.heap.size + 1) 27 (.slice none 0 0) (.slice none 0 0) (.slice none 0 0) ∧ Below w.heap.size w w') := fun w' hB => ⟨(hB.block _ (lt_of_block gX)).trans gX, (hB.block _ (lt_of_block gR)).trans gR, hBX.trans (hB.mono hBX.size)⟩
  have c0 : X.cell? ⟨w.heap.size, 0, none⟩ = some (.slice aL nL cL) := cellN gX
  have c1 : X.cell? ⟨w.heap.size, 1, none⟩ = some (.slice aS nS cS) := cellN gX
  have c2 : X.cell? ⟨w.heap.size, 2, none⟩ = some (.slice aO nO cO) := cellN gX
  rw [hX] at c0 c1 c2
  clear hX hBX gX gR h hz hn hkz hkk hkc hkm hnL hnS hnO hnK
  go_enter Try.func22, Try.ntmps22
  go_wp2_with fail
  rw [← HX.out]
  have hAX := HA.out X HBX.out
  refine (specDisk_any _ _ _ L S O X hAX.1 hAX.2.1 hAX.2.2 HZ.out).mono ?_
  rintro e w1 ⟨rfl, hB1⟩
  have HB1 : Hid (Below X.heap.size X w1) := hB1
  clear c0 c1 c2 HX hB1 hAX
  have HEND : Hid (∀ wy, Below X.heap.size X wy → True) := fun _ _ => trivial
  cases hd : diskB L S O with
  | false =>
    have HD : Hid (crOk L S O Z tn = false) := by show _ = _; unfold crOk; rw [hd]; rfl
    have HR3 : Hid (At3 w1 (w.heap.size + 1) 27 (.slice none 0 0) (.slice none 0 0) (.slice none 0 0)) := (HG.out w1 HB1.out).2.1
    obtain ⟨q, hq, hi6, ho6, h16⟩ := row3 none none none 0 0 0 0 0 0
    clear hd
    go_wp2_with (refine wpList_store_row rfl 27 _ _ rfl (w.heap.size + 1) q rfl (congrArg Value.agg hq.symm) 27 _ HR3.out hi6 ho6 h16 ?_)
    subst hq
    refine bodyPost_ret (v := .tuple #[.agg #[.slice none 0 0, .slice none 0 0, .slice none 0 0], _]) (results_row_tmp rfl _ _ (w.heap.size + 1) 27 _ _ _ rfl (setRow_heap _ _ _ _ _ _ HR3.out) Try.underlying27 rfl hi6) rfl ⟨_, _, _, ret_val (by rw [HD.out]; rfl), ?_, ?_⟩
    · rw [cr_no HD.out]
      exact ⟨(HoldF.nil _ 0).1, (HoldF.nil _ 0).1, (HoldO.nil _ 0).1⟩
    · exact below_setRow (HG.out w1 HB1.out).2.2 (by omega) _
  | true =>
    by_cases h0 : 0 ≤ tn
    · have HH : Hid (crOk L S O Z tn = (placesB O.length Z && filesB (crF S O Z tn.toNat Z.length))) := by
        show _ = _
        unfold crOk
        rw [hd, decide_eq_true h0]
        rfl
      have h0n : ¬ tn < 0 := by omega
      have HDD : Hid (diskB L S O = true) := hd
      clear hd
      have hnk : nK ≤ 1048576 := HKL.out
      go_wp2
      go_loopw [8] (fun i wr => ∃ (k : Nat), k ≤ nK ∧ i = .int .i64 k ∧ Hid ((∀ j, j < k → plB nO Z j = true) ∧ Below X.heap.size X wr)) (fun i _ => nK - (intOf i).toNat)
      case atStart => exact ⟨0, Nat.zero_le _, rfl, (fun j hj => absurd hj (Nat.not_lt_zero _)), HB1.out⟩
      case round =>
        obtain ⟨k, hk, rfl, HI⟩ := hrel
        have HBR : Hid (Below X.heap.size X wr) := HI.out.2
        by_cases hlt : k < nK
        · have hltI : (k : Int) < (nK : Int) := by omega
          obtain ⟨b, off, rfl, hl⟩ := HCK.out (by omega)
          have hg := HG.out wr HBR.out
          have d0 := hl wr hg.2.2 k hlt
          obtain ⟨k1, hk1⟩ : ∃ k1, k1 = k - 1 := ⟨_, rfl⟩
          have p0 : 0 < k → wr.cell? ⟨b, off + k1, none⟩ = some (.int .i64 (Z.getD k1 0)) := fun hp => hl wr hg.2.2 k1 (by omega)
          obtain ⟨m1, hm1⟩ : ∃ m1, m1 = (nO : Int) - 1 := ⟨_, rfl⟩
          have hno : nO ≤ 1048576 := by have := HN.out; have := HE.out; omega
          have hwO : IntKind.i64.wrap ((nO : Int) - 1) = m1 := by rw [IntKind.wrap_i64, hm1]; omega
          have HPL : Hid (plB nO Z k = (inB 0 m1 (Z.getD k 0) && (decide (k = 0) || decide (Z.getD k1 0 < Z.getD k 0)))) := by show _ = _; unfold plB; rw [hm1, hk1]
          obtain ⟨x, hx⟩ : ∃ x, x = Z.getD k 0 := ⟨_, rfl⟩
          obtain ⟨y, hy⟩ : ∃ y, y = Z.getD k1 0 := ⟨_, rfl⟩
          rw [← hx] at d0 HPL
          rw [← hy] at p0 HPL
          have s0 : ∀ s : Later wr, s.val.cell? ⟨b, off + k, none⟩ = some (.int .i64 x) := fun s => s.cell d0
          have s2 : ∀ s : Later wr, s.val.cell? ⟨w.heap.size, 2, none⟩ = some (.slice aO nO cO) := fun s => s.cell hg.1.c2
          have HXI : Hid (∀ t : Later wr, Calls Try.prog 56 #[.int .i64 x, .int .i64 0, .int .i64 m1] t.val fun e w' => e = .returned (.bool (inB 0 m1 x)) ∧ Below t.val.heap.size t.val w') := fun t => by
            refine (in_any x 0 m1 t.val).mono ?_
            rintro e w' ⟨rfl, hw⟩
            rw [hw]
            exact ⟨rfl, Below.refl _ _⟩
          have hne := Later.any wr
          have HBADP : Hid (plB nO Z k = false → crOk L S O Z tn = false) := fun hp => by
            rw [HH.out, ← HE.out.2.2, placesB_no (by rw [← HNK.out]; exact hlt) hp]
            rfl
          clear hl hx hy hg d0 hm1
          cases hin : inB 0 m1 x with
          | false =>
            rw [hin] at HXI HPL
            have HD : Hid (crOk L S O Z tn = false) := HBADP.out (by rw [HPL.out]; rfl)
            clear p0 hk1
            go_wp2
            refine wp_region_later (by kernel_rfl) (by kernel_rfl) ?_
            repeat (go_big_quiet_step (first | (rename_i t; with_reducible exact Calls.later (HXI.out t))))
            refine wpQuiet_nil ?_
            rintro _ ⟨s5, rfl⟩
            have HB5 : Hid (Below X.heap.size X s5.val) := HBR.out.trans (s5.ok.mono HBR.out.size)
            obtain ⟨w6, hw6⟩ : ∃ w6, w6 = s5.val := ⟨_, rfl⟩
            rw [← hw6] at HB5 ⊢
            clear hw6 hne HXI s0 s2 s5
            have HR3 : Hid (At3 w6 (w.heap.size + 1) 27 (.slice none 0 0) (.slice none 0 0) (.slice none 0 0)) := (HG.out w6 HB5.out).2.1
            obtain ⟨q, hq, hi6, ho6, h16⟩ := row3 none none none 0 0 0 0 0 0
            go_wp2_with (refine wpList_store_row rfl 27 _ _ rfl (w.heap.size + 1) q rfl (congrArg Value.agg hq.symm) 27 _ HR3.out hi6 ho6 h16 ?_)
            subst hq
            refine bodyPost_ret (v := .tuple #[.agg #[.slice none 0 0, .slice none 0 0, .slice none 0 0], _]) (results_row_tmp rfl _ _ (w.heap.size + 1) 27 _ _ _ rfl (setRow_heap _ _ _ _ _ _ HR3.out) Try.underlying27 rfl hi6) rfl ⟨_, _, _, ret_val (by rw [HD.out]; rfl), ?_, ?_⟩
            · rw [cr_no HD.out]
              exact ⟨(HoldF.nil _ 0).1, (HoldF.nil _ 0).1, (HoldO.nil _ 0).1⟩
            · exact below_setRow (HG.out w6 HB5.out).2.2 (by omega) _
          | true =>
            rw [hin] at HXI HPL
            by_cases hp : 0 < k
            · have hg1 : decide ((0 : Int) < (k : Int)) = true := decide_eq_true (by omega)
              have hg2 : decide (0 < k) = true := decide_eq_true hp
              have s1 : ∀ s : Later wr, s.val.cell? ⟨b, off + k1, none⟩ = some (.int .i64 y) := fun s => s.cell (p0 hp)
              have hk1I : IntKind.i64.wrap ((k : Int) - 1) = (k1 : Int) := by rw [IntKind.wrap_i64]; omega
              have hk1n : (k1 : Int) < (nK : Int) := by omega
              have hk1m : k1 < nK := by omega
              rw [decide_eq_false (show ¬ k = 0 by omega)] at HPL
              clear p0 hk1
              by_cases hxy : y < x
              · have hxz : ¬ x ≤ y := by omega
                rw [decide_eq_true hxy] at HPL
                have HJ : Hid (∀ j, j < k + 1 → plB nO Z j = true) := fun j hj => by
                  rcases Nat.lt_succ_iff_lt_or_eq.1 hj with h | rfl
                  · exact HI.out.1 j h
                  · exact HPL.out
                go_wp2
                refine wp_region_later (by kernel_rfl) (by kernel_rfl) ?_
                repeat (go_big_quiet_step (first | (rename_i t; with_reducible exact Calls.later (HXI.out t))))
                refine wpQuiet_nil ?_
                rintro _ ⟨s5, rfl⟩
                have HB5 : Hid (Below X.heap.size X s5.val) := HBR.out.trans (s5.ok.mono HBR.out.size)
                obtain ⟨w6, hw6⟩ : ∃ w6, w6 = s5.val := ⟨_, rfl⟩
                rw [← hw6] at HB5 ⊢
                clear hw6 hne HXI s0 s2 s5 s1
                go_wp2
                exact ⟨⟨k + 1, by omega, by simp, HJ.out, HB5.out⟩, by simp [intOf]; omega⟩
              · have hxz : x ≤ y := by omega
                rw [decide_eq_false hxy] at HPL
                have HD : Hid (crOk L S O Z tn = false) := HBADP.out (by rw [HPL.out]; rfl)
                go_wp2
                refine wp_region_later (by kernel_rfl) (by kernel_rfl) ?_
                repeat (go_big_quiet_step (first | (rename_i t; with_reducible exact Calls.later (HXI.out t))))
                refine wpQuiet_nil ?_
                rintro _ ⟨s5, rfl⟩
                have HB5 : Hid (Below X.heap.size X s5.val) := HBR.out.trans (s5.ok.mono HBR.out.size)
                obtain ⟨w6, hw6⟩ : ∃ w6, w6 = s5.val := ⟨_, rfl⟩
                rw [← hw6] at HB5 ⊢
                clear hw6 hne HXI s0 s2 s5 s1
                have HR3 : Hid (At3 w6 (w.heap.size + 1) 27 (.slice none 0 0) (.slice none 0 0) (.slice none 0 0)) := (HG.out w6 HB5.out).2.1
                obtain ⟨q, hq, hi6, ho6, h16⟩ := row3 none none none 0 0 0 0 0 0
                go_wp2_with (refine wpList_store_row rfl 27 _ _ rfl (w.heap.size + 1) q rfl (congrArg Value.agg hq.symm) 27 _ HR3.out hi6 ho6 h16 ?_)
                subst hq
                refine bodyPost_ret (v := .tuple #[.agg #[.slice none 0 0, .slice none 0 0, .slice none 0 0], _]) (results_row_tmp rfl _ _ (w.heap.size + 1) 27 _ _ _ rfl (setRow_heap _ _ _ _ _ _ HR3.out) Try.underlying27 rfl hi6) rfl ⟨_, _, _, ret_val (by rw [HD.out]; rfl), ?_, ?_⟩
                · rw [cr_no HD.out]
                  exact ⟨(HoldF.nil _ 0).1, (HoldF.nil _ 0).1, (HoldO.nil _ 0).1⟩
                · exact below_setRow (HG.out w6 HB5.out).2.2 (by omega) _
            · have hk0 : k = 0 := by omega
              have hg1 : decide ((0 : Int) < (k : Int)) = false := decide_eq_false (by omega)
              have hg2 : decide (0 < k) = false := decide_eq_false hp
              rw [decide_eq_true hk0] at HPL
              have HJ : Hid (∀ j, j < k + 1 → plB nO Z j = true) := fun j hj => by
                rcases Nat.lt_succ_iff_lt_or_eq.1 hj with h | rfl
                · exact HI.out.1 j h
                · exact HPL.out
              clear p0 hk1 hk0
              go_wp2
              refine wp_region_later (by kernel_rfl) (by kernel_rfl) ?_
              repeat (go_big_quiet_step (first | (rename_i t; with_reducible exact Calls.later (HXI.out t))))
              refine wpQuiet_nil ?_
              rintro _ ⟨s5, rfl⟩
              have HB5 : Hid (Below X.heap.size X s5.val) := HBR.out.trans (s5.ok.mono HBR.out.size)
              obtain ⟨w6, hw6⟩ : ∃ w6, w6 = s5.val := ⟨_, rfl⟩
              rw [← hw6] at HB5 ⊢
              clear hw6 hne HXI s0 s2 s5
              go_wp2
              exact ⟨⟨k + 1, by omega, by simp, HJ.out, HB5.out⟩, by simp [intOf]; omega⟩
        · have hltI : ¬ (k : Int) < (nK : Int) := by omega
          have HPB : Hid (placesB O.length Z = true) := placesB_yes fun i hi => by rw [← HE.out.2.2]; exact HI.out.1 i (by rw [← HNK.out] at hi; omega)
          have HSR : Hid (RdF (wr.alloc (.cells #[] 68)) (.slice aS nS cS) S) := (HA.out _ ((HG.out wr HBR.out).2.2)).2.1.below ((Below.refl _ _).alloc (Nat.le_refl _) _)
          have hg := HG.out wr HBR.out
          have c0 := hg.1.c0
          have c1 := hg.1.c1
          have c2 := hg.1.c2
          have e1 : (wr.alloc (.cells #[] 68)).cell? ⟨w.heap.size, 1, none⟩ = some (.slice aS nS cS) := (((Below.refl wr.heap.size wr).alloc (Nat.le_refl _) _).cell (p := ⟨w.heap.size, 1, none⟩) (hg.1.lt)).trans c1
          clear HI hg
          go_wp2_with (at_builtin; refine wpList_app0F rfl _ _ wr.heap.size wr.heap.size S rfl rfl (heap_alloc_new _ _) (Nat.le_refl _) HSR.out HN.out.2.1 ?_; intro nv w7 hnv hB7)
          have HB7 : Hid (Below X.heap.size X w7) := HBR.out.trans (((Below.refl _ _).alloc HBR.out.size _).trans (hB7.mono (by have := HBR.out.size; simp; omega)))
          have HNV : Hid (HoldF w7 X.heap.size nv S) := hnv.base HBR.out.size
          clear hnv hB7 c0 c1 c2 e1 HSR
          have HDK : Hid (filesB S = true ∧ O.length ≤ 200) := ⟨(disk_live HDD.out).2.1, (disk_live HDD.out).2.2⟩
          obtain ⟨tt, htt⟩ : ∃ tt : Nat, tt = tn.toNat := ⟨_, rfl⟩
          have htI : tn = (tt : Int) := by omega
          have HTT : Hid (tt = tn.toNat) := htt
          have HF : Hid (∀ k, k ≤ nK → UpF (crF S O Z tt k) ∧ (∀ f ∈ crF S O Z tt k, nmB f.n = true) ∧ (crF S O Z tt k).length ≤ 260 ∧ tot (crF S O Z tt k) ≤ 50000000) := fun k hk => by
            have hl := places_len HPB.out
            have h60 := filesB_parts HDK.out.1
            obtain ⟨f1, f2, f3, f4⟩ := crF_facts (t := tt) HDD.out (filesB_up HDK.out.1) (filesB_names HDK.out.1) (disk_small HDD.out) HPB.out k (by rw [← HNK.out]; exact hk)
            have h200 := HDK.out.2
            have : k ≤ 200 := by have := HNK.out; omega
            exact ⟨f1, f2, by omega, by have : k * 200000 ≤ 200 * 200000 := Nat.mul_le_mul_right _ this; omega⟩
          rw [← htt] at HH
          subst htI
          clear htt
          go_wp2
          go_loopw [9, 10] (fun v i wr => ∃ (k : Nat) (u : Value), k ≤ nK ∧ i = .int .i64 k ∧ u = v ∧ Hid (HoldF wr X.heap.size u (crF S O Z tt k) ∧ Below X.heap.size X wr)) (fun _ i _ => nK - (intOf i).toNat)
          case atStart => exact ⟨0, _, Nat.zero_le _, rfl, rfl, HNV.out, HB7.out⟩
          case round =>
            obtain ⟨k, u, hk, rfl, rfl, HI⟩ := hrel
            have HBR2 : Hid (Below X.heap.size X wr) := HI.out.2
            by_cases hlt : k < nK
            · have hltI : (k : Int) < (nK : Int) := by omega
              obtain ⟨b, off, rfl, hl⟩ := HCK.out (by omega)
              have hg := HG.out wr HBR2.out
              have d0 := hl wr hg.2.2 k hlt
              have hpl := placesB_at HPB.out (show k < Z.length by rw [← HNK.out]; exact hlt)
              obtain ⟨x, hx⟩ : ∃ x : Nat, (x : Int) = Z.getD k 0 := ⟨(Z.getD k 0).toNat, by omega⟩
              rw [← hx] at d0
              have hxn : x < nO := by have := HE.out; omega
              have hxI : (x : Int) < (nO : Int) := by omega
              obtain ⟨b2, off2, rfl, hl2⟩ := HCO.out (by omega)
              obtain ⟨o, ho⟩ : ∃ o, o = O.getD x dopZ := ⟨_, rfl⟩
              have d1 := hl2 wr hg.2.2 x hxn 0 (by omega)
              have d2 := hl2 wr hg.2.2 x hxn 1 (by omega)
              have d3 := hl2 wr hg.2.2 x hxn 2 (by omega)
              have d4 := hl2 wr hg.2.2 x hxn 3 (by omega)
              rw [← ho] at d1 d2 d3 d4
              have d1' : wr.cell? ⟨b2, off2 + x * 4, none⟩ = some (.int .i64 o.k) := d1
              have d2' : wr.cell? ⟨b2, off2 + x * 4 + 1, none⟩ = some (.string o.n) := d2
              have d3' : wr.cell? ⟨b2, off2 + x * 4 + 2, none⟩ = some (.string o.t) := d3
              have d4' : wr.cell? ⟨b2, off2 + x * 4 + 3, none⟩ = some (.string o.d) := d4
              have c2 := hg.1.c2
              clear d1 d2 d3 d4 hl hl2 hpl hg
              go_wp2
              have HT1 : Hid (∀ wy, Below wr.heap.size wr wy → wy.cell? ⟨w.heap.size, 2, none⟩ = some (.slice (some ⟨b2, off2, none⟩) nO cO) ∧ wy.cell? ⟨b, off + k, none⟩ = some (.int .i64 (x : Int)) ∧ wy.cell? ⟨b2, off2 + x * 4, none⟩ = some (.int .i64 o.k) ∧ wy.cell? ⟨b2, off2 + x * 4 + 1, none⟩ = some (.string o.n) ∧ wy.cell? ⟨b2, off2 + x * 4 + 2, none⟩ = some (.string o.t) ∧ wy.cell? ⟨b2, off2 + x * 4 + 3, none⟩ = some (.string o.d)) := fun wy hy =>
                ⟨(hy.cell (lt_of_cell c2)).trans c2, (hy.cell (lt_of_cell d0)).trans d0, (hy.cell (lt_of_cell d1')).trans d1', (hy.cell (lt_of_cell d2')).trans d2', (hy.cell (lt_of_cell d3')).trans d3', (hy.cell (lt_of_cell d4')).trans d4'⟩
              have HXN : Hid (x < nO ∧ k < nK ∧ o = O.getD x dopZ ∧ (x : Int) = Z.getD k 0) := ⟨hxn, hlt, ho, hx⟩
              clear d0 d1' d2' d3' d4' c2 ho hx hxn hxI
              refine wp_cut_to (fun a0 t w' => ∃ f, t = canon a0 dsV f ∧ (∃ g, f 11 = .pointer (some ⟨g, 0, none⟩) ∧ wr.heap.size ≤ g ∧ w'.heap[g]? = some (.cells #[.int .i64 o.k, .string o.n, .string o.t, .string o.d] 49 (0, 0)) ∧ Below wr.heap.size wr w')) ?_ ?_
              rotate_left
              · intro J K' hJ hK
                refine wp_letter ?_
                intro fr hfr
                have hsz : 70 < fr.tmps.size := by rw [hfr]; exact Nat.le_of_ble_eq_true rfl
                have t1 : fr.eval (.tmp 1) = .slice (some ⟨b, off, none⟩) nK cK := by rw [hfr]; rfl
                have t3 : fr.eval (.tmp 3) = .pointer (some ⟨w.heap.size, 0, none⟩) := by rw [hfr]; rfl
                have t10 : fr.eval (.tmp 10) = .int .i64 (k : Int) := by rw [hfr]; rfl
                have HFR := (show Hid _ from hfr)
                clear hfr
                refine wp_region_fin (Rel := fun v v' => Below v.heap.size v v') (fun v => Below.refl _ _) (fun h k => h.trans (k.mono h.size)) (fun v => (Below.refl _ _).drew) 9 rfl (by kernel_rfl) (by kernel_rfl) dsV slotV (VF w.heap.size wr.heap.size b off nK cK k x b2 off2 nO cO o) _ rfl (by kernel_rfl) (fun _ _ _ _ h hB => h.below hB) ?_ ?_ ?_ ?_ ?_
                · intro j f f' wy hj he h
                  have hj' : j = 0 ∨ j = 1 ∨ j = 2 ∨ j = 3 ∨ j = 4 ∨ j = 5 ∨ j = 6 ∨ j = 7 ∨ j = 8 := by omega
                  rcases hj' with rfl | rfl | rfl | rfl | rfl | rfl | rfl | rfl | rfl
                  · exact h.dep hj (he 0 (by kernel_rfl))
                  · exact h.dep hj (he 1 (by kernel_rfl))
                  · exact h.dep hj (he 2 (by kernel_rfl))
                  · exact h.dep hj (he 3 (by kernel_rfl))
                  · exact h.dep hj (he 4 (by kernel_rfl))
                  · exact h.dep hj (he 5 (by kernel_rfl))
                  · exact h.dep hj (he 6 (by kernel_rfl))
                  · exact h.dep hj (he 7 (by kernel_rfl))
                  · exact h.dep hj (he 8 (by kernel_rfl))
                · intro i hi
                  exact slotV_mem i hi
                · intro i j hi hj q
                  exact slotV_inj i j hi hj q
                · intro ops hops f wy j oo hj hy ho hd
                  have ho2 := ho
                  rw [hops] at ho
                  have N1 := (canon_eval_ne fr dsV f 1 (by decide)).trans t1
                  have N3 := (canon_eval_ne fr dsV f 3 (by decide)).trans t3
                  have N10 := (canon_eval_ne fr dsV f 10 (by decide)).trans t10
                  have hT := HT1.out wy hy
                  have hj' : j = 0 ∨ j = 1 ∨ j = 2 ∨ j = 3 ∨ j = 4 ∨ j = 5 ∨ j = 6 ∨ j = 7 ∨ j = 8 := by omega
                  rcases hj' with rfl | rfl | rfl | rfl | rfl | rfl | rfl | rfl | rfl <;> simp only [List.getElem?_toArray, List.getElem?_cons_succ, List.getElem?_cons_zero, Option.some.injEq] at ho <;> subst ho
                  · refine wpOp_runG ho2 (wanted_none rfl) (q_fieldK (canon fr dsV f).eval _ wy _ w.heap.size 2 rfl N3 (.inr (.inr rfl))) ?_
                    exact ⟨_, rfl, upd_same f 63 _, Below.refl _ _⟩
                  · refine wpOp_runG ho2 (wanted_none rfl) (q_loadO (canon fr dsV f).eval _ wy _ w.heap.size 2 rfl ((canon_eval fr dsV f 63 (by decide) (Nat.lt_of_le_of_lt (by decide) hsz)).trans (hd ⟨0, .data⟩ (by simp) rfl (by decide))) hT.1) ?_
                    exact ⟨_, rfl, upd_same f 64 _, Below.refl _ _⟩
                  · refine wpOp_runG ho2 (wanted_none rfl) (q_moveD (canon fr dsV f).eval _ wy _ rfl) ?_
                    exact ⟨_, rfl, (upd_same f 65 _).trans N1, Below.refl _ _⟩
                  · refine wpOp_runG ho2 (wanted_none rfl) (q_moveD (canon fr dsV f).eval _ wy _ rfl) ?_
                    exact ⟨_, rfl, (upd_same f 66 _).trans N10, Below.refl _ _⟩
                  · refine wpOp_runG ho2 (wanted_none rfl) (q_idxI (canon fr dsV f).eval _ wy _ _ b off nK cK k rfl ((canon_eval fr dsV f 65 (by decide) (Nat.lt_of_le_of_lt (by decide) hsz)).trans (hd ⟨2, .data⟩ (by simp) rfl (by decide))) ((canon_eval fr dsV f 66 (by decide) (Nat.lt_of_le_of_lt (by decide) hsz)).trans (hd ⟨3, .data⟩ (by simp) rfl (by decide))) HXN.out.2.1) ?_
                    exact ⟨_, rfl, upd_same f 67 _, Below.refl _ _⟩
                  · refine wpOp_runG ho2 (wanted_none rfl) (q_loadI (canon fr dsV f).eval _ wy _ b (off + k) (x : Int) rfl ((canon_eval fr dsV f 67 (by decide) (Nat.lt_of_le_of_lt (by decide) hsz)).trans (hd ⟨4, .data⟩ (by simp) rfl (by decide))) hT.2.1) ?_
                    exact ⟨_, rfl, upd_same f 68 _, Below.refl _ _⟩
                  · refine wpOp_runG ho2 (wanted_none rfl) (q_idxO (canon fr dsV f).eval _ wy _ _ b2 off2 nO cO x rfl ((canon_eval fr dsV f 64 (by decide) (Nat.lt_of_le_of_lt (by decide) hsz)).trans (hd ⟨1, .data⟩ (by simp) rfl (by decide))) ((canon_eval fr dsV f 68 (by decide) (Nat.lt_of_le_of_lt (by decide) hsz)).trans (hd ⟨5, .data⟩ (by simp) rfl (by decide))) HXN.out.1) ?_
                    exact ⟨_, rfl, upd_same f 69 _, Below.refl _ _⟩
                  · refine wpOp_runG ho2 (wanted_none rfl) (q_loadOA (canon fr dsV f).eval _ wy _ b2 (off2 + x * 4) o rfl ((canon_eval fr dsV f 69 (by decide) (Nat.lt_of_le_of_lt (by decide) hsz)).trans (hd ⟨6, .data⟩ (by simp) rfl (by decide))) hT.2.2.1 hT.2.2.2.1 hT.2.2.2.2.1 hT.2.2.2.2.2) ?_
                    exact ⟨_, rfl, upd_same f 70 _, Below.refl _ _⟩
                  · refine wpOp_runG ho2 (wanted_none rfl) (q_allocO (canon fr dsV f).eval _ wy rfl) ?_
                    exact ⟨_, rfl, ⟨wy.heap.size, upd_same f 11 _, hy.size, heap_alloc_new _ _⟩, (Below.refl _ _).alloc (Nat.le_refl _) _⟩
                · intro ops hops f wy hy ho hall
                  have ho2 := ho
                  have h70 : f 70 = .agg #[.int .i64 o.k, .string o.n, .string o.t, .string o.d] := hall 7 (by omega)
                  obtain ⟨g, eg, hbg, hgh⟩ := hall 8 (by omega)
                  refine wpOp_storeO ho2 (wanted_none rfl) _ _ g o rfl ((canon_eval fr dsV f 11 (by decide) (Nat.lt_of_le_of_lt (by decide) hsz)).trans eg) ((canon_eval fr dsV f 70 (by decide) (Nat.lt_of_le_of_lt (by decide) hsz)).trans h70) hgh ?_
                  intro wz hz1 hz2 hz3 hz4 hz5 hz6
                  refine hK _ _ (Met.intro (hJ _ _ ⟨f, congrArg (fun z => canon z dsV f) HFR.out, g, eg, hbg, hz1, ⟨hz4.trans hy.os, hz5.trans hy.tape, hz6.trans hy.output, by rw [hz3]; exact hy.size, fun q hq => (hz2 q (by omega)).trans (hy.block q hq)⟩⟩))
              rintro _ w8 ⟨f, rfl, g, h11, hbg, hgh, hB8⟩
              simp only [canon, dsV, List.foldl, Act.put, List.setIfInBounds_toArray, List.set_cons_succ, List.set_cons_zero]
              rw [h11]
              have HB8 : Hid (Below X.heap.size X w8) := HBR2.out.trans (hB8.mono HBR2.out.size)
              have HG8 : Hid (w8.heap[g]? = some (.cells #[.int .i64 o.k, .string o.n, .string o.t, .string o.d] 49 (0, 0))) := hgh
              have HU8 : Hid (RdF w8 u (crF S O Z tt k)) := HI.out.1.1.below hB8
              have HWG : Hid (Below wr.heap.size wr w8 ∧ wr.heap.size ≤ g ∧ RdF wr u (crF S O Z tt k)) := ⟨hB8, hbg, HI.out.1.1⟩
              have HFK := (show Hid _ from HF.out k (by omega))
              have HOX : Hid (O.getD (Z.getD k 0).toNat dopZ = o) := by show _ = _; rw [← HXN.out.2.2.2, HXN.out.2.2.1]; rfl
              have HOD : Hid (o.d.size ≤ 200000) := disk_small HDD.out o (by rw [HXN.out.2.2.1]; exact getD_mem (by have := HE.out; have := HXN.out; omega))
              have HSD : Hid (∀ f ∈ crF S O Z tt k, f.d.size + o.d.size ≤ 2000000000) := fun f hf => by have := tot_mem hf; have := HFK.out.2.2.2; have := HOD.out; omega
              have HST : Hid (∀ o', opAt O Z tt k = o' → crF S O Z tt (k + 1) = (doF (crF S O Z tt k) o').1) := fun o' e => by show (doF _ _).1 = _; rw [e]
              obtain ⟨n1, hn1⟩ : ∃ n1, n1 = nK - 1 := ⟨_, rfl⟩
              have hwK : IntKind.i64.wrap ((nK : Int) - 1) = (n1 : Int) := by rw [IntKind.wrap_i64]; omega
              have HN1 : Hid (n1 = nK - 1) := hn1
              have k0 : w8.cell? ⟨g, 0, none⟩ = some (.int .i64 o.k) := cellN hgh
              have k1 : w8.cell? ⟨g, 1, none⟩ = some (.string o.n) := cellN hgh
              have k2 : w8.cell? ⟨g, 2, none⟩ = some (.string o.t) := cellN hgh
              have k3 : w8.cell? ⟨g, 3, none⟩ = some (.string o.d) := cellN hgh
              clear hgh hB8 HI hn1 h11
              obtain ⟨lb, hlb⟩ : ∃ b : Bool, b = decide (k = n1) := ⟨_, rfl⟩
              have hlI : ((k : Int) == (n1 : Int)) = lb := by rw [hlb]; by_cases h : k = n1 <;> simp [h]; omega
              obtain ⟨kb, hkb⟩ : ∃ b : Bool, b = (o.k == 1) := ⟨_, rfl⟩
              obtain ⟨tb, htb⟩ : ∃ b : Bool, b = decide (tt < o.d.size) := ⟨_, rfl⟩
              have HLB : Hid (lb = decide (k = n1) ∧ kb = (o.k == 1) ∧ tb = decide (tt < o.d.size)) := ⟨hlb, hkb, htb⟩
              have htI : decide ((tt : Int) < (o.d.size : Int)) = tb := by rw [htb]; by_cases h : tt < o.d.size <;> simp [h]
              have hkI : (o.k == 1) = kb := hkb.symm
              clear hlb hkb htb
              cases lb with
              | false =>
                go_wp2_with fail
                refine (do_any u _ o w8 HU8.out (by have := HFK.out.2.2.1; omega) HSD.out).mono ?_
                rintro e w9 ⟨v9, rfl, hv9, hne9, hB9⟩
                have HV9 : Hid (HoldF w9 X.heap.size v9 (crF S O Z tt (k + 1))) := by rw [HST.out o (by unfold opAt; rw [HOX.out]; rw [if_neg (fun h => absurd HLB.out.1.symm (by have := HNK.out; have := HN1.out; simp; omega))])]; exact hv9.hold.base HB8.out.size
                have HB9 : Hid (Below X.heap.size X w9) := HB8.out.trans (hB9.mono HB8.out.size)
                clear hv9 hne9 hB9 k0 k1 k2 k3
                go_wp2
                exact ⟨⟨k + 1, _, by omega, by simp, rfl, HV9.out, HB9.out⟩, by simp [intOf]; omega⟩
              | true =>
                have HLA : Hid (k + 1 = Z.length) := by
                  show _ = _
                  have := HLB.out.1.symm
                  rw [decide_eq_true_eq] at this
                  have := HNK.out
                  have := HN1.out
                  omega
                cases kb with
                | false =>
                  go_wp2_with fail
                  refine (do_any u _ o w8 HU8.out (by have := HFK.out.2.2.1; omega) HSD.out).mono ?_
                  rintro e w9 ⟨v9, rfl, hv9, hne9, hB9⟩
                  have HV9 : Hid (HoldF w9 X.heap.size v9 (crF S O Z tt (k + 1))) := by rw [HST.out o (by unfold opAt; rw [HOX.out]; rw [if_pos HLA.out]; unfold tornO; rw [if_neg (fun h => absurd HLB.out.2.1.symm (by rw [h.1]; decide))])]; exact hv9.hold.base HB8.out.size
                  have HB9 : Hid (Below X.heap.size X w9) := HB8.out.trans (hB9.mono HB8.out.size)
                  clear hv9 hne9 hB9 k0 k1 k2 k3
                  go_wp2
                  exact ⟨⟨k + 1, _, by omega, by simp, rfl, HV9.out, HB9.out⟩, by simp [intOf]; omega⟩
                | true =>
                  have HK1 : Hid (o.k = 1) := by have := HLB.out.2.1.symm; exact eq_of_beq this
                  cases tb with
                  | false =>
                    have htP : ¬ (tt : Int) < (o.d.size : Int) := of_decide_eq_false htI
                    go_wp2_with fail
                    refine (do_any u _ o w8 HU8.out (by have := HFK.out.2.2.1; omega) HSD.out).mono ?_
                    rintro e w9 ⟨v9, rfl, hv9, hne9, hB9⟩
                    have HV9 : Hid (HoldF w9 X.heap.size v9 (crF S O Z tt (k + 1))) := by rw [HST.out o (by unfold opAt; rw [HOX.out]; rw [if_pos HLA.out]; unfold tornO; rw [if_neg (fun h => absurd HLB.out.2.2 (by rw [decide_eq_true h.2]; decide))])]; exact hv9.hold.base HB8.out.size
                    have HB9 : Hid (Below X.heap.size X w9) := HB8.out.trans (hB9.mono HB8.out.size)
                    clear hv9 hne9 hB9 k0 k1 k2 k3
                    go_wp2
                    exact ⟨⟨k + 1, _, by omega, by simp, rfl, HV9.out, HB9.out⟩, by simp [intOf]; omega⟩
                  | true =>
                    have htP : (tt : Int) < (o.d.size : Int) := of_decide_eq_true htI
                    have htQ : (tt : Int) ≤ (o.d.size : Int) := by omega
                    have htR : tt ≤ o.d.size := by omega
                    have kf : w8.frozen? ⟨g, 3, none⟩ = false := frozN HG8.out
                    obtain ⟨o2, ho2⟩ : ∃ o2 : Dop, o2 = ⟨o.k, o.n, o.t, o.d.extract 0 tt⟩ := ⟨_, rfl⟩
                    have HO2 : Hid (o2 = ⟨o.k, o.n, o.t, o.d.extract 0 tt⟩) := ho2
                    clear ho2
                    go_wp2_with fail
                    obtain ⟨wz, hwz⟩ : ∃ wz, wz = w8.setCell ⟨g, 3, none⟩ (.string (o.d.extract 0 tt)) := ⟨_, rfl⟩
                    have HBZ : Hid (Below wr.heap.size wr wz) := by show Below _ _ _; rw [hwz]; exact HWG.out.1.setCell HWG.out.2.1 _
                    have HXZ : Hid (Below X.heap.size X wz) := HBR2.out.trans (HBZ.out.mono HBR2.out.size)
                    rw [← hwz]
                    have h2z : o2.d.size ≤ o.d.size := by rw [HO2.out]; simp; omega
                    have hagg : Value.agg #[.int .i64 o.k, .string o.n, .string o.t, .string (o.d.extract 0 tt)] = .agg (encO o2) := by rw [HO2.out]; rfl
                    rw [hagg]
                    refine (do_any u _ o2 wz (HWG.out.2.2.below HBZ.out) (by have := HFK.out.2.2.1; omega) (fun f hf => by have := HSD.out f hf; omega)).mono ?_
                    rintro e w9 ⟨v9, rfl, hv9, hne9, hB9⟩
                    have HV9 : Hid (HoldF w9 X.heap.size v9 (crF S O Z tt (k + 1))) := by rw [HST.out o2 (by unfold opAt; rw [HOX.out]; rw [if_pos HLA.out]; unfold tornO; rw [if_pos ⟨HK1.out, by omega⟩, HO2.out])]; exact hv9.hold.base HXZ.out.size
                    have HB9 : Hid (Below X.heap.size X w9) := HXZ.out.trans (hB9.mono HXZ.out.size)
                    clear hv9 hne9 hB9 k0 k1 k2 k3 kf hwz hagg h2z
                    go_wp2
                    exact ⟨⟨k + 1, _, by omega, by simp, rfl, HV9.out, HB9.out⟩, by simp [intOf]; omega⟩
            · have hltI : ¬ (k : Int) < (nK : Int) := by omega
              have HFK := (show Hid _ from HF.out nK (Nat.le_refl _))
              have hkn : k = nK := by omega
              have HU : Hid (HoldF wr X.heap.size u (crF S O Z tt nK)) := by rw [← hkn]; exact HI.out.1
              obtain ⟨R, hR⟩ : ∃ R, R = crF S O Z tt nK := ⟨_, rfl⟩
              have HRR : Hid (R = crF S O Z tt nK) := hR
              rw [← hR] at HU HFK
              have HOK : Hid (crOk L S O Z (tt : Int) = filesB R) := by show _ = _; rw [HH.out, HPB.out, HRR.out, HNK.out]; rfl
              clear HI hkn hR
              go_wp2_with fail
              refine (files_any u R wr HU.out.1 (by have := HFK.out.2.2.2; omega) (fun j hj => by
                have := HFK.out.2.1 (R.getD j flZ) (by simp [hj])
                unfold nmB at this
                simp at this
                simp
                omega)).mono ?_
              rintro e w9 ⟨rfl, hB9⟩
              have HB9 : Hid (Below X.heap.size X w9) := HBR2.out.trans (hB9.mono HBR2.out.size)
              have HU9 : Hid (HoldF w9 X.heap.size u R) := HU.out.below hB9
              clear hB9
              have HR3 : Hid (At3 w9 (w.heap.size + 1) 27 (.slice none 0 0) (.slice none 0 0) (.slice none 0 0)) := (HG.out w9 HB9.out).2.1
              cases hf : filesB R with
              | false =>
                have HD : Hid (crOk L S O Z (tt : Int) = false) := by show _ = _; rw [HOK.out, hf]
                obtain ⟨q, hq, hi6, ho6, h16⟩ := row3 none none none 0 0 0 0 0 0
                clear hf
                go_wp2_with (refine wpList_store_row rfl 27 _ _ rfl (w.heap.size + 1) q rfl (congrArg Value.agg hq.symm) 27 _ HR3.out hi6 ho6 h16 ?_)
                subst hq
                refine bodyPost_ret (v := .tuple #[.agg #[.slice none 0 0, .slice none 0 0, .slice none 0 0], _]) (results_row_tmp rfl _ _ (w.heap.size + 1) 27 _ _ _ rfl (setRow_heap _ _ _ _ _ _ HR3.out) Try.underlying27 rfl hi6) rfl ⟨_, _, _, ret_val (by rw [HD.out]; rfl), ?_, ?_⟩
                · rw [cr_no HD.out]
                  exact ⟨(HoldF.nil _ 0).1, (HoldF.nil _ 0).1, (HoldO.nil _ 0).1⟩
                · exact below_setRow (HG.out w9 HB9.out).2.2 (by omega) _
              | true =>
                have HD : Hid (crOk L S O Z (tt : Int) = true ∧ crR L S O Z (tt : Int) = R) := by
                  have e : crOk L S O Z (tt : Int) = true := by rw [HOK.out, hf]
                  exact ⟨e, by rw [cr_yes e, HRR.out, ← HNK.out]; rfl⟩
                clear hf
                obtain ⟨au, cu, eu⟩ := HU9.out.1.slice
                obtain ⟨nR, hnR⟩ : ∃ n, n = R.length := ⟨_, rfl⟩
                rw [← hnR] at eu
                subst eu
                have HRL : Hid (R.length ≤ 1048576) := by show _ ≤ _; have := HFK.out.2.2.1; omega
                have HA9 : Hid (RdF (w9.alloc (.cells #[] 68)) (.slice au nR cu) R) := HU9.out.1.below ((Below.refl _ _).alloc (Nat.le_refl _) _)
                clear hnR
                go_wp2_with (
                  at_builtin
                  refine wpList_app0F rfl _ _ w9.heap.size w9.heap.size R rfl rfl (heap_alloc_new _ _) (Nat.le_refl _) HA9.out HRL.out ?_
                  intro nx wa hnx hBa
                  obtain ⟨ax, cx, ex⟩ := hnx.1.slice
                  obtain ⟨mR, hmR⟩ : ∃ n, n = R.length := ⟨_, rfl⟩
                  rw [← hmR] at ex
                  subst ex
                  have HBA9 : Hid (Below w9.heap.size w9 wa) := ((Below.refl _ _).alloc (Nat.le_refl _) _).trans (hBa.mono (by simp))
                  have HBA : Hid (Below X.heap.size X wa) := HB9.out.trans (HBA9.out.mono HB9.out.size)
                  have HNX : Hid (HoldF wa X.heap.size (.slice ax mR cx) R) := hnx.base HB9.out.size
                  have HUA : Hid (HoldF wa X.heap.size (.slice au nR cu) R) := HU9.out.below HBA9.out
                  clear hnx hBa hmR HR3
                  have HR3 : Hid (At3 wa (w.heap.size + 1) 27 (.slice none 0 0) (.slice none 0 0) (.slice none 0 0)) := (HG.out wa HBA.out).2.1
                  have HXS : Hid (w.heap.size + 1 < X.heap.size) := lt_of_block (HG.out X (Below.refl _ _)).2.1
                  obtain ⟨q, hq, hi6, ho6, h16⟩ := row3 au ax none nR cu mR cx 0 0
                  have HKQ : Hid (∀ v, HoldF wa X.heap.size v R → RdF (wa.setRow (w.heap.size + 1) q) v R) := fun v hv => (hv.kept (by simp [World.setRow]) (fun j hj _ => setRow_other _ _ _ _ (by have := HXS.out; omega))).1
                  refine wpList_build2 rfl _ _ rfl rfl rfl ?_
                  refine wpList_store_row rfl 27 _ _ rfl (w.heap.size + 1) q rfl (congrArg Value.agg hq.symm) 27 _ HR3.out hi6 ho6 h16 ?_)
                subst hq
                refine bodyPost_ret (v := .tuple #[.agg #[.slice au nR cu, .slice ax mR cx, .slice none 0 0], _]) (results_row_tmp rfl _ _ (w.heap.size + 1) 27 _ _ _ rfl (setRow_heap _ _ _ _ _ _ HR3.out) Try.underlying27 rfl hi6) rfl ⟨_, _, _, ret_val (by rw [HD.out.1]; rfl), ?_, ?_⟩
                · rw [HD.out.2]
                  exact ⟨HKQ.out _ HUA.out, HKQ.out _ HNX.out, (HoldO.nil _ 0).1⟩
                · exact below_setRow (HG.out wa HBA.out).2.2 (by omega) _
    · have HD : Hid (crOk L S O Z tn = false) := by show _ = _; unfold crOk; rw [hd, decide_eq_false h0]; rfl
      have HR3 : Hid (At3 w1 (w.heap.size + 1) 27 (.slice none 0 0) (.slice none 0 0) (.slice none 0 0)) := (HG.out w1 HB1.out).2.1
      have h0n : tn < 0 := by omega
      obtain ⟨q, hq, hi6, ho6, h16⟩ := row3 none none none 0 0 0 0 0 0
      clear hd
      go_wp2_with (refine wpList_store_row rfl 27 _ _ rfl (w.heap.size + 1) q rfl (congrArg Value.agg hq.symm) 27 _ HR3.out hi6 ho6 h16 ?_)
      subst hq
      refine bodyPost_ret (v := .tuple #[.agg #[.slice none 0 0, .slice none 0 0, .slice none 0 0], _]) (results_row_tmp rfl _ _ (w.heap.size + 1) 27 _ _ _ rfl (setRow_heap _ _ _ _ _ _ HR3.out) Try.underlying27 rfl hi6) rfl ⟨_, _, _, ret_val (by rw [HD.out]; rfl), ?_, ?_⟩
      · rw [cr_no HD.out]
        exact ⟨(HoldF.nil _ 0).1, (HoldF.nil _ 0).1, (HoldO.nil _ 0).1⟩
      · exact below_setRow (HG.out w1 HB1.out).2.2 (by omega) _
end Go.Proofs.Ytbohaefmokbgbaa

namespace Go.Proofs.Ytbohaefmokbgbaa
open Go.RowKit
set_option linter.unusedVariables false

/-- the first n numbers -/
def iotaI (n : Nat) : List Int := (List.range n).map fun (i : Nat) => (i : Int)
theorem iotaI_len (n : Nat) : (iotaI n).length = n := by unfold iotaI; simp
theorem iotaI_at {n i : Nat} (h : i < n) : (iotaI n).getD i 0 = (i : Int) := by unfold iotaI; simp [h]
theorem iotaI_snoc (n : Nat) : iotaI (n + 1) = iotaI n ++ [(n : Int)] := by unfold iotaI; rw [List.range_succ]; simp
theorem iota_places (n : Nat) : placesB n (iotaI n) = true := placesB_yes fun i hi => by
  rw [iotaI_len] at hi
  unfold plB inB
  rw [iotaI_at hi]
  have h1 : decide (0 ≤ (i : Int)) = true := decide_eq_true (by omega)
  have h2 : decide ((i : Int) ≤ (n : Int) - 1) = true := decide_eq_true (by omega)
  rcases Nat.eq_zero_or_pos i with h0 | h0
  · subst h0; simp; omega
  · rw [iotaI_at (show i - 1 < n by omega)]
    simp
    omega
theorem crash_all {L S : List Fl} {O : List Dop} {t : Nat} (h : diskB L S O = true) (ht : 200000 ≤ t) : ∀ k, k ≤ O.length → runB S (O.take k) = some (crF S O (iotaI O.length) t k)
  | 0, _ => by rw [List.take_zero]; rfl
  | k + 1, hk => by
    have ih := crash_all h ht k (by omega)
    have hkO : k < O.length := by omega
    have hst := runB_take hkO ih
    have ho : opAt O (iotaI O.length) t k = O.getD k dopZ := by
      unfold opAt
      rw [iotaI_at hkO]
      have : ((k : Int)).toNat = k := by omega
      rw [this]
      split
      · unfold tornO
        rw [if_neg (fun e => by have := disk_small h _ (getD_mem hkO); omega)]
      · rfl
    rw [hst]
    cases hc : ((doF (crF S O (iotaI O.length) t k) (O.getD k dopZ)).2 && (formB (O.getD k dopZ) && filesB (doF (crF S O (iotaI O.length) t k) (O.getD k dopZ)).1)) with
    | true =>
      show some _ = some (doF _ (opAt O (iotaI O.length) t k)).1
      rw [ho]
    | false =>
      rw [hc] at hst
      exfalso
      have := runB_none (k := k + 1) hst
      rw [disk_run h] at this
      cases this
theorem crash_whole {L S : List Fl} {O : List Dop} {t : Nat} (h : diskB L S O = true) (ht : 200000 ≤ t) : crOk L S O (iotaI O.length) (t : Int) = true ∧ crR L S O (iotaI O.length) (t : Int) = L := by
  have e := crash_all h ht O.length (Nat.le_refl _)
  rw [List.take_length, disk_run h] at e
  have e := (Option.some.inj e).symm
  have ok : crOk L S O (iotaI O.length) (t : Int) = true := by
    unfold crOk
    rw [h, decide_eq_true (by omega), iota_places, iotaI_len, Int.toNat_natCast, e, (disk_live h).1]
    rfl
  refine ⟨ok, ?_⟩
  rw [cr_yes ok, iotaI_len, Int.toNat_natCast, e]
theorem crash_noneOf {L S : List Fl} {O : List Dop} (h : diskB L S O = true) : crOk L S O [] 0 = true ∧ crR L S O [] 0 = S := by
  have ok : crOk L S O [] 0 = true := by
    unfold crOk
    rw [h]
    show (true && (true && (true && filesB S))) = true
    rw [(disk_live h).2.1]
    rfl
  exact ⟨ok, by rw [cr_yes ok]; rfl⟩
theorem crash_bad {L S : List Fl} {O : List Dop} (Z : List Int) (t : Int) (h : diskB L S O = false) : crOk L S O Z t = false := by
  unfold crOk
  rw [h]
  rfl
end Go.Proofs.Ytbohaefmokbgbaa

namespace Go.Proofs.Ytbohaefmokbgbaa
open Go.RowKit
set_option linter.unusedVariables false

theorem wp_region_gen {P : Program} {l : List Oper} {Q : Exit → Act → World → Prop} {id : Nat} {a0 : Act} {w0 : World} (hm : P.follows .mixedOrders = true) (hback : backB l = true) (ds : List Nat) (slot : Nat → Nat) (F : Nat → (Nat → Value) → World → Prop) (G : World → Prop) (hG : G w0.drew)
    (hdep : ∀ j f f' w, j < l.length → (∀ i, depsB l j i = true → f (slot i) = f' (slot i)) → F j f w → F j f' w)
    (hds : ∀ i, i < l.length → slot i ∈ ds) (hinj : ∀ i j, i < l.length → j < l.length → slot i = slot j → i = j)
    (hstep : ∀ ops, ops = l.toArray → ∀ (done : Nat → Bool) f w i o, G w → ops[i]? = some o → done i = false → (∀ e ∈ o.after, Region.binds .any e = true → F e.on f w) → wpOp P ops Q i (fun a' w' => ∃ v, a' = (canon a0 ds f).put (some (slot i)) v ∧ F i (upd f (slot i) v) w' ∧ G w' ∧ ∀ j, j < l.length → j ≠ i → F j f w → F j f w') (canon a0 ds f) w)
    (hdone : ∀ f w, G w → (∀ i, i < l.length → F i f w) → Q .normal (canon a0 ds f) w) :
    (Code.region id l.toArray true).wp P Q a0 w0 := by
  have hlt : ∀ i o, l.toArray[i]? = some o → i < l.length := fun i o ho => by
    rcases Nat.lt_or_ge i l.length with h' | h'
    · exact h'
    · rw [Array.getElem?_eq_none (by simpa using h')] at ho; cases ho
  have hdl : ∀ j k, j < l.length → depsB l j k = true → k < l.length := fun j k hj hk => by
    unfold depsB at hk
    rw [Bool.or_eq_true] at hk
    rcases hk with hk | hk
    · have : k = j := by simpa using hk
      omega
    · have hoj : l.toArray[j]? = some (l[j]) := by simp [hj]
      rw [hoj] at hk
      simp only [Array.any_eq_true] at hk
      obtain ⟨x, hx, q⟩ := hk
      simp only [Bool.and_eq_true, beq_iff_eq] at q
      have := backB_at hback hoj _ (Array.getElem_mem hx) q.2
      omega
  refine wp_region_inv (I := fun done t w => ∃ f, t = canon a0 ds f ∧ G w ∧ (∀ j, j < l.length → done j = true → F j f w) ∧ (∀ j, j < l.length → done j = true → ∀ i, depsB l j i = true → done i = true)) hm ?_ ?_ ?_
  · exact ⟨fun d => a0.eval (.tmp d), (canon_self a0 ds).symm, hG, (fun j _ h => by cases h), fun j _ h => by cases h⟩
  · rintro done t w ⟨f, rfl, hB, hd2, hd3⟩ i o ho hl hd
    have hi := hlt i o ho
    refine wpOp_mono ?_ (hstep _ rfl done f w i o hB ho hl (fun e he hb => hd2 _ (by have := backB_at hback ho e he hb; omega) (hd e he hb)))
    rintro a' w' ⟨v, rfl, hv, hB', hkeep⟩
    refine ⟨upd f (slot i) v, canon_put a0 ds f (slot i) v (hds i hi), hB', fun j hj hdj => ?_, fun j hj hdj k hk => ?_⟩
    · by_cases e : j = i
      · subst e
        exact hv
      · have hj' : done j = true := by
          have : (j == i) = false := by simpa using e
          simpa [this] using hdj
        refine hdep j f _ w' hj (fun k hk => ?_) (hkeep j hj e (hd2 j hj hj'))
        have hkd := hd3 j hj hj' k hk
        have hki : k ≠ i := fun q => by rw [q, hl] at hkd; cases hkd
        exact (upd_ne f v (fun q => hki (hinj k i (hdl j k hj hk) hi q))).symm
    · by_cases e : j = i
      · subst e
        unfold depsB at hk
        rw [Bool.or_eq_true] at hk
        rcases hk with hk | hk
        · have : k = j := by simpa using hk
          subst this
          simp
        · rw [ho] at hk
          simp only [Array.any_eq_true] at hk
          obtain ⟨x, hx, q⟩ := hk
          simp only [Bool.and_eq_true, beq_iff_eq] at q
          rw [← q.1]
          simp [hd _ (Array.getElem_mem hx) q.2]
      · have hj' : done j = true := by
          have : (j == i) = false := by simpa using e
          simpa [this] using hdj
        simp [hd3 j hj hj' k hk]
  · rintro done t w ⟨f, rfl, hB, hd2, _⟩ hall
    have key : ∀ m i, i < m → i < l.length → done i = true := by
      intro m
      induction m with
      | zero => intro i hi; exact absurd hi (Nat.not_lt_zero _)
      | succ m ih =>
        intro i hi hil
        have ho : l.toArray[i]? = some (l[i]) := by simp [hil]
        exact hall i _ ho (fun e he hb => by
          have := backB_at hback ho e he hb
          exact ih e.on (by omega) (by omega))
    exact hdone f w hB (fun i hi => hd2 i hi (key (i + 1) i (by omega) hi))
end Go.Proofs.Ytbohaefmokbgbaa

namespace Go.Proofs.Ytbohaefmokbgbaa
open Go.RowKit
set_option linter.unusedVariables false

set_option maxHeartbeats 1000000 in
theorem szDisk2_any (vL vS vO : Value) (L S : List Fl) (O : List Dop) (w : World) (hL : RdF w vL L) (hS : RdF w vS S) (hO : RdO w vO O) (hin : InD L S O) :
    Calls Try.prog 13 #[.agg #[vL, vS, vO], .int .i64 1048576] w fun e w' => ∃ r : Int, e = .returned (.int .i64 r) ∧ (r < 0 ∨ ((0 ≤ r ∧ r ≤ 1048576) ∧ SmallD L S O ∧ L.length ≤ 1048576 ∧ S.length ≤ 1048576 ∧ O.length ≤ 1048576)) ∧ Below w.heap.size w w' := by
  have HL : Hid (∀ w', Below w.heap.size w w' → RdF w' vL L) := fun w' hB => hL.below hB
  have HS : Hid (∀ w', Below w.heap.size w w' → RdF w' vS S) := fun w' hB => hS.below hB
  have HO : Hid (∀ w', Below w.heap.size w w' → RdO w' vO O) := fun w' hB => hO.below hB
  obtain ⟨aL, cL, eL⟩ := hL.slice
  obtain ⟨nL, hnL⟩ : ∃ n, n = L.length := ⟨_, rfl⟩
  rw [← hnL] at eL
  obtain ⟨aS, cS, eS⟩ := hS.slice
  obtain ⟨nS, hnS⟩ : ∃ n, n = S.length := ⟨_, rfl⟩
  rw [← hnS] at eS
  obtain ⟨aO, cO, eO⟩ := hO.slice
  obtain ⟨nO, hnO⟩ : ∃ n, n = O.length := ⟨_, rfl⟩
  rw [← hnO] at eO
  subst eL eS eO
  obtain ⟨X, hX⟩ : ∃ X, X = w.alloc (.cells #[.slice aL nL cL, .slice aS nS cS, .slice aO nO cO] 42) := ⟨_, rfl⟩
  have hBX : Below w.heap.size w X := by rw [hX]; exact (Below.refl _ _).alloc (Nat.le_refl _) _
  have gX : X.heap[w.heap.size]? = some (.cells #[.slice aL nL cL, .slice aS nS cS, .slice aO nO cO] 42 (0, 0)) := by rw [hX]; exact heap_alloc_new _ _
  have HG : Hid (∀ w', Below X.heap.size X w' → w'.cell? ⟨w.heap.size, 0, none⟩ = some (.slice aL nL cL) ∧ w'.cell? ⟨w.heap.size, 1, none⟩ = some (.slice aS nS cS) ∧ w'.cell? ⟨w.heap.size, 2, none⟩ = some (.slice aO nO cO) ∧ Below w.heap.size w w') := fun w' hB => by
    have g := (hB.block _ (lt_of_block gX)).trans gX
    exact ⟨cellN g, cellN g, cellN g, hBX.trans (hB.mono hBX.size)⟩
  have HX := (show Hid _ from hX)
  have HI : Hid (InD L S O) := hin
  obtain ⟨c0, _, _, _⟩ := HG.out X (Below.refl _ _)
  rw [hX] at c0
  clear hX hBX gX hL hS hO hnL hnS hnO hin
  go_enter Try.func13, Try.ntmps13
  go_wp2_with fail
  rw [← HX.out]
  refine (szFileS_any _ L X (HL.out X (HG.out X (Below.refl _ _)).2.2.2) HI.out.1 1048576 (by omega) (by omega)).mono ?_
  rintro e w1 ⟨r, rfl, hr, hB1⟩
  have HB1 := (show Hid _ from hB1)
  clear c0 HX
  obtain ⟨_, c1, _, hBw1⟩ := HG.out w1 hB1
  have HBW1 := (show Hid _ from hBw1)
  clear hB1 hBw1
  rcases hr with hr | ⟨hr, hrl, hl1, hz1, ht1⟩
  · go_wp2
    go_ret
    exact ⟨_, rfl, .inl (by decide), HBW1.out⟩
  have H1 : Hid (L.length ≤ 1048576 ∧ (∀ f ∈ L, f.n.size ≤ 100000000) ∧ tot L ≤ 1048576) := ⟨hl1, of_at hz1 (by omega), by omega⟩
  clear hl1 hz1 ht1
  go_wp2_with fail
  refine (szFileS_any _ S w1 (HS.out w1 HBW1.out) HI.out.2.1 r hr (by omega)).mono ?_
  rintro e w2 ⟨r2, rfl, hr2, hB2⟩
  have HB2 : Hid (Below X.heap.size X w2) := HB1.out.trans (hB2.mono HB1.out.size)
  clear c1
  obtain ⟨_, _, c2, hBw2⟩ := HG.out w2 HB2.out
  have HBW2 := (show Hid _ from hBw2)
  clear hB2 hBw2
  rcases hr2 with hr2 | ⟨hr2, hrl2, hl2, hz2, ht2⟩
  · go_wp2
    go_ret
    exact ⟨_, rfl, .inl (by decide), HBW2.out⟩
  have H2 : Hid (S.length ≤ 1048576 ∧ (∀ f ∈ S, f.n.size ≤ 100000000) ∧ tot S ≤ 1048576) := ⟨hl2, of_at hz2 (by omega), by omega⟩
  clear hl2 hz2 ht2
  go_wp2_with fail
  refine (szDOpS_any _ O w2 (HO.out w2 HBW2.out) HI.out.2.2 r2 hr2 (by omega)).mono ?_
  rintro e w3 ⟨r3, rfl, hr3, hB3⟩
  have HB3 : Hid (Below w.heap.size w w3) := HBW2.out.trans (hB3.mono HBW2.out.size)
  clear hB3 c2
  rcases hr3 with hr3 | ⟨hr3, hrl3, hl3, hz3⟩
  · go_wp2
    go_ret
    exact ⟨_, rfl, .inl (by decide), HB3.out⟩
  have H3 : Hid (O.length ≤ 1048576 ∧ ∀ o ∈ O, o.n.size ≤ 100000000 ∧ o.t.size ≤ 100000000 ∧ o.d.size ≤ 100000000) := ⟨hl3, of_atO hz3 (by omega)⟩
  clear hl3 hz3
  go_wp2
  go_ret
  exact ⟨_, rfl, .inr ⟨⟨hr3, by omega⟩, ⟨by have := H1.out.2.2; omega, by have := H2.out.2.2; omega, H1.out.2.1, H2.out.2.1, H3.out.2⟩, H1.out.1, H2.out.1, H3.out.1⟩, HB3.out⟩
end Go.Proofs.Ytbohaefmokbgbaa

namespace Go.Proofs.Ytbohaefmokbgbaa
open Go.RowKit
set_option linter.unusedVariables false

theorem OwD.off {w w' : World} {base : Nat} {x y z : Value} {a b c g : Nat} {cs : Array Value} (h : OwD w base x y z a b c) (hg : w.heap[g]? = some (.cells cs 27 (0, 0))) (hk : ∀ k, k ≠ g → w'.heap[k]? = w.heap[k]?) : OwD w' base x y z a b c := by
  have n2 : ∀ (v : Value) (n : Nat), OwA2 w base v n → ∀ k, v.ownBlock = some k → k ≠ g := fun v n hv k hk' e => by
    obtain ⟨c', hc'⟩ := hv.cells hk'
    rw [e, hg] at hc'
    cases hc'
  have n4 : ∀ (v : Value) (n : Nat), OwA4 w base v n → ∀ k, v.ownBlock = some k → k ≠ g := fun v n hv k hk' e => by
    obtain ⟨c', hc'⟩ := hv.cells hk'
    rw [e, hg] at hc'
    cases hc'
  exact ⟨h.l.blk (fun k hk' => hk k (n2 _ _ h.l k hk')), h.s.blk (fun k hk' => hk k (n2 _ _ h.s k hk')), h.o.blk (fun k hk' => hk k (n4 _ _ h.o k hk')), h.ap⟩
theorem q_loadOpL (ev : Operand → Value) (o' : Oper) (w : World) (x : Operand) (p : Nat) (o : Dop) (h : o'.op = .load 44 x) (hx : ev x = .pointer (some ⟨p, 0, none⟩)) (hb : w.heap[p]? = some (.cells #[.int .i64 o.k, .string o.n, .string o.t, .string o.d] 44 (0, 0))) : (execOp ev o').run Try.prog w = .ok (.value (.agg #[.int .i64 o.k, .string o.n, .string o.t, .string o.d])) w := by
  have e0 : w.cell? ⟨p, 0, none⟩ = some (.int .i64 o.k) := cellN hb
  have e1 : w.cell? ⟨p, 1, none⟩ = some (.string o.n) := cellN hb
  have e2 : w.cell? ⟨p, 2, none⟩ = some (.string o.t) := cellN hb
  have e3 : w.cell? ⟨p, 3, none⟩ = some (.string o.d) := cellN hb
  simp [execOp, h, hx]
  go_simp
theorem q_ext0 (ev : Operand → Value) (o : Oper) (w : World) (x : Operand) (a b : Value) (h : o.op = .extract x 0) (hx : ev x = .tuple #[a, b]) : (execOp ev o).run Try.prog w = .ok (.value a) w := by
  simp [execOp, h, hx]
  go_simp
theorem q_ext1 (ev : Operand → Value) (o : Oper) (w : World) (x : Operand) (a b : Value) (h : o.op = .extract x 1) (hx : ev x = .tuple #[a, b]) : (execOp ev o).run Try.prog w = .ok (.value b) w := by
  simp [execOp, h, hx]
  go_simp
theorem q_allocD (ev : Operand → Value) (o : Oper) (w : World) (h : o.op = .alloc 27) : (execOp ev o).run Try.prog w = .ok (.value (.pointer (some ⟨w.heap.size, 0, none⟩))) (w.alloc (.cells #[.slice none 0 0, .slice none 0 0, .slice none 0 0] 27)) := by
  simp [execOp, h]
  go_simp
theorem noStr3 (a b c : Option Addr) (i j k l m n : Nat) : ∀ (q : Nat) s, (#[Value.slice a i j, .slice b k l, .slice c m n] : Array Value)[q]? ≠ some (.string s) := fun q s => by
  match q with
  | 0 => simp
  | 1 => simp
  | 2 => simp
  | (k + 3) => simp
theorem put_same (a0 : Act) (ds : List Nat) (f : Nat → Value) (d : Nat) (hd : d ∈ ds) : (canon a0 ds f).put (some d) (f d) = canon a0 ds f := by
  rw [canon_put a0 ds f d (f d) hd]
  congr 1
  funext x
  by_cases h : x = d
  · rw [if_pos h, h]
  · rw [if_neg h]
theorem At3.apart {w : World} {b base : Nat} {p q r x y z : Value} {i j k : Nat} (h : At3 w b 27 p q r) (ho : OwD w base x y z i j k) : ∀ n, x.ownBlock = some n ∨ y.ownBlock = some n ∨ z.ownBlock = some n → n ≠ b := fun n hn e => by
  unfold At3 at h
  rcases hn with hn | hn | hn
  · obtain ⟨c, hc⟩ := ho.l.cells hn; rw [e, h] at hc; cases hc
  · obtain ⟨c, hc⟩ := ho.s.cells hn; rw [e, h] at hc; cases hc
  · obtain ⟨c, hc⟩ := ho.o.cells hn; rw [e, h] at hc; cases hc
def dsK1 : List Nat := [27, 28, 29, 30, 31, 26, 32, 33, 6, 0, 7]
def slotK1 (j : Nat) : Nat := dsK1.getD j 0
theorem slotK1_inj (i j : Nat) (hi : i < 11) (hj : j < 11) (q : slotK1 i = slotK1 j) : i = j := by
  have h : ∀ i : Fin 11, ∀ j : Fin 11, slotK1 i.val = slotK1 j.val → i.val = j.val := by decide
  exact h ⟨i, hi⟩ ⟨j, hj⟩ q
theorem slotK1_mem (i : Nat) (hi : i < 11) : slotK1 i ∈ dsK1 := by
  have h : ∀ i : Fin 11, slotK1 i.val ∈ dsK1 := by decide
  exact h ⟨i, hi⟩
def K1F (base C : Nat) (V : Value) (L S : List Fl) (O : List Dop) (o : Dop) (AL AS : List Fl) (AO : List Dop) : Nat → (Nat → Value) → World → Prop
  | 0, f, w => f 27 = V
  | 1, f, w => ∃ y1 y2 y3 : Nat, f 28 = .agg #[.slice (some ⟨y1, 0, none⟩) L.length L.length, .slice (some ⟨y2, 0, none⟩) S.length S.length, .slice (some ⟨y3, 0, none⟩) O.length O.length] ∧ RdD w (.slice (some ⟨y1, 0, none⟩) L.length L.length) (.slice (some ⟨y2, 0, none⟩) S.length S.length) (.slice (some ⟨y3, 0, none⟩) O.length O.length) L S O
  | 2, f, w => f 29 = .agg #[.int .i64 o.k, .string o.n, .string o.t, .string o.d]
  | 3, f, w => f 30 = .agg #[.int .i64 o.k, .string o.n, .string o.t, .string o.d]
  | 4, f, w => ∃ x y z, f 31 = .tuple #[.agg #[x, y, z], .int .i64 (C : Int)] ∧ RdD w x y z AL AS AO
  | 5, f, w => ∃ x y z, f 26 = .tuple #[.agg #[x, y, z], .int .i64 (C : Int)] ∧ RdD w x y z AL AS AO
  | 6, f, w => ∃ x y z, f 32 = .agg #[x, y, z] ∧ RdD w x y z AL AS AO
  | 7, f, w => f 33 = .int .i64 (C : Int)
  | 8, f, w => ∃ g cs, f 6 = .pointer (some ⟨g, 0, none⟩) ∧ base ≤ g ∧ cs.size = 3 ∧ (∀ (i : Nat) s, cs[i]? ≠ some (Value.string s)) ∧ w.heap[g]? = some (.cells cs 27 (0, 0))
  | 9, f, w => ∃ g x y z, f 6 = .pointer (some ⟨g, 0, none⟩) ∧ f 32 = .agg #[x, y, z] ∧ w.heap[g]? = some (.cells #[x, y, z] 27 (0, 0))
  | 10, f, w => f 7 = .int .i64 (C : Int)
  | _, _, _ => True
theorem K1F.below {base C : Nat} {V : Value} {L S : List Fl} {O : List Dop} {o : Dop} {AL AS : List Fl} {AO : List Dop} {j : Nat} {f : Nat → Value} {w w' : World} (h : K1F base C V L S O o AL AS AO j f w) (hB : Below w.heap.size w w') : K1F base C V L S O o AL AS AO j f w' := by
  match j, h with
  | 0, h => exact h
  | 1, h => exact (by obtain ⟨y1, y2, y3, e, h1⟩ := h; exact ⟨y1, y2, y3, e, h1.below hB⟩)
  | 2, h => exact h
  | 3, h => exact h
  | 4, h => exact (by obtain ⟨x, y, z, e, h1⟩ := h; exact ⟨x, y, z, e, h1.below hB⟩)
  | 5, h => exact (by obtain ⟨x, y, z, e, h1⟩ := h; exact ⟨x, y, z, e, h1.below hB⟩)
  | 6, h => exact (by obtain ⟨x, y, z, e, h1⟩ := h; exact ⟨x, y, z, e, h1.below hB⟩)
  | 7, h => exact h
  | 8, h => exact (by obtain ⟨g, cs, e, hb, hc, hn, hh⟩ := h; exact ⟨g, cs, e, hb, hc, hn, (hB.block _ (lt_of_block hh)).trans hh⟩)
  | 9, h => exact (by obtain ⟨g, x, y, z, e, e2, hh⟩ := h; exact ⟨g, x, y, z, e, e2, (hB.block _ (lt_of_block hh)).trans hh⟩)
  | 10, h => exact h
  | (m + 11), _ => exact trivial
theorem K1F.put {base C : Nat} {V : Value} {L S : List Fl} {O : List Dop} {o : Dop} {AL AS : List Fl} {AO : List Dop} {j : Nat} {f : Nat → Value} {w w' : World} {g : Nat} {cs cs' : Array Value} (hj : j ≠ 9) (hal : f 6 = .pointer (some ⟨g, 0, none⟩)) (hg : w.heap[g]? = some (.cells cs 27 (0, 0))) (hn : ∀ (i : Nat) s, cs[i]? ≠ some (Value.string s)) (hg' : w'.heap[g]? = some (.cells cs' 27 (0, 0))) (hc' : cs'.size = 3) (hn' : ∀ (i : Nat) s, cs'[i]? ≠ some (Value.string s)) (hk : ∀ k, k ≠ g → w'.heap[k]? = w.heap[k]?) (hs : w.heap.size ≤ w'.heap.size) (h : K1F base C V L S O o AL AS AO j f w) : K1F base C V L S O o AL AS AO j f w' := by
  match j, h with
  | 0, h => exact h
  | 1, h => exact (by obtain ⟨y1, y2, y3, e, h1⟩ := h; exact ⟨y1, y2, y3, e, ⟨h1.1.far hs hg hn hk, h1.2.1.far hs hg hn hk, h1.2.2.far hs hg hn hk⟩⟩)
  | 2, h => exact h
  | 3, h => exact h
  | 4, h => exact (by obtain ⟨x, y, z, e, h1⟩ := h; exact ⟨x, y, z, e, ⟨h1.1.far hs hg hn hk, h1.2.1.far hs hg hn hk, h1.2.2.far hs hg hn hk⟩⟩)
  | 5, h => exact (by obtain ⟨x, y, z, e, h1⟩ := h; exact ⟨x, y, z, e, ⟨h1.1.far hs hg hn hk, h1.2.1.far hs hg hn hk, h1.2.2.far hs hg hn hk⟩⟩)
  | 6, h => exact (by obtain ⟨x, y, z, e, h1⟩ := h; exact ⟨x, y, z, e, ⟨h1.1.far hs hg hn hk, h1.2.1.far hs hg hn hk, h1.2.2.far hs hg hn hk⟩⟩)
  | 7, h => exact h
  | 8, h => exact (by obtain ⟨g2, cs2, e, hb, _, _, _⟩ := h; rw [hal] at e; simp only [Value.pointer.injEq, Option.some.injEq, Addr.mk.injEq] at e; obtain ⟨rfl, _⟩ := e; exact ⟨g, cs', hal, hb, hc', hn', hg'⟩)
  | 9, _ => exact absurd rfl hj
  | 10, h => exact h
  | (m + 11), _ => exact trivial
def depK1 (j i : Nat) : Bool := match j with
  | 0 => i == 0
  | 1 => i == 1
  | 2 => i == 2
  | 3 => i == 3
  | 4 => i == 4
  | 5 => i == 5
  | 6 => i == 6
  | 7 => i == 7
  | 8 => i == 8
  | 9 => i == 9 || i == 8 || i == 6
  | 10 => i == 10
  | _ => false
theorem K1F.dep {base C : Nat} {V : Value} {L S : List Fl} {O : List Dop} {o : Dop} {AL AS : List Fl} {AO : List Dop} {j : Nat} {f f' : Nat → Value} {w : World} (hj : j < 11) (h : K1F base C V L S O o AL AS AO j f w) (he : ∀ i, depK1 j i = true → f (slotK1 i) = f' (slotK1 i)) : K1F base C V L S O o AL AS AO j f' w := by
  match j, hj, h, he with
  | 0, _, h, he =>
    have e0 : f 27 = f' 27 := he 0 rfl
    simp only [K1F] at h ⊢
    rw [← e0]
    exact h
  | 1, _, h, he =>
    have e1 : f 28 = f' 28 := he 1 rfl
    simp only [K1F] at h ⊢
    rw [← e1]
    exact h
  | 2, _, h, he =>
    have e2 : f 29 = f' 29 := he 2 rfl
    simp only [K1F] at h ⊢
    rw [← e2]
    exact h
  | 3, _, h, he =>
    have e3 : f 30 = f' 30 := he 3 rfl
    simp only [K1F] at h ⊢
    rw [← e3]
    exact h
  | 4, _, h, he =>
    have e4 : f 31 = f' 31 := he 4 rfl
    simp only [K1F] at h ⊢
    rw [← e4]
    exact h
  | 5, _, h, he =>
    have e5 : f 26 = f' 26 := he 5 rfl
    simp only [K1F] at h ⊢
    rw [← e5]
    exact h
  | 6, _, h, he =>
    have e6 : f 32 = f' 32 := he 6 rfl
    simp only [K1F] at h ⊢
    rw [← e6]
    exact h
  | 7, _, h, he =>
    have e7 : f 33 = f' 33 := he 7 rfl
    simp only [K1F] at h ⊢
    rw [← e7]
    exact h
  | 8, _, h, he =>
    have e8 : f 6 = f' 6 := he 8 rfl
    simp only [K1F] at h ⊢
    rw [← e8]
    exact h
  | 9, _, h, he =>
    have e8 : f 6 = f' 6 := he 8 rfl
    have e6 : f 32 = f' 32 := he 6 rfl
    simp only [K1F] at h ⊢
    rw [← e8, ← e6]
    exact h
  | 10, _, h, he =>
    have e10 : f 7 = f' 7 := he 10 rfl
    simp only [K1F] at h ⊢
    rw [← e10]
    exact h
  | (m + 11), hj, _, _ => exact absurd hj (by omega)
def dsK2 : List Nat := [37, 38, 39, 40, 36, 41, 42, 9, 0, 10]
def slotK2 (j : Nat) : Nat := dsK2.getD j 0
theorem slotK2_inj (i j : Nat) (hi : i < 10) (hj : j < 10) (q : slotK2 i = slotK2 j) : i = j := by
  have h : ∀ i : Fin 10, ∀ j : Fin 10, slotK2 i.val = slotK2 j.val → i.val = j.val := by decide
  exact h ⟨i, hi⟩ ⟨j, hj⟩ q
theorem slotK2_mem (i : Nat) (hi : i < 10) : slotK2 i ∈ dsK2 := by
  have h : ∀ i : Fin 10, slotK2 i.val ∈ dsK2 := by decide
  exact h ⟨i, hi⟩
def K2F (base C : Nat) (V : Value) (L S : List Fl) (O : List Dop) (o : Dop) (AL AS : List Fl) (AO : List Dop) : Nat → (Nat → Value) → World → Prop
  | 0, f, w => f 37 = V
  | 1, f, w => f 38 = .agg #[.int .i64 o.k, .string o.n, .string o.t, .string o.d]
  | 2, f, w => f 39 = .agg #[.int .i64 o.k, .string o.n, .string o.t, .string o.d]
  | 3, f, w => ∃ x y z, f 40 = .tuple #[.agg #[x, y, z], .int .i64 (C : Int)] ∧ RdD w x y z AL AS AO ∧ OwD w base x y z AL.length AS.length AO.length
  | 4, f, w => ∃ x y z, f 36 = .tuple #[.agg #[x, y, z], .int .i64 (C : Int)] ∧ RdD w x y z AL AS AO ∧ OwD w base x y z AL.length AS.length AO.length
  | 5, f, w => ∃ x y z, f 41 = .agg #[x, y, z] ∧ RdD w x y z AL AS AO ∧ OwD w base x y z AL.length AS.length AO.length
  | 6, f, w => f 42 = .int .i64 (C : Int)
  | 7, f, w => ∃ g cs, f 9 = .pointer (some ⟨g, 0, none⟩) ∧ base ≤ g ∧ cs.size = 3 ∧ (∀ (i : Nat) s, cs[i]? ≠ some (Value.string s)) ∧ w.heap[g]? = some (.cells cs 27 (0, 0))
  | 8, f, w => ∃ g x y z, f 9 = .pointer (some ⟨g, 0, none⟩) ∧ f 41 = .agg #[x, y, z] ∧ w.heap[g]? = some (.cells #[x, y, z] 27 (0, 0))
  | 9, f, w => f 10 = .int .i64 (C : Int)
  | _, _, _ => True
theorem K2F.below {base C : Nat} {V : Value} {L S : List Fl} {O : List Dop} {o : Dop} {AL AS : List Fl} {AO : List Dop} {j : Nat} {f : Nat → Value} {w w' : World} (h : K2F base C V L S O o AL AS AO j f w) (hB : Below w.heap.size w w') : K2F base C V L S O o AL AS AO j f w' := by
  match j, h with
  | 0, h => exact h
  | 1, h => exact h
  | 2, h => exact h
  | 3, h => exact (by obtain ⟨x, y, z, e, h1, h2⟩ := h; exact ⟨x, y, z, e, h1.below hB, h2.below hB⟩)
  | 4, h => exact (by obtain ⟨x, y, z, e, h1, h2⟩ := h; exact ⟨x, y, z, e, h1.below hB, h2.below hB⟩)
  | 5, h => exact (by obtain ⟨x, y, z, e, h1, h2⟩ := h; exact ⟨x, y, z, e, h1.below hB, h2.below hB⟩)
  | 6, h => exact h
  | 7, h => exact (by obtain ⟨g, cs, e, hb, hc, hn, hh⟩ := h; exact ⟨g, cs, e, hb, hc, hn, (hB.block _ (lt_of_block hh)).trans hh⟩)
  | 8, h => exact (by obtain ⟨g, x, y, z, e, e2, hh⟩ := h; exact ⟨g, x, y, z, e, e2, (hB.block _ (lt_of_block hh)).trans hh⟩)
  | 9, h => exact h
  | (m + 10), _ => exact trivial
theorem K2F.put {base C : Nat} {V : Value} {L S : List Fl} {O : List Dop} {o : Dop} {AL AS : List Fl} {AO : List Dop} {j : Nat} {f : Nat → Value} {w w' : World} {g : Nat} {cs cs' : Array Value} (hj : j ≠ 8) (hal : f 9 = .pointer (some ⟨g, 0, none⟩)) (hg : w.heap[g]? = some (.cells cs 27 (0, 0))) (hn : ∀ (i : Nat) s, cs[i]? ≠ some (Value.string s)) (hg' : w'.heap[g]? = some (.cells cs' 27 (0, 0))) (hc' : cs'.size = 3) (hn' : ∀ (i : Nat) s, cs'[i]? ≠ some (Value.string s)) (hk : ∀ k, k ≠ g → w'.heap[k]? = w.heap[k]?) (hs : w.heap.size ≤ w'.heap.size) (h : K2F base C V L S O o AL AS AO j f w) : K2F base C V L S O o AL AS AO j f w' := by
  match j, h with
  | 0, h => exact h
  | 1, h => exact h
  | 2, h => exact h
  | 3, h => exact (by obtain ⟨x, y, z, e, h1, h2⟩ := h; exact ⟨x, y, z, e, ⟨h1.1.far hs hg hn hk, h1.2.1.far hs hg hn hk, h1.2.2.far hs hg hn hk⟩, h2.off hg hk⟩)
  | 4, h => exact (by obtain ⟨x, y, z, e, h1, h2⟩ := h; exact ⟨x, y, z, e, ⟨h1.1.far hs hg hn hk, h1.2.1.far hs hg hn hk, h1.2.2.far hs hg hn hk⟩, h2.off hg hk⟩)
  | 5, h => exact (by obtain ⟨x, y, z, e, h1, h2⟩ := h; exact ⟨x, y, z, e, ⟨h1.1.far hs hg hn hk, h1.2.1.far hs hg hn hk, h1.2.2.far hs hg hn hk⟩, h2.off hg hk⟩)
  | 6, h => exact h
  | 7, h => exact (by obtain ⟨g2, cs2, e, hb, _, _, _⟩ := h; rw [hal] at e; simp only [Value.pointer.injEq, Option.some.injEq, Addr.mk.injEq] at e; obtain ⟨rfl, _⟩ := e; exact ⟨g, cs', hal, hb, hc', hn', hg'⟩)
  | 8, _ => exact absurd rfl hj
  | 9, h => exact h
  | (m + 10), _ => exact trivial
def depK2 (j i : Nat) : Bool := match j with
  | 0 => i == 0
  | 1 => i == 1
  | 2 => i == 2
  | 3 => i == 3
  | 4 => i == 4
  | 5 => i == 5
  | 6 => i == 6
  | 7 => i == 7
  | 8 => i == 8 || i == 7 || i == 5
  | 9 => i == 9
  | _ => false
theorem K2F.dep {base C : Nat} {V : Value} {L S : List Fl} {O : List Dop} {o : Dop} {AL AS : List Fl} {AO : List Dop} {j : Nat} {f f' : Nat → Value} {w : World} (hj : j < 10) (h : K2F base C V L S O o AL AS AO j f w) (he : ∀ i, depK2 j i = true → f (slotK2 i) = f' (slotK2 i)) : K2F base C V L S O o AL AS AO j f' w := by
  match j, hj, h, he with
  | 0, _, h, he =>
    have e0 : f 37 = f' 37 := he 0 rfl
    simp only [K2F] at h ⊢
    rw [← e0]
    exact h
  | 1, _, h, he =>
    have e1 : f 38 = f' 38 := he 1 rfl
    simp only [K2F] at h ⊢
    rw [← e1]
    exact h
  | 2, _, h, he =>
    have e2 : f 39 = f' 39 := he 2 rfl
    simp only [K2F] at h ⊢
    rw [← e2]
    exact h
  | 3, _, h, he =>
    have e3 : f 40 = f' 40 := he 3 rfl
    simp only [K2F] at h ⊢
    rw [← e3]
    exact h
  | 4, _, h, he =>
    have e4 : f 36 = f' 36 := he 4 rfl
    simp only [K2F] at h ⊢
    rw [← e4]
    exact h
  | 5, _, h, he =>
    have e5 : f 41 = f' 41 := he 5 rfl
    simp only [K2F] at h ⊢
    rw [← e5]
    exact h
  | 6, _, h, he =>
    have e6 : f 42 = f' 42 := he 6 rfl
    simp only [K2F] at h ⊢
    rw [← e6]
    exact h
  | 7, _, h, he =>
    have e7 : f 9 = f' 9 := he 7 rfl
    simp only [K2F] at h ⊢
    rw [← e7]
    exact h
  | 8, _, h, he =>
    have e7 : f 9 = f' 9 := he 7 rfl
    have e5 : f 41 = f' 41 := he 5 rfl
    simp only [K2F] at h ⊢
    rw [← e7, ← e5]
    exact h
  | 9, _, h, he =>
    have e9 : f 10 = f' 10 := he 9 rfl
    simp only [K2F] at h ⊢
    rw [← e9]
    exact h
  | (m + 10), hj, _, _ => exact absurd hj (by omega)
def dsK3 : List Nat := [85, 86, 87, 88, 89, 84, 90, 91, 14, 0, 15]
def slotK3 (j : Nat) : Nat := dsK3.getD j 0
theorem slotK3_inj (i j : Nat) (hi : i < 11) (hj : j < 11) (q : slotK3 i = slotK3 j) : i = j := by
  have h : ∀ i : Fin 11, ∀ j : Fin 11, slotK3 i.val = slotK3 j.val → i.val = j.val := by decide
  exact h ⟨i, hi⟩ ⟨j, hj⟩ q
theorem slotK3_mem (i : Nat) (hi : i < 11) : slotK3 i ∈ dsK3 := by
  have h : ∀ i : Fin 11, slotK3 i.val ∈ dsK3 := by decide
  exact h ⟨i, hi⟩
def K3F (base C : Nat) (V : Value) (L S : List Fl) (O : List Dop) (o : Dop) (AL AS : List Fl) (AO : List Dop) : Nat → (Nat → Value) → World → Prop
  | 0, f, w => f 85 = V
  | 1, f, w => ∃ y1 y2 y3 : Nat, f 86 = .agg #[.slice (some ⟨y1, 0, none⟩) L.length L.length, .slice (some ⟨y2, 0, none⟩) S.length S.length, .slice (some ⟨y3, 0, none⟩) O.length O.length] ∧ RdD w (.slice (some ⟨y1, 0, none⟩) L.length L.length) (.slice (some ⟨y2, 0, none⟩) S.length S.length) (.slice (some ⟨y3, 0, none⟩) O.length O.length) L S O
  | 2, f, w => f 87 = .agg #[.int .i64 o.k, .string o.n, .string o.t, .string o.d]
  | 3, f, w => f 88 = .agg #[.int .i64 o.k, .string o.n, .string o.t, .string o.d]
  | 4, f, w => ∃ x y z, f 89 = .tuple #[.agg #[x, y, z], .int .i64 (C : Int)] ∧ RdD w x y z AL AS AO ∧ OwD w base x y z AL.length AS.length AO.length
  | 5, f, w => ∃ x y z, f 84 = .tuple #[.agg #[x, y, z], .int .i64 (C : Int)] ∧ RdD w x y z AL AS AO ∧ OwD w base x y z AL.length AS.length AO.length
  | 6, f, w => ∃ x y z, f 90 = .agg #[x, y, z] ∧ RdD w x y z AL AS AO ∧ OwD w base x y z AL.length AS.length AO.length
  | 7, f, w => f 91 = .int .i64 (C : Int)
  | 8, f, w => ∃ g cs, f 14 = .pointer (some ⟨g, 0, none⟩) ∧ base ≤ g ∧ cs.size = 3 ∧ (∀ (i : Nat) s, cs[i]? ≠ some (Value.string s)) ∧ w.heap[g]? = some (.cells cs 27 (0, 0))
  | 9, f, w => ∃ g x y z, f 14 = .pointer (some ⟨g, 0, none⟩) ∧ f 90 = .agg #[x, y, z] ∧ w.heap[g]? = some (.cells #[x, y, z] 27 (0, 0))
  | 10, f, w => f 15 = .int .i64 (C : Int)
  | _, _, _ => True
theorem K3F.below {base C : Nat} {V : Value} {L S : List Fl} {O : List Dop} {o : Dop} {AL AS : List Fl} {AO : List Dop} {j : Nat} {f : Nat → Value} {w w' : World} (h : K3F base C V L S O o AL AS AO j f w) (hB : Below w.heap.size w w') : K3F base C V L S O o AL AS AO j f w' := by
  match j, h with
  | 0, h => exact h
  | 1, h => exact (by obtain ⟨y1, y2, y3, e, h1⟩ := h; exact ⟨y1, y2, y3, e, h1.below hB⟩)
  | 2, h => exact h
  | 3, h => exact h
  | 4, h => exact (by obtain ⟨x, y, z, e, h1, h2⟩ := h; exact ⟨x, y, z, e, h1.below hB, h2.below hB⟩)
  | 5, h => exact (by obtain ⟨x, y, z, e, h1, h2⟩ := h; exact ⟨x, y, z, e, h1.below hB, h2.below hB⟩)
  | 6, h => exact (by obtain ⟨x, y, z, e, h1, h2⟩ := h; exact ⟨x, y, z, e, h1.below hB, h2.below hB⟩)
  | 7, h => exact h
  | 8, h => exact (by obtain ⟨g, cs, e, hb, hc, hn, hh⟩ := h; exact ⟨g, cs, e, hb, hc, hn, (hB.block _ (lt_of_block hh)).trans hh⟩)
  | 9, h => exact (by obtain ⟨g, x, y, z, e, e2, hh⟩ := h; exact ⟨g, x, y, z, e, e2, (hB.block _ (lt_of_block hh)).trans hh⟩)
  | 10, h => exact h
  | (m + 11), _ => exact trivial
theorem K3F.put {base C : Nat} {V : Value} {L S : List Fl} {O : List Dop} {o : Dop} {AL AS : List Fl} {AO : List Dop} {j : Nat} {f : Nat → Value} {w w' : World} {g : Nat} {cs cs' : Array Value} (hj : j ≠ 9) (hal : f 14 = .pointer (some ⟨g, 0, none⟩)) (hg : w.heap[g]? = some (.cells cs 27 (0, 0))) (hn : ∀ (i : Nat) s, cs[i]? ≠ some (Value.string s)) (hg' : w'.heap[g]? = some (.cells cs' 27 (0, 0))) (hc' : cs'.size = 3) (hn' : ∀ (i : Nat) s, cs'[i]? ≠ some (Value.string s)) (hk : ∀ k, k ≠ g → w'.heap[k]? = w.heap[k]?) (hs : w.heap.size ≤ w'.heap.size) (h : K3F base C V L S O o AL AS AO j f w) : K3F base C V L S O o AL AS AO j f w' := by
  match j, h with
  | 0, h => exact h
  | 1, h => exact (by obtain ⟨y1, y2, y3, e, h1⟩ := h; exact ⟨y1, y2, y3, e, ⟨h1.1.far hs hg hn hk, h1.2.1.far hs hg hn hk, h1.2.2.far hs hg hn hk⟩⟩)
  | 2, h => exact h
  | 3, h => exact h
  | 4, h => exact (by obtain ⟨x, y, z, e, h1, h2⟩ := h; exact ⟨x, y, z, e, ⟨h1.1.far hs hg hn hk, h1.2.1.far hs hg hn hk, h1.2.2.far hs hg hn hk⟩, h2.off hg hk⟩)
  | 5, h => exact (by obtain ⟨x, y, z, e, h1, h2⟩ := h; exact ⟨x, y, z, e, ⟨h1.1.far hs hg hn hk, h1.2.1.far hs hg hn hk, h1.2.2.far hs hg hn hk⟩, h2.off hg hk⟩)
  | 6, h => exact (by obtain ⟨x, y, z, e, h1, h2⟩ := h; exact ⟨x, y, z, e, ⟨h1.1.far hs hg hn hk, h1.2.1.far hs hg hn hk, h1.2.2.far hs hg hn hk⟩, h2.off hg hk⟩)
  | 7, h => exact h
  | 8, h => exact (by obtain ⟨g2, cs2, e, hb, _, _, _⟩ := h; rw [hal] at e; simp only [Value.pointer.injEq, Option.some.injEq, Addr.mk.injEq] at e; obtain ⟨rfl, _⟩ := e; exact ⟨g, cs', hal, hb, hc', hn', hg'⟩)
  | 9, _ => exact absurd rfl hj
  | 10, h => exact h
  | (m + 11), _ => exact trivial
def depK3 (j i : Nat) : Bool := match j with
  | 0 => i == 0
  | 1 => i == 1
  | 2 => i == 2
  | 3 => i == 3
  | 4 => i == 4
  | 5 => i == 5
  | 6 => i == 6
  | 7 => i == 7
  | 8 => i == 8
  | 9 => i == 9 || i == 8 || i == 6
  | 10 => i == 10
  | _ => false
theorem K3F.dep {base C : Nat} {V : Value} {L S : List Fl} {O : List Dop} {o : Dop} {AL AS : List Fl} {AO : List Dop} {j : Nat} {f f' : Nat → Value} {w : World} (hj : j < 11) (h : K3F base C V L S O o AL AS AO j f w) (he : ∀ i, depK3 j i = true → f (slotK3 i) = f' (slotK3 i)) : K3F base C V L S O o AL AS AO j f' w := by
  match j, hj, h, he with
  | 0, _, h, he =>
    have e0 : f 85 = f' 85 := he 0 rfl
    simp only [K3F] at h ⊢
    rw [← e0]
    exact h
  | 1, _, h, he =>
    have e1 : f 86 = f' 86 := he 1 rfl
    simp only [K3F] at h ⊢
    rw [← e1]
    exact h
  | 2, _, h, he =>
    have e2 : f 87 = f' 87 := he 2 rfl
    simp only [K3F] at h ⊢
    rw [← e2]
    exact h
  | 3, _, h, he =>
    have e3 : f 88 = f' 88 := he 3 rfl
    simp only [K3F] at h ⊢
    rw [← e3]
    exact h
  | 4, _, h, he =>
    have e4 : f 89 = f' 89 := he 4 rfl
    simp only [K3F] at h ⊢
    rw [← e4]
    exact h
  | 5, _, h, he =>
    have e5 : f 84 = f' 84 := he 5 rfl
    simp only [K3F] at h ⊢
    rw [← e5]
    exact h
  | 6, _, h, he =>
    have e6 : f 90 = f' 90 := he 6 rfl
    simp only [K3F] at h ⊢
    rw [← e6]
    exact h
  | 7, _, h, he =>
    have e7 : f 91 = f' 91 := he 7 rfl
    simp only [K3F] at h ⊢
    rw [← e7]
    exact h
  | 8, _, h, he =>
    have e8 : f 14 = f' 14 := he 8 rfl
    simp only [K3F] at h ⊢
    rw [← e8]
    exact h
  | 9, _, h, he =>
    have e8 : f 14 = f' 14 := he 8 rfl
    have e6 : f 90 = f' 90 := he 6 rfl
    simp only [K3F] at h ⊢
    rw [← e8, ← e6]
    exact h
  | 10, _, h, he =>
    have e10 : f 15 = f' 15 := he 10 rfl
    simp only [K3F] at h ⊢
    rw [← e10]
    exact h
  | (m + 11), hj, _, _ => exact absurd hj (by omega)
end Go.Proofs.Ytbohaefmokbgbaa

namespace Go.Proofs.Ytbohaefmokbgbaa
open Go.RowKit
set_option linter.unusedVariables false

def dsKD : List Nat := [19, 20, 21, 22, 18, 23, 24, 5, 16, 6]
def slotKD (j : Nat) : Nat := dsKD.getD j 0
theorem slotKD_inj (i j : Nat) (hi : i < 10) (hj : j < 10) (q : slotKD i = slotKD j) : i = j := by
  have h : ∀ i : Fin 10, ∀ j : Fin 10, slotKD i.val = slotKD j.val → i.val = j.val := by decide
  exact h ⟨i, hi⟩ ⟨j, hj⟩ q
theorem slotKD_mem (i : Nat) (hi : i < 10) : slotKD i ∈ dsKD := by
  have h : ∀ i : Fin 10, slotKD i.val ∈ dsKD := by decide
  exact h ⟨i, hi⟩
def KDF (base R : Nat) (V : Value) (L S : List Fl) (O : List Dop) : Nat → (Nat → Value) → World → Prop
  | 0, f, w => f 19 = V
  | 1, f, w => f 20 = .pointer (some ⟨R, 0, none⟩)
  | 2, f, w => ∃ o : Dop, (o.n.size ≤ 100 ∧ o.t.size ≤ 100 ∧ o.d.size ≤ 100) ∧ f 21 = .agg #[.int .i64 o.k, .string o.n, .string o.t, .string o.d]
  | 3, f, w => ∃ o : Dop, ∃ x y z, (o.n.size ≤ 100 ∧ o.t.size ≤ 100 ∧ o.d.size ≤ 100) ∧ f 22 = .tuple #[.agg #[x, y, z], .int .i64 (dC L S O o : Int)] ∧ (∃ b1 n1 d1 b2 n2 d2 b3 n3 d3, x = .slice b1 n1 d1 ∧ y = .slice b2 n2 d2 ∧ z = .slice b3 n3 d3) ∧ (dC L S O o = 0 → HasD w base x y z (dL L S O o) (dS L S O) (dO L S O o))
  | 4, f, w => ∃ o : Dop, ∃ x y z, (o.n.size ≤ 100 ∧ o.t.size ≤ 100 ∧ o.d.size ≤ 100) ∧ f 18 = .tuple #[.agg #[x, y, z], .int .i64 (dC L S O o : Int)] ∧ (∃ b1 n1 d1 b2 n2 d2 b3 n3 d3, x = .slice b1 n1 d1 ∧ y = .slice b2 n2 d2 ∧ z = .slice b3 n3 d3) ∧ (dC L S O o = 0 → HasD w base x y z (dL L S O o) (dS L S O) (dO L S O o))
  | 5, f, w => ∃ x y z c, f 18 = .tuple #[.agg #[x, y, z], c] ∧ f 23 = .agg #[x, y, z] ∧ (∃ b1 n1 d1 b2 n2 d2 b3 n3 d3, x = .slice b1 n1 d1 ∧ y = .slice b2 n2 d2 ∧ z = .slice b3 n3 d3)
  | 6, f, w => ∃ v c, f 18 = .tuple #[v, c] ∧ f 24 = c
  | 7, f, w => ∃ g cs, f 5 = .pointer (some ⟨g, 0, none⟩) ∧ base ≤ g ∧ cs.size = 3 ∧ w.heap[g]? = some (.cells cs 27 (0, 0))
  | 8, f, w => ∃ g x y z, f 5 = .pointer (some ⟨g, 0, none⟩) ∧ f 23 = .agg #[x, y, z] ∧ base ≤ g ∧ w.heap[g]? = some (.cells #[x, y, z] 27 (0, 0))
  | 9, f, w => f 6 = f 24
  | _, _, _ => True
theorem KDF.mut {base R : Nat} {V : Value} {L S : List Fl} {O : List Dop} {j : Nat} {f : Nat → Value} {w w' : World} (hR : R < base) (h : KDF base R V L S O j f w) (hM : Mut R w w') : KDF base R V L S O j f w' := by
  match j, h with
  | 0, h => exact h
  | 1, h => exact h
  | 2, h => exact h
  | 3, h => exact (by obtain ⟨o, x, y, z, hs, e, hl, h1⟩ := h; exact ⟨o, x, y, z, hs, e, hl, fun hc => (h1 hc).mut hM hR⟩)
  | 4, h => exact (by obtain ⟨o, x, y, z, hs, e, hl, h1⟩ := h; exact ⟨o, x, y, z, hs, e, hl, fun hc => (h1 hc).mut hM hR⟩)
  | 5, h => exact h
  | 6, h => exact h
  | 7, h => exact (by obtain ⟨g, cs, e, hb, hc, hh⟩ := h; exact ⟨g, cs, e, hb, hc, (hM.block _ (lt_of_block hh) (by omega)).trans hh⟩)
  | 8, h => exact (by obtain ⟨g, x, y, z, e, e2, hb, hh⟩ := h; exact ⟨g, x, y, z, e, e2, hb, (hM.block _ (lt_of_block hh) (by omega)).trans hh⟩)
  | 9, h => exact h
  | (m + 10), _ => exact trivial
theorem KDF.put {base R : Nat} {V : Value} {L S : List Fl} {O : List Dop} {j : Nat} {f : Nat → Value} {w w' : World} {g : Nat} {cs cs' : Array Value} (hj : j ≠ 8) (hal : f 5 = .pointer (some ⟨g, 0, none⟩)) (hg : w.heap[g]? = some (.cells cs 27 (0, 0))) (hg' : w'.heap[g]? = some (.cells cs' 27 (0, 0))) (hc' : cs'.size = 3) (hk : ∀ k, k ≠ g → w'.heap[k]? = w.heap[k]?) (hs : w.heap.size ≤ w'.heap.size) (h : KDF base R V L S O j f w) : KDF base R V L S O j f w' := by
  match j, h with
  | 0, h => exact h
  | 1, h => exact h
  | 2, h => exact h
  | 3, h => exact (by obtain ⟨o, x, y, z, hz, e, hl, h1⟩ := h; exact ⟨o, x, y, z, hz, e, hl, fun hc => (h1 hc).kept hs (fun k hk' => hk k ((h1 hc).not3 hg hk'))⟩)
  | 4, h => exact (by obtain ⟨o, x, y, z, hz, e, hl, h1⟩ := h; exact ⟨o, x, y, z, hz, e, hl, fun hc => (h1 hc).kept hs (fun k hk' => hk k ((h1 hc).not3 hg hk'))⟩)
  | 5, h => exact h
  | 6, h => exact h
  | 7, h => exact (by obtain ⟨g2, cs2, e, hb, _, _⟩ := h; rw [hal] at e; simp only [Value.pointer.injEq, Option.some.injEq, Addr.mk.injEq] at e; obtain ⟨rfl, _⟩ := e; exact ⟨g, cs', hal, hb, hc', hg'⟩)
  | 8, _ => exact absurd rfl hj
  | 9, h => exact h
  | (m + 10), _ => exact trivial
def depKD (j i : Nat) : Bool := match j with
  | 0 => i == 0
  | 1 => i == 1
  | 2 => i == 2
  | 3 => i == 3
  | 4 => i == 4
  | 5 => i == 5 || i == 4
  | 6 => i == 6 || i == 4
  | 7 => i == 7
  | 8 => i == 8 || i == 7 || i == 5
  | 9 => i == 9 || i == 6
  | _ => false
theorem KDF.dep {base R : Nat} {V : Value} {L S : List Fl} {O : List Dop} {j : Nat} {f f' : Nat → Value} {w : World} (hj : j < 10) (h : KDF base R V L S O j f w) (he : ∀ i, depKD j i = true → f (slotKD i) = f' (slotKD i)) : KDF base R V L S O j f' w := by
  match j, hj, h, he with
  | 0, _, h, he =>
    have e0 : f 19 = f' 19 := he 0 rfl
    simp only [KDF] at h ⊢
    rw [← e0]
    exact h
  | 1, _, h, he =>
    have e1 : f 20 = f' 20 := he 1 rfl
    simp only [KDF] at h ⊢
    rw [← e1]
    exact h
  | 2, _, h, he =>
    have e2 : f 21 = f' 21 := he 2 rfl
    simp only [KDF] at h ⊢
    rw [← e2]
    exact h
  | 3, _, h, he =>
    have e3 : f 22 = f' 22 := he 3 rfl
    simp only [KDF] at h ⊢
    rw [← e3]
    exact h
  | 4, _, h, he =>
    have e4 : f 18 = f' 18 := he 4 rfl
    simp only [KDF] at h ⊢
    rw [← e4]
    exact h
  | 5, _, h, he =>
    have e5 : f 23 = f' 23 := he 5 rfl
    have e4 : f 18 = f' 18 := he 4 rfl
    simp only [KDF] at h ⊢
    rw [← e5, ← e4]
    exact h
  | 6, _, h, he =>
    have e6 : f 24 = f' 24 := he 6 rfl
    have e4 : f 18 = f' 18 := he 4 rfl
    simp only [KDF] at h ⊢
    rw [← e6, ← e4]
    exact h
  | 7, _, h, he =>
    have e7 : f 5 = f' 5 := he 7 rfl
    simp only [KDF] at h ⊢
    rw [← e7]
    exact h
  | 8, _, h, he =>
    have e7 : f 5 = f' 5 := he 7 rfl
    have e5 : f 23 = f' 23 := he 5 rfl
    simp only [KDF] at h ⊢
    rw [← e7, ← e5]
    exact h
  | 9, _, h, he =>
    have e9 : f 6 = f' 6 := he 9 rfl
    have e6 : f 24 = f' 24 := he 6 rfl
    simp only [KDF] at h ⊢
    rw [← e9, ← e6]
    exact h
  | (m + 10), hj, _, _ => exact absurd hj (by omega)

theorem At3.mut {R : Nat} {w w' : World} {b : Nat} {t : TypeId} {x y z : Value} (h : At3 w b t x y z) (hM : Mut R w w') (hb : b ≠ R) : At3 w' b t x y z := (hM.block b h.lt hb).trans h
theorem At3.row {w : World} {b g : Nat} {t : TypeId} {x y z : Value} (h : At3 w b t x y z) (q : Array Value) (hb : b ≠ g) : At3 (w.setRow g q) b t x y z := (setRow_other _ _ _ _ hb).trans h

theorem HoldF.row {w : World} {base : Nat} {v : Value} {L : List Fl} (h : HoldF w base v L) : OwnF w base v L := by
  obtain ⟨hr, xs, hx⟩ := h
  have hxl := hx.1
  suffices hh : xs = cellsF L by unfold OwnF; rw [← hh]; exact hx
  apply List.ext_getElem?
  intro j
  by_cases hj : j < L.length * 2
  · obtain ⟨u, hu⟩ : ∃ u, (cellsF L)[j]? = some u := ⟨_, List.getElem?_eq_getElem (by rw [cellsF_len]; exact hj)⟩
    obtain ⟨a, cap, rfl, h1, h2, h3⟩ := hr
    obtain ⟨b, off, rfl, hb, hc⟩ := h3 (by omega)
    rcases hx.2 with ⟨e, _⟩ | ⟨g, cap', cur, hv, _⟩
    · cases e
    · have hbo : b = g ∧ off = 0 := by
        simp only [Value.slice.injEq, Option.some.injEq, Addr.mk.injEq] at hv
        exact ⟨hv.1.1, hv.1.2.1⟩
      obtain ⟨rfl, rfl⟩ := hbo
      have := hc.news j u hu
      rw [add_at, World.ownsRow.cellAt hx _ (by omega), Nat.zero_add] at this
      rw [hu]
      exact this
  · rw [List.getElem?_eq_none (by omega), List.getElem?_eq_none (by rw [cellsF_len]; omega)]
theorem HoldF.off {w w' : World} {base : Nat} {v : Value} {L : List Fl} (h : HoldF w base v L) (hs : w.heap.size ≤ w'.heap.size) (he : ∀ k, v.ownBlock = some k → w'.heap[k]? = w.heap[k]?) : HoldF w' base v L := ⟨h.1.own h.2 hs he, h.2.blk he⟩
theorem HoldO.off {w w' : World} {base : Nat} {v : Value} {L : List Dop} (h : HoldO w base v L) (hs : w.heap.size ≤ w'.heap.size) (he : ∀ k, v.ownBlock = some k → w'.heap[k]? = w.heap[k]?) : HoldO w' base v L := ⟨h.1.own h.2 hs he, h.2.blk he⟩
theorem HoldF.ne3 {w : World} {base b : Nat} {v x y z : Value} {L : List Fl} (h : HoldF w base v L) (hg : At3 w b 27 x y z) {k : Nat} (hk : v.ownBlock = some k) : k ≠ b := fun e => by
  obtain ⟨c', hc'⟩ := h.2.cells hk
  unfold At3 at hg
  rw [e, hg] at hc'
  cases hc'
theorem HoldO.ne3 {w : World} {base b : Nat} {v x y z : Value} {L : List Dop} (h : HoldO w base v L) (hg : At3 w b 27 x y z) {k : Nat} (hk : v.ownBlock = some k) : k ≠ b := fun e => by
  obtain ⟨c', hc'⟩ := h.2.cells hk
  unfold At3 at hg
  rw [e, hg] at hc'
  cases hc'

theorem HasD.two {w w' : World} {base r2 r3 : Nat} {x y z : Value} {L S : List Fl} {O : List Dop} {u1 u2 u3 v1 v2 v3 : Value} (h : HasD w base x y z L S O) (h2 : At3 w r2 27 u1 u2 u3) (h3 : At3 w r3 27 v1 v2 v3) (hs : w.heap.size ≤ w'.heap.size) (hk : ∀ k, k ≠ r2 → k ≠ r3 → w'.heap[k]? = w.heap[k]?) : HasD w' base x y z L S O :=
  h.kept hs (fun k hk' => hk k (h.not3 h2 hk') (h.not3 h3 hk'))
theorem RdO.tl {w : World} {b off n c : Nat} {O : List Dop} (h : RdO w (.slice (some ⟨b, off, none⟩) n c) O) (hn : 0 < n) : RdO w (.slice (some ⟨b, off + 4, none⟩) (n - 1) (c - 1)) O.tail := by
  obtain ⟨a, cap, e, h1, h2, h3⟩ := h
  simp only [Value.slice.injEq] at e
  obtain ⟨rfl, rfl, rfl⟩ := e
  refine ⟨_, _, by rw [List.length_tail], by rw [List.length_tail]; omega, by omega, fun hp => ?_⟩
  obtain ⟨b', off', e, hb, hc⟩ := h3 hn
  simp only [Option.some.injEq, Addr.mk.injEq] at e
  obtain ⟨rfl, rfl, _⟩ := e
  rw [List.length_tail] at hp
  refine ⟨_, _, rfl, hb, fun i hi t ht => ?_⟩
  rw [List.length_tail] at hi
  have := hc (i + 1) (by omega) t ht
  have e1 : off + 4 + i * 4 + t = off + (i + 1) * 4 + t := by omega
  rw [e1, this]
  cases O with
  | nil => simp at hp
  | cons o O => simp
theorem Mut.set {R : Nat} {a w : World} (h : Mut R a w) {k o : Nat} {u : Value} (hk : a.heap.size ≤ k) : Mut R a (w.setCell ⟨k, o, none⟩ u) :=
  ⟨h.os, h.tape, h.output, by simpa [World.setCell] using h.size, fun i hi hr => by rw [Below.heap_setCell _ _ _ _ (show i ≠ k by omega)]; exact h.block i hi hr⟩
theorem Draw.set {W : World} {a : Option Addr} {len cap R : Nat} {w : World} (h : Draw W a len cap R w) {k o : Nat} {u : Value} (hk : R < k) : Draw W a len cap R (w.setCell ⟨k, o, none⟩ u) := by
  obtain ⟨p, hp, hb⟩ := h.box
  exact ⟨h.bel.setCell (by show W.heap.size ≤ k; have := h.new; omega) _, h.new, p, hp, by rw [Below.heap_setCell _ _ _ _ (show R ≠ k by omega)]; exact hb⟩

theorem infoU8 : (Try.prog.info? 5).map (fun i => (i.zero, i.size, i.bytes)) = some (some (.int .u8 0), 1, 1) := by kernel_rfl
def zeroL (n : Nat) : List Int := List.replicate n 0
/-- a text of n bytes -/
def zeroS (n : Nat) : ByteArray := (zeroL n).foldl (fun r k => r.push (UInt8.ofNat k.toNat)) ByteArray.empty
theorem push_size (L : List Int) : ∀ s : ByteArray, (L.foldl (fun r (k : Int) => r.push (UInt8.ofNat k.toNat)) s).size = s.size + L.length := by
  induction L with
  | nil => intro s; rfl
  | cons x L ih =>
    intro s
    rw [List.foldl_cons, ih]
    simp
    omega
theorem zeroS_size (n : Nat) : (zeroS n).size = n := by
  unfold zeroS
  rw [push_size]
  unfold zeroL
  simp
theorem made_u8 (n : Nat) : (madeCells (Value.int .u8 0).cells (n * 1)).toList = (zeroL n).map (Value.int .u8) := by
  apply List.ext_getElem?
  intro i
  simp only [zeroL, madeCells, Value.cells, List.getElem?_map]
  by_cases h : i < n
  · simp [h, Nat.mod_one]
  · simp [h]
theorem big_string {w : World} {base g n : Nat} (h : w.ownsRow base 5 1 (.slice (some ⟨g, 0, none⟩) n n) n ((zeroL n).map (Value.int .u8))) : (convert 22 9 (.slice (some ⟨g, 0, none⟩) n n)).run Try.prog w = .ok (.string (zeroS n)) w := by
  have hl : ((zeroL n).map (Value.int .u8)).length = n := by unfold zeroL; simp
  rw [run_convert_bytes_string _ 22 9 5 _ _ _ Try.underlying22 Try.underlying5 Try.underlying9]
  refine run_bytesToString _ _ n n (zeroL n) ?_
  have := run_loadCells_list (P := Try.prog) w ⟨g, 0, none⟩ ((zeroL n).map (Value.int .u8)) (fun j v hj => by
    have hjn : j < n := by rw [← hl]; exact (List.getElem?_eq_some_iff.1 hj).1
    rw [add_at, Nat.zero_add, World.ownsRow.cellAt h _ (by omega)]
    exact hj)
  rw [hl] at this
  exact this

theorem HoldF.mut {R : Nat} {w w' : World} {base : Nat} {v : Value} {L : List Fl} (h : HoldF w base v L) (hM : Mut R w w') (hR : R < base) : HoldF w' base v L := h.off hM.size (fun k hk => hM.block k (h.2.lt k hk).2 (by have := (h.2.lt k hk).1; omega))
theorem HoldO.mut {R : Nat} {w w' : World} {base : Nat} {v : Value} {L : List Dop} (h : HoldO w base v L) (hM : Mut R w w') (hR : R < base) : HoldO w' base v L := h.off hM.size (fun k hk => hM.block k (h.2.lt k hk).2 (by have := (h.2.lt k hk).1; omega))
/-- a disk that reads, and whose reading hangs on the blocks from lo to hi alone -/
def StR (lo hi : Nat) (w : World) (x y z : Value) (L S : List Fl) (O : List Dop) : Prop := hi ≤ w.heap.size ∧ ∀ w'', w.heap.size ≤ w''.heap.size → (∀ k, lo ≤ k → k < hi → w''.heap[k]? = w.heap[k]?) → RdD w'' x y z L S O
theorem StR.rd {lo hi : Nat} {w : World} {x y z : Value} {L S : List Fl} {O : List Dop} (h : StR lo hi w x y z L S O) : RdD w x y z L S O := h.2 w (Nat.le_refl _) (fun _ _ _ => rfl)
theorem StR.kept {lo hi : Nat} {w w' : World} {x y z : Value} {L S : List Fl} {O : List Dop} (h : StR lo hi w x y z L S O) (hs : w.heap.size ≤ w'.heap.size) (he : ∀ k, lo ≤ k → k < hi → w'.heap[k]? = w.heap[k]?) : StR lo hi w' x y z L S O :=
  ⟨Nat.le_trans h.1 hs, fun w'' hs' he' => h.2 w'' (Nat.le_trans hs hs') (fun k h1 h2 => (he' k h1 h2).trans (he k h1 h2))⟩
theorem StR.mut {lo hi R : Nat} {w w' : World} {x y z : Value} {L S : List Fl} {O : List Dop} (h : StR lo hi w x y z L S O) (hM : Mut R w w') (hR : R < lo) : StR lo hi w' x y z L S O := h.kept hM.size (fun k h1 h2 => hM.block k (Nat.lt_of_lt_of_le h2 h.1) (by omega))
theorem StR.below {lo hi : Nat} {w w' : World} {x y z : Value} {L S : List Fl} {O : List Dop} (h : StR lo hi w x y z L S O) (hB : Below w.heap.size w w') : StR lo hi w' x y z L S O := h.kept hB.size (fun k h1 h2 => hB.block k (Nat.lt_of_lt_of_le h2 h.1))
theorem HasD.st {w : World} {base : Nat} {x y z : Value} {L S : List Fl} {O : List Dop} (h : HasD w base x y z L S O) : StR base w.heap.size w x y z L S O :=
  ⟨Nat.le_refl _, fun w'' hs he => (h.kept hs (fun k hk => he k (h.lt hk).1 (h.lt hk).2)).rd⟩
/-- nil, or not -/
def NzV (z : Value) : Prop := z = .slice none 0 0 ∨ ∃ ad n c, z = .slice (some ad) n c
theorem HasD.nz {w : World} {base : Nat} {x y z : Value} {L S : List Fl} {O : List Dop} (h : HasD w base x y z L S O) : NzV z := by
  obtain ⟨xs, h1, h2⟩ := h.o
  rcases h2 with ⟨e, _⟩ | ⟨g, cap, cur, e, _⟩
  · exact .inl e
  · exact .inr ⟨_, _, _, e⟩

section
variable {W : World} {a : Option Addr} {len cap R : Nat} {Z : Nat → Int}
set_option maxRecDepth 10000 in
set_option maxHeartbeats 8000000 in
theorem disk_any (hU : IsU8 W a len cap Z) (w : World) (h : Draw W a len cap R w) (hlen : len ≤ 1048576) :
    Calls Try.prog 27 #[.pointer (some ⟨R, 0, none⟩)] w fun e w' => ∃ x y z L S O, e = .returned (.agg #[x, y, z]) ∧ StR w.heap.size w'.heap.size w' x y z L S O ∧ NzV z ∧ SmallD L S O ∧ (L.length ≤ 1000 ∧ S.length ≤ 1000 ∧ O.length ≤ 1000) ∧ Draw W a len cap R w' ∧ Mut R w w' := by
  have HR : Hid (R < w.heap.size) := h.lt
  have HD : Hid (Draw W a len cap R w) := h
  have enp : ∀ args w, (callFunc 61 args).run Try.prog w = .ok (.enter 61 args) w := enters_of Try.func61 (by kernel_rfl) rfl
  have end1 : ∀ args w, (callFunc 15 args).run Try.prog w = .ok (.enter 15 args) w := enters_of Try.func15 (by kernel_rfl) rfl
  have HENP := (show Hid _ from enp)
  have HEND := (show Hid _ from end1)
  clear enp end1
  obtain ⟨X, hX⟩ : ∃ X, X = (w.alloc (.cells #[.slice none 0 0, .slice none 0 0, .slice none 0 0] 27)).alloc (.cells #[.slice none 0 0, .slice none 0 0, .slice none 0 0] 27) := ⟨_, rfl⟩
  have HX := (show Hid _ from hX)
  have HMX : Hid (Mut R w X) := by rw [hX]; exact ((Mut.refl R w).alloc _).alloc _
  have HDX : Hid (Draw W a len cap R X) := by rw [hX]; exact (h.alloc _).alloc _
  have HT2 : Hid (At3 X w.heap.size 27 (.slice none 0 0) (.slice none 0 0) (.slice none 0 0)) := by show _ = _; rw [hX, Below.heap_alloc _ _ _ (by simp)]; exact heap_alloc_new _ _
  have HT3 : Hid (At3 X (w.heap.size + 1) 27 (.slice none 0 0) (.slice none 0 0) (.slice none 0 0)) := by
    show _ = _
    rw [hX]
    have := heap_alloc_new (w.alloc (.cells #[.slice none 0 0, .slice none 0 0, .slice none 0 0] 27)) (.cells #[.slice none 0 0, .slice none 0 0, .slice none 0 0] 27)
    simpa using this
  clear hX h
  go_enter Try.func27, Try.ntmps27
  go_wp2_with fail
  rw [← HX.out]
  refine (size_any hU X HDX.out hlen).mono ?_
  rintro e w1 ⟨n0, hn1, hn2, rfl, hD1, hM1⟩
  have HD1 : Hid (Draw W a len cap R w1) := hD1
  have HM1 : Hid (Mut R w w1) := HMX.out.trans hM1
  have HT21 : Hid (At3 w1 w.heap.size 27 (.slice none 0 0) (.slice none 0 0) (.slice none 0 0)) := HT2.out.mut hM1 (by have := HR.out; omega)
  have HT31 : Hid (At3 w1 (w.heap.size + 1) 27 (.slice none 0 0) (.slice none 0 0) (.slice none 0 0)) := HT3.out.mut hM1 (by have := HR.out; omega)
  clear hD1 hM1 HX
  go_wp2
  go_loopw [4] (fun i wr => ∃ (k : Nat), k ≤ 10 ∧ i = .int .i64 k ∧ Hid (∃ x y z L S O, HasD wr w.heap.size x y z L S O ∧ diskB L S O = true ∧ At3 wr (w.heap.size + 1) 27 x y z ∧ At3 wr w.heap.size 27 (.slice none 0 0) (.slice none 0 0) (.slice none 0 0) ∧ Draw W a len cap R wr ∧ Mut R w wr)) (fun i _ => (intOf i).toNat)
  case atStart => exact ⟨n0, hn2, rfl, _, _, _, [], [], [], HasD.nil _ _, disk_nil, HT31.out, HT21.out, HD1.out, HM1.out⟩
  case round =>
    obtain ⟨k, hk, rfl, HI⟩ := hrel
    obtain ⟨vx, vy, vz, L, S, O, hH, hdb, hT3, hT2, hDr, hMr⟩ := HI.out
    have HH : Hid (HasD wr w.heap.size vx vy vz L S O) := hH
    have HDB : Hid (diskB L S O = true) := hdb
    have HT3r : Hid (At3 wr (w.heap.size + 1) 27 vx vy vz) := hT3
    have HT2r : Hid (At3 wr w.heap.size 27 (.slice none 0 0) (.slice none 0 0) (.slice none 0 0)) := hT2
    have HDr : Hid (Draw W a len cap R wr) := hDr
    have HMr : Hid (Mut R w wr) := hMr
    have HSM : Hid (SmallD L S O ∧ L.length ≤ 60 ∧ S.length ≤ 60 ∧ O.length ≤ 200) := small_disk hdb
    have HN3 : Hid (w.heap.size + 1 ≠ R ∧ w.heap.size ≠ R) := ⟨by have := HR.out; omega, by have := HR.out; omega⟩
    obtain ⟨b1, d1, b2, d2, b3, d3, ex, ey, ez⟩ := hH.rd.slices
    obtain ⟨m1, hm1⟩ : ∃ m, m = L.length := ⟨_, rfl⟩
    obtain ⟨m2, hm2⟩ : ∃ m, m = S.length := ⟨_, rfl⟩
    obtain ⟨m3, hm3⟩ : ∃ m, m = O.length := ⟨_, rfl⟩
    rw [← hm1] at ex
    rw [← hm2] at ey
    rw [← hm3] at ez
    have HML : Hid (m1 = L.length ∧ m2 = S.length ∧ m3 = O.length) := ⟨hm1, hm2, hm3⟩
    clear HI hH hdb hT3 hT2 hDr hMr hm1 hm2 hm3
    by_cases hpos : 0 < k
    · have hposI : (0 : Int) < (k : Int) := by omega
      go_wp2_with fail
      refine (once_any hU 5 (by omega) (by omega) wr HDr.out).mono ?_
      rintro e ws ⟨bb, rfl, hD2, hM2⟩
      have HDS : Hid (Draw W a len cap R ws) := hD2
      have HMS : Hid (Mut R w ws) := HMr.out.trans hM2
      have HHS : Hid (HasD ws w.heap.size vx vy vz L S O) := HH.out.mut hM2 HR.out
      have HT3s : Hid (At3 ws (w.heap.size + 1) 27 vx vy vz) := HT3r.out.mut hM2 HN3.out.1
      have HT2s : Hid (At3 ws w.heap.size 27 (.slice none 0 0) (.slice none 0 0) (.slice none 0 0)) := HT2r.out.mut hM2 HN3.out.2
      clear hD2 hM2 HH HT3r HT2r HDr HMr
      cases bb with
      | true =>
        subst ex ey ez
        have c0 := HT3s.out.c0
        have c1 := HT3s.out.c1
        have c2 := HT3s.out.c2
        go_wp2_with fail
        refine (specSync2_any _ _ _ L S O ws HHS.out.rd.1 HHS.out.rd.2.1 HHS.out.rd.2.2 HSM.out.1 (by have := HSM.out.2; omega)).mono ?_
        rintro e w3 ⟨x, y, z, rfl, hh3, hB3⟩
        have hsy : syL L S O = L := by unfold syL; rw [HDB.out]; rfl
        rw [hsy] at hh3
        have HH3 : Hid (HasD w3 w.heap.size x y z L L []) := hh3.base HMS.out.size
        have HM3 : Hid (Mut R w w3) := HMS.out.trans (Mut.of_below hB3)
        have HD3 : Hid (Draw W a len cap R w3) := HDS.out.below hB3
        have HT33 : Hid (At3 w3 (w.heap.size + 1) 27 (.slice b1 m1 d1) (.slice b2 m2 d2) (.slice b3 m3 d3)) := HT3s.out.below hB3
        have HT23 : Hid (At3 w3 w.heap.size 27 (.slice none 0 0) (.slice none 0 0) (.slice none 0 0)) := HT2s.out.below hB3
        obtain ⟨e1, f1, e2, f2, e3, f3, ex, ey, ez⟩ := hh3.rd.slices
        obtain ⟨nA, hnA⟩ : ∃ m, m = L.length := ⟨_, rfl⟩
        rw [← hnA] at ex ey
        subst ex ey ez
        obtain ⟨q, hq, hi6, ho6, h16⟩ := row3 e1 e2 e3 nA f1 nA f2 0 f3
        have ho7 : (#[Value.slice b1 m1 d1, .slice b2 m2 d2, .slice b3 m3 d3] : Array Value).size = q.size := ho6
        have HDBN : Hid (diskB L L [] = true) := disk_sync HDB.out
        clear c0 c1 c2 hh3 hB3 hsy hnA
        go_wp2_with (refine wpList_store_row rfl 27 _ _ rfl (w.heap.size + 1) q rfl (congrArg Value.agg hq.symm) 27 _ HT33.out hi6 ho7 h16 ?_)
        subst hq
        go_roundw
        case rel => exact ⟨k - 1, by omega, by go_num, _, _, _, L, L, [], HH3.out.row HT33.out _, HDBN.out, setRow_heap _ _ _ _ _ _ HT33.out, HT23.out.row _ (by omega), HD3.out.row _ (by have := HR.out; omega), HM3.out.row _ (by omega)⟩
        case measure => simp [intOf]; omega
      | false =>
        have HRB : Hid (R < ws.heap.size) := HDS.out.lt
        have HRB0 : Hid (R < w.heap.size) := HR.out
        have HBW : Hid (w.heap.size ≤ ws.heap.size) := HMS.out.size
        have HTS : Hid (∀ wy, Mut R ws wy → At3 wy (w.heap.size + 1) 27 vx vy vz) := fun wy hy => HT3s.out.mut hy HN3.out.1
        subst ex ey ez
        go_wp2
        refine wp_cut_to (fun a0 t w' => ∃ f, t = canon a0 dsKD f ∧ (∃ g, ∃ o : Dop, ∃ x y z, f 5 = .pointer (some ⟨g, 0, none⟩) ∧ f 6 = .int .i64 (dC L S O o : Int) ∧ (∃ b1 n1 d1 b2 n2 d2 b3 n3 d3, x = .slice b1 n1 d1 ∧ y = .slice b2 n2 d2 ∧ z = .slice b3 n3 d3) ∧ ws.heap.size ≤ g ∧ w'.heap[g]? = some (.cells #[x, y, z] 27 (0, 0)) ∧ (dC L S O o = 0 → HasD w' w.heap.size x y z (dL L S O o) (dS L S O) (dO L S O o)) ∧ Draw W a len cap R w' ∧ Mut R ws w')) ?_ ?_
        rotate_left
        · intro J K' hJ hK
          refine wp_letter ?_
          intro fr hfr
          have hsz : 24 < fr.tmps.size := by rw [hfr]; exact Nat.le_of_ble_eq_true rfl
          have t0 : fr.eval (.tmp 0) = .pointer (some ⟨R, 0, none⟩) := by rw [hfr]; rfl
          have t3 : fr.eval (.tmp 3) = .pointer (some ⟨w.heap.size + 1, 0, none⟩) := by rw [hfr]; rfl
          have HFR := (show Hid _ from hfr)
          clear hfr
          have HTs : ∀ wy, Mut R ws wy → At3 wy (w.heap.size + 1) 27 (.slice b1 m1 d1) (.slice b2 m2 d2) (.slice b3 m3 d3) := fun wy hy => HTS.out wy hy
          have HHs : ∀ wy, Mut R ws wy → HasD wy w.heap.size (.slice b1 m1 d1) (.slice b2 m2 d2) (.slice b3 m3 d3) L S O := fun wy hy => HHS.out.mut hy HRB0.out
          refine wp_region_gen (by kernel_rfl) (by kernel_rfl) dsKD slotKD (KDF ws.heap.size R (.agg #[.slice b1 m1 d1, .slice b2 m2 d2, .slice b3 m3 d3]) L S O) (fun wy => Draw W a len cap R wy ∧ Mut R ws wy) ⟨HDS.out.drewN 1, (Mut.refl R ws).drewN 1⟩ ?_ ?_ ?_ ?_ ?_
          · intro j f f' wy hj he h
            exact h.dep hj (fun i hi => he i (by revert hi; match j, hj with | 0, _ => (intro hi; simp only [depKD, beq_iff_eq] at hi; rcases hi with rfl <;> kernel_rfl) | 1, _ => (intro hi; simp only [depKD, beq_iff_eq] at hi; rcases hi with rfl <;> kernel_rfl) | 2, _ => (intro hi; simp only [depKD, beq_iff_eq] at hi; rcases hi with rfl <;> kernel_rfl) | 3, _ => (intro hi; simp only [depKD, beq_iff_eq] at hi; rcases hi with rfl <;> kernel_rfl) | 4, _ => (intro hi; simp only [depKD, beq_iff_eq] at hi; rcases hi with rfl <;> kernel_rfl) | 5, _ => (intro hi; simp only [depKD, Bool.or_eq_true, beq_iff_eq] at hi; rcases hi with rfl | rfl <;> kernel_rfl) | 6, _ => (intro hi; simp only [depKD, Bool.or_eq_true, beq_iff_eq] at hi; rcases hi with rfl | rfl <;> kernel_rfl) | 7, _ => (intro hi; simp only [depKD, beq_iff_eq] at hi; rcases hi with rfl <;> kernel_rfl) | 8, _ => (intro hi; simp only [depKD, Bool.or_eq_true, beq_iff_eq] at hi; rcases hi with (rfl | rfl) | rfl <;> kernel_rfl) | 9, _ => (intro hi; simp only [depKD, Bool.or_eq_true, beq_iff_eq] at hi; rcases hi with rfl | rfl <;> kernel_rfl)))
          · intro i hi
            exact slotKD_mem i hi
          · intro i j hi hj q
            exact slotKD_inj i j hi hj q
          · intro ops hops done f wy j oo hG ho hdn hd
            have ho2 := ho
            rw [hops] at ho
            have hj : j < 10 := by
              rcases Nat.lt_or_ge j 10 with h | h
              · exact h
              · rw [Array.getElem?_eq_none (by simpa using h)] at ho; cases ho
            have N0 := (canon_eval_ne fr dsKD f 0 (by decide)).trans t0
            have N3 := (canon_eval_ne fr dsKD f 3 (by decide)).trans t3
            have hj' : j = 0 ∨ j = 1 ∨ j = 2 ∨ j = 3 ∨ j = 4 ∨ j = 5 ∨ j = 6 ∨ j = 7 ∨ j = 8 ∨ j = 9 := by omega
            rcases hj' with rfl | rfl | rfl | rfl | rfl | rfl | rfl | rfl | rfl | rfl <;> simp only [List.getElem?_toArray, List.getElem?_cons_succ, List.getElem?_cons_zero, Option.some.injEq] at ho <;> subst ho
            · refine wpOp_runG ho2 (wanted_none rfl) (q_load31 (canon fr dsKD f).eval _ wy _ (w.heap.size + 1) rfl N3 (HTs wy hG.2).c0 (HTs wy hG.2).c1 (HTs wy hG.2).c2) ?_
              exact ⟨_, rfl, upd_same f 19 _, hG, fun j _ _ h => h⟩
            · refine wpOp_runG ho2 (wanted_none rfl) (q_moveD (canon fr dsKD f).eval _ wy _ rfl) ?_
              exact ⟨_, rfl, (upd_same f 20 _).trans N0, hG, fun j _ _ h => h⟩
            · refine wpOp_enterG ho2 (wanted_none rfl) (q_call1I (canon fr dsKD f).eval _ wy _ HENP.out _ _ rfl rfl) ?_
              rw [(canon_eval fr dsKD f 20 (by decide) (Nat.lt_of_le_of_lt (by decide) hsz)).trans (hd ⟨1, .data⟩ (by simp) rfl)]
              refine (dop_any hU wy hG.1).mono ?_
              rintro e wz ⟨o, hso, rfl, hDz, hMz⟩
              exact ⟨_, rfl, _, rfl, ⟨o, hso, upd_same f 21 _⟩, ⟨hDz, hG.2.trans hMz⟩, fun j _ _ h => h.mut HRB.out hMz⟩
            · obtain ⟨o, hso, hu⟩ := hd ⟨2, .data⟩ (by simp) rfl
              refine wpOp_enterG ho2 (wanted_none rfl) (q_call2 (canon fr dsKD f).eval _ wy _ HEND.out _ _ _ rfl rfl) ?_
              rw [(canon_eval fr dsKD f 19 (by decide) (Nat.lt_of_le_of_lt (by decide) hsz)).trans (hd ⟨0, .data⟩ (by simp) rfl), (canon_eval fr dsKD f 21 (by decide) (Nat.lt_of_le_of_lt (by decide) hsz)).trans hu]
              refine (specDo2_any _ _ _ L S O o wy (HHs wy hG.2).rd HSM.out.1 ⟨by have := HSM.out.2; omega, by have := HSM.out.2; omega, by have := HSM.out.2; omega⟩ ⟨by omega, by omega, by omega⟩).mono ?_
              rintro e wz ⟨x, y, z, rfl, hr, hx, hBz⟩
              have hMz : Mut R wy wz := Mut.of_below hBz
              have hDz : Draw W a len cap R wz := hG.1.below hBz
              obtain ⟨b1, d1, b2, d2, b3, d3, ex, ey, ez⟩ := hr.slices
              exact ⟨_, rfl, _, rfl, ⟨o, x, y, z, hso, upd_same f 22 _, ⟨b1, _, d1, b2, _, d2, b3, _, d3, ex, ey, ez⟩, fun hc => (hx hc).base hG.2.size⟩, ⟨hDz, hG.2.trans hMz⟩, fun j _ _ h => h.mut HRB.out hMz⟩
            · obtain ⟨o, x, y, z, hso, e, hl, h1⟩ := hd ⟨3, .data⟩ (by simp) rfl
              refine wpOp_runG ho2 (wanted_none rfl) (q_moveD (canon fr dsKD f).eval _ wy _ rfl) ?_
              exact ⟨_, rfl, ⟨o, x, y, z, hso, (upd_same f 18 _).trans ((canon_eval fr dsKD f 22 (by decide) (Nat.lt_of_le_of_lt (by decide) hsz)).trans e), hl, h1⟩, hG, fun j _ _ h => h⟩
            · obtain ⟨o, x, y, z, hso, e, hl, h1⟩ := hd ⟨4, .data⟩ (by simp) rfl
              refine wpOp_runG ho2 (wanted_none rfl) (q_ext0 (canon fr dsKD f).eval _ wy _ (.agg #[x, y, z]) _ rfl ((canon_eval fr dsKD f 18 (by decide) (Nat.lt_of_le_of_lt (by decide) hsz)).trans e)) ?_
              exact ⟨_, rfl, ⟨x, y, z, _, (upd_ne f _ (by decide)).trans e, upd_same f 23 _, hl⟩, hG, fun j _ _ h => h⟩
            · obtain ⟨o, x, y, z, hso, e, hl, h1⟩ := hd ⟨4, .data⟩ (by simp) rfl
              refine wpOp_runG ho2 (wanted_none rfl) (q_ext1 (canon fr dsKD f).eval _ wy _ (.agg #[x, y, z]) _ rfl ((canon_eval fr dsKD f 18 (by decide) (Nat.lt_of_le_of_lt (by decide) hsz)).trans e)) ?_
              exact ⟨_, rfl, ⟨_, _, (upd_ne f _ (by decide)).trans e, upd_same f 24 _⟩, hG, fun j _ _ h => h⟩
            · refine wpOp_runG ho2 (wanted_none rfl) (q_allocD (canon fr dsKD f).eval _ wy rfl) ?_
              have hMz : Mut R wy (wy.alloc (.cells #[.slice none 0 0, .slice none 0 0, .slice none 0 0] 27)) := (Mut.refl R wy).alloc _
              have hDz : Draw W a len cap R (wy.alloc (.cells #[.slice none 0 0, .slice none 0 0, .slice none 0 0] 27)) := hG.1.alloc _
              exact ⟨_, rfl, ⟨wy.heap.size, _, upd_same f 5 _, hG.2.size, rfl, heap_alloc_new _ _⟩, ⟨hDz, hG.2.trans hMz⟩, fun j _ _ h => h.mut HRB.out hMz⟩
            · obtain ⟨g, cs, eg, hb, hc, hh⟩ := hd ⟨7, .data⟩ (by simp) rfl
              obtain ⟨x, y, z, c, e1, e, b1, n1, d1, b2, n2, d2, b3, n3, d3, rfl, rfl, rfl⟩ := hd ⟨5, .data⟩ (by simp) rfl
              refine wpOp_storeD ho2 (wanted_none rfl) _ _ g rfl ((canon_eval fr dsKD f 5 (by decide) (Nat.lt_of_le_of_lt (by decide) hsz)).trans eg) ((canon_eval fr dsKD f 23 (by decide) (Nat.lt_of_le_of_lt (by decide) hsz)).trans e) hc hh ?_
              intro wz hz1 hz2 hz3 hz4 hz5 hz6
              refine ⟨f 16, (put_same fr dsKD f 16 (by decide)).symm, ⟨g, _, _, _, (upd_ne f _ (by decide)).trans eg, (upd_ne f _ (by decide)).trans e, hb, hz1⟩, ⟨?_, ?_⟩, fun j _ hne h => h.put hne eg hh hz1 rfl hz2 (by omega)⟩
              · have hbw := HBW.out
                have hrb := HRB.out
                obtain ⟨p, hp, hbx⟩ := hG.1.box
                have hb0 := hG.1.bel
                have hnw := hG.1.new
                exact ⟨⟨hz4.trans hb0.os, hz5.trans hb0.tape, hz6.trans hb0.output, by rw [hz3]; exact hb0.size, fun k hk => (hz2 k (by omega)).trans (hb0.block k hk)⟩, hnw, p, hp, (hz2 R (by omega)).trans hbx⟩
              · exact ⟨hz4.trans hG.2.os, hz5.trans hG.2.tape, hz6.trans hG.2.output, by rw [hz3]; exact hG.2.size, fun k hk hkr => (hz2 k (by omega)).trans (hG.2.block k hk hkr)⟩
            · refine wpOp_runG ho2 (wanted_none rfl) (q_assignC (canon fr dsKD f).eval _ wy _ rfl) ?_
              refine ⟨_, rfl, ?_, hG, fun j _ _ h => h⟩
              show upd f 6 _ 6 = upd f 6 _ 24
              rw [upd_same, upd_ne f _ (by decide : (24 : Nat) ≠ 6)]
              exact (canon_eval fr dsKD f 24 (by decide) (Nat.lt_of_le_of_lt (by decide) hsz))
          · intro f wy hG hall
            obtain ⟨o, x, y, z, hso, e, hl, h1⟩ := hall 4 (by decide)
            obtain ⟨x2, y2, z2, c2, ee, e2, _⟩ := hall 5 (by decide)
            obtain ⟨v3, c3, e3, e4⟩ := hall 6 (by decide)
            obtain ⟨g', x', y', z', eg', e', hbg, hh⟩ := hall 8 (by decide)
            have h7 : f 6 = f 24 := hall 9 (by decide)
            rw [e] at ee e3
            simp only [Value.tuple.injEq, Value.agg.injEq, Array.mk.injEq, List.cons.injEq, and_true] at ee e3
            obtain ⟨⟨rfl, rfl, rfl⟩, rfl⟩ := ee
            obtain ⟨rfl, rfl⟩ := e3
            rw [e2] at e'
            simp only [Value.agg.injEq, Array.mk.injEq, List.cons.injEq, and_true] at e'
            obtain ⟨rfl, rfl, rfl⟩ := e'
            exact hK _ _ (Met.intro (hJ _ _ ⟨f, congrArg (fun z => canon z dsKD f) HFR.out, g', o, x, y, z, eg', h7.trans e4, hl, hbg, hh, fun hc => (h1 hc).base HBW.out, hG.1, hG.2⟩))
        rintro _ w5 ⟨f, rfl, g, o, x, y, z, h5, h6, hl, hbg, hg5, hh5, hD5, hM5⟩
        simp only [canon, dsKD, List.foldl, Act.put, List.setIfInBounds_toArray, List.set_cons_succ, List.set_cons_zero]
        rw [h5, h6]
        obtain ⟨C, hC⟩ : ∃ C, C = dC L S O o := ⟨_, rfl⟩
        rw [← hC]
        have HH5 : Hid (C = 0 → HasD w5 w.heap.size x y z (dL L S O o) (dS L S O) (dO L S O o) ∧ diskB (dL L S O o) (dS L S O) (dO L S O o) = true) := fun e => by
          have e : dC L S O o = 0 := hC.symm.trans e
          exact ⟨hh5 e, disk_do HDB.out e⟩
        have HD5 : Hid (Draw W a len cap R w5) := hD5
        have HM5 : Hid (Mut R w w5) := HMS.out.trans hM5
        have HO5 : Hid (HasD w5 w.heap.size (.slice b1 m1 d1) (.slice b2 m2 d2) (.slice b3 m3 d3) L S O) := HHS.out.mut hM5 HR.out
        have HT35 : Hid (At3 w5 (w.heap.size + 1) 27 (.slice b1 m1 d1) (.slice b2 m2 d2) (.slice b3 m3 d3)) := HTS.out w5 hM5
        have HT25 : Hid (At3 w5 w.heap.size 27 (.slice none 0 0) (.slice none 0 0) (.slice none 0 0)) := HT2s.out.mut hM5 HN3.out.2
        obtain ⟨e1, n1, f1, e2, n2, f2, e3, n3, f3, rfl, rfl, rfl⟩ := hl
        have HG5 : Hid (At3 w5 g 27 (.slice e1 n1 f1) (.slice e2 n2 f2) (.slice e3 n3 f3)) := hg5
        clear hC hh5 hD5 hM5 hg5 h5 h6 hbg HTS
        by_cases hc : C = 0
        · have hcb : ((C : Int) == 0) = true := by rw [hc]; rfl
          have HH6 := (show Hid _ from HH5.out hc)
          have c0 := HG5.out.c0
          have c1 := HG5.out.c1
          have c2 := HG5.out.c2
          obtain ⟨q, hq, hi6, ho6, h16⟩ := row3 e1 e2 e3 n1 f1 n2 f2 n3 f3
          have ho7 : (#[Value.slice b1 m1 d1, .slice b2 m2 d2, .slice b3 m3 d3] : Array Value).size = q.size := ho6
          clear hc
          go_wp2_with (refine wpList_store_row rfl 27 _ _ rfl (w.heap.size + 1) q rfl (congrArg Value.agg hq.symm) 27 _ HT35.out hi6 ho7 h16 ?_)
          subst hq
          go_roundw
          case rel => exact ⟨k - 1, by omega, by go_num, _, _, _, _, _, _, HH6.out.1.row HT35.out _, HH6.out.2, setRow_heap _ _ _ _ _ _ HT35.out, HT25.out.row _ (by omega), HD5.out.row _ (by have := HR.out; omega), HM5.out.row _ (by omega)⟩
          case measure => simp [intOf]; omega
        · have hcb : ((C : Int) == 0) = false := by simp; omega
          clear hc
          go_wp2
          go_roundw
          case rel => exact ⟨k - 1, by omega, by go_num, _, _, _, _, _, _, HO5.out, HDB.out, HT35.out, HT25.out, HD5.out, HM5.out⟩
          case measure => simp [intOf]; omega
    · have hposI : ¬ (0 : Int) < (k : Int) := by omega
      go_wp2_with fail
      refine (below_any hU 40 (by omega) (by omega) wr HDr.out).mono ?_
      rintro e ws ⟨yy, hy0, hy1, rfl, hD2, hM2⟩
      have HDS : Hid (Draw W a len cap R ws) := hD2
      have HMS : Hid (Mut R w ws) := HMr.out.trans hM2
      have HHS : Hid (HasD ws w.heap.size vx vy vz L S O) := HH.out.mut hM2 HR.out
      have HT3s : Hid (At3 ws (w.heap.size + 1) 27 vx vy vz) := HT3r.out.mut hM2 HN3.out.1
      have HT2s : Hid (At3 ws w.heap.size 27 (.slice none 0 0) (.slice none 0 0) (.slice none 0 0)) := HT2r.out.mut hM2 HN3.out.2
      clear hD2 hM2 HH HT3r HT2r HDr HMr
      subst ex ey ez
      have c0 := HT3s.out.c0
      have c1 := HT3s.out.c1
      have c2 := HT3s.out.c2
      by_cases y0 : yy = 0
      · have y0b : (yy == 0) = true := by rw [y0]; rfl
        clear y0
        obtain ⟨i0, hi, hz0, hz1, hz2⟩ := info_parts infoF
        obtain ⟨zz, hzz⟩ : ∃ zz : ByteArray, zz = ⟨#[122, 122]⟩ := ⟨_, rfl⟩
        obtain ⟨oo, hoo⟩ : ∃ oo : Obj, oo = .cells #[.string zz, .string ⟨#[]⟩] 68 := ⟨_, rfl⟩
        have HOO := (show Hid _ from hoo)
        have HZZ : Hid (zz.size ≤ 2) := by show _ ≤ _; rw [hzz]; decide
        have hBo : Below ws.heap.size ws (ws.alloc oo) := (Below.refl _ _).alloc (Nat.le_refl _) _
        have HLX : Hid (HoldF (ws.alloc oo) w.heap.size (.slice b1 m1 d1) L) := (show HoldF ws w.heap.size (.slice b1 m1 d1) L from ⟨HHS.out.rd.1, HHS.out.l⟩).below hBo
        have HOW : Hid ((ws.alloc oo).ownsRow w.heap.size 68 2 (.slice b1 m1 d1) m1 (cellsF L)) := by have := HLX.out.row; unfold OwnF at this; rw [← HML.out.1] at this; exact this
        have HNW : Hid (∀ j u, ([Value.string zz, .string ⟨#[]⟩] : List Value)[j]? = some u → (ws.alloc oo).cell? ((⟨ws.heap.size, 0, none⟩ : Addr).add j) = some u) := by
          show ∀ j u, _
          rw [hoo]
          have := World.news_of_block (heap_alloc_new ws (.cells #[.string zz, .string ⟨#[]⟩] 68))
          simpa using this
        have HMX9 : Hid (m1 + 1 ≤ maxLen ∧ (m1 + 1) * 32 ≤ 140737488355328 ∧ w.heap.size ≤ (ws.alloc oo).heap.size) := ⟨by have := HSM.out; have := HML.out; unfold maxLen; omega, by have := HSM.out; have := HML.out; omega, by have := HMS.out.size; simp; omega⟩
        have HFIN : Hid (∀ v7 w7, w7.ownsRow w.heap.size 68 2 v7 (m1 + 1) (cellsF L ++ [.string zz, .string ⟨#[]⟩]) → (ws.alloc oo).grownBy w7 (Value.slice b1 m1 d1).ownBlock → (HoldF w7 w.heap.size v7 (L ++ [⟨zz, ⟨#[]⟩⟩]) ∧ (HoldF w7 w.heap.size (.slice b2 m2 d2) S ∨ S = []) ∧ HoldO w7 w.heap.size (.slice b3 m3 d3) O) ∧ At3 w7 (w.heap.size + 1) 27 (.slice b1 m1 d1) (.slice b2 m2 d2) (.slice b3 m3 d3) ∧ At3 w7 w.heap.size 27 (.slice none 0 0) (.slice none 0 0) (.slice none 0 0) ∧ Draw W a len cap R w7 ∧ Mut R w w7) := fun v7 w7 hown hgrow => by
          have hx : ∀ b, (Value.slice b1 m1 d1).ownBlock = some b → w.heap.size ≤ b := fun b hb => (HLX.out.2.lt b hb).1
          have hR := HR.out
          have h3' : At3 (ws.alloc oo) (w.heap.size + 1) 27 (.slice b1 m1 d1) (.slice b2 m2 d2) (.slice b3 m3 d3) := HT3s.out.below hBo
          have h2' : At3 (ws.alloc oo) w.heap.size 27 (.slice none 0 0) (.slice none 0 0) (.slice none 0 0) := HT2s.out.below hBo
          have hDo : Draw W a len cap R (ws.alloc oo) := HDS.out.alloc oo
          have hMo : Mut R w (ws.alloc oo) := HMS.out.alloc oo
          refine ⟨⟨?_, ?_, ?_⟩, ?_, ?_, ?_, ?_⟩
          · have ho : OwnF w7 w.heap.size v7 (L ++ [⟨zz, ⟨#[]⟩⟩]) := by
              unfold OwnF
              rw [← cellsF_snoc, List.length_append]
              show World.ownsRow _ _ _ _ _ (L.length + 1) _
              rw [← HML.out.1]
              exact hown
            exact ho.hold
          · rcases HHS.out.ap with hap | hap
            · have hy : HoldF (ws.alloc oo) w.heap.size (.slice b2 m2 d2) S := (show HoldF ws w.heap.size (.slice b2 m2 d2) S from ⟨HHS.out.rd.2.1, HHS.out.s⟩).below hBo
              exact .inl (hy.off hgrow.size (fun k hk => hgrow.block k (hy.2.lt k hk).2 (fun e => hap k e.symm hk)))
            · exact .inr hap
          · have hz' : HoldO (ws.alloc oo) w.heap.size (.slice b3 m3 d3) O := (show HoldO ws w.heap.size (.slice b3 m3 d3) O from ⟨HHS.out.rd.2.2, HHS.out.o⟩).below hBo
            exact hz'.off hgrow.size (fun k hk => hgrow.block k (hz'.2.lt k hk).2 (fun e => OwA24 HLX.out.2 hz'.2 e.symm hk))
          · exact (hgrow.block _ h3'.lt (fun e => HLX.out.ne3 h3' e.symm rfl)).trans h3'
          · exact (hgrow.block _ h2'.lt (fun e => HLX.out.ne3 h2' e.symm rfl)).trans h2'
          · obtain ⟨p, hp, hb⟩ := hDo.box
            have hnw := hDo.new
            have hb0 := hDo.bel
            exact ⟨⟨hgrow.os.trans hb0.os, hgrow.tape.trans hb0.tape, hgrow.output.trans hb0.output, Nat.le_trans hb0.size hgrow.size, fun k hk => (hgrow.block k (by have := hb0.size; omega) (fun e => by have := hx k e.symm; omega)).trans (hb0.block k hk)⟩, hnw, p, hp, (hgrow.block R (lt_of_block hb) (fun e => by have := hx R e.symm; omega)).trans hb⟩
          · exact ⟨hgrow.os.trans hMo.os, hgrow.tape.trans hMo.tape, hgrow.output.trans hMo.output, Nat.le_trans hMo.size hgrow.size, fun k hk hkr => (hgrow.block k (by have := hMo.size; omega) (fun e => by have := hx k e.symm; omega)).trans (hMo.block k hk hkr)⟩
        have hS : ∀ {w8 : World}, S = [] → RdF w8 (.slice b2 m2 d2) S := fun {w8} e => by
          obtain ⟨a', c', e', h1, h2, _⟩ := HHS.out.rd.2.1
          exact ⟨a', c', e', h1, h2, fun h => by rw [e] at h; exact absurd h (Nat.lt_irrefl _)⟩
        have HSN := (show Hid (∀ {w8 : World}, S = [] → RdF w8 (.slice b2 m2 d2) S) from hS)
        clear hBo hS
        rw [hoo] at HOW HNW HMX9 HFIN
        rw [hzz] at HOW HNW HMX9 HFIN
        go_wp2_with (first
         | (
          at_builtin
          refine wpList_append_own _ rfl _ _ 24 rfl w.heap.size 68 i0 (.agg #[.string ⟨#[]⟩, .string ⟨#[]⟩]) 2 32 Try.underlying24 hi hz0 hz1 hz2 rfl (by decide) _ m1 _ rfl HOW.out ⟨ws.heap.size, 0, none⟩ 1 1 [.string ⟨#[122, 122]⟩, .string ⟨#[]⟩] rfl rfl HNW.out (by simp [Value.oneCell']) HMX9.out.1 HMX9.out.2.1 HMX9.out.2.2 ?_
          intro v7 w7 hown7 hgrow7 hnil7
          have HE := (show Hid _ from HFIN.out v7 w7 hown7 hgrow7)
          obtain ⟨a7, c7, e7⟩ := HE.out.1.1.2.slice
          obtain ⟨n7, hn7⟩ : ∃ n, n = (L ++ [(⟨⟨#[122, 122]⟩, ⟨#[]⟩⟩ : Fl)]).length := ⟨_, rfl⟩
          rw [← hn7] at e7
          subst e7
          clear hown7 hgrow7 hnil7 hn7 HFIN HOW HNW HMX9 HLX HOO
          have f0 : w7.frozen? ⟨w.heap.size + 1, 0, none⟩ = false := frozN HE.out.2.1
          have r0 := HE.out.2.1.c0
          have r1 := HE.out.2.1.c1
          have r2 := HE.out.2.1.c2
          have HZ2 : Hid (At3 (w7.setCell ⟨w.heap.size + 1, 0, none⟩ (.slice a7 n7 c7)) w.heap.size 27 (.slice none 0 0) (.slice none 0 0) (.slice none 0 0)) := (Below.heap_setCell _ _ _ _ (show w.heap.size ≠ w.heap.size + 1 by omega)).trans HE.out.2.2.1
          obtain ⟨q, hq, hi6, ho6, h16⟩ := row3 a7 b2 b3 n7 c7 m2 d2 m3 d3)
         | (refine wpList_store_row rfl 27 _ _ rfl w.heap.size q rfl (congrArg Value.agg hq.symm) 27 _ HZ2.out hi6 ho6 h16 ?_))
        subst hq
        obtain ⟨WF, hWF⟩ : ∃ WF, WF = (w7.setCell ⟨w.heap.size + 1, 0, none⟩ (.slice a7 n7 c7)).setRow w.heap.size #[.slice a7 n7 c7, .slice b2 m2 d2, .slice b3 m3 d3] := ⟨_, rfl⟩
        have hsF : w7.heap.size ≤ WF.heap.size := by rw [hWF]; simp [World.setRow, World.setCell]
        have hkF : ∀ k, k ≠ w.heap.size → k ≠ w.heap.size + 1 → WF.heap[k]? = w7.heap[k]? := fun k k2 k3 => by rw [hWF]; exact (setRow_other _ _ _ _ k2).trans (Below.heap_setCell _ _ _ _ k3)
        have h1 := HE.out.1.1.off hsF (fun k hk => hkF k (HE.out.1.1.ne3 HE.out.2.2.1 hk) (HE.out.1.1.ne3 HE.out.2.1 hk))
        have h3 := HE.out.1.2.2.off hsF (fun k hk => hkF k (HE.out.1.2.2.ne3 HE.out.2.2.1 hk) (HE.out.1.2.2.ne3 HE.out.2.1 hk))
        have h2 : ∀ w'', WF.heap.size ≤ w''.heap.size → (∀ k, w.heap.size ≤ k → k < WF.heap.size → w''.heap[k]? = WF.heap[k]?) → RdF w'' (.slice b2 m2 d2) S := fun w'' hs' he' => by
          rcases HE.out.1.2.1 with h | h
          · have h' := h.off hsF (fun k hk => hkF k (h.ne3 HE.out.2.2.1 hk) (h.ne3 HE.out.2.1 hk))
            exact (h'.off hs' (fun k hk => he' k (h'.2.lt k hk).1 (h'.2.lt k hk).2)).1
          · exact HSN.out h
        have hD7 : Draw W a len cap R WF := by rw [hWF]; exact (HE.out.2.2.2.1.set (show R < w.heap.size + 1 by have := HR.out; omega)).row _ HR.out
        have hM7 : Mut R w WF := by rw [hWF]; exact (HE.out.2.2.2.2.set (by omega)).row _ (by omega)
        have hsm := HSM.out
        have hfin : SmallD (L ++ [(⟨⟨#[122, 122]⟩, ⟨#[]⟩⟩ : Fl)]) S O := by
          have e0 : (⟨⟨#[122, 122]⟩, ⟨#[]⟩⟩ : Fl).n.size = 2 ∧ (⟨⟨#[122, 122]⟩, ⟨#[]⟩⟩ : Fl).d.size = 0 := ⟨rfl, rfl⟩
          refine ⟨?_, hsm.1.s1, ?_, hsm.1.s2, hsm.1.o1⟩
          · have ht : tot (L ++ [(⟨⟨#[122, 122]⟩, ⟨#[]⟩⟩ : Fl)]) = tot L := by unfold tot; simp; rfl
            rw [ht]
            exact hsm.1.l1
          · intro f hf
            rcases List.mem_append.1 hf with h | h
            · exact hsm.1.l2 f h
            · rw [List.mem_singleton.1 h, e0.1]
              decide
        refine bodyPost_ret (results_cell_row rfl _ _ w.heap.size 27 _ _ _ rfl (setRow_heap _ _ _ _ _ _ HZ2.out) Try.underlying27 rfl hi6) rfl ?_
        rw [← hWF]
        exact ⟨_, _, _, _, S, O, rfl, ⟨Nat.le_refl _, fun w'' hs' he' => ⟨(h1.off hs' (fun k hk => he' k (h1.2.lt k hk).1 (h1.2.lt k hk).2)).1, h2 w'' hs' he', (h3.off hs' (fun k hk => he' k (h3.2.lt k hk).1 (h3.2.lt k hk).2)).1⟩⟩, HHS.out.nz, hfin, ⟨by rw [List.length_append]; show L.length + 1 ≤ 1000; omega, by omega, by omega⟩, hD7, hM7⟩
      · have y0b : (yy == 0) = false := by simpa using y0
        by_cases y1 : yy = 1
        · have y1b : (yy == 1) = true := by rw [y1]; rfl
          clear y0 y1
          by_cases hm : 0 < m3
          · have hmI : (0 : Int) < (m3 : Int) := by omega
            have hm1I : (1 : Int) ≤ (m3 : Int) := by omega
            have hm1 : 1 ≤ m3 := hm
            obtain ⟨a', cap', e, hlc, hcm, hcc⟩ := HHS.out.rd.2.2
            obtain ⟨gb, off, hgb, _, _⟩ := hcc (by have := HML.out; omega)
            simp only [Value.slice.injEq] at e
            obtain ⟨e1, e2, e3⟩ := e
            rw [hgb] at e1
            subst e1
            have hd3 : m3 ≤ d3 := by omega
            have hd3I : (m3 : Int) ≤ (d3 : Int) := by omega
            have f2 : ws.frozen? ⟨w.heap.size + 1, 2, none⟩ = false := frozN HT3s.out
            clear e2 e3 hcc hlc hcm hgb
            by_cases hcap : d3 = 1
            · subst hcap
              have hm31 : m3 = 1 := by omega
              subst hm31
              have HZ2 : Hid (At3 (ws.setCell ⟨w.heap.size + 1, 2, none⟩ (.slice (some ⟨gb, off, none⟩) 0 0)) w.heap.size 27 (.slice none 0 0) (.slice none 0 0) (.slice none 0 0)) := (Below.heap_setCell _ _ _ _ (show w.heap.size ≠ w.heap.size + 1 by omega)).trans HT2s.out
              obtain ⟨q, hq, hi6, ho6, h16⟩ := row3 b1 b2 (some ⟨gb, off, none⟩) m1 d1 m2 d2 0 0
              go_wp2_with (refine wpList_store_row rfl 27 _ _ rfl w.heap.size q rfl (congrArg Value.agg hq.symm) 27 _ HZ2.out hi6 ho6 h16 ?_)
              subst hq
              have hF : HasD ((ws.setCell ⟨w.heap.size + 1, 2, none⟩ (.slice (some ⟨gb, off, none⟩) 0 0)).setRow w.heap.size #[.slice b1 m1 d1, .slice b2 m2 d2, .slice (some ⟨gb, off, none⟩) 0 0]) w.heap.size (.slice b1 m1 d1) (.slice b2 m2 d2) (.slice (some ⟨gb, off, none⟩) 1 1) L S O := HHS.out.two HT2s.out HT3s.out (by simp [World.setRow, World.setCell]) (fun k k2 k3 => (setRow_other _ _ _ _ k2).trans (Below.heap_setCell _ _ _ _ k3))
              refine bodyPost_ret (results_cell_row rfl _ _ w.heap.size 27 _ _ _ rfl (setRow_heap _ _ _ _ _ _ HZ2.out) Try.underlying27 rfl hi6) rfl ⟨_, _, _, L, S, O.tail, rfl, ⟨Nat.le_refl _, fun w'' hs' he' => ⟨(hF.st.2 w'' hs' he').1, (hF.st.2 w'' hs' he').2.1, by
                              have hO : O.tail = [] := List.length_eq_zero_iff.1 (by rw [List.length_tail]; have := HML.out; omega)
                              rw [hO]
                              exact ⟨_, _, rfl, Nat.le_refl _, by omega, fun h => absurd h (Nat.lt_irrefl _)⟩⟩⟩, .inr ⟨_, _, _, rfl⟩, ⟨HSM.out.1.l1, HSM.out.1.s1, HSM.out.1.l2, HSM.out.1.s2, fun o ho => HSM.out.1.o1 o (List.mem_of_mem_tail ho)⟩, ⟨by have := HSM.out; omega, by have := HSM.out; omega, by have := HSM.out; rw [List.length_tail]; omega⟩, (HDS.out.set (show R < w.heap.size + 1 by have := HR.out; omega)).row _ HR.out, (HMS.out.set (by omega)).row _ (by omega)⟩
            · have hcap2 : ¬ (d3 : Int) = 1 := by omega
              have hcap3 : ¬ d3 - 1 = 0 := by omega
              have HZ2 : Hid (At3 (ws.setCell ⟨w.heap.size + 1, 2, none⟩ (.slice (some ⟨gb, off + 4, none⟩) (m3 - 1) (d3 - 1))) w.heap.size 27 (.slice none 0 0) (.slice none 0 0) (.slice none 0 0)) := (Below.heap_setCell _ _ _ _ (show w.heap.size ≠ w.heap.size + 1 by omega)).trans HT2s.out
              obtain ⟨q, hq, hi6, ho6, h16⟩ := row3 b1 b2 (some ⟨gb, off + 4, none⟩) m1 d1 m2 d2 (m3 - 1) (d3 - 1)
              go_wp2_with (refine wpList_store_row rfl 27 _ _ rfl w.heap.size q rfl (congrArg Value.agg hq.symm) 27 _ HZ2.out hi6 ho6 h16 ?_)
              subst hq
              have hF : HasD ((ws.setCell ⟨w.heap.size + 1, 2, none⟩ (.slice (some ⟨gb, off + 4, none⟩) (m3 - 1) (d3 - 1))).setRow w.heap.size #[.slice b1 m1 d1, .slice b2 m2 d2, .slice (some ⟨gb, off + 4, none⟩) (m3 - 1) (d3 - 1)]) w.heap.size (.slice b1 m1 d1) (.slice b2 m2 d2) (.slice (some ⟨gb, off, none⟩) m3 d3) L S O := HHS.out.two HT2s.out HT3s.out (by simp [World.setRow, World.setCell]) (fun k k2 k3 => (setRow_other _ _ _ _ k2).trans (Below.heap_setCell _ _ _ _ k3))
              refine bodyPost_ret (results_cell_row rfl _ _ w.heap.size 27 _ _ _ rfl (setRow_heap _ _ _ _ _ _ HZ2.out) Try.underlying27 rfl hi6) rfl ⟨_, _, _, L, S, O.tail, rfl, ⟨Nat.le_refl _, fun w'' hs' he' => ⟨(hF.st.2 w'' hs' he').1, (hF.st.2 w'' hs' he').2.1, (hF.st.2 w'' hs' he').2.2.tl hm⟩⟩, .inr ⟨_, _, _, rfl⟩, ⟨HSM.out.1.l1, HSM.out.1.s1, HSM.out.1.l2, HSM.out.1.s2, fun o ho => HSM.out.1.o1 o (List.mem_of_mem_tail ho)⟩, ⟨by have := HSM.out; omega, by have := HSM.out; omega, by have := HSM.out; rw [List.length_tail]; omega⟩, (HDS.out.set (show R < w.heap.size + 1 by have := HR.out; omega)).row _ HR.out, (HMS.out.set (by omega)).row _ (by omega)⟩
          · have hmI : ¬ (0 : Int) < (m3 : Int) := by omega
            obtain ⟨q, hq, hi6, ho6, h16⟩ := row3 b1 b2 b3 m1 d1 m2 d2 m3 d3
            go_wp2_with (refine wpList_store_row rfl 27 _ _ rfl w.heap.size q rfl (congrArg Value.agg hq.symm) 27 _ HT2s.out hi6 ho6 h16 ?_)
            subst hq
            refine bodyPost_ret (results_cell_row rfl _ _ w.heap.size 27 _ _ _ rfl (setRow_heap _ _ _ _ _ _ HT2s.out) Try.underlying27 rfl hi6) rfl ⟨_, _, _, L, S, O, rfl, (HHS.out.row HT2s.out _).st, HHS.out.nz, HSM.out.1, ⟨by have := HSM.out; omega, by have := HSM.out; omega, by have := HSM.out; omega⟩, HDS.out.row _ HR.out, HMS.out.row _ (by omega)⟩
        · have y1b : (yy == 1) = false := by simpa using y1
          by_cases y2 : yy = 2
          · have y2b : (yy == 2) = true := by rw [y2]; rfl
            clear y0 y1 y2
            go_wp2_with fail
            refine (below_any hU 9 (by omega) (by omega) ws HDS.out).mono ?_
            rintro e wt ⟨y9, hz0, hz1, rfl, hD9, hM9⟩
            have HDT : Hid (Draw W a len cap R wt) := hD9
            have HMT : Hid (Mut R w wt) := HMS.out.trans hM9
            have HT3t : Hid (At3 wt (w.heap.size + 1) 27 (.slice b1 m1 d1) (.slice b2 m2 d2) (.slice b3 m3 d3)) := HT3s.out.mut hM9 HN3.out.1
            have HT2t : Hid (At3 wt w.heap.size 27 (.slice none 0 0) (.slice none 0 0) (.slice none 0 0)) := HT2s.out.mut hM9 HN3.out.2
            obtain ⟨nb, hnb⟩ : ∃ nb : Nat, (nb : Int) = 200000 - y9 := ⟨(200000 - y9).toNat, by omega⟩
            have hnb1 : nb ≤ 200000 := by omega
            have hsub : IntKind.i64.wrap (200000 - y9) = (nb : Int) := by rw [IntKind.wrap_i64]; omega
            clear hD9 hM9 hz0 hz1 c0 c1 c2
            have hsub2 : (200000 : Int) - y9 = (nb : Int) := hnb.symm
            obtain ⟨i0, hi, hz0, hz1, hz2⟩ := info_parts infoU8
            have hb2 : i0.bytes * nb ≤ 281474976710656 := by rw [hz2]; omega
            have hb3 : nb ≤ maxLen := by unfold maxLen; omega
            have HNB : Hid (nb ≤ 200000) := hnb1
            clear hnb
            go_wp2_with (first
             | (
              at_make
              refine wpList_make_full _ rfl _ _ 22 rfl wt.heap.size 5 i0 (.int .u8 0) 1 Try.underlying22 hi hz0 hz1 .i64 .i64 _ _ nb rfl rfl (by first | rfl | exact hsub2) (by first | rfl | exact hsub2) hb2 hb3 (Nat.le_refl _) ?_
              intro w1 hown hgrow
              have hB1 : Below wt.heap.size wt w1 := (Below.refl _ wt).grown hgrow (Nat.le_refl _) (fun k hk => by cases hk)
              rw [made_u8 nb] at hown
              have hcv := big_string hown
              obtain ⟨zs, hzs⟩ : ∃ zs, zs = zeroS nb := ⟨_, rfl⟩
              rw [← hzs] at hcv
              have HZS : Hid (zs.size ≤ 200000) := by show _ ≤ _; rw [hzs, zeroS_size]; exact HNB.out
              have HX1 : Hid (∀ oo, Draw W a len cap R (w1.alloc oo) ∧ Mut R w (w1.alloc oo) ∧ At3 (w1.alloc oo) (w.heap.size + 1) 27 (.slice b1 m1 d1) (.slice b2 m2 d2) (.slice b3 m3 d3) ∧ At3 (w1.alloc oo) w.heap.size 27 (.slice none 0 0) (.slice none 0 0) (.slice none 0 0)) := fun oo => by
                have hb : Below wt.heap.size wt (w1.alloc oo) := hB1.alloc hB1.size oo
                exact ⟨HDT.out.below hb, HMT.out.trans (Mut.of_below hb), HT3t.out.below hb, HT2t.out.below hb⟩
              have HL1 : Hid (w.heap.size + 1 < w1.heap.size) := (HT3t.out.below hB1).lt
              clear hown hgrow hB1 hzs
              obtain ⟨q1, hq1, hi1, ho1, h11⟩ := row3 (some ⟨w1.heap.size, 0, none⟩) none none 1 1 0 0 0 0
              have ho1' : (#[Value.slice b1 m1 d1, .slice b2 m2 d2, .slice b3 m3 d3] : Array Value).size = q1.size := ho1
              obtain ⟨q2, hq2, hi6, ho6, h16⟩ := row3 (some ⟨w1.heap.size, 0, none⟩) (some ⟨w1.heap.size, 0, none⟩) none 1 1 1 1 0 0)
             | (
              refine wpList_store_row rfl 27 _ _ rfl (w.heap.size + 1) q1 rfl (congrArg Value.agg hq1.symm) 27 _ (HX1.out _).2.2.1 hi1 ho1' h11 ?_
              obtain ⟨X9, hX9⟩ : ∃ X9, X9 = (w1.alloc (.cells #[.string ⟨#[98, 105, 103]⟩, .string zs] 68)).setRow (w.heap.size + 1) q1 := ⟨_, rfl⟩
              rw [← hX9]
              have HX9 := (show Hid _ from hX9)
              have HA9 : Hid (At3 X9 (w.heap.size + 1) 27 (.slice (some ⟨w1.heap.size, 0, none⟩) 1 1) (.slice none 0 0) (.slice none 0 0)) := by rw [hX9, hq1]; exact setRow_heap _ _ _ _ _ _ (HX1.out _).2.2.1
              have HB9 : Hid (At3 X9 w.heap.size 27 (.slice none 0 0) (.slice none 0 0) (.slice none 0 0)) := by rw [hX9]; exact (setRow_other _ _ _ _ (show w.heap.size ≠ w.heap.size + 1 by omega)).trans (HX1.out _).2.2.2
              have HD9 : Hid (Draw W a len cap R X9) := by rw [hX9]; exact (HX1.out _).1.row _ (by have := HR.out; omega)
              have HM9 : Hid (Mut R w X9) := by rw [hX9]; exact (HX1.out _).2.1.row _ (by omega)
              have HC9 : Hid (X9.heap[w1.heap.size]? = some (.cells #[.string ⟨#[98, 105, 103]⟩, .string zs] 68 (0, 0)) ∧ w.heap.size + 1 < w1.heap.size) := by
                have hl : w.heap.size + 1 < w1.heap.size := HL1.out
                refine ⟨?_, hl⟩
                rw [hX9]
                exact (setRow_other _ _ _ _ (show w1.heap.size ≠ w.heap.size + 1 by omega)).trans (heap_alloc_new _ _)
              have c0 := HA9.out.c0
              have c1 := HA9.out.c1
              have c2 := HA9.out.c2
              have f1 : X9.frozen? ⟨w.heap.size + 1, 1, none⟩ = false := frozN HA9.out
              clear hX9
              have HZ2 : Hid (At3 (X9.setCell ⟨w.heap.size + 1, 1, none⟩ (.slice (some ⟨w1.heap.size, 0, none⟩) 1 1)) w.heap.size 27 (.slice none 0 0) (.slice none 0 0) (.slice none 0 0)) := (Below.heap_setCell _ _ _ _ (show w.heap.size ≠ w.heap.size + 1 by omega)).trans HB9.out)
             | (refine wpList_store_row rfl 27 _ _ rfl w.heap.size q2 rfl (congrArg Value.agg hq2.symm) 27 _ HZ2.out hi6 ho6 h16 ?_))
            subst hq2
            obtain ⟨WF, hWF⟩ : ∃ WF, WF = (X9.setCell ⟨w.heap.size + 1, 1, none⟩ (.slice (some ⟨w1.heap.size, 0, none⟩) 1 1)).setRow w.heap.size #[.slice (some ⟨w1.heap.size, 0, none⟩) 1 1, .slice (some ⟨w1.heap.size, 0, none⟩) 1 1, .slice none 0 0] := ⟨_, rfl⟩
            have hb : WF.heap[w1.heap.size]? = some (.cells #[.string ⟨#[98, 105, 103]⟩, .string zs] 68 (0, 0)) := by
              have hl := HC9.out.2
              rw [hWF]
              exact (setRow_other _ _ _ _ (show w1.heap.size ≠ w.heap.size by omega)).trans ((Below.heap_setCell _ _ _ _ (show w1.heap.size ≠ w.heap.size + 1 by omega)).trans HC9.out.1)
            have hD7 : Draw W a len cap R WF := by rw [hWF]; exact (HD9.out.set (show R < w.heap.size + 1 by have := HR.out; omega)).row _ HR.out
            have hM7 : Mut R w WF := by rw [hWF]; exact (HM9.out.set (by omega)).row _ (by omega)
            have hrd : ∀ w'', WF.heap.size ≤ w''.heap.size → (∀ k, w.heap.size ≤ k → k < WF.heap.size → w''.heap[k]? = WF.heap[k]?) → RdF w'' (.slice (some ⟨w1.heap.size, 0, none⟩) 1 1) [(⟨⟨#[98, 105, 103]⟩, zs⟩ : Fl)] := fun w'' hs' he' => by
              have hb := (he' _ (by have := HC9.out.2; omega) (lt_of_block hb)).trans hb
              exact ⟨_, _, rfl, Nat.le_refl _, by omega, fun _ => ⟨_, _, rfl, lt_of_block hb, fun i hi => by
                have h0 : i = 0 := by simpa using hi
                subst h0
                exact ⟨cellN hb, cellN hb⟩⟩⟩
            have hzs := HZS.out
            have htot : tot [(⟨⟨#[98, 105, 103]⟩, zs⟩ : Fl)] = zs.size := by unfold tot; simp
            have hsz : ∀ f ∈ [(⟨⟨#[98, 105, 103]⟩, zs⟩ : Fl)], f.n.size ≤ 100000000 := fun f hf => by
              rw [List.mem_singleton.1 hf]
              show (3 : Nat) ≤ 100000000
              omega
            refine bodyPost_ret (results_cell_row rfl _ _ w.heap.size 27 _ _ _ rfl (setRow_heap _ _ _ _ _ _ HZ2.out) Try.underlying27 rfl hi6) rfl ?_
            rw [← hWF]
            exact ⟨_, _, _, _, _, [], rfl, ⟨Nat.le_refl _, fun w'' hs' he' => ⟨hrd w'' hs' he', hrd w'' hs' he', (HoldO.nil _ 0).1⟩⟩, .inl rfl, ⟨by rw [htot]; omega, by rw [htot]; omega, hsz, hsz, fun o ho => absurd ho (by simp)⟩, ⟨by simp, by simp, by simp⟩, hD7, hM7⟩
          · have y2b : (yy == 2) = false := by simpa using y2
            clear y0 y1 y2
            obtain ⟨q, hq, hi6, ho6, h16⟩ := row3 b1 b2 b3 m1 d1 m2 d2 m3 d3
            go_wp2_with (refine wpList_store_row rfl 27 _ _ rfl w.heap.size q rfl (congrArg Value.agg hq.symm) 27 _ HT2s.out hi6 ho6 h16 ?_)
            subst hq
            refine bodyPost_ret (results_cell_row rfl _ _ w.heap.size 27 _ _ _ rfl (setRow_heap _ _ _ _ _ _ HT2s.out) Try.underlying27 rfl hi6) rfl ⟨_, _, _, L, S, O, rfl, (HHS.out.row HT2s.out _).st, HHS.out.nz, HSM.out.1, ⟨by have := HSM.out; omega, by have := HSM.out; omega, by have := HSM.out; omega⟩, HDS.out.row _ HR.out, HMS.out.row _ (by omega)⟩
end
end Go.Proofs.Ytbohaefmokbgbaa

namespace Go.Proofs.Ytbohaefmokbgbaa
open Go.RowKit Go.Maps
set_option linter.unusedVariables false

theorem mAppT (a b : ByteArray) (w : World) : (method 286 111 (.agg #[.string a, .string b]) "loop.example/g00318/impl.torn").run Try.prog w = .ok (140, .agg #[.string a, .string b]) w := by kernel_rfl
theorem mRenT (a b : ByteArray) (w : World) : (method 286 114 (.agg #[.string a, .string b]) "loop.example/g00318/impl.torn").run Try.prog w = .ok (142, .agg #[.string a, .string b]) w := by kernel_rfl
theorem mRemT (a : ByteArray) (w : World) : (method 286 116 (.agg #[.string a]) "loop.example/g00318/impl.torn").run Try.prog w = .ok (144, .agg #[.string a]) w := by kernel_rfl

set_option maxRecDepth 4000 in
set_option maxHeartbeats 800000 in
theorem renT_any (n u : ByteArray) (t : Int) (w : World) :
    Calls Try.prog 142 #[.agg #[.string n, .string u], .int .i64 t] w fun e w' => e = .returned (.iface 114 (.agg #[.string n, .string u])) ∧ Below w.heap.size w w' := by
  obtain ⟨X, hX⟩ : ∃ X, X = w.alloc (.cells #[.string n, .string u] 114) := ⟨_, rfl⟩
  have hBX : Below w.heap.size w X := by rw [hX]; exact (Below.refl _ _).alloc (Nat.le_refl _) _
  have g : X.heap[w.heap.size]? = some (.cells #[.string n, .string u] 114 (0, 0)) := by rw [hX]; exact heap_alloc_new _ _
  have c0 : X.cell? ⟨w.heap.size, 0, none⟩ = some (.string n) := cellN g
  have c1 : X.cell? ⟨w.heap.size, 1, none⟩ = some (.string u) := cellN g
  rw [hX] at c0 c1
  have HB : Hid (Below w.heap.size w (w.alloc (.cells #[.string n, .string u] 114))) := by rw [← hX]; exact hBX
  clear g hX hBX X
  go_enter Try.func142, Try.ntmps142
  go_wp2
  go_ret
  exact ⟨rfl, HB.out⟩

set_option maxRecDepth 4000 in
set_option maxHeartbeats 800000 in
theorem remT_any (n : ByteArray) (t : Int) (w : World) :
    Calls Try.prog 144 #[.agg #[.string n], .int .i64 t] w fun e w' => e = .returned (.iface 116 (.agg #[.string n])) ∧ Below w.heap.size w w' := by
  obtain ⟨X, hX⟩ : ∃ X, X = w.alloc (.cells #[.string n] 116) := ⟨_, rfl⟩
  have hBX : Below w.heap.size w X := by rw [hX]; exact (Below.refl _ _).alloc (Nat.le_refl _) _
  have g : X.heap[w.heap.size]? = some (.cells #[.string n] 116 (0, 0)) := by rw [hX]; exact heap_alloc_new _ _
  have c0 : X.cell? ⟨w.heap.size, 0, none⟩ = some (.string n) := cellN g
  rw [hX] at c0
  have HB : Hid (Below w.heap.size w (w.alloc (.cells #[.string n] 116))) := by rw [← hX]; exact hBX
  clear g hX hBX X
  go_enter Try.func144, Try.ntmps144
  go_wp2
  go_ret
  exact ⟨rfl, HB.out⟩

set_option maxRecDepth 4000 in
set_option maxHeartbeats 800000 in
theorem appT_any (n d : ByteArray) (t : Nat) (w : World) (hd : d.size ≤ 1000000000) :
    Calls Try.prog 140 #[.agg #[.string n, .string d], .int .i64 (t : Int)] w fun e w' => e = .returned (.iface 111 (.agg #[.string n, .string (d.extract 0 (min t d.size))])) ∧ Below w.heap.size w w' := by
  obtain ⟨X, hX⟩ : ∃ X, X = w.alloc (.cells #[.string n, .string d] 111) := ⟨_, rfl⟩
  have hBX : Below w.heap.size w X := by rw [hX]; exact (Below.refl _ _).alloc (Nat.le_refl _) _
  have g : X.heap[w.heap.size]? = some (.cells #[.string n, .string d] 111 (0, 0)) := by rw [hX]; exact heap_alloc_new _ _
  have s0 : ∀ s : Later X, s.val.cell? ⟨w.heap.size, 0, none⟩ = some (.string n) := fun s => s.cell (cellN g)
  have s1 : ∀ s : Later X, s.val.cell? ⟨w.heap.size, 1, none⟩ = some (.string d) := fun s => s.cell (cellN g)
  have HB : Hid (Below w.heap.size w X) := hBX
  have hne := Later.any X
  have HX := (show Hid _ from hX)
  clear g hX hBX
  obtain ⟨m, hm⟩ : ∃ m, m = min t d.size := ⟨_, rfl⟩
  have hmI : min (t : Int) (d.size : Int) = (m : Int) := by omega
  have hmd : (m : Int) ≤ (d.size : Int) := by omega
  have hmn : m ≤ d.size := by omega
  rw [← hm]
  clear hm
  go_enter Try.func140, Try.ntmps140
  go_wp2
  rw [← HX.out]
  refine wp_region_later (by kernel_rfl) (by kernel_rfl) ?_
  repeat (go_big_quiet_step (fail))
  refine wpQuiet_nil ?_
  rintro _ ⟨s5, rfl⟩
  have HB5 : Hid (Below w.heap.size w s5.val) := HB.out.trans (s5.ok.mono HB.out.size)
  obtain ⟨w6, hw6⟩ : ∃ w6, w6 = s5.val := ⟨_, rfl⟩
  rw [← hw6] at HB5 ⊢
  clear hw6 hne s0 s1 s5
  go_wp2
  go_ret
  exact ⟨rfl, HB5.out⟩

theorem cutF_none {L : List Fl} {s : ByteArray} (h : getF L s = none) : cutF L s = L := by
  unfold cutF
  rw [List.filter_eq_self]
  intro f hf
  cases e : (f.n.toList == s.toList) with
  | false => rfl
  | true =>
    exfalso
    unfold getF at h
    rw [Option.map_eq_none_iff, List.find?_eq_none] at h
    exact h f hf e
theorem extract_all (d : ByteArray) {t : Nat} (h : d.size ≤ t) : d.extract 0 (min t d.size) = d := by
  rw [Nat.min_eq_right h]
  exact ByteArray.extract_zero_size

set_option maxRecDepth 10000 in
set_option maxHeartbeats 8000000 in
theorem implCrash_any (vL vS vO vK : Value) (L S : List Fl) (O : List Dop) (Z : List Int) (tn : Int) (w : World) (h : RdD w vL vS vO L S O) (hK : RdI w vK Z) (hz : SmallD L S O) (hn : L.length ≤ 1048576 ∧ S.length ≤ 1048576 ∧ O.length ≤ 1048576) (hkz : Z.length ≤ 1048576) :
    Calls Try.prog 12 #[.agg #[vL, vS, vO], vK, .int .i64 tn] w fun e w' => ∃ x y z, e = .returned (.tuple #[.agg #[x, y, z], .bool (crOk L S O Z tn)]) ∧ RdD w' x y z (crR L S O Z tn) (crR L S O Z tn) [] ∧ OwD w' w.heap.size x y z (crR L S O Z tn).length (crR L S O Z tn).length 0 ∧ Below w.heap.size w w' := by
  have HN : Hid (L.length ≤ 1048576 ∧ S.length ≤ 1048576 ∧ O.length ≤ 1048576) := hn
  have HZ : Hid (SmallD L S O) := hz
  have HA : Hid (∀ w', Below w.heap.size w w' → RdD w' vL vS vO L S O) := fun w' hB => h.below hB
  have HKR : Hid (∀ w', Below w.heap.size w w' → RdI w' vK Z) := fun w' hB => hK.below hB
  obtain ⟨aL, cL, eL⟩ := h.1.slice
  obtain ⟨nL, hnL⟩ : ∃ n, n = L.length := ⟨_, rfl⟩
  rw [← hnL] at eL
  obtain ⟨aS, cS, eS⟩ := h.2.1.slice
  obtain ⟨nS, hnS⟩ : ∃ n, n = S.length := ⟨_, rfl⟩
  rw [← hnS] at eS
  obtain ⟨aO, cO, eO⟩ := h.2.2.slice
  obtain ⟨nO, hnO⟩ : ∃ n, n = O.length := ⟨_, rfl⟩
  rw [← hnO] at eO
  subst eL eS eO
  have HE : Hid (nL = L.length ∧ nS = S.length ∧ nO = O.length) := ⟨hnL, hnS, hnO⟩
  have HCO : Hid (0 < nO → ∃ b off, aO = some ⟨b, off, none⟩ ∧ ∀ w', Below w.heap.size w w' → ∀ i, i < nO → ∀ t, t < 4 → w'.cell? ⟨b, off + i * 4 + t, none⟩ = (encO (O.getD i dopZ))[t]?) := fun hp => by
    obtain ⟨a', c', e', _, _, h3⟩ := h.2.2
    simp only [Value.slice.injEq] at e'
    obtain ⟨ea, _, _⟩ := e'
    obtain ⟨b, off, e, hb, hcc⟩ := h3 (by omega)
    exact ⟨b, off, ea.trans e, fun w' hB i hi t ht => (hB.cell (p := ⟨b, off + i * 4 + t, none⟩) hb).trans (hcc i (by omega) t ht)⟩
  obtain ⟨aK, cK, eK, hkc, hkm, hkk⟩ := hK
  obtain ⟨nK, hnK⟩ : ∃ n, n = Z.length := ⟨_, rfl⟩
  rw [← hnK] at eK hkc hkk
  subst eK
  have HNK : Hid (nK = Z.length) := hnK
  have HCK : Hid (0 < nK → ∃ b off, aK = some ⟨b, off, none⟩ ∧ ∀ w', Below w.heap.size w w' → ∀ i, i < nK → w'.cell? ⟨b, off + i, none⟩ = some (.int .i64 (Z.getD i 0))) := fun hp => by
    obtain ⟨b, off, e, hb, hcc⟩ := hkk hp
    exact ⟨b, off, e, fun w' hB i hi => (hB.cell (p := ⟨b, off + i, none⟩) hb).trans (hcc i hi)⟩
  have HKL : Hid (nK ≤ 1048576) := by show _ ≤ _; omega
  obtain ⟨X, hX⟩ : ∃ X, X = (w.alloc (.cells #[.slice aL nL cL, .slice aS nS cS, .slice aO nO cO] 27)).alloc (.cells #[.slice none 0 0, .slice none 0 0, .slice none 0 0] 27) := ⟨_, rfl⟩
  have hBX : Below w.heap.size w X := by rw [hX]; exact ((Below.refl _ _).alloc (Nat.le_refl _) _).alloc (by simp) _
  have gX : X.heap[w.heap.size]? = some (.cells #[.slice aL nL cL, .slice aS nS cS, .slice aO nO cO] 27 (0, 0)) := by rw [hX, Below.heap_alloc _ _ _ (by simp)]; exact heap_alloc_new _ _
  have gR : X.heap[w.heap.size + 1]? = some (.cells #[.slice none 0 0, .slice none 0 0, .slice none 0 0] 27 (0, 0)) := by
    rw [hX]
    have := heap_alloc_new (w.alloc (.cells #[.slice aL nL cL, .slice aS nS cS, .slice aO nO cO] 27)) (.cells #[.slice none 0 0, .slice none 0 0, .slice none 0 0] 27)
    simpa using this
  have HX := (show Hid _ from hX)
  have HBX : Hid (Below w.heap.size w X) := hBX
  have HG : Hid (∀ w', Below X.heap.size X w' → At3 w' w.heap.size 27 (.slice aL nL cL) (.slice aS nS cS) (.slice aO nO cO) ∧ At3 w' (w.heap.size + 1) 27 (.slice none 0 0) (.slice none 0 0) (.slice none 0 0) ∧ Below w.heap.size w w') := fun w' hB => ⟨(hB.block _ (lt_of_block gX)).trans gX, (hB.block _ (lt_of_block gR)).trans gR, hBX.trans (hB.mono hBX.size)⟩
  have c0 : X.cell? ⟨w.heap.size, 0, none⟩ = some (.slice aL nL cL) := cellN gX
  have c1 : X.cell? ⟨w.heap.size, 1, none⟩ = some (.slice aS nS cS) := cellN gX
  have c2 : X.cell? ⟨w.heap.size, 2, none⟩ = some (.slice aO nO cO) := cellN gX
  rw [hX] at c0 c1 c2
  clear hX hBX gX gR h hz hn hkz hkk hkc hkm hnL hnS hnO hnK
  go_enter Try.func12, Try.ntmps12
  go_wp2_with fail
  rw [← HX.out]
  have hAX := HA.out X HBX.out
  refine (implDisk_any _ _ _ L S O X hAX.1 hAX.2.1 hAX.2.2 HZ.out).mono ?_
  rintro e w1 ⟨rfl, hB1⟩
  have HB1 : Hid (Below X.heap.size X w1) := hB1
  clear c0 c1 c2 HX hB1 hAX
  cases hd : diskB L S O with
  | false =>
    have HD : Hid (crOk L S O Z tn = false) := by show _ = _; unfold crOk; rw [hd]; rfl
    clear hd
    have HR3 : Hid (At3 w1 (w.heap.size + 1) 27 (.slice none 0 0) (.slice none 0 0) (.slice none 0 0)) := (HG.out w1 HB1.out).2.1
    obtain ⟨q, hq, hi6, ho6, h16⟩ := row3 none none none 0 0 0 0 0 0
    go_wp2_with (refine wpList_store_row rfl 27 _ _ rfl (w.heap.size + 1) q rfl (congrArg Value.agg hq.symm) 27 _ HR3.out hi6 ho6 h16 ?_)
    subst hq
    refine bodyPost_ret (v := .tuple #[.agg #[.slice none 0 0, .slice none 0 0, .slice none 0 0], _]) (results_row_tmp rfl _ _ (w.heap.size + 1) 27 _ _ _ rfl (setRow_heap _ _ _ _ _ _ HR3.out) Try.underlying27 rfl hi6) rfl ⟨_, _, _, ret_val (by rw [HD.out]; rfl), ?_, ?_, ?_⟩
    · rw [cr_no HD.out]
      exact ⟨(HoldF.nil _ 0).1, (HoldF.nil _ 0).1, (HoldO.nil _ 0).1⟩
    · rw [cr_no HD.out]
      exact ⟨(HoldF.nil _ _).2, (HoldF.nil _ _).2, (HoldO.nil _ _).2, fun _ hb => by cases hb⟩
    · exact below_setRow (HG.out w1 HB1.out).2.2 (by omega) _
  | true =>
    have HDD : Hid (diskB L S O = true) := hd
    have c2 := (HG.out w1 HB1.out).1.c2
    have HPK : Hid (RdI w1 (.slice aK nK cK) Z) := HKR.out w1 (HG.out w1 HB1.out).2.2
    clear hd
    go_wp2_with fail
    refine (placesOk_any _ Z nO w1 HPK.out (by have := HN.out; have := HE.out; omega)).mono ?_
    rintro e w2 ⟨rfl, hB2⟩
    have HB2 : Hid (Below X.heap.size X w2) := HB1.out.trans (hB2.mono HB1.out.size)
    clear c2 hB2
    cases hp : placesB nO Z with
    | false =>
      have HD : Hid (crOk L S O Z tn = false) := by show _ = _; unfold crOk; rw [← HE.out.2.2, hp]; simp
      clear hp
      have HR3 : Hid (At3 w2 (w.heap.size + 1) 27 (.slice none 0 0) (.slice none 0 0) (.slice none 0 0)) := (HG.out w2 HB2.out).2.1
      obtain ⟨q, hq, hi6, ho6, h16⟩ := row3 none none none 0 0 0 0 0 0
      go_wp2_with (refine wpList_store_row rfl 27 _ _ rfl (w.heap.size + 1) q rfl (congrArg Value.agg hq.symm) 27 _ HR3.out hi6 ho6 h16 ?_)
      subst hq
      refine bodyPost_ret (v := .tuple #[.agg #[.slice none 0 0, .slice none 0 0, .slice none 0 0], _]) (results_row_tmp rfl _ _ (w.heap.size + 1) 27 _ _ _ rfl (setRow_heap _ _ _ _ _ _ HR3.out) Try.underlying27 rfl hi6) rfl ⟨_, _, _, ret_val (by rw [HD.out]; rfl), ?_, ?_, ?_⟩
      · rw [cr_no HD.out]
        exact ⟨(HoldF.nil _ 0).1, (HoldF.nil _ 0).1, (HoldO.nil _ 0).1⟩
      · rw [cr_no HD.out]
        exact ⟨(HoldF.nil _ _).2, (HoldF.nil _ _).2, (HoldO.nil _ _).2, fun _ hb => by cases hb⟩
      · exact below_setRow (HG.out w2 HB2.out).2.2 (by omega) _
    | true =>
      have HPB : Hid (placesB O.length Z = true) := by show _ = _; rw [← HE.out.2.2]; exact hp
      clear hp
      by_cases h0 : 0 ≤ tn
      · have HH : Hid (crOk L S O Z tn = filesB (crF S O Z tn.toNat Z.length)) := by
          show _ = _
          unfold crOk
          rw [HDD.out, HPB.out, decide_eq_true h0]
          rfl
        have h0n : ¬ tn < 0 := by omega
        obtain ⟨tt, htt⟩ : ∃ tt : Nat, tt = tn.toNat := ⟨_, rfl⟩
        have htI : tn = (tt : Int) := by omega
        have HDK : Hid (filesB S = true ∧ O.length ≤ 200) := ⟨(disk_live HDD.out).2.1, (disk_live HDD.out).2.2⟩
        have HF : Hid (∀ k, k ≤ nK → UpF (crF S O Z tt k) ∧ (∀ f ∈ crF S O Z tt k, nmB f.n = true) ∧ (crF S O Z tt k).length ≤ 260 ∧ tot (crF S O Z tt k) ≤ 50000000) := fun k hk => by
          have hl := places_len HPB.out
          have h60 := filesB_parts HDK.out.1
          obtain ⟨f1, f2, f3, f4⟩ := crF_facts (t := tt) HDD.out (filesB_up HDK.out.1) (filesB_names HDK.out.1) (disk_small HDD.out) HPB.out k (by rw [← HNK.out]; exact hk)
          have h200 := HDK.out.2
          have : k ≤ 200 := by have := HNK.out; omega
          exact ⟨f1, f2, by omega, by have : k * 200000 ≤ 200 * 200000 := Nat.mul_le_mul_right _ this; omega⟩
        have HNK2 : Hid (nK ≤ 200) := by show _ ≤ _; have := places_len HPB.out; have := HNK.out; have := HDK.out.2; omega
        rw [← htt] at HH
        have HTT : Hid (tt = tn.toNat) := htt
        subst htI
        clear htt
        have HUS : Hid (UpF S ∧ S.length ≤ 60 ∧ ∀ f ∈ S, f.n.size ≤ 1000000000 ∧ f.d.size ≤ 1000000000) := ⟨filesB_up HDK.out.1, (filesB_parts HDK.out.1).1, fun f hf => ⟨by have := (filesB_parts HDK.out.1).2.2 f hf; omega, by have := tot_mem hf; have := (filesB_parts HDK.out.1).2.1; omega⟩⟩
        have c1 := (HG.out w2 HB2.out).1.c1
        have HSR : Hid (RdF w2 (.slice aS nS cS) S) := (HA.out w2 (HG.out w2 HB2.out).2.2).2.1
        go_wp2_with (first
          | (go_at_call 41
             refine (shelfOf_any _ S w2 HSR.out HUS.out.1 (by have := HUS.out.2.1; omega) HUS.out.2.2).mono ?_
             rintro e w3 ⟨B, D0, p0, rfl, hS3, hB3⟩
             have HS3 : Hid (Sh w3 w2.heap.size B (2 * S.length) S D0 p0 ∧ Below w2.heap.size w2 w3) := ⟨hS3, hB3⟩
             clear c1 hS3 hB3))
        obtain ⟨bs, hbs⟩ : ∃ bs, bs = w2.heap.size := ⟨_, rfl⟩
        have HBS : Hid (bs = w2.heap.size) := hbs
        have HB2s : Hid (∀ wz, Below bs w2 wz → Below X.heap.size X wz) := fun wz hz => by
          rw [hbs] at hz
          exact HB2.out.trans (hz.mono HB2.out.size)
        rw [← hbs] at HS3
        clear hbs
        have HSL : Hid (S.length ≤ 60) := HUS.out.2.1
        go_loopw [34] (fun i wr => ∃ (k : Nat), k ≤ nK ∧ i = .int .i64 k ∧ Hid (∃ D p c, Sh wr bs B c (crF S O Z tt k) D p ∧ c ≤ 2 * S.length + 2 * k ∧ Below bs w2 wr)) (fun i _ => nK - (intOf i).toNat)
        case atStart => exact ⟨0, Nat.zero_le _, rfl, D0, p0, 2 * S.length, HS3.out.1, by omega, HS3.out.2⟩
        case round =>
          obtain ⟨k, hk, rfl, HI⟩ := hrel
          obtain ⟨D, p, c, hSr, hcc, hBr⟩ := HI.out
          have HBR : Hid (Below X.heap.size X wr) := HB2s.out wr hBr
          have HSr : Hid (Sh wr bs B c (crF S O Z tt k) D p ∧ c ≤ 2 * S.length + 2 * k ∧ Below bs w2 wr) := ⟨hSr, hcc, hBr⟩
          clear HI hSr hcc hBr
          by_cases hlt : k < nK
          · have hltI : (k : Int) < (nK : Int) := by omega
            obtain ⟨b, off, rfl, hl⟩ := HCK.out (by omega)
            have hg := HG.out wr HBR.out
            have d0 := hl wr hg.2.2 k hlt
            have hpl := placesB_at HPB.out (show k < Z.length by rw [← HNK.out]; exact hlt)
            obtain ⟨x, hx⟩ : ∃ x : Nat, (x : Int) = Z.getD k 0 := ⟨(Z.getD k 0).toNat, by omega⟩
            rw [← hx] at d0
            have hxn : x < nO := by have := HE.out; omega
            have hxI : (x : Int) < (nO : Int) := by omega
            obtain ⟨b2, off2, rfl, hl2⟩ := HCO.out (by omega)
            obtain ⟨o, ho⟩ : ∃ o, o = O.getD x dopZ := ⟨_, rfl⟩
            have d1 := hl2 wr hg.2.2 x hxn 0 (by omega)
            have d2 := hl2 wr hg.2.2 x hxn 1 (by omega)
            have d3 := hl2 wr hg.2.2 x hxn 2 (by omega)
            have d4 := hl2 wr hg.2.2 x hxn 3 (by omega)
            rw [← ho] at d1 d2 d3 d4
            have d1' : wr.cell? ⟨b2, off2 + x * 4, none⟩ = some (.int .i64 o.k) := d1
            have d2' : wr.cell? ⟨b2, off2 + x * 4 + 1, none⟩ = some (.string o.n) := d2
            have d3' : wr.cell? ⟨b2, off2 + x * 4 + 2, none⟩ = some (.string o.t) := d3
            have d4' : wr.cell? ⟨b2, off2 + x * 4 + 3, none⟩ = some (.string o.d) := d4
            have c2 := hg.1.c2
            have hom : o ∈ O := by rw [ho]; exact getD_mem (by have := HE.out; omega)
            have hsz := HZ.out.o1 o hom
            have HZO : Hid (o.n.size ≤ 1000000000 ∧ o.t.size ≤ 1000000000 ∧ o.d.size ≤ 200000) := ⟨by have := hsz.1; omega, by have := hsz.2.1; omega, disk_small HDD.out o hom⟩
            have HFO : Hid (formB o = true) := disk_forms HDD.out o hom
            have HOX : Hid (O.getD (Z.getD k 0).toNat dopZ = o) := by show _ = _; rw [← hx, ho]; rfl
            have HFK := (show Hid _ from HF.out k (by omega))
            obtain ⟨now, hnow⟩ : ∃ now, now = crF S O Z tt k := ⟨_, rfl⟩
            have HST : Hid (∀ o', opAt O Z tt k = o' → crF S O Z tt (k + 1) = (doF now o').1) := fun o' e => by show (doF _ _).1 = _; rw [e, hnow]
            rw [← hnow] at HSr HFK
            have HDS : Hid (∀ x, getF now o.n = some x → x.size ≤ 1000000000) := fun x hx => by
              obtain ⟨f, hf, hfx⟩ := getF_mem hx
              have := tot_mem hf
              have := HFK.out.2.2.2
              rw [← hfx]
              omega
            clear d1 d2 d3 d4 hl hl2 hpl hg hsz hom ho hx hnow
            obtain ⟨n1, hn1⟩ : ∃ n1, n1 = nK - 1 := ⟨_, rfl⟩
            have hnk := HNK2.out
            have hwK : IntKind.i64.wrap ((nK : Int) - 1) = (n1 : Int) := by rw [IntKind.wrap_i64]; omega
            have HN1 : Hid (n1 = nK - 1) := hn1
            obtain ⟨lb, hlb⟩ : ∃ b : Bool, b = decide (k = n1) := ⟨_, rfl⟩
            have hlI : ((k : Int) == (n1 : Int)) = lb := by rw [hlb]; by_cases h : k = n1 <;> simp [h]; omega
            have HLB : Hid (lb = decide (k = n1)) := hlb
            clear hlb hn1
            go_wp2_with fail
            refine (changeOf_any o wr HZO.out.1 HZO.out.2.1).mono ?_
            rintro e w5 ⟨ch, rfl, hch, hB5⟩
            have hcv := hch HFO.out
            subst hcv
            have HB5 : Hid (Below bs w2 w5) := HSr.out.2.2.trans (hB5.mono (Nat.le_trans (Nat.le_of_eq HBS.out) HSr.out.2.2.size))
            have HS5 : Hid (Sh w5 bs B c now D p) := HSr.out.1.below hB5
            have HZ5 : Hid (bs ≤ w5.heap.size ∧ c ≤ 100000 ∧ bs ≤ w2.heap.size) := ⟨Nat.le_trans (Nat.le_of_eq HBS.out) HB5.out.size, by have := HSr.out.2.1; have := HSL.out; have := HNK2.out; omega, Nat.le_of_eq HBS.out⟩
            have hkk := form_kind HFO.out
            clear hch hB5 d0 d1' d2' d3' d4' c2
            cases lb with
            | false =>
              have HOP : Hid (opAt O Z tt k = o) := by
                show _ = _
                unfold opAt
                rw [HOX.out, if_neg (fun h => absurd HLB.out.symm (by have := HNK.out; have := HN1.out; simp; omega))]
              rcases hkk with hk1 | hk1 | hk1
              · rw [chV_app hk1]
                have HK : Hid (o.k = 1) := hk1
                have HOO : Hid (opAt O Z tt k = ⟨1, o.n, o.t, o.d⟩) := by show _ = _; rw [HOP.out, ← HK.out]
                clear hk1
                have hm := mApp o.n o.d
                go_wp2_with fail
                refine (app_any o.n o.d bs B c now D p w5 HS5.out (Nat.le_trans HZ5.out.2.2 HB5.out.size) HZ5.out.2.1 HZO.out.1 (by have := HZO.out.2.2; omega) HDS.out).mono ?_
                rintro e w7 ⟨rfl, D', p', hS7, hB7⟩
                have HE : Hid (Sh w7 bs B (c + 2) (doF now ⟨1, o.n, o.t, o.d⟩).1 D' p' ∧ Below bs w2 w7) := by
                  have e : (doF now ⟨1, o.n, o.t, o.d⟩).1 = putR now o.n (match getF now o.n with | some x => x ++ o.d | none => o.d) := by
                    unfold doF
                    rw [if_pos rfl]
                    exact putF_eq HS5.out.up _ _
                  exact ⟨by rw [e]; exact hS7, HB5.out.trans hB7⟩
                clear hS7 hB7 hm
                go_wp2
                go_roundw
                case rel => exact ⟨k + 1, by omega, by go_num, D', p', c + 2, by rw [HST.out _ HOO.out]; exact HE.out.1, by have := HSr.out.2.1; omega, HE.out.2⟩
                case measure => simp [intOf]; omega
              · rw [chV_ren hk1]
                have HK : Hid (o.k = 2) := hk1
                clear hk1
                have hm := mRen o.n o.t
                go_wp2_with fail
                refine (ren_any o.n o.t bs B c now D p w5 HS5.out (Nat.le_trans HZ5.out.2.2 HB5.out.size) HZ5.out.2.1 HZO.out.1 HZO.out.2.1).mono ?_
                rintro e w7 ⟨rfl, D', p', hS7, hB7⟩
                have HE : Hid (Sh w7 bs B (c + 2) (doF now o).1 D' p' ∧ Below bs w2 w7) := by
                  refine ⟨?_, HB5.out.trans hB7⟩
                  have e : (doF now o).1 = (match getF now o.n with | some x => putR (cutF now o.n) o.t x | none => now) := by
                    unfold doF
                    rw [if_neg (by rw [HK.out]; decide)]
                    cases getF now o.n with
                    | none => rfl
                    | some x =>
                      simp only
                      rw [if_pos HK.out]
                      exact putF_eq (cutF_up HS5.out.up _) _ _
                  rw [e]
                  exact hS7.more (by omega)
                clear hS7 hB7 hm
                go_wp2
                go_roundw
                case rel => exact ⟨k + 1, by omega, by go_num, D', p', c + 2, by rw [HST.out _ HOP.out]; exact HE.out.1, by have := HSr.out.2.1; omega, HE.out.2⟩
                case measure => simp [intOf]; omega
              · rw [chV_rem hk1]
                have HK : Hid (o.k = 3) := hk1
                clear hk1
                have hm := mRem o.n
                go_wp2_with fail
                refine (rem_any o.n bs B c now D p w5 HS5.out (Nat.le_trans HZ5.out.2.2 HB5.out.size) HZO.out.1).mono ?_
                rintro e w7 ⟨rfl, D', p', hS7, hB7⟩
                have HE : Hid (Sh w7 bs B (c + 2) (doF now o).1 D' p' ∧ Below bs w2 w7) := by
                  refine ⟨?_, HB5.out.trans hB7⟩
                  have e : (doF now o).1 = cutF now o.n := by
                    unfold doF
                    rw [if_neg (by rw [HK.out]; decide)]
                    cases hg : getF now o.n with
                    | none => exact (cutF_none hg).symm
                    | some x =>
                      simp only
                      rw [if_neg (by rw [HK.out]; decide)]
                  rw [e]
                  exact hS7.more (by omega)
                clear hS7 hB7 hm
                go_wp2
                go_roundw
                case rel => exact ⟨k + 1, by omega, by go_num, D', p', c + 2, by rw [HST.out _ HOP.out]; exact HE.out.1, by have := HSr.out.2.1; omega, HE.out.2⟩
                case measure => simp [intOf]; omega
            | true =>
              have HLA : Hid (k + 1 = Z.length) := by
                show _ = _
                have := HLB.out.symm
                rw [decide_eq_true_eq] at this
                have := HNK.out
                have := HN1.out
                omega
              have HOQ : Hid (opAt O Z tt k = tornO o tt) := by
                show _ = _
                unfold opAt
                rw [HOX.out, if_pos HLA.out]
              rcases hkk with hk1 | hk1 | hk1
              · rw [chV_app hk1]
                have HK : Hid (o.k = 1) := hk1
                have hmt := mAppT o.n o.d
                clear hk1
                go_wp2_with fail
                refine (appT_any o.n o.d tt w5 (by have := HZO.out.2.2; omega)).mono ?_
                rintro e w6 ⟨rfl, hB6⟩
                obtain ⟨dd, hdd⟩ : ∃ dd, dd = o.d.extract 0 (min tt o.d.size) := ⟨_, rfl⟩
                have HOO : Hid (opAt O Z tt k = ⟨1, o.n, o.t, dd⟩) := by
                  show _ = _
                  rw [HOQ.out, hdd]
                  unfold tornO
                  by_cases ht : tt < o.d.size
                  · rw [if_pos ⟨HK.out, ht⟩, HK.out, Nat.min_eq_left (by omega)]
                  · rw [if_neg (fun h => ht h.2), extract_all _ (by omega), ← HK.out]
                have HDZ : Hid (dd.size ≤ 200000) := by show _ ≤ _; rw [hdd]; have := HZO.out.2.2; simp; omega
                rw [← hdd]
                clear hdd hmt
                have HBW : Hid (Below bs w2 w6) := HB5.out.trans (hB6.mono HZ5.out.1)
                have HSW : Hid (Sh w6 bs B c now D p) := HS5.out.below hB6
                clear hB6
                have hm := mApp o.n dd
                go_wp2_with fail
                refine (app_any o.n dd bs B c now D p w6 HSW.out (Nat.le_trans HZ5.out.2.2 HBW.out.size) HZ5.out.2.1 HZO.out.1 (by have := HDZ.out; omega) HDS.out).mono ?_
                rintro e w7 ⟨rfl, D', p', hS7, hB7⟩
                have HE : Hid (Sh w7 bs B (c + 2) (doF now ⟨1, o.n, o.t, dd⟩).1 D' p' ∧ Below bs w2 w7) := by
                  have e : (doF now ⟨1, o.n, o.t, dd⟩).1 = putR now o.n (match getF now o.n with | some x => x ++ dd | none => dd) := by
                    unfold doF
                    rw [if_pos rfl]
                    exact putF_eq HSW.out.up _ _
                  exact ⟨by rw [e]; exact hS7, HBW.out.trans hB7⟩
                clear hS7 hB7 hm
                go_wp2
                go_roundw
                case rel => exact ⟨k + 1, by omega, by go_num, D', p', c + 2, by rw [HST.out _ HOO.out]; exact HE.out.1, by have := HSr.out.2.1; omega, HE.out.2⟩
                case measure => simp [intOf]; omega
              · rw [chV_ren hk1]
                have HK : Hid (o.k = 2) := hk1
                have HOP : Hid (opAt O Z tt k = o) := by show _ = _; rw [HOQ.out]; unfold tornO; rw [if_neg (fun h => absurd h.1 (by rw [HK.out]; decide))]
                have hmt := mRenT o.n o.t
                clear hk1
                go_wp2_with fail
                refine (renT_any o.n o.t (tt : Int) w5).mono ?_
                rintro e w6 ⟨rfl, hB6⟩
                clear hmt
                have HBW : Hid (Below bs w2 w6) := HB5.out.trans (hB6.mono HZ5.out.1)
                have HSW : Hid (Sh w6 bs B c now D p) := HS5.out.below hB6
                clear hB6
                have hm := mRen o.n o.t
                go_wp2_with fail
                refine (ren_any o.n o.t bs B c now D p w6 HSW.out (Nat.le_trans HZ5.out.2.2 HBW.out.size) HZ5.out.2.1 HZO.out.1 HZO.out.2.1).mono ?_
                rintro e w7 ⟨rfl, D', p', hS7, hB7⟩
                have HE : Hid (Sh w7 bs B (c + 2) (doF now o).1 D' p' ∧ Below bs w2 w7) := by
                  refine ⟨?_, HBW.out.trans hB7⟩
                  have e : (doF now o).1 = (match getF now o.n with | some x => putR (cutF now o.n) o.t x | none => now) := by
                    unfold doF
                    rw [if_neg (by rw [HK.out]; decide)]
                    cases getF now o.n with
                    | none => rfl
                    | some x =>
                      simp only
                      rw [if_pos HK.out]
                      exact putF_eq (cutF_up HSW.out.up _) _ _
                  rw [e]
                  exact hS7.more (by omega)
                clear hS7 hB7 hm
                go_wp2
                go_roundw
                case rel => exact ⟨k + 1, by omega, by go_num, D', p', c + 2, by rw [HST.out _ HOP.out]; exact HE.out.1, by have := HSr.out.2.1; omega, HE.out.2⟩
                case measure => simp [intOf]; omega
              · rw [chV_rem hk1]
                have HK : Hid (o.k = 3) := hk1
                have HOP : Hid (opAt O Z tt k = o) := by show _ = _; rw [HOQ.out]; unfold tornO; rw [if_neg (fun h => absurd h.1 (by rw [HK.out]; decide))]
                have hmt := mRemT o.n
                clear hk1
                go_wp2_with fail
                refine (remT_any o.n (tt : Int) w5).mono ?_
                rintro e w6 ⟨rfl, hB6⟩
                clear hmt
                have HBW : Hid (Below bs w2 w6) := HB5.out.trans (hB6.mono HZ5.out.1)
                have HSW : Hid (Sh w6 bs B c now D p) := HS5.out.below hB6
                clear hB6
                have hm := mRem o.n
                go_wp2_with fail
                refine (rem_any o.n bs B c now D p w6 HSW.out (Nat.le_trans HZ5.out.2.2 HBW.out.size) HZO.out.1).mono ?_
                rintro e w7 ⟨rfl, D', p', hS7, hB7⟩
                have HE : Hid (Sh w7 bs B (c + 2) (doF now o).1 D' p' ∧ Below bs w2 w7) := by
                  refine ⟨?_, HBW.out.trans hB7⟩
                  have e : (doF now o).1 = cutF now o.n := by
                    unfold doF
                    rw [if_neg (by rw [HK.out]; decide)]
                    cases hg : getF now o.n with
                    | none => exact (cutF_none hg).symm
                    | some x =>
                      simp only
                      rw [if_neg (by rw [HK.out]; decide)]
                  rw [e]
                  exact hS7.more (by omega)
                clear hS7 hB7 hm
                go_wp2
                go_roundw
                case rel => exact ⟨k + 1, by omega, by go_num, D', p', c + 2, by rw [HST.out _ HOP.out]; exact HE.out.1, by have := HSr.out.2.1; omega, HE.out.2⟩
                case measure => simp [intOf]; omega
          · have hltI : ¬ (k : Int) < (nK : Int) := by omega
            have HFK := (show Hid _ from HF.out nK (Nat.le_refl _))
            have hkn : k = nK := by omega
            obtain ⟨R, hR⟩ : ∃ R, R = crF S O Z tt nK := ⟨_, rfl⟩
            rw [← hR] at HFK
            have HSR2 : Hid (Sh wr bs B c R D p ∧ c ≤ 1000000 ∧ Below bs w2 wr) := ⟨by rw [hR, ← hkn]; exact HSr.out.1, by have := HSr.out.2.1; have := HSL.out; have := HNK2.out; omega, HSr.out.2.2⟩
            have HOK : Hid (crOk L S O Z (tt : Int) = filesB R) := by show _ = _; rw [HH.out, hR, HNK.out]
            have HFB : Hid (filesB R = (decide (R.length ≤ 60) && decide (tot R ≤ 200000))) := filesB_of HFK.out.1 HFK.out.2.1
            have HRN : Hid (R = crF S O Z tt nK) := hR
            clear hkn hR HSr
            go_wp2_with fail
            refine (fits_any bs B c R D p wr HSR2.out.1 (by have := HFK.out.2.2.2; omega) (by have := HFK.out.2.2.1; omega)).mono ?_
            rintro e w9 ⟨rfl, hB9⟩
            rw [← HFB.out]
            have HB9 : Hid (Below X.heap.size X w9) := HBR.out.trans (hB9.mono HBR.out.size)
            have HS9 : Hid (Sh w9 bs B c R D p) := HSR2.out.1.below hB9
            clear hB9
            cases hf : filesB R with
            | false =>
              have HD : Hid (crOk L S O Z (tt : Int) = false) := by show _ = _; rw [HOK.out, hf]
              clear hf
              have HR3 : Hid (At3 w9 (w.heap.size + 1) 27 (.slice none 0 0) (.slice none 0 0) (.slice none 0 0)) := (HG.out w9 HB9.out).2.1
              obtain ⟨q, hq, hi6, ho6, h16⟩ := row3 none none none 0 0 0 0 0 0
              go_wp2_with (refine wpList_store_row rfl 27 _ _ rfl (w.heap.size + 1) q rfl (congrArg Value.agg hq.symm) 27 _ HR3.out hi6 ho6 h16 ?_)
              subst hq
              refine bodyPost_ret (v := .tuple #[.agg #[.slice none 0 0, .slice none 0 0, .slice none 0 0], _]) (results_row_tmp rfl _ _ (w.heap.size + 1) 27 _ _ _ rfl (setRow_heap _ _ _ _ _ _ HR3.out) Try.underlying27 rfl hi6) rfl ⟨_, _, _, ret_val (by rw [HD.out]; rfl), ?_, ?_, ?_⟩
              · rw [cr_no HD.out]
                exact ⟨(HoldF.nil _ 0).1, (HoldF.nil _ 0).1, (HoldO.nil _ 0).1⟩
              · rw [cr_no HD.out]
                exact ⟨(HoldF.nil _ _).2, (HoldF.nil _ _).2, (HoldO.nil _ _).2, fun _ hb => by cases hb⟩
              · exact below_setRow (HG.out w9 HB9.out).2.2 (by omega) _
            | true =>
              have HD : Hid (crOk L S O Z (tt : Int) = true ∧ crR L S O Z (tt : Int) = R) := by
                have e : crOk L S O Z (tt : Int) = true := by rw [HOK.out, hf]
                exact ⟨e, by rw [cr_yes e, HRN.out, ← HNK.out]; rfl⟩
              have HSM : Hid (∀ f ∈ R, f.n.size ≤ 1000000000 ∧ f.d.size ≤ 1000000000) := fun f hm => ⟨by
                have := HFK.out.2.1 f hm
                unfold nmB at this
                simp at this
                omega, by have := tot_mem hm; have := HFK.out.2.2.2; omega⟩
              clear hf
              go_wp2_with fail
              refine (shFiles_any bs B c R D p w9 HS9.out HSR2.out.2.1 (by have := HFK.out.2.2.1; omega) HSM.out).mono ?_
              rintro e wa ⟨va, rfl, hva, hBa⟩
              have HBA : Hid (Below X.heap.size X wa) := HB9.out.trans (hBa.mono HB9.out.size)
              have HSA : Hid (Sh wa bs B c R D p) := HS9.out.below hBa
              have HVA : Hid (HoldF wa w9.heap.size va R) := hva.hold
              clear hva hBa
              go_wp2_with fail
              refine (shFiles_any bs B c R D p wa HSA.out HSR2.out.2.1 (by have := HFK.out.2.2.1; omega) HSM.out).mono ?_
              rintro e wb ⟨vb, rfl, hvb, hBb⟩
              have HBB : Hid (Below X.heap.size X wb) := HBA.out.trans (hBb.mono HBA.out.size)
              have hap : ∀ q, va.ownBlock = some q → vb.ownBlock ≠ some q := fun q hq e => by
                have h1 := (HVA.out.2.lt q hq).2
                have h2 := (hvb.hold.2.lt q e).1
                omega
              have HVA2 : Hid (HoldF wb X.heap.size va R) := (HVA.out.below hBb).base HB9.out.size
              have HVB : Hid (HoldF wb X.heap.size vb R) := hvb.hold.base HBA.out.size
              obtain ⟨au, cu, eu⟩ := HVA2.out.1.slice
              obtain ⟨nR, hnR⟩ : ∃ n, n = R.length := ⟨_, rfl⟩
              rw [← hnR] at eu
              subst eu
              obtain ⟨ax, cx, ex⟩ := HVB.out.1.slice
              rw [← hnR] at ex
              subst ex
              have HAP := (show Hid _ from hap)
              clear hvb hBb hap hnR HVA
              have HR3 : Hid (At3 wb (w.heap.size + 1) 27 (.slice none 0 0) (.slice none 0 0) (.slice none 0 0)) := (HG.out wb HBB.out).2.1
              have HXS : Hid (w.heap.size + 1 < X.heap.size) := lt_of_block (HG.out X (Below.refl _ _)).2.1
              obtain ⟨q, hq, hi6, ho6, h16⟩ := row3 au ax none nR cu nR cx 0 0
              have HKQ : Hid (∀ v, HoldF wb X.heap.size v R → HoldF (wb.setRow (w.heap.size + 1) q) X.heap.size v R) := fun v hv => hv.kept (by simp [World.setRow]) (fun j hj _ => setRow_other _ _ _ _ (by have := HXS.out; omega))
              go_wp2_with (first | (refine wpList_build2 rfl _ _ rfl rfl rfl ?_) | (refine wpList_store_row rfl 27 _ _ rfl (w.heap.size + 1) q rfl (congrArg Value.agg hq.symm) 27 _ HR3.out hi6 ho6 h16 ?_))
              subst hq
              refine bodyPost_ret (v := .tuple #[.agg #[.slice au nR cu, .slice ax nR cx, .slice none 0 0], _]) (results_row_tmp rfl _ _ (w.heap.size + 1) 27 _ _ _ rfl (setRow_heap _ _ _ _ _ _ HR3.out) Try.underlying27 rfl hi6) rfl ⟨_, _, _, ret_val (by rw [HD.out.1]; rfl), ?_, ?_, ?_⟩
              · rw [HD.out.2]
                exact ⟨(HKQ.out _ HVA2.out).1, (HKQ.out _ HVB.out).1, (HoldO.nil _ 0).1⟩
              · rw [HD.out.2]
                exact ⟨(HKQ.out _ HVA2.out).2.base (by have := HXS.out; omega), (HKQ.out _ HVB.out).2.base (by have := HXS.out; omega), (HoldO.nil _ _).2, HAP.out⟩
              · exact below_setRow (HG.out wb HBB.out).2.2 (by omega) _
      · have HD : Hid (crOk L S O Z tn = false) := by show _ = _; unfold crOk; rw [decide_eq_false h0]; simp
        have h0n : tn < 0 := by omega
        have HR3 : Hid (At3 w2 (w.heap.size + 1) 27 (.slice none 0 0) (.slice none 0 0) (.slice none 0 0)) := (HG.out w2 HB2.out).2.1
        obtain ⟨q, hq, hi6, ho6, h16⟩ := row3 none none none 0 0 0 0 0 0
        go_wp2_with (refine wpList_store_row rfl 27 _ _ rfl (w.heap.size + 1) q rfl (congrArg Value.agg hq.symm) 27 _ HR3.out hi6 ho6 h16 ?_)
        subst hq
        refine bodyPost_ret (v := .tuple #[.agg #[.slice none 0 0, .slice none 0 0, .slice none 0 0], _]) (results_row_tmp rfl _ _ (w.heap.size + 1) 27 _ _ _ rfl (setRow_heap _ _ _ _ _ _ HR3.out) Try.underlying27 rfl hi6) rfl ⟨_, _, _, ret_val (by rw [HD.out]; rfl), ?_, ?_, ?_⟩
        · rw [cr_no HD.out]
          exact ⟨(HoldF.nil _ 0).1, (HoldF.nil _ 0).1, (HoldO.nil _ 0).1⟩
        · rw [cr_no HD.out]
          exact ⟨(HoldF.nil _ _).2, (HoldF.nil _ _).2, (HoldO.nil _ _).2, fun _ hb => by cases hb⟩
        · exact below_setRow (HG.out w2 HB2.out).2.2 (by omega) _
end Go.Proofs.Ytbohaefmokbgbaa

namespace Go.Proofs.Ytbohaefmokbgbaa
open Go.RowKit
set_option linter.unusedVariables false

theorem IsU8.below {w w' : World} {a : Option Addr} {len cap : Nat} {Z : Nat → Int} (h : IsU8 w a len cap Z) (hB : Below w.heap.size w w') : IsU8 w' a len cap Z := by
  obtain ⟨h1, h2, h3, h4⟩ := h
  refine ⟨h1, h2, h3, fun hp => ?_⟩
  obtain ⟨b, off, e, hb, hc⟩ := h4 hp
  exact ⟨b, off, e, Nat.lt_of_lt_of_le hb hB.size, fun i hi => (hB.cell (p := ⟨b, off + i, none⟩) hb).trans (hc i hi)⟩
end Go.Proofs.Ytbohaefmokbgbaa

namespace Go.Proofs.Ytbohaefmokbgbaa
open Go.RowKit
set_option linter.unusedVariables false

theorem results_ctt {fn : Func} {p u v : Tmp} {ty : TypeId} (h : fn.results = #[.cell p ty, .tmp u, .tmp v]) (tmps : Array Value) (P : Program) (w : World) :
    (results fn tmps).run P w = ((asAddr (tmps.getD p undef)).run P w).andThen fun a w₁ => ((loadVar ty a).run P w₁).andThen fun x w₂ => .ok (.tuple #[x, tmps.getD u undef, tmps.getD v undef]) w₂ := by
  simp only [results, h]
  simp [Sem.run_bind, Result.andThen]
theorem results_row_tt {P : Program} {fn : Func} {p u v : Tmp} {ty : TypeId} (h : fn.results = #[.cell p ty, .tmp u, .tmp v]) (tmps : Array Value) (w : World) (g : Nat) (t : TypeId) (cs : Array Value) (fr : Nat × Nat) (d : TypeDesc)
    (hp : tmps.getD p undef = .pointer (some ⟨g, 0, none⟩)) (hg : w.heap[g]? = some (.cells cs t fr))
    (hu : P.underlying ty = some d) (hd : (match d with | .struct _ | .array _ _ => true | _ => false) = true) (hi : (P.info? ty).map (·.size) = some cs.size) :
    (results fn tmps).run P w = .ok (.tuple #[.agg cs, tmps.getD u undef, tmps.getD v undef]) w := by
  rw [results_ctt h, hp]
  simp [asAddr, run_loadVar_row w g t ty cs fr d hg hu hd hi, Result.andThen]

def dsU : List Nat := [24, 25, 26, 27, 22, 3, 4]
def slotU (j : Nat) : Nat := dsU.getD j 0
theorem slotU_inj (i j : Nat) (hi : i < 7) (hj : j < 7) (q : slotU i = slotU j) : i = j := by
  have h : ∀ i : Fin 7, ∀ j : Fin 7, slotU i.val = slotU j.val → i.val = j.val := by decide
  exact h ⟨i, hi⟩ ⟨j, hj⟩ q
theorem slotU_mem (i : Nat) (hi : i < 7) : slotU i ∈ dsU := by
  have h : ∀ i : Fin 7, slotU i.val ∈ dsU := by decide
  exact h ⟨i, hi⟩
/-- what the last region's operations have given -/
def UF (b R : Nat) (V : Value) (cs : Array Value) (nm : ByteArray) : Nat → (Nat → Value) → World → Prop
  | 0, f, _ => f 24 = V
  | 1, f, _ => f 25 = .string nm
  | 2, f, _ => f 26 = .pointer (some ⟨R, 0, none⟩)
  | 3, f, _ => ∃ t : ByteArray, t.size ≤ 3 ∧ f 27 = .string t
  | 4, _, w => w.heap[b]? = some (.cells cs 27 (0, 0))
  | 5, f, _ => f 3 = .string nm
  | 6, f, _ => ∃ t : ByteArray, t.size ≤ 3 ∧ f 4 = .string t
  | _, _, _ => True
def depU (j i : Nat) : Bool := match j with
  | 0 => i == 0
  | 1 => i == 1
  | 2 => i == 2
  | 3 => i == 3
  | 4 => i == 4
  | 5 => i == 5
  | 6 => i == 6
  | _ => false
theorem UF.dep {b R : Nat} {V : Value} {cs : Array Value} {nm : ByteArray} {j : Nat} {f f' : Nat → Value} {w : World} (hj : j < 7) (h : UF b R V cs nm j f w) (he : ∀ i, depU j i = true → f (slotU i) = f' (slotU i)) : UF b R V cs nm j f' w := by
  match j, hj, h, he with
  | 0, _, h, he => exact ((he 0 rfl).symm.trans h : f' 24 = V)
  | 1, _, h, he => exact ((he 1 rfl).symm.trans h : f' 25 = _)
  | 2, _, h, he => exact ((he 2 rfl).symm.trans h : f' 26 = _)
  | 3, _, h, he =>
    obtain ⟨t, ht, e⟩ := h
    exact ⟨t, ht, ((he 3 rfl).symm.trans e : f' 27 = _)⟩
  | 4, _, h, he => exact h
  | 5, _, h, he => exact ((he 5 rfl).symm.trans h : f' 3 = _)
  | 6, _, h, he =>
    obtain ⟨t, ht, e⟩ := h
    exact ⟨t, ht, ((he 6 rfl).symm.trans e : f' 4 = _)⟩
theorem UF.at {b R : Nat} {V : Value} {cs : Array Value} {nm : ByteArray} {j : Nat} {f : Nat → Value} {w w' : World} (h : UF b R V cs nm j f w) (hb : j = 4 → w.heap[b]? = some (.cells cs 27 (0, 0)) → w'.heap[b]? = some (.cells cs 27 (0, 0))) : UF b R V cs nm j f w' := by
  match j, h, hb with
  | 0, h, _ => exact h
  | 1, h, _ => exact h
  | 2, h, _ => exact h
  | 3, h, _ => exact h
  | 4, h, hb => exact hb rfl h
  | 5, h, _ => exact h
  | 6, h, _ => exact h
  | (m + 7), _, _ => exact trivial
/-- the world of the last region -/
structure UG (W : World) (a : Option Addr) (len cap R g lo hi : Nat) (x y z : Value) (L S : List Fl) (O : List Dop) (w : World) : Prop where
  dr : Draw W a len cap R w
  at3 : At3 w g 27 x y z
  st : StR lo hi w x y z L S O
  row : ∃ p : Array Value, p.size = 3 ∧ w.heap[W.heap.size]? = some (.cells p 27 (0, 0))
theorem UG.mut {W : World} {a : Option Addr} {len cap R g lo hi : Nat} {x y z : Value} {L S : List Fl} {O : List Dop} {w w' : World} (h : UG W a len cap R g lo hi x y z L S O w) (hd : Draw W a len cap R w') (hM : Mut R w w') (hR : R < lo) (hg : g ≠ R) (hw : W.heap.size ≠ R) : UG W a len cap R g lo hi x y z L S O w' := by
  obtain ⟨p, hp, hb⟩ := h.row
  exact ⟨hd, h.at3.mut hM hg, h.st.mut hM hR, p, hp, (hM.block _ (lt_of_block hb) hw).trans hb⟩
theorem UG.put {W : World} {a : Option Addr} {len cap R g lo hi : Nat} {x y z : Value} {L S : List Fl} {O : List Dop} {w w' : World} {q : Array Value} (h : UG W a len cap R g lo hi x y z L S O w) (h1 : w'.heap[W.heap.size]? = some (.cells q 27 (0, 0))) (hq : q.size = 3) (h2 : ∀ k, k ≠ W.heap.size → w'.heap[k]? = w.heap[k]?) (h3 : w'.heap.size = w.heap.size) (h4 : w'.os = w.os) (h5 : w'.tape = w.tape) (h6 : w'.output = w.output) (hR : W.heap.size ≠ R) (hg : g ≠ W.heap.size) (hlo : W.heap.size < lo) : UG W a len cap R g lo hi x y z L S O w' := by
  obtain ⟨p, hp, hb⟩ := h.dr.box
  have hbl := h.dr.bel
  exact ⟨⟨⟨h4.trans hbl.os, h5.trans hbl.tape, h6.trans hbl.output, by rw [h3]; exact hbl.size, fun k hk => (h2 k (by omega)).trans (hbl.block k hk)⟩, h.dr.new, p, hp, (h2 R (fun e => hR e.symm)).trans hb⟩, (h2 g hg).trans h.at3, h.st.kept (by omega) (fun k k1 k2 => h2 k (by omega)), q, hq, h1⟩

set_option maxRecDepth 10000 in
set_option maxHeartbeats 4000000 in
theorem drawReplace_any {a : Option Addr} {len cap : Nat} {Z : Nat → Int} (W : World) (hU : IsU8 W a len cap Z) (hlen : len ≤ 1048576) :
    Calls Try.prog 7 #[.slice a len cap] W fun e w' => ∃ x y z L S O nm dt, e = .returned (.tuple #[.agg #[x, y, z], .string nm, .string dt]) ∧ RdD w' x y z L S O ∧ NzV z ∧ SmallD L S O ∧ (L.length ≤ 1000 ∧ S.length ≤ 1000 ∧ O.length ≤ 1000) ∧ (nm.size ≤ 1000 ∧ dt.size ≤ 1000) ∧ Below W.heap.size W w' := by
  have HU8 : Hid (IsU8 W a len cap Z) := hU
  obtain ⟨X, hX⟩ : ∃ X, X = W.alloc (.cells #[.slice none 0 0, .slice none 0 0, .slice none 0 0] 27) := ⟨_, rfl⟩
  have HX := (show Hid _ from hX)
  have HBX : Hid (Below W.heap.size W X) := by rw [hX]; exact (Below.refl _ _).alloc (Nat.le_refl _) _
  have HTX : Hid (At3 X W.heap.size 27 (.slice none 0 0) (.slice none 0 0) (.slice none 0 0)) := by rw [hX]; exact At3.new _ _ _ _ _
  clear hX
  go_enter Try.func7, Try.ntmps7
  go_wp2_with fail
  rw [← HX.out]
  refine (open_any a len cap X).mono ?_
  rintro e w1 ⟨rfl, hD1⟩
  have HT1 : Hid (At3 w1 W.heap.size 27 (.slice none 0 0) (.slice none 0 0) (.slice none 0 0)) := HTX.out.below hD1.bel
  obtain ⟨R, hR⟩ : ∃ R, R = X.heap.size := ⟨_, rfl⟩
  rw [← hR] at hD1 ⊢
  have HWR : Hid (W.heap.size < R) := by rw [hR]; exact HTX.out.lt
  have HD1 : Hid (Draw W a len cap R w1) := ⟨HBX.out.trans (hD1.bel.mono HBX.out.size), Nat.le_of_lt HWR.out, hD1.box⟩
  clear hD1 hR HX
  go_wp2_with fail
  refine (disk_any hU w1 HD1.out hlen).mono ?_
  rintro e w2 ⟨x, y, z, L, S, O, rfl, hrs, hnz, hz, hl, hD2, hM2⟩
  have hr := hrs.rd
  obtain ⟨b1, d1, b2, d2, b3, d3, ex, ey, ez⟩ := hr.slices
  obtain ⟨m1, hm1⟩ : ∃ m, m = L.length := ⟨_, rfl⟩
  obtain ⟨m2, hm2⟩ : ∃ m, m = S.length := ⟨_, rfl⟩
  obtain ⟨m3, hm3⟩ : ∃ m, m = O.length := ⟨_, rfl⟩
  rw [← hm1] at ex
  rw [← hm2] at ey
  rw [← hm3] at ez
  subst ex ey ez
  obtain ⟨lo, hlo⟩ : ∃ k, k = w1.heap.size := ⟨_, rfl⟩
  obtain ⟨hi, hhi⟩ : ∃ k, k = w2.heap.size := ⟨_, rfl⟩
  have HOUT : Hid (NzV (.slice b3 m3 d3) ∧ SmallD L S O ∧ (L.length ≤ 1000 ∧ S.length ≤ 1000 ∧ O.length ≤ 1000)) := ⟨hnz, hz, hl⟩
  obtain ⟨w3, hw3⟩ : ∃ X, X = w2.alloc (.cells #[.slice b1 m1 d1, .slice b2 m2 d2, .slice b3 m3 d3] 27) := ⟨_, rfl⟩
  have hB3 : Below w2.heap.size w2 w3 := by rw [hw3]; exact (Below.refl _ _).alloc (Nat.le_refl _) _
  have HLO : Hid (R < lo ∧ W.heap.size < R ∧ lo ≤ hi) := ⟨by rw [hlo]; exact HD1.out.lt, HWR.out, by rw [hlo, hhi]; exact hM2.size⟩
  have HG3 : Hid (UG W a len cap R hi lo hi (.slice b1 m1 d1) (.slice b2 m2 d2) (.slice b3 m3 d3) L S O w3) := by
    refine ⟨hD2.below hB3, by rw [hw3, hhi]; exact At3.new _ _ _ _ _, ?_, _, rfl, (HT1.out.mut hM2 (by have := HWR.out; omega)).below hB3⟩
    rw [← hlo, ← hhi] at hrs
    exact hrs.below hB3
  have HW3 := (show Hid _ from hw3)
  have HHI : Hid (hi = w2.heap.size) := hhi
  have H3L : Hid (R < w3.heap.size) := HG3.out.dr.lt
  have H3S : Hid (w3.heap.size = hi + 1) := by show _ = _; rw [hw3, hhi]; simp
  clear hr hrs hnz hz hl hD2 hM2 hm1 hm2 hm3 hlo hhi hw3 hB3
  go_wp2_with fail
  rw [← HW3.out, ← HHI.out]
  refine (below_any hU 4 (by omega) (by omega) _ (HG3.out.dr.alloc _)).mono ?_
  rintro e w4 ⟨yy, hy0, hy1, rfl, hD4, hM4⟩
  have hc := lit_cells hM4 H3L.out
  have hM34 : Mut R w3 w4 := ((Mut.refl R w3).alloc _).trans hM4
  have HG4 : Hid (UG W a len cap R hi lo hi (.slice b1 m1 d1) (.slice b2 m2 d2) (.slice b3 m3 d3) L S O w4) := HG3.out.mut hD4 hM34 HLO.out.1 (by have := HLO.out; omega) (by have := HLO.out; omega)
  obtain ⟨k, rfl⟩ : ∃ k : Nat, yy = (k : Int) := ⟨yy.toNat, by omega⟩
  have hk : k < 4 := by omega
  have hkI : (k : Int) < 4 := by omega
  rw [H3S.out] at hc
  obtain ⟨nm, hnm, c0⟩ : ∃ nm : ByteArray, nm.size ≤ 8 ∧ w4.cell? ⟨hi + 1, k, none⟩ = some (.string nm) := by
    have : k = 0 ∨ k = 1 ∨ k = 2 ∨ k = 3 := by omega
    rcases this with rfl | rfl | rfl | rfl
    · exact ⟨_, by decide, hc 0⟩
    · exact ⟨_, by decide, hc 1⟩
    · exact ⟨_, by decide, hc 2⟩
    · exact ⟨_, by decide, hc 3⟩
  have HNM : Hid (nm.size ≤ 1000) := by show _ ≤ _; omega
  clear hc hM4 hM34 hD4 hy0 hy1 hnm HW3
  go_wp2_with fail
  refine (once_any hU 12 (by omega) (by omega) w4 HG4.out.dr).mono ?_
  rintro e w5 ⟨on, rfl, hD5, hM5⟩
  have HG5 : Hid (UG W a len cap R hi lo hi (.slice b1 m1 d1) (.slice b2 m2 d2) (.slice b3 m3 d3) L S O w5) := HG4.out.mut hD5 hM5 HLO.out.1 (by have := HLO.out; omega) (by have := HLO.out; omega)
  clear hD5 hM5 c0 hk hkI
  have ent : ∀ args w, (callFunc 30 args).run Try.prog w = .ok (.enter 30 args) w := enters_of Try.func30 (by kernel_rfl) rfl
  have HEN := (show Hid _ from ent)
  clear ent
  cases on with
  | false =>
    have HGZ := HG5
    go_wp2
    refine wp_cut_to (fun a0 t w' => ∃ f, t = canon a0 dsU f ∧ f 3 = .string nm ∧ (∃ dt : ByteArray, dt.size ≤ 3 ∧ f 4 = .string dt) ∧ At3 w' W.heap.size 27 (.slice b1 m1 d1) (.slice b2 m2 d2) (.slice b3 m3 d3) ∧ RdD w' (.slice b1 m1 d1) (.slice b2 m2 d2) (.slice b3 m3 d3) L S O ∧ Below W.heap.size W w') ?_ ?_
    rotate_left
    · intro J K' hJ hK
      refine wp_letter ?_
      intro fr hfr
      have hsz : 27 < fr.tmps.size := by rw [hfr]; exact Nat.le_of_ble_eq_true rfl
      have t2 : fr.eval (.tmp 2) = .pointer (some ⟨W.heap.size, 0, none⟩) := by rw [hfr]; rfl
      have t5 : fr.eval (.tmp 5) = .pointer (some ⟨R, 0, none⟩) := by rw [hfr]; rfl
      have t6 : fr.eval (.tmp 6) = .pointer (some ⟨hi, 0, none⟩) := by rw [hfr]; rfl
      have t7 : fr.eval (.tmp 7) = .string nm := by rw [hfr]; rfl
      have HFR := (show Hid _ from hfr)
      clear hfr
      have hlo := HLO.out
      refine wp_region_gen (by kernel_rfl) (by kernel_rfl) dsU slotU (UF W.heap.size R (.agg #[.slice b1 m1 d1, .slice b2 m2 d2, .slice b3 m3 d3]) #[.slice b1 m1 d1, .slice b2 m2 d2, .slice b3 m3 d3] nm) (UG W a len cap R hi lo hi (.slice b1 m1 d1) (.slice b2 m2 d2) (.slice b3 m3 d3) L S O) ⟨HGZ.out.dr.drewN 1, HGZ.out.at3, HGZ.out.st.kept (Nat.le_refl _) (fun _ _ _ => rfl), HGZ.out.row⟩ ?_ ?_ ?_ ?_ ?_
      · intro j f f' wy hj he h
        exact h.dep hj (fun i hi => he i (by revert hi; match j, hj with | 0, _ => (intro hi; simp only [depU, beq_iff_eq] at hi; rcases hi with rfl <;> kernel_rfl) | 1, _ => (intro hi; simp only [depU, beq_iff_eq] at hi; rcases hi with rfl <;> kernel_rfl) | 2, _ => (intro hi; simp only [depU, beq_iff_eq] at hi; rcases hi with rfl <;> kernel_rfl) | 3, _ => (intro hi; simp only [depU, beq_iff_eq] at hi; rcases hi with rfl <;> kernel_rfl) | 4, _ => (intro hi; simp only [depU, beq_iff_eq] at hi; rcases hi with rfl <;> kernel_rfl) | 5, _ => (intro hi; simp only [depU, beq_iff_eq] at hi; rcases hi with rfl <;> kernel_rfl) | 6, _ => (intro hi; simp only [depU, beq_iff_eq] at hi; rcases hi with rfl <;> kernel_rfl)))
      · intro i hi
        exact slotU_mem i hi
      · intro i j hi hj q
        exact slotU_inj i j hi hj q
      · intro ops hops done f wy j oo hG ho hdn hd
        have ho2 := ho
        rw [hops] at ho
        have hj : j < 7 := by
          rcases Nat.lt_or_ge j 7 with h | h
          · exact h
          · rw [Array.getElem?_eq_none (by simpa using h)] at ho; cases ho
        have N2 := (canon_eval_ne fr dsU f 2 (by decide)).trans t2
        have N5 := (canon_eval_ne fr dsU f 5 (by decide)).trans t5
        have N6 := (canon_eval_ne fr dsU f 6 (by decide)).trans t6
        have N7 := (canon_eval_ne fr dsU f 7 (by decide)).trans t7
        have hj' : j = 0 ∨ j = 1 ∨ j = 2 ∨ j = 3 ∨ j = 4 ∨ j = 5 ∨ j = 6 := by omega
        rcases hj' with rfl | rfl | rfl | rfl | rfl | rfl | rfl <;> simp only [List.getElem?_toArray, List.getElem?_cons_succ, List.getElem?_cons_zero, Option.some.injEq] at ho <;> subst ho
        · refine wpOp_runG ho2 (wanted_none rfl) (q_load31 (canon fr dsU f).eval _ wy _ hi rfl N6 hG.at3.c0 hG.at3.c1 hG.at3.c2) ?_
          exact ⟨_, rfl, upd_same f 24 _, hG, fun j _ _ h => h⟩
        · refine wpOp_runG ho2 (wanted_none rfl) (q_moveD (canon fr dsU f).eval _ wy _ rfl) ?_
          exact ⟨_, rfl, (upd_same f 25 _).trans N7, hG, fun j _ _ h => h⟩
        · refine wpOp_runG ho2 (wanted_none rfl) (q_moveD (canon fr dsU f).eval _ wy _ rfl) ?_
          exact ⟨_, rfl, (upd_same f 26 _).trans N5, hG, fun j _ _ h => h⟩
        · refine wpOp_enterG ho2 (wanted_none rfl) (q_call1I (canon fr dsU f).eval _ wy _ HEN.out _ _ rfl rfl) ?_
          rw [(canon_eval fr dsU f 26 (by decide) (Nat.lt_of_le_of_lt (by decide) hsz)).trans (hd ⟨2, .data⟩ (by simp) rfl)]
          refine (text_any HU8.out wy hG.dr).mono ?_
          rintro e wv ⟨t, ht, rfl, hDv, hMv⟩
          refine ⟨_, rfl, _, rfl, ⟨t, ht, upd_same f 27 _⟩, hG.mut hDv hMv hlo.1 (by omega) (by omega), fun j _ _ h => h.at (fun _ hb => (hMv.block _ (lt_of_block hb) (by omega)).trans hb)⟩
        · obtain ⟨p, hp, hb⟩ := hG.row
          refine wpOp_storeD ho2 (wanted_none rfl) _ _ W.heap.size rfl N2 ((canon_eval fr dsU f 24 (by decide) (Nat.lt_of_le_of_lt (by decide) hsz)).trans (hd ⟨0, .data⟩ (by simp) rfl)) hp hb ?_
          intro wv hz1 hz2 hz3 hz4 hz5 hz6
          refine ⟨f 22, (put_same fr dsU f 22 (by decide)).symm, hz1, hG.put hz1 rfl hz2 hz3 hz4 hz5 hz6 (by omega) (by omega) (by omega), fun j _ _ h => h.at (fun _ _ => hz1)⟩
        · refine wpOp_runG ho2 (wanted_none rfl) (q_assignC (canon fr dsU f).eval _ wy _ rfl) ?_
          exact ⟨_, rfl, (upd_same f 3 _).trans ((canon_eval fr dsU f 25 (by decide) (Nat.lt_of_le_of_lt (by decide) hsz)).trans (hd ⟨1, .data⟩ (by simp) rfl)), hG, fun j _ _ h => h⟩
        · refine wpOp_runG ho2 (wanted_none rfl) (q_assignC (canon fr dsU f).eval _ wy _ rfl) ?_
          obtain ⟨t, ht, e⟩ := hd ⟨3, .data⟩ (by simp) rfl
          exact ⟨_, rfl, ⟨t, ht, (upd_same f 4 _).trans ((canon_eval fr dsU f 27 (by decide) (Nat.lt_of_le_of_lt (by decide) hsz)).trans e)⟩, hG, fun j _ _ h => h⟩
      · intro f wy hG hall
        exact hK _ _ (Met.intro (hJ _ _ ⟨f, congrArg (fun z => canon z dsU f) HFR.out, hall 5 (by decide), hall 6 (by decide), hall 4 (by decide), hG.st.rd, hG.dr.bel⟩))
    rintro _ wf ⟨f, rfl, h3, ⟨dt, hdt, h4⟩, hat, hrd, hbf⟩
    simp only [canon, dsU, List.foldl, Act.put, List.setIfInBounds_toArray, List.set_cons_succ, List.set_cons_zero]
    rw [h3, h4]
    have HF2 := (show Hid _ from hat)
    have HFS : Hid (RdD wf (.slice b1 m1 d1) (.slice b2 m2 d2) (.slice b3 m3 d3) L S O) := hrd
    have HFB := (show Hid _ from hbf)
    have HDT : Hid (dt.size ≤ 1000) := by show _ ≤ _; omega
    clear hat hrd hbf h3 h4 hdt
    go_wp2
    exact bodyPost_ret (results_row_tt rfl _ _ W.heap.size 27 _ _ _ rfl HF2.out Try.underlying27 rfl infoDk) rfl ⟨_, _, _, L, S, O, nm, dt, rfl, HFS.out, HOUT.out.1, HOUT.out.2.1, HOUT.out.2.2, ⟨HNM.out, HDT.out⟩, HFB.out⟩
  | true =>
    go_wp2_with fail
    refine (below_any hU 4 (by omega) (by omega) w5 HG5.out.dr).mono ?_
    rintro e w6 ⟨y9, hz0, hz1, rfl, hD6, hM6⟩
    have HG6 : Hid (UG W a len cap R hi lo hi (.slice b1 m1 d1) (.slice b2 m2 d2) (.slice b3 m3 d3) L S O w6) := HG5.out.mut hD6 hM6 HLO.out.1 (by have := HLO.out; omega) (by have := HLO.out; omega)
    obtain ⟨nb, hnb⟩ : ∃ nb : Nat, (nb : Int) = 95 + y9 := ⟨(95 + y9).toNat, by omega⟩
    have hnb1 : nb ≤ 1000 := by omega
    have hsub : IntKind.i64.wrap (95 + y9) = (nb : Int) := by rw [IntKind.wrap_i64]; omega
    have hsub2 : (95 : Int) + y9 = (nb : Int) := hnb.symm
    clear hD6 hM6 hz0 hz1
    obtain ⟨i0, hiI, hz0, hz1, hz2⟩ := info_parts infoU8
    have hb2 : i0.bytes * nb ≤ 281474976710656 := by rw [hz2]; omega
    have hb3 : nb ≤ maxLen := by unfold maxLen; omega
    have HNB : Hid (nb ≤ 1000) := hnb1
    clear hnb
    go_wp2_with (
      (at_make
       refine wpList_make_full _ rfl _ _ 22 rfl w6.heap.size 5 i0 (.int .u8 0) 1 Try.underlying22 hiI hz0 hz1 .i64 .i64 _ _ nb rfl rfl (by first | rfl | exact hsub2) (by first | rfl | exact hsub2) hb2 hb3 (Nat.le_refl _) ?_
       intro w7 hown hgrow
       have hB7 : Below w6.heap.size w6 w7 := (Below.refl _ w6).grown hgrow (Nat.le_refl _) (fun k hk => by cases hk)
       rw [made_u8 nb] at hown
       have hcv := big_string hown
       obtain ⟨zs, hzs⟩ : ∃ zs, zs = zeroS nb := ⟨_, rfl⟩
       rw [← hzs] at hcv
       have HZS : Hid (zs.size ≤ 1000) := by show _ ≤ _; rw [hzs, zeroS_size]; exact HNB.out
       have HGZ : Hid (UG W a len cap R hi lo hi (.slice b1 m1 d1) (.slice b2 m2 d2) (.slice b3 m3 d3) L S O w7) := HG6.out.mut (HG6.out.dr.below hB7) (Mut.of_below hB7) HLO.out.1 (by have := HLO.out; omega) (by have := HLO.out; omega)
       clear hown hgrow hB7 hzs))
    refine wp_cut_to (fun a0 t w' => ∃ f, t = canon a0 dsU f ∧ f 3 = .string zs ∧ (∃ dt : ByteArray, dt.size ≤ 3 ∧ f 4 = .string dt) ∧ At3 w' W.heap.size 27 (.slice b1 m1 d1) (.slice b2 m2 d2) (.slice b3 m3 d3) ∧ RdD w' (.slice b1 m1 d1) (.slice b2 m2 d2) (.slice b3 m3 d3) L S O ∧ Below W.heap.size W w') ?_ ?_
    rotate_left
    · intro J K' hJ hK
      refine wp_letter ?_
      intro fr hfr
      have hsz : 27 < fr.tmps.size := by rw [hfr]; exact Nat.le_of_ble_eq_true rfl
      have t2 : fr.eval (.tmp 2) = .pointer (some ⟨W.heap.size, 0, none⟩) := by rw [hfr]; rfl
      have t5 : fr.eval (.tmp 5) = .pointer (some ⟨R, 0, none⟩) := by rw [hfr]; rfl
      have t6 : fr.eval (.tmp 6) = .pointer (some ⟨hi, 0, none⟩) := by rw [hfr]; rfl
      have t7 : fr.eval (.tmp 7) = .string zs := by rw [hfr]; rfl
      have HFR := (show Hid _ from hfr)
      clear hfr
      have hlo := HLO.out
      refine wp_region_gen (by kernel_rfl) (by kernel_rfl) dsU slotU (UF W.heap.size R (.agg #[.slice b1 m1 d1, .slice b2 m2 d2, .slice b3 m3 d3]) #[.slice b1 m1 d1, .slice b2 m2 d2, .slice b3 m3 d3] zs) (UG W a len cap R hi lo hi (.slice b1 m1 d1) (.slice b2 m2 d2) (.slice b3 m3 d3) L S O) ⟨HGZ.out.dr.drewN 1, HGZ.out.at3, HGZ.out.st.kept (Nat.le_refl _) (fun _ _ _ => rfl), HGZ.out.row⟩ ?_ ?_ ?_ ?_ ?_
      · intro j f f' wy hj he h
        exact h.dep hj (fun i hi => he i (by revert hi; match j, hj with | 0, _ => (intro hi; simp only [depU, beq_iff_eq] at hi; rcases hi with rfl <;> kernel_rfl) | 1, _ => (intro hi; simp only [depU, beq_iff_eq] at hi; rcases hi with rfl <;> kernel_rfl) | 2, _ => (intro hi; simp only [depU, beq_iff_eq] at hi; rcases hi with rfl <;> kernel_rfl) | 3, _ => (intro hi; simp only [depU, beq_iff_eq] at hi; rcases hi with rfl <;> kernel_rfl) | 4, _ => (intro hi; simp only [depU, beq_iff_eq] at hi; rcases hi with rfl <;> kernel_rfl) | 5, _ => (intro hi; simp only [depU, beq_iff_eq] at hi; rcases hi with rfl <;> kernel_rfl) | 6, _ => (intro hi; simp only [depU, beq_iff_eq] at hi; rcases hi with rfl <;> kernel_rfl)))
      · intro i hi
        exact slotU_mem i hi
      · intro i j hi hj q
        exact slotU_inj i j hi hj q
      · intro ops hops done f wy j oo hG ho hdn hd
        have ho2 := ho
        rw [hops] at ho
        have hj : j < 7 := by
          rcases Nat.lt_or_ge j 7 with h | h
          · exact h
          · rw [Array.getElem?_eq_none (by simpa using h)] at ho; cases ho
        have N2 := (canon_eval_ne fr dsU f 2 (by decide)).trans t2
        have N5 := (canon_eval_ne fr dsU f 5 (by decide)).trans t5
        have N6 := (canon_eval_ne fr dsU f 6 (by decide)).trans t6
        have N7 := (canon_eval_ne fr dsU f 7 (by decide)).trans t7
        have hj' : j = 0 ∨ j = 1 ∨ j = 2 ∨ j = 3 ∨ j = 4 ∨ j = 5 ∨ j = 6 := by omega
        rcases hj' with rfl | rfl | rfl | rfl | rfl | rfl | rfl <;> simp only [List.getElem?_toArray, List.getElem?_cons_succ, List.getElem?_cons_zero, Option.some.injEq] at ho <;> subst ho
        · refine wpOp_runG ho2 (wanted_none rfl) (q_load31 (canon fr dsU f).eval _ wy _ hi rfl N6 hG.at3.c0 hG.at3.c1 hG.at3.c2) ?_
          exact ⟨_, rfl, upd_same f 24 _, hG, fun j _ _ h => h⟩
        · refine wpOp_runG ho2 (wanted_none rfl) (q_moveD (canon fr dsU f).eval _ wy _ rfl) ?_
          exact ⟨_, rfl, (upd_same f 25 _).trans N7, hG, fun j _ _ h => h⟩
        · refine wpOp_runG ho2 (wanted_none rfl) (q_moveD (canon fr dsU f).eval _ wy _ rfl) ?_
          exact ⟨_, rfl, (upd_same f 26 _).trans N5, hG, fun j _ _ h => h⟩
        · refine wpOp_enterG ho2 (wanted_none rfl) (q_call1I (canon fr dsU f).eval _ wy _ HEN.out _ _ rfl rfl) ?_
          rw [(canon_eval fr dsU f 26 (by decide) (Nat.lt_of_le_of_lt (by decide) hsz)).trans (hd ⟨2, .data⟩ (by simp) rfl)]
          refine (text_any HU8.out wy hG.dr).mono ?_
          rintro e wv ⟨t, ht, rfl, hDv, hMv⟩
          refine ⟨_, rfl, _, rfl, ⟨t, ht, upd_same f 27 _⟩, hG.mut hDv hMv hlo.1 (by omega) (by omega), fun j _ _ h => h.at (fun _ hb => (hMv.block _ (lt_of_block hb) (by omega)).trans hb)⟩
        · obtain ⟨p, hp, hb⟩ := hG.row
          refine wpOp_storeD ho2 (wanted_none rfl) _ _ W.heap.size rfl N2 ((canon_eval fr dsU f 24 (by decide) (Nat.lt_of_le_of_lt (by decide) hsz)).trans (hd ⟨0, .data⟩ (by simp) rfl)) hp hb ?_
          intro wv hz1 hz2 hz3 hz4 hz5 hz6
          refine ⟨f 22, (put_same fr dsU f 22 (by decide)).symm, hz1, hG.put hz1 rfl hz2 hz3 hz4 hz5 hz6 (by omega) (by omega) (by omega), fun j _ _ h => h.at (fun _ _ => hz1)⟩
        · refine wpOp_runG ho2 (wanted_none rfl) (q_assignC (canon fr dsU f).eval _ wy _ rfl) ?_
          exact ⟨_, rfl, (upd_same f 3 _).trans ((canon_eval fr dsU f 25 (by decide) (Nat.lt_of_le_of_lt (by decide) hsz)).trans (hd ⟨1, .data⟩ (by simp) rfl)), hG, fun j _ _ h => h⟩
        · refine wpOp_runG ho2 (wanted_none rfl) (q_assignC (canon fr dsU f).eval _ wy _ rfl) ?_
          obtain ⟨t, ht, e⟩ := hd ⟨3, .data⟩ (by simp) rfl
          exact ⟨_, rfl, ⟨t, ht, (upd_same f 4 _).trans ((canon_eval fr dsU f 27 (by decide) (Nat.lt_of_le_of_lt (by decide) hsz)).trans e)⟩, hG, fun j _ _ h => h⟩
      · intro f wy hG hall
        exact hK _ _ (Met.intro (hJ _ _ ⟨f, congrArg (fun z => canon z dsU f) HFR.out, hall 5 (by decide), hall 6 (by decide), hall 4 (by decide), hG.st.rd, hG.dr.bel⟩))
    rintro _ wf ⟨f, rfl, h3, ⟨dt, hdt, h4⟩, hat, hrd, hbf⟩
    simp only [canon, dsU, List.foldl, Act.put, List.setIfInBounds_toArray, List.set_cons_succ, List.set_cons_zero]
    rw [h3, h4]
    have HF2 := (show Hid _ from hat)
    have HFS : Hid (RdD wf (.slice b1 m1 d1) (.slice b2 m2 d2) (.slice b3 m3 d3) L S O) := hrd
    have HFB := (show Hid _ from hbf)
    have HDT : Hid (dt.size ≤ 1000) := by show _ ≤ _; omega
    clear hat hrd hbf h3 h4 hdt
    go_wp2
    exact bodyPost_ret (results_row_tt rfl _ _ W.heap.size 27 _ _ _ rfl HF2.out Try.underlying27 rfl infoDk) rfl ⟨_, _, _, L, S, O, zs, dt, rfl, HFS.out, HOUT.out.1, HOUT.out.2.1, HOUT.out.2.2, ⟨HZS.out, HDT.out⟩, HFB.out⟩
end Go.Proofs.Ytbohaefmokbgbaa
