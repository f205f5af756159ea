/-
  Which of two beats is the later one: the program's comparison and the specification's. No condition.
-/
import Derived.Test.YtnjlegphohmajaaBtA
import Derived.Deep.RegionHeld3
import Derived.Lib.Small
namespace Go.Proofs.Ytnjlegphohmajaa
open Go.RowKit
set_option linter.unusedVariables false

theorem bl_irr : ∀ x : List UInt8, Op.bytesLess x x = false
  | [] => rfl
  | a :: x => by
    rw [Op.bytesLess, bl_irr x]
    simp

theorem bl_tri : ∀ x y : List UInt8, Op.bytesLess x y = false → x ≠ y → Op.bytesLess y x = true
  | [], [], _, h => absurd rfl h
  | [], _ :: _, h, _ => by simp [Op.bytesLess] at h
  | _ :: _, [], _, _ => rfl
  | a :: x, b :: y, h, hne => by
    rw [Op.bytesLess] at h ⊢
    simp only [Bool.or_eq_false_iff, decide_eq_false_iff_not, Bool.and_eq_false_iff] at h
    obtain ⟨h1, h2⟩ := h
    by_cases e : a = b
    · subst e
      have h3 : Op.bytesLess x y = false := by
        rcases h2 with h2 | h2
        · simp at h2
        · exact h2
      have := bl_tri x y h3 (fun h => hne (by rw [h]))
      simp [this]
    · have : b < a := by
        rw [UInt8.lt_iff_toNat_lt] at h1 ⊢
        have hn : a.toNat ≠ b.toNat := fun h => e (UInt8.toNat_inj.1 h)
        omega
      simp [this]

theorem bl_trans : ∀ x y z : List UInt8, Op.bytesLess x y = true → Op.bytesLess y z = true → Op.bytesLess x z = true
  | [], [], _, h, _ => by simp [Op.bytesLess] at h
  | _ :: _, [], _, h, _ => by simp [Op.bytesLess] at h
  | _, _ :: _, [], _, h => by simp [Op.bytesLess] at h
  | [], _ :: _, _ :: _, _, _ => rfl
  | a :: x, b :: y, c :: z, h, h' => by
    rw [Op.bytesLess] at h h' ⊢
    simp only [Bool.or_eq_true, Bool.and_eq_true, decide_eq_true_eq, beq_iff_eq] at h h' ⊢
    rcases h with h | ⟨rfl, h⟩
    · rcases h' with h' | ⟨rfl, h'⟩
      · left
        rw [UInt8.lt_iff_toNat_lt] at h h' ⊢
        omega
      · exact .inl h
    · rcases h' with h' | ⟨rfl, h'⟩
      · exact .inl h'
      · exact .inr ⟨rfl, bl_trans x y z h h'⟩

theorem bl_asym {x y : List UInt8} (h : Op.bytesLess x y = true) : Op.bytesLess y x = false := by
  cases hq : Op.bytesLess y x with
  | false => rfl
  | true =>
    have := bl_trans _ _ _ h hq
    rw [bl_irr] at this
    cases this

/-- texts by their bytes -/
def lessT (p q : ByteArray) : Bool := Op.bytesLess p.toList q.toList
theorem lessT_gt (p q : ByteArray) : (!Op.bytesLess p.toList q.toList && !p.toList == q.toList) = lessT q p := by
  unfold lessT
  cases h : Op.bytesLess p.toList q.toList with
  | true => rw [bl_asym h]; rfl
  | false =>
    by_cases e : p.toList = q.toList
    · rw [e, bl_irr]; simp
    · rw [bl_tri _ _ h e]; simp [e]
/-- x is later than y -/
def later (x y : Ev) : Bool := if x.b = y.b then (if x.c = y.c then lessT y.d x.d else decide (y.c < x.c)) else decide (y.b < x.b)

set_option maxHeartbeats 1000000 in
theorem later_any (x y : Ev) (b : Bool) (hb : later x y = b) (w : World) :
    Calls Try.prog 61 #[.agg #[.int .i64 x.a, .int .i64 x.b, .int .i64 x.c, .string x.d], .agg #[.int .i64 y.a, .int .i64 y.b, .int .i64 y.c, .string y.d]] w fun e w' => e = .returned (.bool b) ∧ Below w.heap.size w w' := by
  have HB : Hid (∀ o o', Below w.heap.size w ((w.alloc o).alloc o')) := fun o o' => ((Below.refl _ _).alloc (Nat.le_refl _) _).alloc (by simp) _
  subst hb
  by_cases h1 : x.b = y.b
  · have e1 : (x.b != y.b) = false := by simp [h1]
    by_cases h2 : x.c = y.c
    · have e2 : (x.c != y.c) = false := by simp [h2]
      have hr : Hid (later x y = (!Op.bytesLess x.d.toList y.d.toList && !x.d.toList == y.d.toList)) := by show _ = _; unfold later; rw [if_pos h1, if_pos h2, lessT_gt]
      clear h1 h2
      go_enter Try.func61, Try.ntmps61
      go_wp2
      go_ret
      exact ⟨ret_bool hr.out.symm, HB.out _ _⟩
    · have e2 : (x.c != y.c) = true := by simp [h2]
      have hr : Hid (later x y = decide (y.c < x.c)) := by show _ = _; unfold later; rw [if_pos h1, if_neg h2]
      clear h1 h2
      go_enter Try.func61, Try.ntmps61
      go_wp2
      go_ret
      exact ⟨ret_bool hr.out.symm, HB.out _ _⟩
  · have e1 : (x.b != y.b) = true := by simp [h1]
    have hr : Hid (later x y = decide (y.b < x.b)) := by show _ = _; unfold later; rw [if_neg h1]
    clear h1
    go_enter Try.func61, Try.ntmps61
    go_wp2
    go_ret
    exact ⟨ret_bool hr.out.symm, HB.out _ _⟩

theorem nan_any (n : Int) (w : World) : Calls Try.prog 76 #[.int .i64 n] w fun e w' => e = .returned (.bool false) ∧ w' = w := by
  have e1 : (n != n) = false := by simp
  go_enter Try.func76, Try.ntmps76
  go_wp2
  go_ret
  exact ⟨rfl, rfl⟩

theorem compare_any (p q : Int) (w : World) : Calls Try.prog 70 #[.int .i64 p, .int .i64 q] w fun e w' => e = .returned (.int .i64 (Lib.compareInt p q)) ∧ w' = w := by
  by_cases h1 : p < q
  · have hr : Hid (Lib.compareInt p q = -1) := by show _ = _; unfold Lib.compareInt; rw [if_pos h1]
    go_enter Try.func70, Try.ntmps70
    go_wp2_with (go_at_call 76; refine (nan_any _ _).mono ?_; rintro e w1 ⟨rfl, rfl⟩)
    go_ret
    exact ⟨ret_int hr.out.symm, rfl⟩
  · have h1' : decide (p < q) = false := by simpa using h1
    by_cases h2 : q < p
    · have hr : Hid (Lib.compareInt p q = 1) := by show _ = _; unfold Lib.compareInt; rw [if_neg h1, if_pos h2]
      clear h1
      go_enter Try.func70, Try.ntmps70
      go_wp2_with (go_at_call 76; refine (nan_any _ _).mono ?_; rintro e w1 ⟨rfl, rfl⟩)
      go_ret
      exact ⟨ret_int hr.out.symm, rfl⟩
    · have hr : Hid (Lib.compareInt p q = 0) := by show _ = _; unfold Lib.compareInt; rw [if_neg h1, if_neg h2]
      have h2' : decide (q < p) = false := by simpa using h2
      clear h1 h2
      go_enter Try.func70, Try.ntmps70
      go_wp2_with (go_at_call 76; refine (nan_any _ _).mono ?_; rintro e w1 ⟨rfl, rfl⟩)
      go_ret
      exact ⟨ret_int hr.out.symm, rfl⟩


theorem nanS_any (n : ByteArray) (w : World) : Calls Try.prog 77 #[.string n] w fun e w' => e = .returned (.bool false) ∧ w' = w := by
  have e1 : (n.toList != n.toList) = false := by simp
  go_enter Try.func77, Try.ntmps77
  go_wp2
  go_ret
  exact ⟨rfl, rfl⟩

def cmpT (p q : ByteArray) : Int := if lessT p q = true then -1 else if lessT q p = true then 1 else 0

theorem compareS_any (p q : ByteArray) (w : World) : Calls Try.prog 71 #[.string p, .string q] w fun e w' => e = .returned (.int .i64 (cmpT p q)) ∧ w' = w := by
  cases h1 : lessT p q with
  | true =>
    have hr : Hid (cmpT p q = -1) := by show _ = _; unfold cmpT; rw [if_pos h1]
    unfold lessT at h1
    go_enter Try.func71, Try.ntmps71
    go_wp2_with (go_at_call 77; refine (nanS_any _ _).mono ?_; rintro e w1 ⟨rfl, rfl⟩)
    go_ret
    exact ⟨ret_int hr.out.symm, rfl⟩
  | false =>
    cases h2 : lessT q p with
    | true =>
      have hr : Hid (cmpT p q = 1) := by show _ = _; unfold cmpT; rw [if_neg (by rw [h1]; decide), if_pos h2]
      have h3 := lessT_gt p q
      rw [h2] at h3
      unfold lessT at h1
      rw [h1] at h3
      have h4 : (!p.toList == q.toList) = true := by simpa using h3
      clear h3 h2
      go_enter Try.func71, Try.ntmps71
      go_wp2_with (go_at_call 77; refine (nanS_any _ _).mono ?_; rintro e w1 ⟨rfl, rfl⟩)
      go_ret
      exact ⟨ret_int hr.out.symm, rfl⟩
    | false =>
      have hr : Hid (cmpT p q = 0) := by show _ = _; unfold cmpT; rw [if_neg (by rw [h1]; decide), if_neg (by rw [h2]; decide)]
      have h3 := lessT_gt p q
      rw [h2] at h3
      unfold lessT at h1
      rw [h1] at h3
      have h4 : (!p.toList == q.toList) = false := by simpa using h3
      clear h3 h2
      go_enter Try.func71, Try.ntmps71
      go_wp2_with (go_at_call 77; refine (nanS_any _ _).mono ?_; rintro e w1 ⟨rfl, rfl⟩)
      go_ret
      exact ⟨ret_int hr.out.symm, rfl⟩

def orI (r0 r1 r2 : Int) : Int := if r0 = 0 then (if r1 = 0 then r2 else r1) else r0

theorem or_any (B : Nat) (r0 r1 r2 : Int) (w : World) (c0 : w.cell? ⟨B, 0, none⟩ = some (.int .i64 r0)) (c1 : w.cell? ⟨B, 1, none⟩ = some (.int .i64 r1)) (c2 : w.cell? ⟨B, 2, none⟩ = some (.int .i64 r2)) :
    Calls Try.prog 69 #[.slice (some ⟨B, 0, none⟩) 3 3] w fun e w' => e = .returned (.int .i64 (orI r0 r1 r2)) ∧ w' = w := by
  by_cases h0 : r0 = 0
  · have e0 : (r0 != 0) = false := by simp [h0]
    by_cases h1 : r1 = 0
    · have e1 : (r1 != 0) = false := by simp [h1]
      have hr : Hid (orI r0 r1 r2 = r2) := by show _ = _; unfold orI; rw [if_pos h0, if_pos h1]
      by_cases h2 : r2 = 0
      · have e2 : (r2 != 0) = false := by simp [h2]
        have H2 : Hid (r2 = 0) := h2
        clear h0 h1 h2
        go_enter Try.func69, Try.ntmps69
        go_wp2
        refine wp_loop_rounds 4 ?_
        rw [rounds_succ]; go_wp2
        rw [rounds_succ]; go_wp2
        rw [rounds_succ]; go_wp2
        rw [rounds_succ]; go_wp2
        go_ret
        exact ⟨ret_int (by rw [hr.out, H2.out]), rfl⟩
      · have e2 : (r2 != 0) = true := by simp [h2]
        clear h0 h1 h2
        go_enter Try.func69, Try.ntmps69
        go_wp2
        refine wp_loop_rounds 4 ?_
        rw [rounds_succ]; go_wp2
        rw [rounds_succ]; go_wp2
        rw [rounds_succ]; go_wp2
        go_ret
        exact ⟨ret_int hr.out.symm, rfl⟩
    · have e1 : (r1 != 0) = true := by simp [h1]
      have hr : Hid (orI r0 r1 r2 = r1) := by show _ = _; unfold orI; rw [if_pos h0, if_neg h1]
      clear h0 h1
      go_enter Try.func69, Try.ntmps69
      go_wp2
      refine wp_loop_rounds 4 ?_
      rw [rounds_succ]; go_wp2
      rw [rounds_succ]; go_wp2
      go_ret
      exact ⟨ret_int hr.out.symm, rfl⟩
  · have e0 : (r0 != 0) = true := by simp [h0]
    have hr : Hid (orI r0 r1 r2 = r0) := by show _ = _; unfold orI; rw [if_neg h0]
    clear h0
    go_enter Try.func69, Try.ntmps69
    go_wp2
    refine wp_loop_rounds 4 ?_
    rw [rounds_succ]; go_wp2
    go_ret
    exact ⟨ret_int hr.out.symm, rfl⟩

theorem cmpI_zero (p q : Int) : Lib.compareInt p q = 0 ↔ p = q := by
  unfold Lib.compareInt
  by_cases h1 : p < q
  · simp [h1]; omega
  · by_cases h2 : q < p
    · simp [h1, h2]; omega
    · simp [h1, h2]; omega
theorem cmpI_lt (p q : Int) : decide (Lib.compareInt p q < 0) = decide (p < q) := by
  unfold Lib.compareInt
  by_cases h1 : p < q
  · simp [h1]
  · by_cases h2 : q < p <;> simp [h1, h2]
/-- the program's comparison -/
def cmpE (x y : Ev) : Int := orI (Lib.compareInt x.b y.b) (Lib.compareInt x.c y.c) (cmpT x.d y.d)
theorem cmpT_lt (p q : ByteArray) : decide (cmpT p q < 0) = lessT p q := by
  unfold cmpT
  cases h1 : lessT p q with
  | true => simp
  | false => cases h2 : lessT q p <;> simp
theorem cmpE_lt (x y : Ev) : decide (cmpE y x < 0) = later x y := by
  unfold cmpE orI later
  simp only [cmpI_zero]
  by_cases h1 : y.b = x.b
  · rw [if_pos h1, if_pos h1.symm]
    by_cases h2 : y.c = x.c
    · rw [if_pos h2, if_pos h2.symm]; exact cmpT_lt _ _
    · rw [if_neg h2, if_neg (fun h => h2 h.symm)]; exact cmpI_lt _ _
  · rw [if_neg h1, if_neg (fun h => h1 h.symm)]; exact cmpI_lt _ _

set_option maxHeartbeats 2000000 in
theorem cmpEv_any (x y : Ev) (w : World) :
    Calls Try.prog 59 #[.agg #[.int .i64 x.a, .int .i64 x.b, .int .i64 x.c, .string x.d], .agg #[.int .i64 y.a, .int .i64 y.b, .int .i64 y.c, .string y.d]] w fun e w' => e = .returned (.int .i64 (cmpE x y)) ∧ Below w.heap.size w w' := by
  have HB : Hid (∀ o o', Below w.heap.size w ((w.alloc o).alloc o')) := fun o o' => ((Below.refl _ _).alloc (Nat.le_refl _) _).alloc (by simp) _
  go_enter Try.func59, Try.ntmps59
  go_wp2
  obtain ⟨W, hW⟩ : ∃ W, W = (w.alloc (.cells #[.int .i64 x.a, .int .i64 x.b, .int .i64 x.c, .string x.d] 32)).alloc (.cells #[.int .i64 y.a, .int .i64 y.b, .int .i64 y.c, .string y.d] 32) := ⟨_, rfl⟩
  rw [← hW]
  have hBW : Below w.heap.size w W := by rw [hW]; exact HB.out _ _
  have g1 : W.heap[w.heap.size]? = some (.cells #[.int .i64 x.a, .int .i64 x.b, .int .i64 x.c, .string x.d] 32) := by
    rw [hW, Below.heap_alloc _ _ _ (by simp)]
    exact heap_alloc_new _ _
  have g2 : W.heap[w.heap.size + 1]? = some (.cells #[.int .i64 y.a, .int .i64 y.b, .int .i64 y.c, .string y.d] 32) := by
    rw [hW]
    have := heap_alloc_new (w.alloc (.cells #[.int .i64 x.a, .int .i64 x.b, .int .i64 x.c, .string x.d] 32)) (.cells #[.int .i64 y.a, .int .i64 y.b, .int .i64 y.c, .string y.d] 32)
    simpa using this
  clear hW
  have a1 : W.cell? ⟨w.heap.size, 1, none⟩ = some (.int .i64 x.b) := cellN g1
  have a2 : W.cell? ⟨w.heap.size, 2, none⟩ = some (.int .i64 x.c) := cellN g1
  have a3 : W.cell? ⟨w.heap.size, 3, none⟩ = some (.string x.d) := cellN g1
  have b1 : W.cell? ⟨w.heap.size + 1, 1, none⟩ = some (.int .i64 y.b) := cellN g2
  have b2 : W.cell? ⟨w.heap.size + 1, 2, none⟩ = some (.int .i64 y.c) := cellN g2
  have b3 : W.cell? ⟨w.heap.size + 1, 3, none⟩ = some (.string y.d) := cellN g2
  have HBW : Hid (Below w.heap.size w W) := hBW
  clear g1 g2 hBW
  go_region_held3 (fun w' => w'.cell? ⟨w.heap.size, 1, none⟩ = some (.int .i64 x.b) ∧ w'.cell? ⟨w.heap.size, 2, none⟩ = some (.int .i64 x.c) ∧ w'.cell? ⟨w.heap.size, 3, none⟩ = some (.string x.d) ∧ w'.cell? ⟨w.heap.size + 1, 1, none⟩ = some (.int .i64 y.b) ∧ w'.cell? ⟨w.heap.size + 1, 2, none⟩ = some (.int .i64 y.c) ∧ w'.cell? ⟨w.heap.size + 1, 3, none⟩ = some (.string y.d)) (go_keep) ((first | (go_at_call 70; refine (compare_any _ _ _).mono ?_; rintro e w1 ⟨rfl, rfl⟩) | (go_at_call 71; refine (compareS_any _ _ _).mono ?_; rintro e w1 ⟨rfl, rfl⟩) | (go_at_call 69; refine (or_any _ (Lib.compareInt x.b y.b) (Lib.compareInt x.c y.c) (cmpT x.d y.d) _ (cellN (heap_alloc_new _ _)) (cellN (heap_alloc_new _ _)) (cellN (heap_alloc_new _ _))).mono ?_; rintro e w1 ⟨rfl, rfl⟩)))
  go_wp2
  go_ret
  exact ⟨rfl, (HBW.out.alloc HBW.out.size _).drew⟩
end Go.Proofs.Ytnjlegphohmajaa
