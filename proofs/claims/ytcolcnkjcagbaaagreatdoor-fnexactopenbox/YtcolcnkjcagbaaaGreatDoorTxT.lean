/-
  The program's text() of a term, by the interface's method: the term's text. No condition but that the term is right and that the table of powers of ten lies.
-/
import Derived.Test.YtcolcnkjcagbaaaGreatDoorTxF
import Derived.Test.YtcolcnkjcagbaaaGreatDoorPr
namespace Go.Proofs.YtcolcnkjcagbaaaGreatDoor
open Go.RowKit
set_option linter.unusedVariables false

def Tr.ty : Tr → TypeId
  | ⟨.inl (_, _)⟩ => 104
  | ⟨.inr (.inl _)⟩ => 189
  | ⟨.inr (.inr (.inl (_, _)))⟩ => 191
  | ⟨.inr (.inr (.inr (_, _, _)))⟩ => 106
def Tr.inn : Tr → Value
  | ⟨.inl (k, n)⟩ => .agg #[.int .i64 k, .int .i64 n]
  | ⟨.inr (.inl t)⟩ => .agg #[t.val]
  | ⟨.inr (.inr (.inl (t, u)))⟩ => .agg #[t.val, u.val]
  | ⟨.inr (.inr (.inr (k, n, t)))⟩ => .agg #[.int .i64 k, .int .i64 n, t.val]
theorem Tr.val_is : ∀ t : Tr, t.val = .iface t.ty t.inn
  | ⟨.inl (k, n)⟩ => by rw [Tr.val, Tr.ty, Tr.inn]
  | ⟨.inr (.inl t)⟩ => by rw [Tr.val, Tr.ty, Tr.inn]
  | ⟨.inr (.inr (.inl (t, u)))⟩ => by rw [Tr.val, Tr.ty, Tr.inn]
  | ⟨.inr (.inr (.inr (k, n, t)))⟩ => by rw [Tr.val, Tr.ty, Tr.inn]
def Tr.tf : Tr → FuncId
  | ⟨.inl (_, _)⟩ => 114
  | ⟨.inr (.inl _)⟩ => 175
  | ⟨.inr (.inr (.inl (_, _)))⟩ => 177
  | ⟨.inr (.inr (.inr (_, _, _)))⟩ => 159
theorem mTextL (v : Value) (w : World) : (method 348 104 v "loop.example/g00318/impl.text").run Tryz.prog w = .ok (114, v) w := by kernel_rfl
theorem mTextH (v : Value) (w : World) : (method 348 189 v "loop.example/g00318/impl.text").run Tryz.prog w = .ok (175, v) w := by kernel_rfl
theorem mTextP (v : Value) (w : World) : (method 348 191 v "loop.example/g00318/impl.text").run Tryz.prog w = .ok (177, v) w := by kernel_rfl
theorem mTextK (v : Value) (w : World) : (method 348 106 v "loop.example/g00318/impl.text").run Tryz.prog w = .ok (159, v) w := by kernel_rfl
theorem mText (t : Tr) (w : World) : (method 348 t.ty t.inn "loop.example/g00318/impl.text").run Tryz.prog w = .ok (t.tf, t.inn) w := by
  obtain ⟨x⟩ := t
  rcases x with ⟨k, n⟩ | t | ⟨t, u⟩ | ⟨k, n, t⟩
  · rw [Tr.ty, Tr.tf]; exact mTextL _ w
  · rw [Tr.ty, Tr.tf]; exact mTextH _ w
  · rw [Tr.ty, Tr.tf]; exact mTextP _ w
  · rw [Tr.ty, Tr.tf]; exact mTextK _ w

theorem enText (t : Tr) : ∀ args w, (callFunc t.tf args).run Tryz.prog w = .ok (.enter t.tf args) w := by
  obtain ⟨x⟩ := t
  rcases x with ⟨k, n⟩ | t | ⟨t, u⟩ | ⟨k, n, t⟩
  · rw [Tr.tf]; exact enters_of Tryz.func114 (by kernel_rfl) rfl
  · rw [Tr.tf]; exact enters_of Tryz.func175 (by kernel_rfl) rfl
  · rw [Tr.tf]; exact enters_of Tryz.func177 (by kernel_rfl) rfl
  · rw [Tr.tf]; exact enters_of Tryz.func159 (by kernel_rfl) rfl
theorem letB_size (k : Nat) : (letB k).size ≤ 8 := by
  unfold letB
  rw [ByteArray.size_extract]
  have : (⟨#[63, 97, 107, 118, 104, 112, 101, 115]⟩ : ByteArray).size = 8 := rfl
  omega
theorem letB_head {k : Nat} (hk : k = 1 ∨ k = 2 ∨ k = 3) : letB k = Tr.head k := by
  rcases hk with rfl | rfl | rfl <;> rfl

set_option maxRecDepth 4000 in
set_option maxHeartbeats 2000000 in
theorem leafText_any (k n : Nat) (hk : k ≤ 7) (hn : n ≤ 999) (w : World) (hP : Pow w) :
    Calls Tryz.prog 114 #[.agg #[.int .i64 k, .int .i64 n]] w fun e w' => e = .returned (.string (letB k ++ decB n)) ∧ Below w.heap.size w w' := by
  obtain ⟨W, hW⟩ : ∃ W, W = w.alloc (.cells #[.int .i64 k, .int .i64 n] 104) := ⟨_, rfl⟩
  have hB : Below w.heap.size w W := by rw [hW]; exact (Below.refl _ _).alloc (Nat.le_refl _) _
  have g : W.heap[w.heap.size]? = some (.cells #[.int .i64 k, .int .i64 n] 104 (0, 0)) := by rw [hW]; exact heap_alloc_new _ _
  have HB : Hid (Below w.heap.size w W) := hB
  obtain ⟨L, hL⟩ : ∃ L, L = letB k := ⟨_, rfl⟩
  obtain ⟨D, hD⟩ : ∃ D, D = decB n := ⟨_, rfl⟩
  have HLt : Hid (∀ s : Later W, Calls Tryz.prog 120 #[.int .i64 k] s.val fun e w' => e = .returned (.string L) ∧ Below s.val.heap.size s.val w') := fun s => (letterOf_any k hk s.val).mono fun e w' h => ⟨by rw [hL]; exact h.1, by rw [h.2]; exact Below.refl _ _⟩
  have HFm : Hid (∀ s : Later W, Calls Tryz.prog 121 #[.int .i64 n, .int .i64 10] s.val fun e w' => e = .returned (.string D) ∧ Below s.val.heap.size s.val w') := fun s => by rw [hD]; exact fmt_any n (by omega) s.val ((hP.below hB).below s.ok)
  have p0 : ∀ s : Later W, s.val.cell? ⟨w.heap.size, 0, none⟩ = some (.int .i64 k) := fun s => s.cell (cellN g)
  have p1 : ∀ s : Later W, s.val.cell? ⟨w.heap.size, 1, none⟩ = some (.int .i64 n) := fun s => s.cell (cellN g)
  have hne := Later.any W
  have hadd : ∀ w : World, (Op.stringOp .add L D).run Tryz.prog w = .ok (.string (L ++ D)) w := fun w => add_ok (by
    have h1 := letB_size k
    have h2 := decB_size n
    rw [hL, hD]
    omega) w
  have HR : Hid (letB k ++ decB n = L ++ D) := by show _ = _; rw [hL, hD]
  have HW := (show Hid _ from hW)
  clear hB g hL hD hW hP
  go_enter Tryz.func114, Tryz.ntmps114
  go_wp2
  rw [← HW.out]
  refine wp_region_later (by kernel_rfl) (by kernel_rfl) ?_
  repeat (go_big_quiet_step ((first | (rename_i s; with_reducible exact Calls.later (HLt.out s)) | (rename_i s; with_reducible exact Calls.later (HFm.out s)))))
  refine wpQuiet_nil ?_
  rintro _ ⟨⟨w', hB2⟩, rfl⟩
  go_wp2
  go_ret
  exact ⟨by rw [HR.out]; rfl, HB.out.trans (hB2.mono HB.out.size)⟩

def keyT0 (n : Nat) : ByteArray := Tr.head 2 ++ decB n
/-- a term's text may be asked for -/
def TextC (t : Tr) : Prop := ∀ w : World, Pow w → Calls Tryz.prog t.tf #[t.inn] w fun e w' => e = .returned (.string t.txt) ∧ Below w.heap.size w w'

set_option maxHeartbeats 1000000 in
theorem keyText_any (n : Nat) (hn : n ≤ 999) (w : World) (hP : Pow w) :
    Calls Tryz.prog 102 #[.int .i64 n] w fun e w' => e = .returned (.string (keyT0 n)) ∧ Below w.heap.size w w' := by
  go_enter Tryz.func102, Tryz.ntmps102
  go_wp2_with (go_at_call 114; refine (leafText_any 2 n (by omega) hn w hP).mono ?_; rintro e w1 ⟨rfl, hB1⟩)
  go_ret
  exact ⟨rfl, hB1⟩

set_option maxRecDepth 4000 in
set_option maxHeartbeats 2000000 in
theorem hashText_any (t : Tr) (hok : t.Ok) (hz : t.size ≤ 40) (ih : TextC t) : TextC ⟨.inr (.inl t)⟩ := by
  intro w hP
  have htx : ((⟨.inr (.inl t)⟩ : Tr)).txt = ((⟨#[104]⟩ ++ ⟨#[40]⟩) ++ t.txt) ++ ⟨#[41]⟩ := by rw [Tr.txt]; rfl
  have hsz := Tr.txt_size t hok
  rw [htx]
  rw [Tr.tf, Tr.inn]
  obtain ⟨v, hv⟩ : ∃ v, v = t.inn := ⟨_, rfl⟩
  rw [t.val_is, ← hv]
  obtain ⟨ty, hty⟩ : ∃ ty, ty = t.ty := ⟨_, rfl⟩
  rw [← hty]
  obtain ⟨f, hf⟩ : ∃ f, f = t.tf := ⟨_, rfl⟩
  have hm : ∀ w, (method 348 ty v "loop.example/g00318/impl.text").run Tryz.prog w = .ok (f, v) w := fun w => by rw [hv, hty, hf]; exact mText t w
  have hen : ∀ args w, (callFunc f args).run Tryz.prog w = .ok (.enter f args) w := by rw [hf]; exact enText t
  obtain ⟨T, hT⟩ : ∃ T, T = t.txt := ⟨_, rfl⟩
  rw [← hT] at hsz ⊢
  obtain ⟨W, hW⟩ : ∃ W, W = w.alloc (.cells #[.iface ty v] 189) := ⟨_, rfl⟩
  have hB : Below w.heap.size w W := by rw [hW]; exact (Below.refl _ _).alloc (Nat.le_refl _) _
  have g : W.heap[w.heap.size]? = some (.cells #[.iface ty v] 189 (0, 0)) := by rw [hW]; exact heap_alloc_new _ _
  have HB : Hid (Below w.heap.size w W) := hB
  have HLt : Hid (∀ s : Later W, Calls Tryz.prog 120 #[.int .i64 4] s.val fun e w' => e = .returned (.string ⟨#[104]⟩) ∧ Below s.val.heap.size s.val w') := fun s => (letterOf_any 4 (by omega) s.val).mono fun e w' h => ⟨h.1, by rw [h.2]; exact Below.refl _ _⟩
  have HI : Hid (∀ s : Later W, Calls Tryz.prog f #[v] s.val fun e w' => e = .returned (.string T) ∧ Below s.val.heap.size s.val w') := fun s => by rw [hT, hf, hv]; exact ih s.val ((hP.below hB).below s.ok)
  have p0 : ∀ s : Later W, s.val.cell? ⟨w.heap.size, 0, none⟩ = some (.iface ty v) := fun s => s.cell (cellN g)
  have hne := Later.any W
  have a1 : ∀ w : World, (Op.stringOp .add ⟨#[104]⟩ ⟨#[40]⟩).run Tryz.prog w = .ok (.string (⟨#[104]⟩ ++ ⟨#[40]⟩)) w := fun w => add_ok (by decide) w
  have a2 : ∀ w : World, (Op.stringOp .add (⟨#[104]⟩ ++ ⟨#[40]⟩) T).run Tryz.prog w = .ok (.string ((⟨#[104]⟩ ++ ⟨#[40]⟩) ++ T)) w := fun w => add_ok (by rw [ByteArray.size_append]; have h1 : (ByteArray.mk #[104]).size = 1 := rfl; have h2 : (ByteArray.mk #[40]).size = 1 := rfl; omega) w
  have a3 : ∀ w : World, (Op.stringOp .add ((⟨#[104]⟩ ++ ⟨#[40]⟩) ++ T) ⟨#[41]⟩).run Tryz.prog w = .ok (.string (((⟨#[104]⟩ ++ ⟨#[40]⟩) ++ T) ++ ⟨#[41]⟩)) w := fun w => add_ok (by rw [ByteArray.size_append, ByteArray.size_append]; have h1 : (ByteArray.mk #[104]).size = 1 := rfl; have h2 : (ByteArray.mk #[40]).size = 1 := rfl; have h3 : (ByteArray.mk #[41]).size = 1 := rfl; omega) w
  have HW := (show Hid _ from hW)
  clear hB g hW hP hv hty hf hT hsz htx ih
  go_enter Tryz.func175, Tryz.ntmps175
  go_wp2
  rw [← HW.out]
  refine wp_region_later (by kernel_rfl) (by kernel_rfl) ?_
  repeat (go_big_quiet_step ((first | (rename_i s; with_reducible exact Calls.later (HLt.out s)) | (rename_i s; with_reducible exact Calls.later (HI.out s)))))
  refine wpQuiet_nil ?_
  rintro _ ⟨⟨w', hB2⟩, rfl⟩
  go_wp2
  go_ret
  exact ⟨rfl, HB.out.trans (hB2.mono HB.out.size)⟩

set_option maxRecDepth 4000 in
set_option maxHeartbeats 4000000 in
theorem pairText_any (t u : Tr) (hok1 : t.Ok) (hz1 : t.size ≤ 40) (ih1 : TextC t) (hok2 : u.Ok) (hz2 : u.size ≤ 40) (ih2 : TextC u) : TextC ⟨.inr (.inr (.inl (t, u)))⟩ := by
  intro w hP
  have htx : ((⟨.inr (.inr (.inl (t, u)))⟩ : Tr)).txt = ((((⟨#[112]⟩ ++ ⟨#[40]⟩) ++ t.txt) ++ ⟨#[44]⟩) ++ u.txt) ++ ⟨#[41]⟩ := by rw [Tr.txt]; rfl
  rw [htx]
  rw [Tr.tf, Tr.inn]
  obtain ⟨v1, hv1⟩ : ∃ v, v = t.inn := ⟨_, rfl⟩
  rw [t.val_is, ← hv1]
  obtain ⟨ty1, hty1⟩ : ∃ ty, ty = t.ty := ⟨_, rfl⟩
  rw [← hty1]
  obtain ⟨f1, hf1⟩ : ∃ f, f = t.tf := ⟨_, rfl⟩
  have hm1 : ∀ w, (method 348 ty1 v1 "loop.example/g00318/impl.text").run Tryz.prog w = .ok (f1, v1) w := fun w => by rw [hv1, hty1, hf1]; exact mText t w
  have hen1 : ∀ args w, (callFunc f1 args).run Tryz.prog w = .ok (.enter f1 args) w := by rw [hf1]; exact enText t
  obtain ⟨T1, hT1⟩ : ∃ T, T = t.txt := ⟨_, rfl⟩
  have hsz1 := Tr.txt_size t hok1
  rw [← hT1] at hsz1
  obtain ⟨v2, hv2⟩ : ∃ v, v = u.inn := ⟨_, rfl⟩
  rw [u.val_is, ← hv2]
  obtain ⟨ty2, hty2⟩ : ∃ ty, ty = u.ty := ⟨_, rfl⟩
  rw [← hty2]
  obtain ⟨f2, hf2⟩ : ∃ f, f = u.tf := ⟨_, rfl⟩
  have hm2 : ∀ w, (method 348 ty2 v2 "loop.example/g00318/impl.text").run Tryz.prog w = .ok (f2, v2) w := fun w => by rw [hv2, hty2, hf2]; exact mText u w
  have hen2 : ∀ args w, (callFunc f2 args).run Tryz.prog w = .ok (.enter f2 args) w := by rw [hf2]; exact enText u
  obtain ⟨T2, hT2⟩ : ∃ T, T = u.txt := ⟨_, rfl⟩
  have hsz2 := Tr.txt_size u hok2
  rw [← hT2] at hsz2
  rw [← hT1, ← hT2]
  obtain ⟨W, hW⟩ : ∃ W, W = w.alloc (.cells #[.iface ty1 v1, .iface ty2 v2] 191) := ⟨_, rfl⟩
  have hB : Below w.heap.size w W := by rw [hW]; exact (Below.refl _ _).alloc (Nat.le_refl _) _
  have g : W.heap[w.heap.size]? = some (.cells #[.iface ty1 v1, .iface ty2 v2] 191 (0, 0)) := by rw [hW]; exact heap_alloc_new _ _
  have HB : Hid (Below w.heap.size w W) := hB
  have HLt : Hid (∀ s : Later W, Calls Tryz.prog 120 #[.int .i64 5] s.val fun e w' => e = .returned (.string ⟨#[112]⟩) ∧ Below s.val.heap.size s.val w') := fun s => (letterOf_any 5 (by omega) s.val).mono fun e w' h => ⟨h.1, by rw [h.2]; exact Below.refl _ _⟩
  have HI1 : Hid (∀ s : Later W, Calls Tryz.prog f1 #[v1] s.val fun e w' => e = .returned (.string T1) ∧ Below s.val.heap.size s.val w') := fun s => by rw [hT1, hf1, hv1]; exact ih1 s.val ((hP.below hB).below s.ok)
  have HI2 : Hid (∀ s : Later W, Calls Tryz.prog f2 #[v2] s.val fun e w' => e = .returned (.string T2) ∧ Below s.val.heap.size s.val w') := fun s => by rw [hT2, hf2, hv2]; exact ih2 s.val ((hP.below hB).below s.ok)
  have p0 : ∀ s : Later W, s.val.cell? ⟨w.heap.size, 0, none⟩ = some (.iface ty1 v1) := fun s => s.cell (cellN g)
  have p1 : ∀ s : Later W, s.val.cell? ⟨w.heap.size, 1, none⟩ = some (.iface ty2 v2) := fun s => s.cell (cellN g)
  have hne := Later.any W
  have z1 : (ByteArray.mk #[112]).size = 1 := rfl
  have z2 : (ByteArray.mk #[40]).size = 1 := rfl
  have z3 : (ByteArray.mk #[41]).size = 1 := rfl
  have z4 : (ByteArray.mk #[44]).size = 1 := rfl
  have a1 : ∀ w : World, (Op.stringOp .add ⟨#[112]⟩ ⟨#[40]⟩).run Tryz.prog w = .ok (.string (⟨#[112]⟩ ++ ⟨#[40]⟩)) w := fun w => add_ok (by decide) w
  have a2 : ∀ w : World, (Op.stringOp .add (⟨#[112]⟩ ++ ⟨#[40]⟩) T1).run Tryz.prog w = .ok (.string ((⟨#[112]⟩ ++ ⟨#[40]⟩) ++ T1)) w := fun w => add_ok (by simp only [ByteArray.size_append]; omega) w
  have a3 : ∀ w : World, (Op.stringOp .add ((⟨#[112]⟩ ++ ⟨#[40]⟩) ++ T1) ⟨#[44]⟩).run Tryz.prog w = .ok (.string (((⟨#[112]⟩ ++ ⟨#[40]⟩) ++ T1) ++ ⟨#[44]⟩)) w := fun w => add_ok (by simp only [ByteArray.size_append]; omega) w
  have a4 : ∀ w : World, (Op.stringOp .add (((⟨#[112]⟩ ++ ⟨#[40]⟩) ++ T1) ++ ⟨#[44]⟩) T2).run Tryz.prog w = .ok (.string ((((⟨#[112]⟩ ++ ⟨#[40]⟩) ++ T1) ++ ⟨#[44]⟩) ++ T2)) w := fun w => add_ok (by simp only [ByteArray.size_append]; omega) w
  have a5 : ∀ w : World, (Op.stringOp .add ((((⟨#[112]⟩ ++ ⟨#[40]⟩) ++ T1) ++ ⟨#[44]⟩) ++ T2) ⟨#[41]⟩).run Tryz.prog w = .ok (.string (((((⟨#[112]⟩ ++ ⟨#[40]⟩) ++ T1) ++ ⟨#[44]⟩) ++ T2) ++ ⟨#[41]⟩)) w := fun w => add_ok (by simp only [ByteArray.size_append]; omega) w
  have HW := (show Hid _ from hW)
  clear hB g hW hP hv1 hty1 hf1 hT1 hsz1 hv2 hty2 hf2 hT2 hsz2 htx ih1 ih2 z1 z2 z3 z4
  go_enter Tryz.func177, Tryz.ntmps177
  go_wp2
  rw [← HW.out]
  refine wp_region_later (by kernel_rfl) (by kernel_rfl) ?_
  repeat (go_big_quiet_step ((first | (rename_i s; with_reducible exact Calls.later (HLt.out s)) | (rename_i s; with_reducible exact Calls.later (HI1.out s)) | (rename_i s; with_reducible exact Calls.later (HI2.out s)))))
  refine wpQuiet_nil ?_
  rintro _ ⟨⟨w', hB2⟩, rfl⟩
  go_wp2
  go_ret
  exact ⟨rfl, HB.out.trans (hB2.mono HB.out.size)⟩

set_option maxRecDepth 4000 in
set_option maxHeartbeats 4000000 in
theorem keyedText_any (k n : Nat) (t : Tr) (hk : k = 6 ∨ k = 7) (hn : n ≤ 999) (hok1 : t.Ok) (hz1 : t.size ≤ 40) (ih1 : TextC t) : TextC ⟨.inr (.inr (.inr (k, n, t)))⟩ := by
  intro w hP
  have htx : ((⟨.inr (.inr (.inr (k, n, t)))⟩ : Tr)).txt = ((((letB k ++ ⟨#[40]⟩) ++ keyT0 n) ++ ⟨#[44]⟩) ++ t.txt) ++ ⟨#[41]⟩ := by
    rw [Tr.txt]
    unfold keyT0
    rw [← ByteArray.append_assoc (a := letB k ++ ⟨#[40]⟩)]
    rcases hk with rfl | rfl <;> rfl
  rw [htx]
  rw [Tr.tf, Tr.inn]
  obtain ⟨v1, hv1⟩ : ∃ v, v = t.inn := ⟨_, rfl⟩
  rw [t.val_is, ← hv1]
  obtain ⟨ty1, hty1⟩ : ∃ ty, ty = t.ty := ⟨_, rfl⟩
  rw [← hty1]
  obtain ⟨f1, hf1⟩ : ∃ f, f = t.tf := ⟨_, rfl⟩
  have hm1 : ∀ w, (method 348 ty1 v1 "loop.example/g00318/impl.text").run Tryz.prog w = .ok (f1, v1) w := fun w => by rw [hv1, hty1, hf1]; exact mText t w
  have hen1 : ∀ args w, (callFunc f1 args).run Tryz.prog w = .ok (.enter f1 args) w := by rw [hf1]; exact enText t
  obtain ⟨T1, hT1⟩ : ∃ T, T = t.txt := ⟨_, rfl⟩
  have hsz1 := Tr.txt_size t hok1
  rw [← hT1] at hsz1
  rw [← hT1]
  have hlz := letB_size k
  have hkz : (keyT0 n).size ≤ 1003 := by
    unfold keyT0
    have h1 := head_size 2
    have h2 := decB_size n
    rw [ByteArray.size_append]
    omega
  obtain ⟨L, hL⟩ : ∃ L, L = letB k := ⟨_, rfl⟩
  obtain ⟨K, hK⟩ : ∃ K, K = keyT0 n := ⟨_, rfl⟩
  rw [← hL, ← hK]
  rw [← hL] at hlz
  rw [← hK] at hkz
  obtain ⟨W, hW⟩ : ∃ W, W = w.alloc (.cells #[.int .i64 k, .int .i64 n, .iface ty1 v1] 106) := ⟨_, rfl⟩
  have hB : Below w.heap.size w W := by rw [hW]; exact (Below.refl _ _).alloc (Nat.le_refl _) _
  have g : W.heap[w.heap.size]? = some (.cells #[.int .i64 k, .int .i64 n, .iface ty1 v1] 106 (0, 0)) := by rw [hW]; exact heap_alloc_new _ _
  have HB : Hid (Below w.heap.size w W) := hB
  have HLt : Hid (∀ s : Later W, Calls Tryz.prog 120 #[.int .i64 k] s.val fun e w' => e = .returned (.string L) ∧ Below s.val.heap.size s.val w') := fun s => (letterOf_any k (by omega) s.val).mono fun e w' h => ⟨by rw [hL]; exact h.1, by rw [h.2]; exact Below.refl _ _⟩
  have HKt : Hid (∀ s : Later W, Calls Tryz.prog 102 #[.int .i64 n] s.val fun e w' => e = .returned (.string K) ∧ Below s.val.heap.size s.val w') := fun s => by rw [hK]; exact keyText_any n hn s.val ((hP.below hB).below s.ok)
  have HI1 : Hid (∀ s : Later W, Calls Tryz.prog f1 #[v1] s.val fun e w' => e = .returned (.string T1) ∧ Below s.val.heap.size s.val w') := fun s => by rw [hT1, hf1, hv1]; exact ih1 s.val ((hP.below hB).below s.ok)
  have p0 : ∀ s : Later W, s.val.cell? ⟨w.heap.size, 0, none⟩ = some (.int .i64 k) := fun s => s.cell (cellN g)
  have p1 : ∀ s : Later W, s.val.cell? ⟨w.heap.size, 1, none⟩ = some (.int .i64 n) := fun s => s.cell (cellN g)
  have p2 : ∀ s : Later W, s.val.cell? ⟨w.heap.size, 2, none⟩ = some (.iface ty1 v1) := fun s => s.cell (cellN g)
  have hne := Later.any W
  have z2 : (ByteArray.mk #[40]).size = 1 := rfl
  have z3 : (ByteArray.mk #[41]).size = 1 := rfl
  have z4 : (ByteArray.mk #[44]).size = 1 := rfl
  have a1 : ∀ w : World, (Op.stringOp .add L ⟨#[40]⟩).run Tryz.prog w = .ok (.string (L ++ ⟨#[40]⟩)) w := fun w => add_ok (by omega) w
  have a2 : ∀ w : World, (Op.stringOp .add (L ++ ⟨#[40]⟩) K).run Tryz.prog w = .ok (.string ((L ++ ⟨#[40]⟩) ++ K)) w := fun w => add_ok (by simp only [ByteArray.size_append]; omega) w
  have a3 : ∀ w : World, (Op.stringOp .add ((L ++ ⟨#[40]⟩) ++ K) ⟨#[44]⟩).run Tryz.prog w = .ok (.string (((L ++ ⟨#[40]⟩) ++ K) ++ ⟨#[44]⟩)) w := fun w => add_ok (by simp only [ByteArray.size_append]; omega) w
  have a4 : ∀ w : World, (Op.stringOp .add (((L ++ ⟨#[40]⟩) ++ K) ++ ⟨#[44]⟩) T1).run Tryz.prog w = .ok (.string ((((L ++ ⟨#[40]⟩) ++ K) ++ ⟨#[44]⟩) ++ T1)) w := fun w => add_ok (by simp only [ByteArray.size_append]; omega) w
  have a5 : ∀ w : World, (Op.stringOp .add ((((L ++ ⟨#[40]⟩) ++ K) ++ ⟨#[44]⟩) ++ T1) ⟨#[41]⟩).run Tryz.prog w = .ok (.string (((((L ++ ⟨#[40]⟩) ++ K) ++ ⟨#[44]⟩) ++ T1) ++ ⟨#[41]⟩)) w := fun w => add_ok (by simp only [ByteArray.size_append]; omega) w
  have HW := (show Hid _ from hW)
  clear hB g hW hP hv1 hty1 hf1 hT1 hsz1 htx ih1 z2 z3 z4 hL hK hlz hkz hk
  go_enter Tryz.func159, Tryz.ntmps159
  go_wp2
  rw [← HW.out]
  refine wp_region_later (by kernel_rfl) (by kernel_rfl) ?_
  repeat (go_big_quiet_step ((first | (rename_i s; with_reducible exact Calls.later (HLt.out s)) | (rename_i s; with_reducible exact Calls.later (HKt.out s)) | (rename_i s; with_reducible exact Calls.later (HI1.out s)))))
  refine wpQuiet_nil ?_
  rintro _ ⟨⟨w', hB2⟩, rfl⟩
  go_wp2
  go_ret
  exact ⟨rfl, HB.out.trans (hB2.mono HB.out.size)⟩

theorem ttext_any : ∀ t : Tr, t.Ok → t.size ≤ 40 → TextC t
  | ⟨.inl (k, n)⟩, h, _ => by
    intro w hP
    have h1 : (k = 1 ∨ k = 2 ∨ k = 3) ∧ n ≤ 999 := h
    rw [Tr.tf, Tr.inn, Tr.txt, ← letB_head h1.1]
    exact leafText_any k n (by omega) h1.2 w hP
  | ⟨.inr (.inl t)⟩, h, hz => by
    have hz' : t.size ≤ 40 := by unfold Tr.size at hz; omega
    exact hashText_any t h hz' (ttext_any t h hz')
  | ⟨.inr (.inr (.inl (t, u)))⟩, h, hz => by
    have h0 : t.Ok ∧ u.Ok := h
    have hz' : t.size ≤ 40 ∧ u.size ≤ 40 := by unfold Tr.size at hz; omega
    exact pairText_any t u h0.1 hz'.1 (ttext_any t h0.1 hz'.1) h0.2 hz'.2 (ttext_any u h0.2 hz'.2)
  | ⟨.inr (.inr (.inr (k, n, t)))⟩, h, hz => by
    have h0 : (k = 6 ∨ k = 7) ∧ n ≤ 999 ∧ t.Ok := h
    have hz' : t.size ≤ 40 := by unfold Tr.size at hz; omega
    exact keyedText_any k n t h0.1 h0.2.1 h0.2.2 hz' (ttext_any t h0.2.2 hz')
end Go.Proofs.YtcolcnkjcagbaaaGreatDoor
