/-
  sameDag at two dags that are alike. No condition but that the slices read.
  hurt: a text with a byte more, less or another one, at texts of up to 60000 bytes. No condition but that the code reads as bytes.
  Drawn dags and drawn texts of dags; what is read of a dag's text. Condition: the code reads as bytes.
  The law FnDagTexts returns true at every code. Condition: the code reads as bytes, the tables lie, bytealg's variable holds a number.
-/
import Derived.Test.YtlibipbpaigmdaaGreatDoorDgG
import Derived.Test.YtlibipbpaigmdaaGreatDoorDgN
import Derived.Test.YtlibipbpaigmdaaGreatDoorDgR
import Derived.Test.YtlibipbpaigmdaaGreatDoorDgT
namespace Go.Proofs.YtlibipbpaigmdaaGreatDoor
open Go.RowKit
set_option linter.unusedVariables false

abbrev ndV (x : Nd) : Array Value := #[.int .i64 x.a, .int .i64 x.s, .int .i64 x.k, .string x.key, .string x.text, .slice x.u x.n x.cap]
set_option maxHeartbeats 2000000 in
theorem sameNode_sameV (x : Nd) (u : Option Addr) (uc : Nat) (w : World) (h : IsStrs w u x.n uc x.S) (h' : IsStrs w x.u x.n x.cap x.S) :
    Calls Tryz.prog 60 #[.agg #[.int .i64 x.a, .int .i64 x.s, .int .i64 x.k, .string x.key, .string x.text, .slice u x.n uc], .agg (ndV x)] w fun e w' => e = .returned (.bool true) ∧ Below w.heap.size w w' := by
  obtain ⟨a, s, k, key, text, xu, n, xc, S⟩ := x
  have HB : Hid (∀ o o', Below w.heap.size w ((w.alloc o).alloc o')) := fun o o' => ((Below.refl _ _).alloc (Nat.le_refl _) _).alloc (by simp) _
  have HS : Hid (∀ o o', Calls Tryz.prog 36 #[.slice u n uc, .slice xu n xc] ((w.alloc o).alloc o') fun e w' => e = .returned (.bool true) ∧ Below ((w.alloc o).alloc o').heap.size ((w.alloc o).alloc o') w') := fun o o' => by
    refine (lawSame_any u n uc S xu n xc S _ (h.below (HB.out o o')) (h'.below (HB.out o o'))).mono ?_
    rintro e w' ⟨rfl, hB⟩
    exact ⟨by rw [sameB_refl]; simp, hB⟩
  have e1 : (a == a) = true := by simp
  have e2 : (s == s) = true := by simp
  have e3 : (k == k) = true := by simp
  have e4 : (key.toList == key.toList) = true := by simp
  have e5 : (text.toList == text.toList) = true := by simp
  clear h h'
  go_enter Tryz.func60, Tryz.ntmps60
  go_wp2_with fail
  refine (HS.out _ _).mono ?_
  rintro e w1 ⟨rfl, hB1⟩
  go_wp2
  go_ret
  exact ⟨rfl, (HB.out _ _).trans (hB1.mono (HB.out _ _).size)⟩

set_option maxHeartbeats 1000000 in
theorem sameDagV_like (a a' : Option Addr) (len cap cap' : Nat) (D E : Nat → Nd) (w : World) (h : IsNds w a len cap D) (h' : IsNds w a' len cap' E) (hL : ∀ i, i < len → (D i).Like (E i)) :
    Calls Tryz.prog 67 #[.slice a len cap, .slice a' len cap'] w fun e w' => e = .returned (.bool true) ∧ Below w.heap.size w w' := by
  obtain ⟨hlc, hcm, hc⟩ := h
  obtain ⟨hlc', hcm', hc'⟩ := h'
  have hbn : ((len : Int) != (len : Int)) = false := by simp
  go_enter Tryz.func67, Tryz.ntmps67
  go_wp2
  go_loopw [5] (fun i wr => ∃ (k : Nat), k ≤ len ∧ i = .int .i64 k ∧ Below w.heap.size w wr) (fun i _ => len - (intOf i).toNat)
  case atStart => exact ⟨0, Nat.zero_le _, rfl, Below.refl _ _⟩
  case round =>
    obtain ⟨k, hk, rfl, hB⟩ := hrel
    by_cases hlt : k < len
    · obtain ⟨b, off, rfl, hbs, hcell⟩ := hc (by omega)
      obtain ⟨b', off', rfl, hbs', hcell'⟩ := hc' (by omega)
      have n1 := (hcell k hlt)
      have n2 := (hcell' k hlt)
      have m1 : Hid (NdAt wr b (off + k * 6) (D k)) := ⟨(hB.cell (p := ⟨b, _, none⟩) hbs).trans n1.c0, (hB.cell (p := ⟨b, _, none⟩) hbs).trans n1.c1, (hB.cell (p := ⟨b, _, none⟩) hbs).trans n1.c2, (hB.cell (p := ⟨b, _, none⟩) hbs).trans n1.c3, (hB.cell (p := ⟨b, _, none⟩) hbs).trans n1.c4, (hB.cell (p := ⟨b, _, none⟩) hbs).trans n1.c5, n1.i.below hB⟩
      have m2 : Hid (NdAt wr b' (off' + k * 6) (E k)) := ⟨(hB.cell (p := ⟨b', _, none⟩) hbs').trans n2.c0, (hB.cell (p := ⟨b', _, none⟩) hbs').trans n2.c1, (hB.cell (p := ⟨b', _, none⟩) hbs').trans n2.c2, (hB.cell (p := ⟨b', _, none⟩) hbs').trans n2.c3, (hB.cell (p := ⟨b', _, none⟩) hbs').trans n2.c4, (hB.cell (p := ⟨b', _, none⟩) hbs').trans n2.c5, n2.i.below hB⟩
      have hltI : (k : Int) < (len : Int) := by omega
      have hLk := hL k hlt
      clear n1 n2 hcell hcell' hc hc' hL
      obtain ⟨l1, l2, l3, l4, l5, l6, l7⟩ := hLk
      have HL : Hid (∀ v : World, IsStrs v (D k).u (D k).n (D k).cap (D k).S → IsStrs v (E k).u (E k).n (E k).cap (E k).S → Calls Tryz.prog 60 #[.agg #[.int .i64 (D k).a, .int .i64 (D k).s, .int .i64 (D k).k, .string (D k).key, .string (D k).text, .slice (D k).u (D k).n (D k).cap], .agg #[.int .i64 (E k).a, .int .i64 (E k).s, .int .i64 (E k).k, .string (E k).key, .string (E k).text, .slice (E k).u (E k).n (E k).cap]] v fun e w' => e = .returned (.bool true) ∧ Below v.heap.size v w') := by
        intro v hv hv'
        rw [← l1, ← l2, ← l3, ← l4, ← l5, ← l6]
        rw [← l6, ← l7] at hv'
        exact sameNode_sameV ⟨(D k).a, (D k).s, (D k).k, (D k).key, (D k).text, (E k).u, (D k).n, (E k).cap, (D k).S⟩ (D k).u (D k).cap v hv hv'
      clear l1 l2 l3 l4 l5 l6 l7
      have HK : Hid (∀ w', Below wr.heap.size wr w' → (w'.cell? ⟨b, off + k * 6, none⟩ = some (.int .i64 (D k).a) ∧ w'.cell? ⟨b, off + k * 6 + 1, none⟩ = some (.int .i64 (D k).s) ∧ w'.cell? ⟨b, off + k * 6 + 2, none⟩ = some (.int .i64 (D k).k) ∧ w'.cell? ⟨b, off + k * 6 + 3, none⟩ = some (.string (D k).key) ∧ w'.cell? ⟨b, off + k * 6 + 4, none⟩ = some (.string (D k).text) ∧ w'.cell? ⟨b, off + k * 6 + 5, none⟩ = some (.slice (D k).u (D k).n (D k).cap) ∧ w'.cell? ⟨b', off' + k * 6, none⟩ = some (.int .i64 (E k).a) ∧ w'.cell? ⟨b', off' + k * 6 + 1, none⟩ = some (.int .i64 (E k).s) ∧ w'.cell? ⟨b', off' + k * 6 + 2, none⟩ = some (.int .i64 (E k).k) ∧ w'.cell? ⟨b', off' + k * 6 + 3, none⟩ = some (.string (E k).key) ∧ w'.cell? ⟨b', off' + k * 6 + 4, none⟩ = some (.string (E k).text) ∧ w'.cell? ⟨b', off' + k * 6 + 5, none⟩ = some (.slice (E k).u (E k).n (E k).cap))) := fun w' hB => by
        have n1 := m1.out.below hB
        have n2 := m2.out.below hB
        exact ⟨n1.c0, n1.c1, n1.c2, n1.c3, n1.c4, n1.c5, n2.c0, n2.c1, n2.c2, n2.c3, n2.c4, n2.c5⟩
      have HB : Hid (Below w.heap.size w wr) := hB
      clear hB
      go_wp2
      go_region_held3 (fun w' => w'.cell? ⟨b, off + k * 6, none⟩ = some (.int .i64 (D k).a) ∧ w'.cell? ⟨b, off + k * 6 + 1, none⟩ = some (.int .i64 (D k).s) ∧ w'.cell? ⟨b, off + k * 6 + 2, none⟩ = some (.int .i64 (D k).k) ∧ w'.cell? ⟨b, off + k * 6 + 3, none⟩ = some (.string (D k).key) ∧ w'.cell? ⟨b, off + k * 6 + 4, none⟩ = some (.string (D k).text) ∧ w'.cell? ⟨b, off + k * 6 + 5, none⟩ = some (.slice (D k).u (D k).n (D k).cap) ∧ w'.cell? ⟨b', off' + k * 6, none⟩ = some (.int .i64 (E k).a) ∧ w'.cell? ⟨b', off' + k * 6 + 1, none⟩ = some (.int .i64 (E k).s) ∧ w'.cell? ⟨b', off' + k * 6 + 2, none⟩ = some (.int .i64 (E k).k) ∧ w'.cell? ⟨b', off' + k * 6 + 3, none⟩ = some (.string (E k).key) ∧ w'.cell? ⟨b', off' + k * 6 + 4, none⟩ = some (.string (E k).text) ∧ w'.cell? ⟨b', off' + k * 6 + 5, none⟩ = some (.slice (E k).u (E k).n (E k).cap)) (first | exact HK.out _ hBd | exact HK.out _ (Below.refl _ _).drew) ((go_at_call 60; refine (HL.out _ (m1.out.below (Below.refl _ _).drew).i (m2.out.below (Below.refl _ _).drew).i).mono ?_; rintro e w7 ⟨rfl, hB7⟩; have hBd : Below wr.heap.size wr w7 := ((Below.refl _ _).drew).trans hB7))
      have hB := HB.out
      go_wp2
      go_roundw
      case rel => exact ⟨k + 1, by omega, by go_num, hB.trans (hBd.mono hB.size)⟩
      case measure => simp [intOf]; omega
    · have hke : k = len := by omega
      subst hke
      go_wp2
      go_ret
      exact ⟨rfl, hB⟩

end Go.Proofs.YtlibipbpaigmdaaGreatDoor

namespace Go.Proofs.YtlibipbpaigmdaaGreatDoor
open Go.RowKit
set_option linter.unusedVariables false

theorem size_add1L {s c : ByteArray} (hs : s.size ≤ 60000) (hc : c.size = 1) : (s ++ c).size ≤ 130000 := by rw [ByteArray.size_append]; omega
theorem three_leL {s c : ByteArray} {x y n : Nat} (hs : s.size ≤ 60000) (hc : c.size = 1) : (s.extract 0 x ++ c ++ s.extract y n).size ≤ 130000 := by
  rw [ByteArray.size_append, ByteArray.size_append, ByteArray.size_extract, ByteArray.size_extract]; omega
/-- of the values of hurt's region, at long texts -/
def HFL (R : Nat) (s : ByteArray) (x x1 : Nat) : Nat → Value → World → Prop
  | 0, v, _ => v = .string s
  | 1, v, _ => v = .int .i64 x
  | 2, v, _ => v = .string (s.extract 0 x)
  | 3, v, w => ∃ p, v = .slice (some ⟨p, 0, none⟩) 6 6 ∧ p ≠ R ∧ w.heap[p]? = some (.cells six 9 (0, 0))
  | 4, v, _ => v = .pointer (some ⟨R, 0, none⟩)
  | 5, v, _ => ∃ y : Nat, y < 6 ∧ v = .int .i64 y
  | 6, v, w => ∃ p y : Nat, y < 6 ∧ p ≠ R ∧ v = .pointer (some ⟨p, y, none⟩) ∧ w.heap[p]? = some (.cells six 9 (0, 0))
  | 7, v, _ => ∃ c : ByteArray, c.size = 1 ∧ v = .string c
  | 8, v, _ => ∃ c : ByteArray, c.size = 1 ∧ v = .string (s.extract 0 x ++ c)
  | 9, v, _ => v = .string s
  | 10, v, _ => v = .int .i64 x
  | 11, v, _ => v = .int .i64 x1
  | 12, v, _ => v = .string (s.extract x1 s.size)
  | 13, v, _ => ∃ t : ByteArray, t.size ≤ 130000 ∧ v = .string t
  | 14, v, _ => ∃ t : ByteArray, t.size ≤ 130000 ∧ v = .string t
  | _, _, _ => True
theorem HFL.mut {R : Nat} {s : ByteArray} {x x1 j : Nat} {v : Value} {w w' : World} (h : HFL R s x x1 j v w) (hM : Mut R w w') : HFL R s x x1 j v w' := by
  match j, h with
  | 0, h => exact h
  | 1, h => exact h
  | 2, h => exact h
  | 3, ⟨p, e, hp, hb⟩ => exact ⟨p, e, hp, (hM.block p (lt_of_block hb) hp).trans hb⟩
  | 4, h => exact h
  | 5, h => exact h
  | 6, ⟨p, y, hy, hp, e, hb⟩ => exact ⟨p, y, hy, hp, e, (hM.block p (lt_of_block hb) hp).trans hb⟩
  | 7, h => exact h
  | 8, h => exact h
  | 9, h => exact h
  | 10, h => exact h
  | 11, h => exact h
  | 12, h => exact h
  | 13, h => exact h
  | 14, h => exact h
  | (n + 15), _ => trivial
theorem q_incL (ev : Operand → Value) (o : Oper) (w : World) (x y : Operand) (k k1 : Nat) (h : o.op = .binOp .add 3 x y 3) (hx : ev x = .int .i64 k) (hy : ev y = .int .i64 1) (hk : (k : Int) + 1 = (k1 : Int)) (hl : k ≤ 60001) : (execOp ev o).run Tryz.prog w = .ok (.value (.int .i64 k1)) w := by
  have hw : IntKind.i64.wrap ((k : Int) + 1) = (k1 : Int) := by rw [IntKind.wrap_i64]; omega
  clear hk
  simp [execOp, h, hx, hy]
  go_simp

section
variable {W : World} {a : Option Addr} {len cap R : Nat} {Z : Nat → Int}
set_option maxRecDepth 4000 in
set_option maxHeartbeats 2000000 in
theorem hurtL_any (hU : IsU8 W a len cap Z) (s : ByteArray) (hs : s.size ≤ 60000) (w : World) (h : Draw W a len cap R w) :
    Calls Tryz.prog 132 #[.pointer (some ⟨R, 0, none⟩), .string s] w fun e w' => ∃ t : ByteArray, t.size ≤ 130000 ∧ e = .returned (.string t) ∧ Draw W a len cap R w' := by
  obtain ⟨n, hn⟩ : ∃ n, n = s.size := ⟨_, rfl⟩
  have hnI : (s.size : Int) = (n : Int) := by rw [hn]
  have hn1 : n ≤ 60000 := by omega
  have HN : Hid (n = s.size) := hn
  clear hn
  go_enter Tryz.func132, Tryz.ntmps132
  go_wp2_with fail
  refine (below_any hU 6 (by omega) (by omega) _ h).mono ?_
  rintro e w1 ⟨y, hy0, hy1, rfl, hD1, hM1⟩
  have HD1 := (show Hid _ from hD1)
  clear hD1 hM1 h
  have hy : y = 0 ∨ y = 1 ∨ y = 2 ∨ y = 3 ∨ y = 4 ∨ y = 5 := by omega
  rcases hy with rfl | rfl | rfl | rfl | rfl | rfl
  · go_wp2
    go_ret
    exact ⟨s, by omega, rfl, HD1.out⟩
  · obtain ⟨n1, hn1'⟩ : ∃ n1, n1 = n + 1 := ⟨_, rfl⟩
    have hi : (n : Int) + 1 = (n1 : Int) := by omega
    have hl1 : 1 ≤ n1 ∧ n1 ≤ 60001 := by omega
    have HN1 : Hid (n1 = n + 1) := hn1'
    clear hn1'
    go_wp2_with fail
    refine (belowW_any hU n1 hl1.1 (by omega) w1 HD1.out).mono ?_
    rintro e w2 ⟨x, hx, rfl, hD2, _⟩
    have hxI : (x : Int) ≤ (n : Int) := by have := HN1.out; omega
    have hx2 : x ≤ s.size := by have := HN.out; omega
    clear hi hl1 hx
    have HD2 := (show Hid _ from hD2)
    clear hD2
    go_wp2
    go_ret
    exact ⟨_, by rw [ByteArray.size_extract]; omega, rfl, HD2.out⟩
  · by_cases h0 : 0 < n
    · have h0I : (0 : Int) < (n : Int) := by omega
      go_wp2_with fail
      refine (belowW_any hU n (by omega) (by omega) w1 HD1.out).mono ?_
      rintro e w2 ⟨x, hx, rfl, hD2, _⟩
      have hxI : (x : Int) < (n : Int) := by omega
      have hx2 : x < s.size := by have := HN.out; omega
      obtain ⟨x1, hx1⟩ : ∃ x1, x1 = x + 1 := ⟨_, rfl⟩
      have hi : (x : Int) + 1 = (x1 : Int) := by omega
      have hx3 : (x1 : Int) ≤ (n : Int) := by omega
      have hx4 : x1 ≤ s.size := by omega
      have hx5 : x1 ≤ n := by omega
      have hx6 : (x1 : Int) ≤ (s.size : Int) := by omega
      have hx7 : (0 : Int) ≤ (x1 : Int) := by omega
      have hxn : x ≤ n := by omega
      have hxs : (x : Int) ≤ (s.size : Int) := by omega
      have hw1 : IntKind.i64.wrap ((x : Int) + 1) = (x1 : Int) := by rw [IntKind.wrap_i64]; omega
      have HD2 := (show Hid _ from hD2)
      clear hD2 hx1
      have en1 : ∀ args w, (callFunc 111 args).run Tryz.prog w = .ok (.enter 111 args) w := enters_of Tryz.func111 (by kernel_rfl) rfl
      have HEN := (show Hid _ from en1)
      clear en1
      go_wp2
      refine wp_cut_to (fun a0 t w' => ∃ f tt, t = canon a0 dsH f ∧ tt.size ≤ 130000 ∧ f 4 = .string tt ∧ Draw W a len cap R w') ?_ ?_
      · rintro _ wy ⟨f, tt, rfl, ht, h4, hy⟩
        simp only [canon, dsH, List.foldl, Act.put, List.setIfInBounds_toArray, List.set_cons_succ, List.set_cons_zero]
        rw [h4]
        have HY := (show Hid _ from hy)
        clear hy
        go_wp2
        go_ret
        exact ⟨tt, ht, rfl, HY.out⟩
      intro J K' hJ hK
      refine wp_letterP ?_
      intro fr hfr
      have hs7 : 39 < fr.tmps.size := by rw [hfr]; exact Nat.le_of_ble_eq_true rfl
      have t0 : fr.eval (.tmp 0) = .pointer (some ⟨R, 0, none⟩) := by rw [hfr]; rfl
      have t1 : fr.eval (.tmp 1) = .string s := by rw [hfr]; rfl
      have t5 : fr.eval (.tmp 5) = .int .i64 (x : Int) := by rw [hfr]; rfl
      have HFR := (show Hid _ from hfr)
      clear hfr
      have rr : ∀ w', (fun v v' => Mut R v v' ∧ (Draw W a len cap R v → Draw W a len cap R v')) w' w' := fun w' => ⟨Mut.refl R w', fun h => h⟩
      refine wp_region_rel (Rel := fun v v' => Mut R v v' ∧ (Draw W a len cap R v → Draw W a len cap R v')) rr (fun h k => ⟨h.1.trans k.1, fun q => k.2 (h.2 q)⟩) (fun v => ⟨Mut.of_below (Below.refl _ _).drew, fun h => h.below (Below.refl _ _).drew⟩) (by kernel_rfl) (by kernel_rfl) dsH slotH (HFL R s x x1) (fun _ _ _ _ h hB => h.mut hB.1) ?_ ?_ ?_ ?_
      · intro i hi
        exact slotH_mem i hi
      · intro i j hi hj q
        exact slotH_inj i j hi hj q
      · intro ops hops f wy i o hy ho hd
        have ho2 := ho
        rw [hops] at ho
        have N0 := (canon_eval_ne fr dsH f 0 (by decide)).trans t0
        have N1 := (canon_eval_ne fr dsH f 1 (by decide)).trans t1
        have N5 := (canon_eval_ne fr dsH f 5 (by decide)).trans t5
        have hi : i < 15 := by
          rcases Nat.lt_or_ge i 15 with h | h
          · exact h
          · rw [Array.getElem?_eq_none (by simpa using h)] at ho; cases ho
        have hi' : i = 0 ∨ i = 1 ∨ i = 2 ∨ i = 3 ∨ i = 4 ∨ i = 5 ∨ i = 6 ∨ i = 7 ∨ i = 8 ∨ i = 9 ∨ i = 10 ∨ i = 11 ∨ i = 12 ∨ i = 13 ∨ i = 14 := by omega
        clear hops
        rcases hi' with rfl | rfl | rfl | rfl | rfl | rfl | rfl | rfl | rfl | rfl | rfl | rfl | rfl | rfl | rfl <;> simp only [List.getElem?_toArray, List.getElem?_cons_succ, List.getElem?_cons_zero, Option.some.injEq] at ho <;> subst ho
        · refine wpOp_runG ho2 (wanted_none rfl) (qo_move (canon fr dsH f).eval _ wy _ rfl) ?_
          exact ⟨_, rfl, N1, rr wy⟩
        · refine wpOp_runG ho2 (wanted_none rfl) (qo_move (canon fr dsH f).eval _ wy _ rfl) ?_
          exact ⟨_, rfl, N5, rr wy⟩
        · refine wpOp_runG ho2 (wanted_none rfl) (q_sliceH (canon fr dsH f).eval _ wy _ _ s x rfl ((canon_eval fr dsH f 26 (by decide) (Nat.lt_of_le_of_lt (by decide) hs7)).trans (hd ⟨0, .data⟩ (by simp) rfl)) ((canon_eval fr dsH f 27 (by decide) (Nat.lt_of_le_of_lt (by decide) hs7)).trans (hd ⟨1, .data⟩ (by simp) rfl)) hx2) ?_
          exact ⟨_, rfl, rfl, rr wy⟩
        · refine wpOp_runG ho2 (wanted_none rfl) (q_six (canon fr dsH f).eval _ wy rfl (fun _ => rfl)) ?_
          exact ⟨_, rfl, ⟨_, rfl, Nat.ne_of_gt (Nat.lt_of_lt_of_le (Draw.lt HD2.out) hy.1.size), heap_alloc_new _ _⟩, ⟨(Mut.refl R wy).alloc _, fun h => h.alloc _⟩⟩
        · refine wpOp_runG ho2 (wanted_none rfl) (qo_move (canon fr dsH f).eval _ wy _ rfl) ?_
          exact ⟨_, rfl, N0, rr wy⟩
        · refine wpOp_enterG ho2 (wanted_none rfl) (qo_call2 (canon fr dsH f).eval _ wy _ HEN.out _ _ _ rfl rfl) ?_
          rw [(canon_eval fr dsH f 30 (by decide) (Nat.lt_of_le_of_lt (by decide) hs7)).trans (hd ⟨4, .data⟩ (by simp) rfl)]
          refine (belowN_any hU 6 (by omega) (by omega) wy (hy.2 HD2.out)).mono ?_
          rintro e wz ⟨y, hy6, rfl, hDz, hMz⟩
          exact ⟨_, rfl, _, rfl, ⟨y, hy6, rfl⟩, hMz, fun _ => hDz⟩
        · obtain ⟨p, hp, hpR, hpb⟩ := hd ⟨3, .data⟩ (by simp) rfl
          obtain ⟨y, hy6, hyv⟩ := hd ⟨5, .data⟩ (by simp) rfl
          refine wpOp_runG ho2 (wanted_none rfl) (q_idxS (canon fr dsH f).eval _ wy _ _ p y rfl ((canon_eval fr dsH f 29 (by decide) (Nat.lt_of_le_of_lt (by decide) hs7)).trans hp) ((canon_eval fr dsH f 31 (by decide) (Nat.lt_of_le_of_lt (by decide) hs7)).trans hyv) hy6) ?_
          exact ⟨_, rfl, ⟨p, y, hy6, hpR, rfl, hpb⟩, rr wy⟩
        · obtain ⟨p, y, hy6, hpR, hpv, hpb⟩ := hd ⟨6, .data⟩ (by simp) rfl
          obtain ⟨c, hc1, hcs⟩ := six_at y hy6
          refine wpOp_runG ho2 (wanted_none rfl) (q_loadS (canon fr dsH f).eval _ wy _ p y c rfl ((canon_eval fr dsH f 32 (by decide) (Nat.lt_of_le_of_lt (by decide) hs7)).trans hpv) (cellQ hpb hcs)) ?_
          exact ⟨_, rfl, ⟨c, hc1, rfl⟩, rr wy⟩
        · obtain ⟨c, hc1, hc⟩ := hd ⟨7, .data⟩ (by simp) rfl
          refine wpOp_runG ho2 (wanted_none rfl) (q_add (canon fr dsH f).eval _ wy _ _ _ c rfl ((canon_eval fr dsH f 28 (by decide) (Nat.lt_of_le_of_lt (by decide) hs7)).trans (hd ⟨2, .data⟩ (by simp) rfl)) ((canon_eval fr dsH f 33 (by decide) (Nat.lt_of_le_of_lt (by decide) hs7)).trans hc) (by rw [ByteArray.size_extract]; omega)) ?_
          exact ⟨_, rfl, ⟨c, hc1, rfl⟩, rr wy⟩
        · refine wpOp_runG ho2 (wanted_none rfl) (qo_move (canon fr dsH f).eval _ wy _ rfl) ?_
          exact ⟨_, rfl, N1, rr wy⟩
        · refine wpOp_runG ho2 (wanted_none rfl) (qo_move (canon fr dsH f).eval _ wy _ rfl) ?_
          exact ⟨_, rfl, N5, rr wy⟩
        · refine wpOp_runG ho2 (wanted_none rfl) (q_incL (canon fr dsH f).eval _ wy _ _ x x1 rfl ((canon_eval fr dsH f 36 (by decide) (Nat.lt_of_le_of_lt (by decide) hs7)).trans (hd ⟨10, .data⟩ (by simp) rfl)) rfl (by omega) (by omega)) ?_
          exact ⟨_, rfl, rfl, rr wy⟩
        · refine wpOp_runG ho2 (wanted_none rfl) (q_sliceL (canon fr dsH f).eval _ wy _ _ s x1 rfl ((canon_eval fr dsH f 35 (by decide) (Nat.lt_of_le_of_lt (by decide) hs7)).trans (hd ⟨9, .data⟩ (by simp) rfl)) ((canon_eval fr dsH f 37 (by decide) (Nat.lt_of_le_of_lt (by decide) hs7)).trans (hd ⟨11, .data⟩ (by simp) rfl)) hx4) ?_
          exact ⟨_, rfl, rfl, rr wy⟩
        · obtain ⟨c, hc1, hc⟩ := hd ⟨8, .data⟩ (by simp) rfl
          refine wpOp_runG ho2 (wanted_none rfl) (q_add (canon fr dsH f).eval _ wy _ _ _ _ rfl ((canon_eval fr dsH f 34 (by decide) (Nat.lt_of_le_of_lt (by decide) hs7)).trans hc) ((canon_eval fr dsH f 38 (by decide) (Nat.lt_of_le_of_lt (by decide) hs7)).trans (hd ⟨12, .data⟩ (by simp) rfl)) (by rw [ByteArray.size_append, ByteArray.size_extract, ByteArray.size_extract]; omega)) ?_
          exact ⟨_, rfl, ⟨_, three_leL hs hc1, rfl⟩, rr wy⟩
        · obtain ⟨t, ht, hte⟩ := hd ⟨13, .data⟩ (by simp) rfl
          refine wpOp_runG ho2 (wanted_none rfl) (qo_assign (canon fr dsH f).eval _ wy _ rfl) ?_
          exact ⟨_, rfl, ⟨t, ht, (canon_eval fr dsH f 39 (by decide) (Nat.lt_of_le_of_lt (by decide) hs7)).trans hte⟩, rr wy⟩
      · intro f wy hy hall
        obtain ⟨t, ht, hte⟩ := hall 14 (by decide)
        exact hK _ _ (Met.intro (hJ _ _ ⟨f, t, congrArg (fun z => canon z dsH f) HFR.out, ht, hte, hy.2 HD2.out⟩))
    · have h0I : ¬ (0 : Int) < (n : Int) := by omega
      go_wp2
      go_ret
      exact ⟨s, by omega, rfl, HD1.out⟩
  · go_wp2_with fail
    refine (below_any hU 4 (by omega) (by omega) _ (Draw.alloc HD1.out _)).mono ?_
    rintro e w3 ⟨y, hy0, hy1, rfl, hD3, hM3⟩
    have hc := lit_cells hM3 (Draw.lt HD1.out)
    have c0 := hc 0
    have c1 := hc 1
    have c2 := hc 2
    have c3 := hc 3
    clear hc hM3
    have hadd : ∀ (c : ByteArray) (w' : World), c.size = 1 → (Op.stringOp .add s c).run Tryz.prog w' = .ok (.string (s ++ c)) w' := fun c w' hc => add_ok (by omega) w'
    have a0 := hadd ⟨#[32]⟩ w3 rfl
    have a1 := hadd ⟨#[41]⟩ w3 rfl
    have a2 := hadd ⟨#[48]⟩ w3 rfl
    have a3 := hadd ⟨#[97]⟩ w3 rfl
    clear hadd
    have HD3 := (show Hid _ from hD3)
    clear hD3
    have hy : y = 0 ∨ y = 1 ∨ y = 2 ∨ y = 3 := by omega
    rcases hy with rfl | rfl | rfl | rfl <;> (go_wp2; go_ret; exact ⟨_, size_add1L hs rfl, rfl, HD3.out⟩)
  · go_wp2
    go_ret
    exact ⟨s, by omega, rfl, HD1.out⟩
  · go_wp2
    go_ret
    exact ⟨s, by omega, rfl, HD1.out⟩

end
end Go.Proofs.YtlibipbpaigmdaaGreatDoor

namespace Go.Proofs.YtlibipbpaigmdaaGreatDoor
open Go.RowKit
set_option linter.unusedVariables false

theorem IsNds.neat {w : World} {a : Option Addr} {len cap : Nat} {D : Nat → Nd} (h : IsNds w a len cap D) : IsNds w a len cap (fun i => neat (D i)) := by
  obtain ⟨h1, h2, h3⟩ := h
  refine ⟨h1, h2, fun hp => ?_⟩
  obtain ⟨b, off, e, hb, hc⟩ := h3 hp
  exact ⟨b, off, e, hb, fun i hi => ⟨(hc i hi).c0, (hc i hi).c1, (hc i hi).c2, (hc i hi).c3, (hc i hi).c4, (hc i hi).c5, strs_congr (hc i hi).i fun j hj => (if_pos hj).symm⟩⟩
theorem neat_fine {D : Nat → Nd} {len : Nat} (h : Fine D len) : Fine (fun i => neat (D i)) len := fun i hi => ⟨(h i hi).1, (h i hi).2.1, fun j hj => by
  show (if j < (D i).n then (D i).S j else ⟨#[]⟩).size ≤ _
  rw [if_pos (show j < (D i).n from hj)]
  exact (h i hi).2.2 j hj⟩
theorem txt_1000 (d : Nd) : d.txt.size ≤ 1000 := textR_1000 _ _ _ _ _ _ _
theorem dagT_small (D : Nat → Nd) (len : Nat) (hl : len ≤ 30) : ∀ k, (dagT D len k).size ≤ 1000 + k * 1001
  | 0 => Nat.le_trans (dagT_size D len hl 0) (by omega)
  | k + 1 => by
    have h1 := dagT_small D len hl k
    have h2 := txt_1000 (D k)
    have e : (ByteArray.mk #[10]).size = 1 := rfl
    show (dagT D len k ++ ((D k).txt ++ ⟨#[10]⟩)).size ≤ _
    rw [ByteArray.size_append, ByteArray.size_append, e]
    omega
theorem dagTR_small (D : Nat → Nd) (len : Nat) : (dagTR D len).size ≤ 60000 := by
  unfold dagTR
  cases hq : dagB D len with
  | false => show (ByteArray.mk #[]).size ≤ _; decide
  | true =>
    rw [if_pos rfl]
    have h := (dagB_parts hq).1
    have := dagT_small D len h len
    omega
theorem dagT_some (D : Nat → Nd) (len : Nat) : ∀ k, 1 ≤ (dagT D len k).size
  | 0 => by
    show 1 ≤ (lineB ⟨#[100, 97, 103]⟩ (decB len)).size
    rw [lineB_size]
    omega
  | k + 1 => by
    have h1 := dagT_some D len k
    show 1 ≤ (dagT D len k ++ ((D k).txt ++ ⟨#[10]⟩)).size
    rw [ByteArray.size_append]
    omega
/-- what is read of a dag's text -/
theorem rda_of {D : Nat → Nd} {n : Nat} {b : Bool} {A : List Nd} (h : RdA (dagTR D n) b A) :
    b = ((!((dagTR D n).toList == ([] : List UInt8))) && decide ((dagTR D n).size ≤ 30000)) ∧ (b = true → A.length = n ∧ ∀ i, i < n → (gN A i).Like (neat (D i))) := by
  cases hq : dagB D n with
  | false =>
    have e : dagTR D n = ⟨#[]⟩ := by unfold dagTR; rw [hq]; rfl
    rw [e] at h ⊢
    cases b with
    | false => exact ⟨by decide +kernel, fun h => by cases h⟩
    | true =>
      obtain ⟨q1, q2, _⟩ := h.1 rfl
      have h2 : (dagTR (gN A) A.length).size = 0 := by rw [q2]; rfl
      unfold dagTR at h2
      rw [if_pos q1] at h2
      have := dagT_some (gN A) A.length A.length
      omega
  | true =>
    have h1 : 1 ≤ (dagTR D n).size := by
      unfold dagTR
      rw [if_pos hq]
      exact dagT_some D n n
    have h2 : ((dagTR D n).toList == ([] : List UInt8)) = false := by
      cases h3 : ((dagTR D n).toList == ([] : List UInt8)) with
      | false => rfl
      | true =>
        have h4 : (dagTR D n).toList = [] := by simpa using h3
        rw [ByteArray.toList_eq] at h4
        have h5 : (dagTR D n).data.toList.length = 0 := by rw [h4]; rfl
        rw [← Lib.size_eq] at h5
        omega
    rw [h2]
    cases b with
    | false =>
      have h3 := (h.2 rfl).2
      refine ⟨?_, fun h => by cases h⟩
      by_cases h4 : (dagTR D n).size ≤ 30000
      · exact absurd rfl (h3 h4 D n hq)
      · rw [decide_eq_false h4]; rfl
    | true =>
      obtain ⟨q1, q2, q3, q4⟩ := h.1 rfl
      refine ⟨by rw [decide_eq_true q3]; rfl, fun _ => ?_⟩
      obtain ⟨e, hL⟩ := dag_unique q1 q2 hq rfl
      refine ⟨e, fun i hi => ?_⟩
      exact ((hL i (by omega)).trans (neat_like (D i))).like (q4 _ (gN_mem (by omega))).2 (neat_neat _)

section
variable {a : Option Addr} {len cap : Nat} {Z : Nat → Int}
set_option maxHeartbeats 4000000 in
theorem drawDagText_any (w : World) (hU : IsU8 w a len cap Z) :
    Calls Tryz.prog 64 #[.slice a len cap] w fun e w' => ∃ (g gc n : Nat) (D : Nat → Nd), e = .returned (.slice (some ⟨g, 0, none⟩) n gc) ∧ IsNds w' (some ⟨g, 0, none⟩) n gc D ∧ Fine D n ∧ n ≤ 30 ∧ Below w.heap.size w w' := by
  have HU := (show Hid _ from hU)
  clear hU
  go_enter Tryz.func64, Tryz.ntmps64
  go_wp2_with fail
  refine (open_any a len cap w).mono ?_
  rintro e w1 ⟨rfl, hD1⟩
  have HD1 := (show Hid _ from hD1)
  clear hD1
  go_wp2_with fail
  refine (dag_any HU.out 5 (by omega) w1 HD1.out).mono ?_
  rintro e w2 ⟨g, gc, L, n, hn, rfl, hs2⟩
  have HE : Hid (n = L.length ∧ DS w w1 a len cap w.heap.size (.slice (some ⟨g, 0, none⟩) n gc) L w2) := ⟨hn, hs2⟩
  clear hn hs2
  go_wp2
  go_ret
  exact ⟨g, gc, n, gN L, rfl, HE.out.2.own.is HE.out.1, by rw [HE.out.1]; exact HE.out.2.few.fine, by rw [HE.out.1]; exact HE.out.2.few.1, HE.out.2.draw.bel⟩

set_option maxHeartbeats 4000000 in
theorem drawReadDag_any (w : World) (hU : IsU8 w a len cap Z) :
    Calls Tryz.prog 68 #[.slice a len cap] w fun e w' => ∃ t : ByteArray, e = .returned (.string t) ∧ t.size ≤ 130000 ∧ Below w.heap.size w w' := by
  have HU := (show Hid _ from hU)
  clear hU
  go_enter Tryz.func68, Tryz.ntmps68
  go_wp2_with fail
  refine (open_any a len cap w).mono ?_
  rintro e w1 ⟨rfl, hD1⟩
  have HD1 := (show Hid _ from hD1)
  clear hD1
  go_wp2_with fail
  refine (dag_any HU.out 4 (by omega) w1 HD1.out).mono ?_
  rintro e w2 ⟨g, gc, L, n, hn, rfl, hs2⟩
  obtain ⟨t, ht⟩ : ∃ t, t = dagTR (gN L) n := ⟨_, rfl⟩
  have HT : Hid (t.size ≤ 60000) := by show _ ≤ _; rw [ht]; exact dagTR_small _ _
  have HC : Hid (Calls Tryz.prog 66 #[.slice (some ⟨g, 0, none⟩) n gc] w2 fun e w' => e = .returned (.string t) ∧ Below w2.heap.size w2 w') := by
    rw [ht]
    exact specDagText_any _ n gc (gN L) w2 (hs2.own.is hn) (by rw [hn]; exact hs2.few.fine)
  have HD2 : Hid (Draw w a len cap w.heap.size w2) := hs2.draw
  clear hn hs2 ht
  go_wp2_with fail
  refine HC.out.mono ?_
  rintro e w3 ⟨rfl, hB3⟩
  have HD3 : Hid (Draw w a len cap w.heap.size w3) := HD2.out.below hB3
  clear hB3
  go_wp2_with fail
  refine (once_any HU.out 3 (by omega) (by omega) w3 HD3.out).mono ?_
  rintro e w4 ⟨x, rfl, hD4, _⟩
  have HD4 : Hid (Draw w a len cap w.heap.size w4) := hD4
  clear hD4
  cases x with
  | true =>
    go_wp2
    go_ret
    exact ⟨t, rfl, Nat.le_trans HT.out (by decide), HD4.out.bel⟩
  | false =>
    go_wp2_with fail
    refine (hurtL_any HU.out t HT.out w4 HD4.out).mono ?_
    rintro e w5 ⟨u, hu, rfl, hD5⟩
    have HD5 : Hid (Draw w a len cap w.heap.size w5) := hD5
    clear hD5
    go_wp2
    go_ret
    exact ⟨u, rfl, hu, HD5.out.bel⟩
end
end Go.Proofs.YtlibipbpaigmdaaGreatDoor

namespace Go.Proofs.YtlibipbpaigmdaaGreatDoor
open Go.RowKit
set_option linter.unusedVariables false

set_option maxRecDepth 20000 in
set_option maxHeartbeats 8000000 in
theorem fnDagTexts_walk {a : Option Addr} {len cap : Nat} {Z : Nat → Int} (W : World) (m : Int) (hU : IsU8 W a len cap Z) (hP : AllT W) (hm : W.cell? ⟨3, 0, none⟩ = some (.int .i64 m)) :
    Calls Tryz.prog 11 #[.slice a len cap] W fun e w' => e = .returned (.bool true) ∧ Below W.heap.size W w' := by
  have HU : Hid (IsU8 W a len cap Z) := hU
  have HP : Hid (AllT W) := hP
  have HR : Hid (∀ s v, s.size ≤ 1048576 → Below W.heap.size W v → Calls Tryz.prog 33 #[.string s] v fun e w' => ∃ x A b, e = .returned (.tuple #[x, .bool b]) ∧ OwnD w' v.heap.size x A ∧ ApU A ∧ RdA s b A ∧ Below v.heap.size v w') :=
    fun s v hs hv => implReadDag_any s m v hs (hP.below hv) ((hv.cell (cell_lt hm)).trans hm)
  clear hU hP hm
  obtain ⟨big, hbig⟩ : ∃ b, b = decide ((1048576 : Int) < (len : Int)) := ⟨_, rfl⟩
  have HBig : Hid (Calls Tryz.prog 34 #[.slice a len cap] W fun e w' => e = .returned (.bool big) ∧ w' = W) := by rw [hbig]; exact big_any a len cap W
  clear hbig
  go_enter Tryz.func11, Tryz.ntmps11
  go_wp2_with fail
  refine HBig.out.mono ?_
  rintro e w0 ⟨rfl, hw0⟩
  rw [hw0]
  clear hw0 w0 HBig
  cases big with
  | true =>
    go_wp2
    go_ret
    exact ⟨rfl, Below.refl _ _⟩
  | false =>
  go_wp2_with fail
  refine (drawDagText_any W HU.out).mono ?_
  rintro e w1 ⟨g, gc, n, D, rfl, hI, hF, hn, b1⟩
  have HI : Hid (∀ w', Below w1.heap.size w1 w' → IsNds w' (some ⟨g, 0, none⟩) n gc D) := fun w' hB => hI.below hB
  have HB1 : Hid (Below W.heap.size W w1) := b1
  obtain ⟨T, hT⟩ : ∃ T, T = dagTR D n := ⟨_, rfl⟩
  have HT : Hid (T = dagTR D n) := hT
  have HTS : Hid (T.size ≤ 60000) := by show _ ≤ _; rw [hT]; exact dagTR_small _ _
  have HDI : Hid (Calls Tryz.prog 65 #[.slice (some ⟨g, 0, none⟩) n gc] w1 fun e w' => e = .returned (.string T) ∧ Below w1.heap.size w1 w') := by
    rw [hT]
    exact implDagText_any _ n gc D w1 hI hF (HP.out.below b1)
  have HDS : Hid (∀ w', Below w1.heap.size w1 w' → Calls Tryz.prog 66 #[.slice (some ⟨g, 0, none⟩) n gc] w' fun e w'' => e = .returned (.string T) ∧ Below w'.heap.size w' w'') := fun w' hB => by
    rw [HT.out]
    exact specDagText_any _ n gc D w' (HI.out w' hB) hF
  have hgc1 := hI.1
  have hgc2 := hI.2.1
  clear hI hF hn b1 hT
  go_wp2_with fail
  refine HDI.out.mono ?_
  rintro e w2 ⟨rfl, hB2⟩
  have HB2 : Hid (Below w1.heap.size w1 w2) := hB2
  clear hB2 HDI
  go_wp2_with fail
  refine (HR.out T w2 (Nat.le_trans HTS.out (by decide)) (HB1.out.trans (HB2.out.mono HB1.out.size))).mono ?_
  rintro e w3 ⟨v3, A, b, rfl, o3, _, r3, hB3⟩
  have r3' := r3
  rw [HT.out] at r3'
  obtain ⟨hb, hA⟩ := rda_of r3'
  rw [← HT.out] at hb
  have HBQ : Hid (b = (!(T.toList == ([] : List UInt8)) && decide (T.size ≤ 30000))) := hb
  have HA : Hid (b = true → A.length = n ∧ ∀ i, i < n → (gN A i).Like (neat (D i))) := hA
  have HB23 : Hid (Below w2.heap.size w2 w3) := hB3
  have HB3 : Hid (Below w1.heap.size w1 w3) := HB2.out.trans (hB3.mono HB2.out.size)
  obtain ⟨a3, c3, rfl, i3, _⟩ := o3.nds
  have HI3 : Hid (∀ w', Below w3.heap.size w3 w' → IsNds w' a3 A.length c3 (gN A)) := fun w' hB => i3.below hB
  have ha1 := i3.1
  have ha2 := i3.2.1
  clear o3 r3 r3' hb hA hB3 i3
  go_wp2_with fail
  refine (HDS.out w3 HB3.out).mono ?_
  rintro e w4 ⟨rfl, hB4⟩
  have HB34 : Hid (Below w3.heap.size w3 w4) := hB4
  have HB4 : Hid (Below w1.heap.size w1 w4) := HB3.out.trans (hB4.mono HB3.out.size)
  have HSD : Hid (b = true → Calls Tryz.prog 67 #[.slice a3 A.length c3, .slice (some ⟨g, 0, none⟩) n gc] w4 fun e w' => e = .returned (.bool true) ∧ Below w4.heap.size w4 w') := fun hb => by
    obtain ⟨e, hL⟩ := HA.out hb
    have h1 := HI3.out w4 HB34.out
    rw [e] at h1 ⊢
    exact sameDagV_like a3 _ n c3 gc (gN A) (fun i => neat (D i)) w4 h1 (HI.out w4 HB4.out).neat hL
  have htt : (T.toList == T.toList) = true := by simp
  have htn : (T.toList != T.toList) = false := by simp
  have HE : Hid (∀ (w5 : World), Below w1.heap.size w1 w5 → Below W.heap.size W w5) := fun w5 hB => HB1.out.trans (hB.mono HB1.out.size)
  have HB4W : Hid (Below W.heap.size W w4) := HE.out w4 HB4.out
  obtain ⟨z, hz⟩ : ∃ z, z = (T.toList == ([] : List UInt8)) := ⟨_, rfl⟩
  have HBQ2 : Hid (b = (!z && decide (T.size ≤ 30000))) := by show _ = _; rw [hz]; exact HBQ.out
  have hz1 := hz.symm
  have hz2 : (T.toList != ([] : List UInt8)) = !z := by unfold bne; rw [← hz]
  clear hz HBQ
  cases z with
  | true =>
    have hb0 : b = false := by rw [HBQ2.out]; rfl
    subst hb0
    clear HSD HBQ2
    go_wp2_with fail
    refine (drawReadDag_any w4 (HU.out.below HB4W.out)).mono ?_
    rintro e w6 ⟨t, rfl, ht, hB6⟩
    have HT6 : Hid (t.size ≤ 130000) := ht
    have HB6 : Hid (Below W.heap.size W w6) := HB4W.out.trans (hB6.mono HB4W.out.size)
    clear ht hB6
    go_wp2_with fail
    refine (HR.out t w6 (Nat.le_trans HT6.out (by decide)) HB6.out).mono ?_
    rintro e w7 ⟨v7, A7, b7, rfl, o7, _, r7, hB7⟩
    have HR7 : Hid (RdA t b7 A7) := r7
    have HB7 : Hid (Below W.heap.size W w7) := HB6.out.trans (hB7.mono HB6.out.size)
    obtain ⟨a7, c7, rfl, i7, _⟩ := o7.nds
    have HI7 : Hid (∀ w', Below w7.heap.size w7 w' → IsNds w' a7 A7.length c7 (gN A7)) := fun w' hB => i7.below hB
    clear o7 r7 hB7 i7
    go_wp2_with fail
    refine (specReadDag_any t w7 (Nat.le_trans HT6.out (by decide))).mono ?_
    rintro e w8 ⟨v8, A8, b8, rfl, o8, r8, hB8⟩
    obtain ⟨hbb, _⟩ := HR7.out.unique r8
    have hb8 : b8 = b7 := hbb
    subst hb8
    have HB78 : Hid (Below w7.heap.size w7 w8) := hB8
    have HB8 : Hid (Below W.heap.size W w8) := HB7.out.trans (hB8.mono HB7.out.size)
    obtain ⟨a8, c8, rfl, i8, _⟩ := o8.nds
    clear o8 r8 hB8 hbb i8
    cases b8 with
    | false =>
      go_wp2
      go_ret
      exact ⟨rfl, HB8.out⟩
    | true =>
      have HX : Hid (Calls Tryz.prog 65 #[.slice a7 A7.length c7] w8 fun e w' => e = .returned (.string t) ∧ Below w8.heap.size w8 w') := by
        obtain ⟨_, q2, _, q4⟩ := HR7.out.1 rfl
        rw [← q2]
        exact implDagText_any a7 A7.length c7 (gN A7) w8 (HI7.out w8 HB78.out) (FineL.fine q4) (HP.out.below HB8.out)
      have ht1 : (t.toList == t.toList) = true := by simp
      go_wp2_with fail
      refine HX.out.mono ?_
      rintro e w9 ⟨rfl, hB9⟩
      have HB9 : Hid (Below W.heap.size W w9) := HB8.out.trans (hB9.mono HB8.out.size)
      clear hB9
      go_wp2
      go_ret
      exact ⟨rfl, HB9.out⟩
  | false =>
    by_cases h3 : T.size ≤ 30000
    · have hb0 : b = true := by rw [HBQ2.out, decide_eq_true h3]; rfl
      subst hb0
      have h3I : (T.size : Int) ≤ 30000 := by omega
      have HSE : Hid (Calls Tryz.prog 67 #[.slice a3 A.length c3, .slice (some ⟨g, 0, none⟩) n gc] w4 fun e w' => e = .returned (.bool true) ∧ Below w4.heap.size w4 w') := HSD.out rfl
      clear HBQ2 h3 HSD
      go_wp2_with fail
      refine HSE.out.mono ?_
      rintro e w5 ⟨rfl, hB5⟩
      have HB5W : Hid (Below W.heap.size W w5) := HB4W.out.trans (hB5.mono HB4W.out.size)
      clear hB5 HSE
      go_wp2_with fail
      refine (drawReadDag_any w5 (HU.out.below HB5W.out)).mono ?_
      rintro e w6 ⟨t, rfl, ht, hB6⟩
      have HT6 : Hid (t.size ≤ 130000) := ht
      have HB6 : Hid (Below W.heap.size W w6) := HB5W.out.trans (hB6.mono HB5W.out.size)
      clear ht hB6
      go_wp2_with fail
      refine (HR.out t w6 (Nat.le_trans HT6.out (by decide)) HB6.out).mono ?_
      rintro e w7 ⟨v7, A7, b7, rfl, o7, _, r7, hB7⟩
      have HR7 : Hid (RdA t b7 A7) := r7
      have HB7 : Hid (Below W.heap.size W w7) := HB6.out.trans (hB7.mono HB6.out.size)
      obtain ⟨a7, c7, rfl, i7, _⟩ := o7.nds
      have HI7 : Hid (∀ w', Below w7.heap.size w7 w' → IsNds w' a7 A7.length c7 (gN A7)) := fun w' hB => i7.below hB
      clear o7 r7 hB7 i7
      go_wp2_with fail
      refine (specReadDag_any t w7 (Nat.le_trans HT6.out (by decide))).mono ?_
      rintro e w8 ⟨v8, A8, b8, rfl, o8, r8, hB8⟩
      obtain ⟨hbb, _⟩ := HR7.out.unique r8
      have hb8 : b8 = b7 := hbb
      subst hb8
      have HB78 : Hid (Below w7.heap.size w7 w8) := hB8
      have HB8 : Hid (Below W.heap.size W w8) := HB7.out.trans (hB8.mono HB7.out.size)
      obtain ⟨a8, c8, rfl, i8, _⟩ := o8.nds
      clear o8 r8 hB8 hbb i8
      cases b8 with
      | false =>
        go_wp2
        go_ret
        exact ⟨rfl, HB8.out⟩
      | true =>
        have HX : Hid (Calls Tryz.prog 65 #[.slice a7 A7.length c7] w8 fun e w' => e = .returned (.string t) ∧ Below w8.heap.size w8 w') := by
          obtain ⟨_, q2, _, q4⟩ := HR7.out.1 rfl
          rw [← q2]
          exact implDagText_any a7 A7.length c7 (gN A7) w8 (HI7.out w8 HB78.out) (FineL.fine q4) (HP.out.below HB8.out)
        have ht1 : (t.toList == t.toList) = true := by simp
        go_wp2_with fail
        refine HX.out.mono ?_
        rintro e w9 ⟨rfl, hB9⟩
        have HB9 : Hid (Below W.heap.size W w9) := HB8.out.trans (hB9.mono HB8.out.size)
        clear hB9
        go_wp2
        go_ret
        exact ⟨rfl, HB9.out⟩
    · have hb0 : b = false := by rw [HBQ2.out, decide_eq_false h3]; rfl
      subst hb0
      have h3I : ¬ (T.size : Int) ≤ 30000 := by omega
      clear HBQ2 h3 HSD
      go_wp2_with fail
      refine (drawReadDag_any w4 (HU.out.below HB4W.out)).mono ?_
      rintro e w6 ⟨t, rfl, ht, hB6⟩
      have HT6 : Hid (t.size ≤ 130000) := ht
      have HB6 : Hid (Below W.heap.size W w6) := HB4W.out.trans (hB6.mono HB4W.out.size)
      clear ht hB6
      go_wp2_with fail
      refine (HR.out t w6 (Nat.le_trans HT6.out (by decide)) HB6.out).mono ?_
      rintro e w7 ⟨v7, A7, b7, rfl, o7, _, r7, hB7⟩
      have HR7 : Hid (RdA t b7 A7) := r7
      have HB7 : Hid (Below W.heap.size W w7) := HB6.out.trans (hB7.mono HB6.out.size)
      obtain ⟨a7, c7, rfl, i7, _⟩ := o7.nds
      have HI7 : Hid (∀ w', Below w7.heap.size w7 w' → IsNds w' a7 A7.length c7 (gN A7)) := fun w' hB => i7.below hB
      clear o7 r7 hB7 i7
      go_wp2_with fail
      refine (specReadDag_any t w7 (Nat.le_trans HT6.out (by decide))).mono ?_
      rintro e w8 ⟨v8, A8, b8, rfl, o8, r8, hB8⟩
      obtain ⟨hbb, _⟩ := HR7.out.unique r8
      have hb8 : b8 = b7 := hbb
      subst hb8
      have HB78 : Hid (Below w7.heap.size w7 w8) := hB8
      have HB8 : Hid (Below W.heap.size W w8) := HB7.out.trans (hB8.mono HB7.out.size)
      obtain ⟨a8, c8, rfl, i8, _⟩ := o8.nds
      clear o8 r8 hB8 hbb i8
      cases b8 with
      | false =>
        go_wp2
        go_ret
        exact ⟨rfl, HB8.out⟩
      | true =>
        have HX : Hid (Calls Tryz.prog 65 #[.slice a7 A7.length c7] w8 fun e w' => e = .returned (.string t) ∧ Below w8.heap.size w8 w') := by
          obtain ⟨_, q2, _, q4⟩ := HR7.out.1 rfl
          rw [← q2]
          exact implDagText_any a7 A7.length c7 (gN A7) w8 (HI7.out w8 HB78.out) (FineL.fine q4) (HP.out.below HB8.out)
        have ht1 : (t.toList == t.toList) = true := by simp
        go_wp2_with fail
        refine HX.out.mono ?_
        rintro e w9 ⟨rfl, hB9⟩
        have HB9 : Hid (Below W.heap.size W w9) := HB8.out.trans (hB9.mono HB8.out.size)
        clear hB9
        go_wp2
        go_ret
        exact ⟨rfl, HB9.out⟩
end Go.Proofs.YtlibipbpaigmdaaGreatDoor
