/-
  The specification's l14Do: files behind an op. No condition but that the slice reads and that the sizes are small.
-/
import Derived.Test.YtbohaefmokbgbaaDkO
import Derived.Test.YtbohaefmokbgbaaRegR
import Derived.Laws.AppendOwnNone
import Derived.Shelf.Abstract
namespace Go.Proofs.Ytbohaefmokbgbaa
open Go.RowKit Go.Shelf
set_option linter.unusedVariables false

theorem add_ok {a b : ByteArray} (h : a.size + b.size ≤ 2000000000) (w : World) : (Op.stringOp .add a b).run Try.prog w = .ok (.string (a ++ b)) w := run_string_add_sum w _ _ (by omega)

/-- the data of the file of that name -/
def getF (L : List Fl) (s : ByteArray) : Option ByteArray := (L.find? fun f => f.n.toList == s.toList).map (·.d)
theorem find_at : ∀ (L : List Fl) (s : ByteArray) (i : Nat), i < L.length → (L.getD i flZ).n.toList = s.toList → (∀ j, j < i → (L.getD j flZ).n.toList ≠ s.toList) → L.find? (fun f => f.n.toList == s.toList) = some (L.getD i flZ)
  | [], s, i, h, _, _ => absurd h (Nat.not_lt_zero _)
  | x :: L, s, 0, _, he, _ => by
    have he' : x.n.toList = s.toList := he
    rw [List.find?_cons_of_pos (by rw [he']; simp)]
    rfl
  | x :: L, s, i + 1, h, he, hn => by
    have h0 := hn 0 (by omega)
    have h0' : x.n.toList ≠ s.toList := h0
    rw [List.find?_cons_of_neg (by simpa using h0')]
    have := find_at L s i (by simpa using h) (by simpa using he) (fun j hj => by have := hn (j + 1) (by omega); simpa using this)
    rw [this]
    simp
theorem at_get {L : List Fl} {s : ByteArray} {z : Int} (h : AtIs L s z) : (z = -1 ∧ getF L s = none) ∨ ∃ i : Nat, z = i ∧ i < L.length ∧ getF L s = some (L.getD i flZ).d := by
  rcases h with ⟨rfl, h⟩ | ⟨i, rfl, hi, he, hn⟩
  · left
    refine ⟨rfl, ?_⟩
    unfold getF
    rw [Option.map_eq_none_iff, List.find?_eq_none]
    intro f hf
    obtain ⟨j, hj, e⟩ := List.getElem_of_mem hf
    have := h j hj
    rw [show L.getD j flZ = f by simp [hj, e]] at this
    simpa using this
  · right
    refine ⟨i, rfl, hi, ?_⟩
    unfold getF
    rw [find_at L s i hi he hn]
    rfl
/-- files behind an op; false: it finds no file -/
def doF (L : List Fl) (o : Dop) : List Fl × Bool :=
  if o.k = 1 then (putF L o.n (match getF L o.n with | some x => x ++ o.d | none => o.d), true)
  else match getF L o.n with
    | none => (L, false)
    | some x => if o.k = 2 then (putF (cutF L o.n) o.t x, true) else (cutF L o.n, true)

theorem q_fieldO (ev : Operand → Value) (o : Oper) (w : World) (x : Operand) (j k : Nat) (h : o.op = .fieldAddr 49 x j) (hx : ev x = .pointer (some ⟨k, 0, none⟩)) (hj : j = 2) : (execOp ev o).run Try.prog w = .ok (.value (.pointer (some ⟨k, 2, none⟩))) w := by
  subst hj
  simp [execOp, h, hx]
  go_simp
theorem q_fieldF (ev : Operand → Value) (o : Oper) (w : World) (x : Operand) (k i : Nat) (h : o.op = .fieldAddr 68 x 1) (hx : ev x = .pointer (some ⟨k, i, none⟩)) : (execOp ev o).run Try.prog w = .ok (.value (.pointer (some ⟨k, i + 1, none⟩))) w := by
  simp [execOp, h, hx]
  go_simp
theorem q_idxF (ev : Operand → Value) (o : Oper) (w : World) (x y : Operand) (b off n c m : Nat) (h : o.op = .indexAddr 24 x y) (hx : ev x = .slice (some ⟨b, off, none⟩) n c) (hy : ev y = .int .i64 m) (hm : m < n) : (execOp ev o).run Try.prog w = .ok (.value (.pointer (some ⟨b, off + m * 2, none⟩))) w := by
  have hmI : (m : Int) < (n : Int) := by omega
  simp [execOp, h, hx, hy]
  go_simp
theorem q_loadS (ev : Operand → Value) (o : Oper) (w : World) (x : Operand) (p k : Nat) (c : ByteArray) (h : o.op = .load 9 x) (hx : ev x = .pointer (some ⟨p, k, none⟩)) (hc : w.cell? ⟨p, k, none⟩ = some (.string c)) : (execOp ev o).run Try.prog w = .ok (.value (.string c)) w := by
  simp [execOp, h, hx]
  go_simp
def dsD : List Nat := [44, 45, 46, 47, 48, 49, 50, 51, 52, 8]
def slotD (j : Nat) : Nat := dsD.getD j 0
theorem slotD_inj (i j : Nat) (hi : i < 10) (hj : j < 10) (q : slotD i = slotD j) : i = j := by
  have h : ∀ i : Fin 10, ∀ j : Fin 10, slotD i.val = slotD j.val → i.val = j.val := by decide
  exact h ⟨i, hi⟩ ⟨j, hj⟩ q
theorem slotD_mem (i : Nat) (hi : i < 10) : slotD i ∈ dsD := by
  have h : ∀ i : Fin 10, slotD i.val ∈ dsD := by decide
  exact h ⟨i, hi⟩
def DF (g : Nat) (u1 : Value) (b off n cap i : Nat) (t x : ByteArray) (R : List Fl) (base : Nat) : Nat → Value → World → Prop
  | 0, v, _ => v = u1
  | 1, v, _ => v = .pointer (some ⟨g, 2, none⟩)
  | 2, v, _ => v = .string t
  | 3, v, _ => v = .slice (some ⟨b, off, none⟩) n cap
  | 4, v, _ => v = .int .i64 i
  | 5, v, _ => v = .pointer (some ⟨b, off + i * 2, none⟩)
  | 6, v, _ => v = .pointer (some ⟨b, off + i * 2 + 1, none⟩)
  | 7, v, _ => v = .string x
  | 8, v, w => OwnF w base v R ∧ v ≠ .slice none 0 0
  | 9, v, w => OwnF w base v R ∧ v ≠ .slice none 0 0
  | _, _, _ => True
theorem DF.below {g : Nat} {u1 : Value} {b off n cap i : Nat} {t x : ByteArray} {R : List Fl} {base j : Nat} {v : Value} {w w' : World} (h : DF g u1 b off n cap i t x R base j v w) (hB : Below w.heap.size w w') : DF g u1 b off n cap i t x R base j v w' := by
  match j, h with
  | 0, h => exact h
  | 1, h => exact h
  | 2, h => exact h
  | 3, h => exact h
  | 4, h => exact h
  | 5, h => exact h
  | 6, h => exact h
  | 7, h => exact h
  | 8, h => exact ⟨h.1.below hB, h.2⟩
  | 9, h => exact ⟨h.1.below hB, h.2⟩
  | (m + 10), _ => trivial

set_option maxRecDepth 10000 in
set_option maxHeartbeats 4000000 in
theorem do_any (v : Value) (K : List Fl) (o : Dop) (w : World) (h : RdF w v K) (hK : K.length ≤ 1000000) (hD : ∀ f ∈ K, f.d.size + o.d.size ≤ 2000000000) :
    Calls Try.prog 57 #[v, .agg (encO o)] w fun e w' => ∃ u, e = .returned (.tuple #[u, .bool (doF K o).2]) ∧ OwnF w' w.heap.size u (doF K o).1 ∧ u ≠ .slice none 0 0 ∧ Below w.heap.size w w' := by
  have HR0 : Hid (∀ w', Below w.heap.size w w' → RdF w' v K) := fun w' hB => h.below hB
  obtain ⟨a, cap, rfl, hlc, hcm, hc⟩ := h
  obtain ⟨n, hn⟩ : ∃ n, n = K.length := ⟨_, rfl⟩
  have HR : Hid (∀ w', Below w.heap.size w w' → RdF w' (.slice a n cap) K) := by rw [hn]; exact HR0.out
  clear HR0
  have HN : Hid (n = K.length) := hn
  obtain ⟨X, hX⟩ : ∃ X, X = w.alloc (.cells #[.int .i64 o.k, .string o.n, .string o.t, .string o.d] 49) := ⟨_, rfl⟩
  have hBX : Below w.heap.size w X := by rw [hX]; exact (Below.refl _ _).alloc (Nat.le_refl _) _
  have gX : X.heap[w.heap.size]? = some (.cells #[.int .i64 o.k, .string o.n, .string o.t, .string o.d] 49 (0, 0)) := by rw [hX]; exact heap_alloc_new _ _
  have HG : Hid (∀ w', Below X.heap.size X w' → w'.cell? ⟨w.heap.size, 0, none⟩ = some (.int .i64 o.k) ∧ w'.cell? ⟨w.heap.size, 1, none⟩ = some (.string o.n) ∧ w'.cell? ⟨w.heap.size, 2, none⟩ = some (.string o.t) ∧ w'.cell? ⟨w.heap.size, 3, none⟩ = some (.string o.d) ∧ Below w.heap.size w w') := fun w' hB => by
    have g := (hB.block _ (lt_of_block gX)).trans gX
    exact ⟨cellN g, cellN g, cellN g, cellN g, hBX.trans (hB.mono hBX.size)⟩
  have HX := (show Hid _ from hX)
  have HD : Hid (∀ f ∈ K, f.d.size + o.d.size ≤ 2000000000) := hD
  have HSZ : Hid (w.heap.size ≤ X.heap.size) := hBX.size
  have hg := HG.out X (Below.refl _ _)
  rw [hX] at hg
  obtain ⟨c0, c1, c2, c3, _⟩ := hg
  obtain ⟨i0, hi, hz0, hz1, hz2⟩ := info_parts infoF
  rw [← hn] at hlc hc hK ⊢
  have en1 : ∀ args w, (callFunc 85 args).run Try.prog w = .ok (.enter 85 args) w := enters_of Try.func85 (by kernel_rfl) rfl
  have HEN := (show Hid _ from en1)
  clear hn hX hBX gX hD en1
  unfold encO
  go_enter Try.func57, Try.ntmps57
  go_wp2_with fail
  rw [← HX.out]
  refine (at_any _ K o.n X (HR.out X (HG.out X (Below.refl _ _)).2.2.2.2)).mono ?_
  rintro e w' ⟨z, rfl, hz, hw⟩
  rw [hw]
  clear hw w' c0 c1 c2 c3 HX
  obtain ⟨c0, c1, c2, c3, _⟩ := HG.out X (Below.refl _ _)
  have HBX : Hid (Below w.heap.size w X) := (HG.out X (Below.refl _ _)).2.2.2.2
  by_cases hk1 : o.k = 1
  · have hk1b : (o.k == 1) = true := by simpa using hk1
    rcases at_get hz with ⟨rfl, hg⟩ | ⟨i, rfl, hin, hg⟩
    · have HF : Hid (doF K o = (putF K o.n o.d, true)) := by show _ = _; unfold doF; rw [if_pos hk1, hg]
      clear hz hg hk1 hc
      go_wp2_with fail
      refine (put_any _ K o.n o.d X (HR.out X HBX.out) (by have := HN.out; omega)).mono ?_
      rintro e w2 ⟨u, rfl, hu, hne, hB2⟩
      have HE : Hid (OwnF w2 w.heap.size u (putF K o.n o.d) ∧ u ≠ .slice none 0 0 ∧ Below w.heap.size w w2) := ⟨hu.base HSZ.out, hne, HBX.out.trans (hB2.mono HBX.out.size)⟩
      clear hu hne hB2 c0 c1 c2 c3
      go_wp2
      go_ret2
      rw [HF.out]
      exact ⟨_, rfl, HE.out.1, HE.out.2.1, HE.out.2.2⟩
    · obtain ⟨x, hx⟩ : ∃ x, x = (K.getD i flZ).d := ⟨_, rfl⟩
      rw [← hx] at hg
      have HF : Hid (doF K o = (putF K o.n (x ++ o.d), true)) := by show _ = _; unfold doF; rw [if_pos hk1, hg]
      have hin' : i < n := by rw [HN.out]; exact hin
      have hinI : (i : Int) < (n : Int) := by omega
      have hin0 : (0 : Int) ≤ (i : Int) := by omega
      obtain ⟨b, off, rfl, hbs, hl⟩ := hc (by omega)
      have d1 : X.cell? ⟨b, off + i * 2 + 1, none⟩ = some (.string x) := by rw [hx]; exact (HBX.out.cell (p := ⟨b, off + i * 2 + 1, none⟩) hbs).trans (hl i hin).c1
      have hadd := add_ok (a := x) (b := o.d) (by
        have := HD.out (K.getD i flZ) (by simp [hin])
        rw [← hx] at this
        exact this)
      clear hz hg hk1 hc hl hx
      go_wp2_with fail
      refine (put_any _ K o.n (x ++ o.d) X (HR.out X HBX.out) (by have := HN.out; omega)).mono ?_
      rintro e w2 ⟨u, rfl, hu, hne, hB2⟩
      have HE : Hid (OwnF w2 w.heap.size u (putF K o.n (x ++ o.d)) ∧ u ≠ .slice none 0 0 ∧ Below w.heap.size w w2) := ⟨hu.base HSZ.out, hne, HBX.out.trans (hB2.mono HBX.out.size)⟩
      clear hu hne hB2 c0 c1 c2 c3 d1
      go_wp2
      go_ret2
      rw [HF.out]
      exact ⟨_, rfl, HE.out.1, HE.out.2.1, HE.out.2.2⟩
  · have hk1b : (o.k == 1) = false := by simpa using hk1
    rcases at_get hz with ⟨rfl, hg⟩ | ⟨i, rfl, hin, hg⟩
    · have HF : Hid (doF K o = (K, false)) := by show _ = _; unfold doF; rw [if_neg hk1, hg]
      clear hz hg hk1
      by_cases h0 : 0 < n
      · obtain ⟨b, off, rfl, hbs, hl⟩ := hc h0
        have HL : Hid (∀ j u, (cellsF K)[j]? = some u → (X.alloc (.cells #[] 68)).cell? ((⟨b, off, none⟩ : Addr).add j) = some u) := by
          have hl2 : LiesF (X.alloc (.cells #[] 68)) b off K := fun j hj => (((hl j hj).kept (HBX.out.block b hbs))).below ((Below.refl _ _).alloc (Nat.le_refl _) _)
          exact hl2.news
        have hc1 : Hid (0 + n ≤ maxLen) := by show _ ≤ _; unfold maxLen; omega
        have hc2 : Hid ((0 + n) * 32 ≤ 140737488355328) := by show _ ≤ _; omega
        clear hc hl
        go_wp2_with (at_builtin; refine wpList_append_own _ rfl _ _ 24 rfl w.heap.size 68 i0 (.agg #[.string ⟨#[]⟩, .string ⟨#[]⟩]) 2 32 Try.underlying24 hi hz0 hz1 hz2 rfl (by decide) _ 0 [] rfl (World.ownsRow_made X #[] 0 HSZ.out (by decide) rfl) ⟨b, off, none⟩ n cap (cellsF K) rfl (by rw [cellsF_len, ← HN.out]) HL.out (oneF K) hc1.out hc2.out (by have := HSZ.out; simp; omega) ?_; intro v' w3 hown hgrow hnil)
        have HE : Hid (OwnF w3 w.heap.size v' K ∧ v' ≠ .slice none 0 0 ∧ Below w.heap.size w w3) := by
          refine ⟨?_, (fun e => by have := (hnil.1 e).1; cases this), (HBX.out.alloc HBX.out.size _).grown hgrow (by have := HSZ.out; simp; omega) (fun x hx => by have hx' : some X.heap.size = some x := hx; cases hx'; exact HSZ.out)⟩
          show w3.ownsRow _ _ _ _ _ _
          rw [← HN.out]
          rw [Nat.zero_add, List.nil_append] at hown
          exact hown
        clear hown hgrow hnil c0 c1 c2 c3
        go_wp2
        go_ret2
        rw [HF.out]
        exact ⟨_, rfl, HE.out.1, HE.out.2.1, HE.out.2.2⟩
      · have hn0 : n = 0 := by omega
        subst hn0
        have hK0 : Hid (K = []) := List.length_eq_zero_iff.1 HN.out.symm
        have HE : Hid (OwnF (X.alloc (.cells #[] 68)) w.heap.size (.slice (some ⟨X.heap.size, 0, none⟩) 0 0) K ∧ Below w.heap.size w (X.alloc (.cells #[] 68))) := by
          rw [hK0.out]
          exact ⟨World.ownsRow_made X #[] 0 HSZ.out (by decide) rfl, HBX.out.alloc HBX.out.size _⟩
        clear hc
        cases a with
        | none =>
          have hz' : cap = 0 ∨ 0 < cap := by omega
          go_wp2_with (at_builtin; refine wpList_append_own_none rfl _ _ 24 rfl w.heap.size 68 i0 2 Try.underlying24 hi _ 0 [] rfl (World.ownsRow_made X #[] 0 HSZ.out (by decide) rfl) rfl ?_)
          go_wp2
          go_ret2
          rw [HF.out]
          exact ⟨_, rfl, HE.out.1, by simp, HE.out.2⟩
        | some ad =>
          go_wp2_with (at_builtin; refine wpList_append_own _ rfl _ _ 24 rfl w.heap.size 68 i0 (.agg #[.string ⟨#[]⟩, .string ⟨#[]⟩]) 2 32 Try.underlying24 hi hz0 hz1 hz2 rfl (by decide) _ 0 [] rfl (World.ownsRow_made X #[] 0 HSZ.out (by decide) rfl) ad 0 cap [] rfl rfl (fun j u h => by cases h) (fun u h => by cases h) (by unfold maxLen; omega) (by omega) (by have := HSZ.out; simp; omega) ?_; intro v' w3 hown hgrow hnil)
          have HE3 : Hid (OwnF w3 w.heap.size v' K ∧ v' ≠ .slice none 0 0 ∧ Below w.heap.size w w3) := by
            refine ⟨?_, (fun e => by have := (hnil.1 e).1; cases this), (HBX.out.alloc HBX.out.size _).grown hgrow (by have := HSZ.out; simp; omega) (fun x hx => by have hx' : some X.heap.size = some x := hx; cases hx'; exact HSZ.out)⟩
            rw [hK0.out]
            exact hown
          clear hown hgrow hnil
          go_wp2
          go_ret2
          rw [HF.out]
          exact ⟨_, rfl, HE3.out.1, HE3.out.2.1, HE3.out.2.2⟩
    · obtain ⟨x, hx⟩ : ∃ x, x = (K.getD i flZ).d := ⟨_, rfl⟩
      rw [← hx] at hg
      have hin' : i < n := by rw [HN.out]; exact hin
      have hinI : (i : Int) < (n : Int) := by omega
      have hin0 : ¬ (i : Int) < 0 := by omega
      obtain ⟨b, off, rfl, hbs, hl⟩ := hc (by omega)
      have HDX : Hid (∀ w', Below w.heap.size w w' → w'.cell? ⟨b, off + i * 2 + 1, none⟩ = some (.string x)) := fun w' hB => by rw [hx]; exact (hB.cell (p := ⟨b, off + i * 2 + 1, none⟩) hbs).trans (hl i hin).c1
      clear hc hl hx hin
      go_wp2_with fail
      refine (cut_any _ K o.n X (HR.out X HBX.out) (by have := HN.out; omega)).mono ?_
      rintro e w2 ⟨u1, rfl, hu, hne, hB2⟩
      clear c0 c1 c2 c3
      obtain ⟨c0, c1, c2, c3, hB2w⟩ := HG.out w2 hB2
      have HB2 := (show Hid _ from hB2)
      have HU1 : Hid (∀ w', Below w2.heap.size w2 w' → OwnF w' X.heap.size u1 (cutF K o.n)) := fun w' hB => hu.below hB
      have HNE := (show Hid _ from hne)
      clear hu hB2 hB2w hne
      by_cases hk2 : o.k = 2
      · have hk2b : (o.k == 2) = true := by simpa using hk2
        have HF : Hid (doF K o = (putF (cutF K o.n) o.t x, true)) := by show _ = _; unfold doF; rw [if_neg hk1, hg]; simp only; rw [if_pos hk2]
        have HC : Hid (∀ wy, Below w2.heap.size w2 wy → wy.cell? ⟨w.heap.size, 2, none⟩ = some (.string o.t) ∧ wy.cell? ⟨b, off + i * 2 + 1, none⟩ = some (.string x) ∧ RdF wy u1 (cutF K o.n)) := fun wy hy => by
          have hXy : Below X.heap.size X wy := HB2.out.trans (hy.mono HB2.out.size)
          exact ⟨(HG.out wy hXy).2.2.1, HDX.out wy (HG.out wy hXy).2.2.2.2, (HU1.out wy hy).rd⟩
        have HSZ2 : Hid (w.heap.size ≤ w2.heap.size) := Nat.le_trans HSZ.out HB2.out.size
        have hin : i < n := hin'
        clear hg hk1 hk2
        go_wp2
        refine wp_cut_to (fun a0 t w' => ∃ f, t = canon a0 dsD f ∧ (OwnF w' w.heap.size (f 8) (putF (cutF K o.n) o.t x) ∧ f 8 ≠ .slice none 0 0) ∧ Below w2.heap.size w2 w') ?_ ?_
        · rintro _ w5 ⟨f, rfl, ⟨h8, h8n⟩, h5⟩
          simp only [canon, dsD, List.foldl, Act.put, List.setIfInBounds_toArray, List.set_cons_succ, List.set_cons_zero]
          generalize f 8 = u8 at h8 h8n ⊢
          have HE : Hid (OwnF w5 w.heap.size u8 (putF (cutF K o.n) o.t x) ∧ u8 ≠ .slice none 0 0 ∧ Below w.heap.size w w5) := ⟨h8, h8n, (HG.out w5 (HB2.out.trans (h5.mono HB2.out.size))).2.2.2.2⟩
          clear h8 h8n h5 c0 c1 c2 c3
          go_wp2
          go_ret2
          rw [HF.out]
          exact ⟨_, rfl, HE.out.1, HE.out.2.1, HE.out.2.2⟩
        intro J K' hJ hK
        refine wp_letter ?_
        intro fr hfr
        have hs7 : 52 < fr.tmps.size := by rw [hfr]; exact Nat.le_of_ble_eq_true rfl
        have t0 : fr.eval (.tmp 0) = .slice (some ⟨b, off, none⟩) n cap := by rw [hfr]; rfl
        have t3 : fr.eval (.tmp 3) = .pointer (some ⟨w.heap.size, 0, none⟩) := by rw [hfr]; rfl
        have t6 : fr.eval (.tmp 6) = .int .i64 (i : Int) := by rw [hfr]; rfl
        have t8 : fr.eval (.tmp 8) = u1 := by rw [hfr]; rfl
        have HFR := (show Hid _ from hfr)
        clear hfr
        refine wp_region_rel2 (Rel := fun v v' => Below v.heap.size v v') (fun v => Below.refl _ _) (fun h k => h.trans (k.mono h.size)) (fun v => (Below.refl _ _).drew) (by kernel_rfl) (by kernel_rfl) dsD slotD (DF w.heap.size u1 b off n cap i o.t x (putF (cutF K o.n) o.t x) w.heap.size) (fun _ _ _ _ h hB => h.below hB) ?_ ?_ ?_ ?_
        · intro i hi
          exact slotD_mem i hi
        · intro i j hi hj q
          exact slotD_inj i j hi hj q
        · intro ops hops done f wy j oo hy ho hnd hini hcl hd
          have ho2 := ho
          rw [hops] at ho
          have N0 := (canon_eval_ne fr dsD f 0 (by decide)).trans t0
          have N3 := (canon_eval_ne fr dsD f 3 (by decide)).trans t3
          have N6 := (canon_eval_ne fr dsD f 6 (by decide)).trans t6
          have hi : j < 10 := by
            rcases Nat.lt_or_ge j 10 with h | h
            · exact h
            · rw [Array.getElem?_eq_none (by simpa using h)] at ho; cases ho
          have hi' : j = 0 ∨ j = 1 ∨ j = 2 ∨ j = 3 ∨ j = 4 ∨ j = 5 ∨ j = 6 ∨ j = 7 ∨ j = 8 ∨ j = 9 := by omega
          rcases hi' with rfl | rfl | rfl | rfl | rfl | rfl | rfl | rfl | rfl | rfl <;> simp only [List.getElem?_toArray, List.getElem?_cons_succ, List.getElem?_cons_zero, Option.some.injEq] at ho <;> subst ho
          · have hd9 : done 9 = false := by
              cases h9 : done 9 with
              | false => rfl
              | true =>
                have := hcl 9 _ (by rw [hops]; rfl) h9 ⟨0, .phase⟩ (by simp) rfl
                rw [hnd] at this; cases this
            have N8 : (canon fr dsD f).eval (.tmp 8) = u1 := (canon_eval fr dsD f 8 (by decide) (Nat.lt_of_le_of_lt (by decide) hs7)).trans ((hini 9 (by decide) hd9).trans t8)
            refine wpOp_runG ho2 (wanted_none rfl) (q_move (canon fr dsD f).eval _ wy _ rfl) ?_
            exact ⟨_, rfl, N8, Below.refl _ _⟩
          · refine wpOp_runG ho2 (wanted_none rfl) (q_fieldO (canon fr dsD f).eval _ wy _ 2 w.heap.size rfl N3 rfl) ?_
            exact ⟨_, rfl, rfl, Below.refl _ _⟩
          · refine wpOp_runG ho2 (wanted_none rfl) (q_loadS (canon fr dsD f).eval _ wy _ w.heap.size 2 o.t rfl ((canon_eval fr dsD f 45 (by decide) (Nat.lt_of_le_of_lt (by decide) hs7)).trans (hd ⟨1, .data⟩ (by simp) rfl)) (HC.out wy hy).1) ?_
            exact ⟨_, rfl, rfl, Below.refl _ _⟩
          · refine wpOp_runG ho2 (wanted_none rfl) (q_move (canon fr dsD f).eval _ wy _ rfl) ?_
            exact ⟨_, rfl, N0, Below.refl _ _⟩
          · refine wpOp_runG ho2 (wanted_none rfl) (q_move (canon fr dsD f).eval _ wy _ rfl) ?_
            exact ⟨_, rfl, N6, Below.refl _ _⟩
          · refine wpOp_runG ho2 (wanted_none rfl) (q_idxF (canon fr dsD f).eval _ wy _ _ b off n cap i rfl ((canon_eval fr dsD f 47 (by decide) (Nat.lt_of_le_of_lt (by decide) hs7)).trans (hd ⟨3, .data⟩ (by simp) rfl)) ((canon_eval fr dsD f 48 (by decide) (Nat.lt_of_le_of_lt (by decide) hs7)).trans (hd ⟨4, .data⟩ (by simp) rfl)) hin) ?_
            exact ⟨_, rfl, rfl, Below.refl _ _⟩
          · refine wpOp_runG ho2 (wanted_none rfl) (q_fieldF (canon fr dsD f).eval _ wy _ b (off + i * 2) rfl ((canon_eval fr dsD f 49 (by decide) (Nat.lt_of_le_of_lt (by decide) hs7)).trans (hd ⟨5, .data⟩ (by simp) rfl))) ?_
            exact ⟨_, rfl, rfl, Below.refl _ _⟩
          · refine wpOp_runG ho2 (wanted_none rfl) (q_loadS (canon fr dsD f).eval _ wy _ b (off + i * 2 + 1) x rfl ((canon_eval fr dsD f 50 (by decide) (Nat.lt_of_le_of_lt (by decide) hs7)).trans (hd ⟨6, .data⟩ (by simp) rfl)) (HC.out wy hy).2.1) ?_
            exact ⟨_, rfl, rfl, Below.refl _ _⟩
          · refine wpOp_enterG ho2 (wanted_none rfl) (q_call3 (canon fr dsD f).eval _ wy _ HEN.out _ _ _ _ rfl rfl) ?_
            rw [(canon_eval fr dsD f 44 (by decide) (Nat.lt_of_le_of_lt (by decide) hs7)).trans (hd ⟨0, .data⟩ (by simp) rfl), (canon_eval fr dsD f 46 (by decide) (Nat.lt_of_le_of_lt (by decide) hs7)).trans (hd ⟨2, .data⟩ (by simp) rfl), (canon_eval fr dsD f 51 (by decide) (Nat.lt_of_le_of_lt (by decide) hs7)).trans (hd ⟨7, .data⟩ (by simp) rfl)]
            refine (put_any _ _ o.t x wy (HC.out wy hy).2.2 (by have := cutF_len K o.n; have := HN.out; omega)).mono ?_
            rintro e wz ⟨u, rfl, hu, hne, hBz⟩
            exact ⟨_, rfl, _, rfl, ⟨hu.base (Nat.le_trans HSZ2.out hy.size), hne⟩, hBz⟩
          · have h8 := hd ⟨8, .data⟩ (by simp) rfl
            refine wpOp_runG ho2 (wanted_none rfl) (q_assign (canon fr dsD f).eval _ wy _ rfl) ?_
            refine ⟨_, rfl, ?_, Below.refl _ _⟩
            show OwnF _ _ _ _ ∧ _
            rw [(canon_eval fr dsD f 52 (by decide) (Nat.lt_of_le_of_lt (by decide) hs7))]
            exact h8
        · intro f wy hy hall
          exact hK _ _ (Met.intro (hJ _ _ ⟨f, congrArg (fun z => canon z dsD f) HFR.out, hall 9 (by decide), hy⟩))
      · have hk2b : (o.k == 2) = false := by simpa using hk2
        have HF : Hid (doF K o = (cutF K o.n, true)) := by show _ = _; unfold doF; rw [if_neg hk1, hg]; simp only; rw [if_neg hk2]
        have HE : Hid (OwnF w2 w.heap.size u1 (cutF K o.n) ∧ u1 ≠ .slice none 0 0 ∧ Below w.heap.size w w2) := ⟨(HU1.out w2 (Below.refl _ _)).base HSZ.out, HNE.out, (HG.out w2 HB2.out).2.2.2.2⟩
        clear hg hk1 hk2
        go_wp2
        go_ret2
        rw [HF.out]
        exact ⟨_, rfl, HE.out.1, HE.out.2.1, HE.out.2.2⟩
end Go.Proofs.Ytbohaefmokbgbaa
