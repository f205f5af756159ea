/-
  Frames that stand one behind the other, plainly: what is taken, put together again, is what it was taken from; one more is taken too; of a cut text the first few. No condition.
-/
import Derived.Test.YtcknemblniemcaaDoorTkQ
namespace Go.Proofs.YtcknemblniemcaaDoor
open Go.RowKit
set_option linter.unusedVariables false

theorem tk_ind (s : ByteArray) (P : List (List UInt8) → Nat → Prop) (h0 : P [] 0) (hstep : ∀ L p, Took s L p → P L p → frB s p = true → P (L ++ [(dat s p).toList]) (p + 8 + wd s p)) : P (tkF s).1 (tkF s).2 ∧ frB s (tkF s).2 = false := by
  have aux : ∀ f p L, Took s L p → P L p → s.size + 1 ≤ f + p → ∃ L' p', Took s L' p' ∧ P L' p' ∧ frB s p' = false := by
    intro f
    induction f with
    | zero => intro p L h _ hf; exact absurd h.1 (by omega)
    | succ f ih =>
      intro p L h hP hf
      cases hq : frB s p with
      | false => exact ⟨L, p, h, hP, hq⟩
      | true => exact ih _ _ (h.step hq) (hstep L p h hP hq) (by omega)
  obtain ⟨L, p, h, hP, hq⟩ := aux (s.size + 1) 0 [] (Took.start s) h0 (by omega)
  rw [h.done hq]
  exact ⟨hP, hq⟩

/-- the frames of these, one behind the other -/
def catF (L : List (List UInt8)) : ByteArray := L.foldl (fun b d => b ++ frameT (tx d)) ⟨#[]⟩
theorem catF_snoc (L : List (List UInt8)) (d : List UInt8) : catF (L ++ [d]) = catF L ++ frameT (tx d) := by unfold catF; rw [List.foldl_append]; rfl
theorem tx_toList (s : ByteArray) : tx s.toList = s := by
  unfold tx
  rw [ByteArray.toList_eq]

theorem frame_back {s : ByteArray} {p : Nat} (h : frB s p = true) : frameT (dat s p) = s.extract p (p + 8 + wd s p) := by
  obtain ⟨h1, h2, h3, h4⟩ := frB_parts h
  have hd : (dat s p).size = wd s p := by unfold dat; rw [ByteArray.size_extract]; omega
  have hl : lenT (wd s p) = s.extract p (p + 4) := by
    have := len_back (s := s.extract p s.size) (by rw [size_rest (by omega)]; omega)
    rw [wd_rest (by omega), ext_rest (by omega)] at this
    exact this
  unfold frameT headT
  rw [if_pos (by omega), hd, hl, toList_inj h4]
  rw [show s.extract p (p + 4) ++ s.extract (p + 4) (p + 8) = s.extract p (p + 8) by
    have := ByteArray.extract_append_extract (a := s) (i := p) (j := p + 4) (k := p + 8)
    rw [this, Nat.min_eq_left (by omega), Nat.max_eq_right (by omega)]]
  unfold dat
  have := ByteArray.extract_append_extract (a := s) (i := p) (j := p + 8) (k := p + 8 + wd s p)
  rw [this, Nat.min_eq_left (by omega), Nat.max_eq_right (by omega)]

/-- from p frames of these stand, up to q -/
def Fi (x : ByteArray) : List (List UInt8) → Nat → Nat → Prop
  | [], p, q => p = q
  | d :: L, p, q => frB x p = true ∧ (dat x p).toList = d ∧ Fi x L (p + 8 + wd x p) q
theorem Fi_snoc (x : ByteArray) : ∀ L p q, Fi x L p q → frB x q = true → Fi x (L ++ [(dat x q).toList]) p (q + 8 + wd x q)
  | [], p, q, h, hq => by
    have h' : p = q := h
    subst h'
    exact ⟨hq, rfl, rfl⟩
  | d :: L, p, q, h, hq => ⟨h.1, h.2.1, Fi_snoc x L _ q h.2.2 hq⟩
theorem Fi_le (x : ByteArray) : ∀ L p q, Fi x L p q → p ≤ q
  | [], p, q, h => Nat.le_of_eq h
  | d :: L, p, q, h => by have := Fi_le x L _ q h.2.2; omega
theorem Fi_end {x : ByteArray} : ∀ L p q, Fi x L p q → p ≤ x.size → q ≤ x.size
  | [], p, q, h, hp => by have h' : p = q := h; omega
  | d :: L, p, q, h, hp => Fi_end L _ q h.2.2 (frB_parts h.1).2.2.1
theorem takeF_Fi (x : ByteArray) : ∀ L p q f, Fi x L p q → p ≤ x.size → x.size + 1 ≤ f + p → ∃ f', x.size + 1 ≤ f' + q ∧ takeF x f p = (L ++ (takeF x f' q).1, (takeF x f' q).2)
  | [], p, q, f, h, hp, hf => by
    have h' : p = q := h
    subst h'
    exact ⟨f, hf, rfl⟩
  | d :: L, p, q, f, h, hp, hf => by
    obtain ⟨f0, rfl⟩ : ∃ f0, f = f0 + 1 := ⟨f - 1, by omega⟩
    obtain ⟨f', h1, h2⟩ := takeF_Fi x L _ q f0 h.2.2 (frB_parts h.1).2.2.1 (by omega)
    refine ⟨f', h1, ?_⟩
    rw [takeF_yes h.1, h2, h.2.1]
    rfl
theorem tkF_Fi {x : ByteArray} {L : List (List UInt8)} {q : Nat} (h : Fi x L 0 q) (hq : frB x q = false) : tkF x = (L, q) := by
  obtain ⟨f', _, h2⟩ := takeF_Fi x L 0 q (x.size + 1) h (Nat.zero_le _) (by omega)
  unfold tkF
  rw [h2, takeF_no hq, List.append_nil]

/-- the first k bytes are the same -/
def Pre (x y : ByteArray) (k : Nat) : Prop := k ≤ x.size ∧ k ≤ y.size ∧ x.extract 0 k = y.extract 0 k
theorem Pre.symm {x y : ByteArray} {k : Nat} (h : Pre x y k) : Pre y x k := ⟨h.2.1, h.1, h.2.2.symm⟩
theorem Pre.cut {x : ByteArray} {k : Nat} (h : k ≤ x.size) : Pre x (x.extract 0 k) k := by
  refine ⟨h, by rw [ByteArray.size_extract]; omega, ?_⟩
  rw [ByteArray.extract_extract, Nat.zero_add, Nat.zero_add, Nat.min_self]
theorem bn_cut {x : ByteArray} {k i : Nat} (hk : k ≤ x.size) (hi : i < k) : bn (x.extract 0 k) i = bn x i := by
  have h1 : i < (x.extract 0 k).size := by rw [ByteArray.size_extract]; omega
  have e1 := bn_eq h1
  have e2 := bn_eq (show i < x.size by omega)
  have e3 : (x.extract 0 k)[i] = x[0 + i]'(by omega) := ByteArray.getElem_extract h1
  have e4 : x[0 + i]'(by omega) = x[i]'(by omega) := by congr 1; omega
  rw [e3, e4] at e1
  omega
theorem Pre.bn {x y : ByteArray} {k i : Nat} (h : Pre x y k) (hi : i < k) : bn y i = bn x i := by
  rw [← bn_cut h.2.1 hi, ← h.2.2, bn_cut h.1 hi]
theorem Pre.ext {x y : ByteArray} {k a b : Nat} (h : Pre x y k) (hb : b ≤ k) : y.extract a b = x.extract a b := by
  have e1 : (x.extract 0 k).extract a b = x.extract a b := by rw [ByteArray.extract_extract, Nat.zero_add, Nat.zero_add, Nat.min_eq_left hb]
  have e2 : (y.extract 0 k).extract a b = y.extract a b := by rw [ByteArray.extract_extract, Nat.zero_add, Nat.zero_add, Nat.min_eq_left hb]
  rw [← e2, ← h.2.2, e1]
theorem Pre.wdTo {x y : ByteArray} {k p : Nat} (h : Pre x y k) : ∀ j, p + j ≤ k → wdTo y p j = wdTo x p j
  | 0, _ => rfl
  | j + 1, hj => by
    show 256 * Go.Proofs.YtcknemblniemcaaDoor.wdTo y p j + Go.Proofs.YtcknemblniemcaaDoor.bn y (p + j) = 256 * Go.Proofs.YtcknemblniemcaaDoor.wdTo x p j + Go.Proofs.YtcknemblniemcaaDoor.bn x (p + j)
    rw [Pre.wdTo h j (by omega), h.bn (by omega)]
theorem Pre.wd {x y : ByteArray} {k p : Nat} (h : Pre x y k) (hp : p + 4 ≤ k) : wd y p = wd x p := h.wdTo 4 hp
theorem Pre.fr {x y : ByteArray} {k p : Nat} (h : Pre x y k) (hf : frB x p = true) (hk : p + 8 + Go.Proofs.YtcknemblniemcaaDoor.wd x p ≤ k) : frB y p = true ∧ dat y p = dat x p ∧ Go.Proofs.YtcknemblniemcaaDoor.wd y p = Go.Proofs.YtcknemblniemcaaDoor.wd x p := by
  obtain ⟨h1, h2, h3, h4⟩ := frB_parts hf
  have hw : Go.Proofs.YtcknemblniemcaaDoor.wd y p = Go.Proofs.YtcknemblniemcaaDoor.wd x p := h.wd (by omega)
  have hd : dat y p = dat x p := by unfold dat; rw [hw, h.ext hk]
  refine ⟨?_, hd, hw⟩
  unfold frB
  rw [hd, hw, decide_eq_true (show p + 8 ≤ y.size by have := h.2.1; omega), decide_eq_true h2, decide_eq_true (show p + 8 + Go.Proofs.YtcknemblniemcaaDoor.wd x p ≤ y.size by have := h.2.1; omega), h.ext (by omega), h4]
  simp
theorem Fi_pre {x y : ByteArray} {k : Nat} (h : Pre x y k) : ∀ L p q, Fi x L p q → q ≤ k → Fi y L p q
  | [], p, q, hf, hq => hf
  | d :: L, p, q, hf, hq => by
    have hle := Fi_le x L _ q hf.2.2
    obtain ⟨h1, h2, h3⟩ := h.fr hf.1 (by omega)
    refine ⟨h1, by rw [h2]; exact hf.2.1, ?_⟩
    rw [h3]
    exact Fi_pre h L _ q hf.2.2 hq

theorem few_aux {s y : ByteArray} {k n : Nat} (h : Pre s y k) (hy : y.size = k) (hk : k ≤ n) : ∀ L p f, Fi s L p n → p ≤ k → k + 1 ≤ f + p → ∃ j, j ≤ L.length ∧ (takeF y f p).1 = L.take j
  | [], p, f, hf, hp, hfu => by
    have h' : p = n := hf
    refine ⟨0, Nat.le_refl _, ?_⟩
    rw [takeF_no (by unfold frB; rw [decide_eq_false (show ¬ p + 8 ≤ y.size by omega)]; simp only [Bool.false_and])]
    rfl
  | d :: L, p, f, hf, hp, hfu => by
    by_cases he : p + 8 + wd s p ≤ k
    · obtain ⟨h1, h2, h3⟩ := h.fr hf.1 he
      obtain ⟨f0, rfl⟩ : ∃ f0, f = f0 + 1 := ⟨f - 1, by omega⟩
      obtain ⟨j, hj, hq⟩ := few_aux h hy hk L _ f0 hf.2.2 he (by omega)
      refine ⟨j + 1, by simp; omega, ?_⟩
      rw [takeF_yes h1, h3, h2, hf.2.1, hq]
      rfl
    · refine ⟨0, Nat.zero_le _, ?_⟩
      have hno : frB y p = false := by
        unfold frB
        by_cases h8 : p + 8 ≤ k
        · rw [h.wd (by omega), decide_eq_false (show ¬ p + 8 + wd s p ≤ y.size by omega)]
          simp only [Bool.false_and, Bool.and_false]
        · rw [decide_eq_false (show ¬ p + 8 ≤ y.size by omega)]
          simp only [Bool.false_and]
      rw [takeF_no hno]
      rfl
theorem few_take {s : ByteArray} {L : List (List UInt8)} {n k : Nat} (h : Fi s L 0 n) (hk : k ≤ n) (hn : n ≤ s.size) : ∃ j, j ≤ L.length ∧ (tkF (s.extract 0 k)).1 = L.take j := by
  have hs : (s.extract 0 k).size = k := by rw [ByteArray.size_extract]; omega
  exact few_aux (Pre.cut (by omega)) hs hk L 0 _ h (Nat.zero_le _) (by rw [hs]; omega)

theorem lenT_inj {a b : Nat} (ha : a < 4294967296) (hb : b < 4294967296) (h : lenT a = lenT b) : a = b := by
  unfold lenT by4 at h
  simp only [ByteArray.mk.injEq, Array.mk.injEq, List.cons.injEq, and_true] at h
  obtain ⟨h0, h1, h2, h3⟩ := h
  have t := fun {x y : Nat} (q : UInt8.ofNat x = UInt8.ofNat y) => by have := congrArg UInt8.toNat q; rw [UInt8.toNat_ofNat', UInt8.toNat_ofNat'] at this; exact this
  have g0 := t h0
  have g1 := t h1
  have g2 := t h2
  have g3 := t h3
  omega
theorem ext_left (a b : ByteArray) : (a ++ b).extract 0 a.size = a := by
  apply ByteArray.ext; apply Array.ext'
  simp [ByteArray.data_extract, ByteArray.data_append, ← ByteArray.size_data]
theorem ext_right (a b : ByteArray) : (a ++ b).extract a.size (a.size + b.size) = b := by
  apply ByteArray.ext; apply Array.ext'
  simp [ByteArray.data_extract, ByteArray.data_append, ← ByteArray.size_data]
theorem fr_self {t : ByteArray} (h : t.size ≤ 100000) : frB (frameT t) 0 = true ∧ wd (frameT t) 0 = t.size ∧ dat (frameT t) 0 = t := by
  have e : frameT t = lenT t.size ++ (sumT t ++ t) := by unfold frameT headT; rw [if_pos h, ByteArray.append_assoc]
  have e' : frameT t = headT t ++ t := by unfold frameT; rw [if_pos h]
  have hs : (frameT t).size = 8 + t.size := by rw [e', ByteArray.size_append, headT_size]
  have x4 : (frameT t).extract 0 4 = lenT t.size := by rw [e]; exact ext_left (lenT t.size) (sumT t ++ t)
  have hw : wd (frameT t) 0 = t.size := by
    refine lenT_inj (wd_lt (by omega)) (by omega) ?_
    rw [len_back (by omega), x4]
  have hx8 : (frameT t).extract 8 (8 + t.size) = t := by
    have := ext_right (headT t) t
    rw [headT_size] at this
    rw [e']
    exact this
  have hd : dat (frameT t) 0 = t := by unfold dat; rw [hw, Nat.zero_add]; exact hx8
  have hx4 : (frameT t).extract 4 8 = sumT t := by
    have h1 : (headT t).extract 4 8 = sumT t := ext_right (lenT t.size) (sumT t)
    have h2 : (headT t ++ t).extract 0 8 = headT t := by have := ext_left (headT t) t; rw [headT_size] at this; exact this
    rw [e', ← h1, ← h2, ByteArray.extract_extract, Nat.zero_add, Nat.zero_add, Nat.min_self, h2]
  refine ⟨?_, hw, hd⟩
  unfold frB
  rw [hd, hw, Nat.zero_add, Nat.zero_add, hx4, decide_eq_true (show 8 ≤ (frameT t).size by omega), decide_eq_true h, decide_eq_true (show 8 + t.size ≤ (frameT t).size by omega)]
  simp

/-- what is taken off a text -/
theorem took_all (s : ByteArray) : Fi s (tkF s).1 0 (tkF s).2 ∧ catF (tkF s).1 = s.extract 0 (tkF s).2 ∧ ∀ d ∈ (tkF s).1, d.length ≤ 100000 := by
  refine (tk_ind s (fun L p => Fi s L 0 p ∧ catF L = s.extract 0 p ∧ ∀ d ∈ L, d.length ≤ 100000) ⟨rfl, ?_, fun d h => by cases h⟩ ?_).1
  · show (⟨#[]⟩ : ByteArray) = s.extract 0 0
    apply ByteArray.ext; apply Array.ext'
    simp
  · rintro L p hT ⟨h1, h2, h3⟩ hf
    refine ⟨Fi_snoc s L 0 p h1 hf, ?_, ?_⟩
    · rw [catF_snoc, h2, tx_toList, frame_back hf]
      have := ByteArray.extract_append_extract (a := s) (i := 0) (j := p) (k := p + 8 + wd s p)
      rw [this, Nat.zero_min, Nat.max_eq_right (by omega)]
    · intro d hd
      rcases List.mem_append.1 hd with hd | hd
      · exact h3 d hd
      · obtain ⟨q1, q2, q3, _⟩ := frB_parts hf
        rw [List.mem_singleton] at hd
        rw [hd, ByteArray.toList_eq]
        show (dat s p).size ≤ _
        unfold dat
        rw [ByteArray.size_extract]
        omega
/-- one more frame behind them -/
theorem took_more (s t : ByteArray) (h : t.size ≤ 100000) : tkF (s.extract 0 (tkF s).2 ++ frameT t) = ((tkF s).1 ++ [t.toList], (tkF s).2 + (8 + t.size)) := by
  obtain ⟨hF, _, _⟩ := took_all s
  have hn := (tkF_len s).2
  obtain ⟨n, hn'⟩ : ∃ n, n = (tkF s).2 := ⟨_, rfl⟩
  rw [← hn'] at hF hn ⊢
  have hA : (s.extract 0 n).size = n := by rw [ByteArray.size_extract]; omega
  have hft : (frameT t).size = 8 + t.size := by unfold frameT; rw [if_pos h, ByteArray.size_append, headT_size]
  obtain ⟨x, hx⟩ : ∃ x, x = s.extract 0 n ++ frameT t := ⟨_, rfl⟩
  rw [← hx]
  have hxs : x.size = n + (8 + t.size) := by rw [hx, ByteArray.size_append, hA, hft]
  have hx0 : x.extract 0 n = s.extract 0 n := by rw [hx]; have := ext_left (s.extract 0 n) (frameT t); rw [hA] at this; exact this
  have hxr : x.extract n x.size = frameT t := by rw [hxs, hx]; have := ext_right (s.extract 0 n) (frameT t); rw [hA, hft] at this; exact this
  have hP : Pre s x n := ⟨hn, by omega, hx0.symm⟩
  have hFx := Fi_pre hP _ 0 n hF (Nat.le_refl _)
  obtain ⟨f1, f2, f3⟩ := fr_self h
  have g1 : frB x n = true := by rw [← frB_rest (by omega), hxr]; exact f1
  have g2 : wd x n = t.size := by rw [← wd_rest (by omega), hxr]; exact f2
  have g3 : dat x n = t := by rw [← dat_rest (by omega) (by rw [g2]; omega), hxr]; exact f3
  have hS := Fi_snoc x _ 0 n hFx g1
  rw [g3, g2] at hS
  have := tkF_Fi hS (by unfold frB; rw [decide_eq_false (show ¬ n + 8 + t.size + 8 ≤ x.size by omega)]; simp only [Bool.false_and])
  rw [this, Nat.add_assoc]
end Go.Proofs.YtcknemblniemcaaDoor
