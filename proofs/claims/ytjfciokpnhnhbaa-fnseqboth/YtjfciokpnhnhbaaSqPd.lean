/-
  What one op more does to the signs that are shown, plainly. No condition.
-/
import Derived.Test.YtjfciokpnhnhbaaSqIs
import Derived.Test.YtjfciokpnhnhbaaSqTy
namespace Go.Proofs.Ytjfciokpnhnhbaa
open Go.RowKit
set_option linter.unusedVariables false

theorem snoc_at {D : Nat → Ev} {n : Nat} {x : Ev} {i : Nat} (h : i < n) : snocD D n x i = D i := by
  unfold snocD
  rw [List.getD_eq_getElem?_getD, List.getElem?_append_left (by rw [listD_len]; exact h), ← List.getD_eq_getElem?_getD]
  exact listD_at D n i h
theorem kids_same {D D' : Nat → Ev} {n : Nat} (h : ∀ i, i < n → D' i = D i) (z : Int) : kids D' n z = kids D n z := by
  unfold kids
  have hf : (List.range n).filter (fun j => (D' j).b == 1 && (D' j).c == z) = (List.range n).filter (fun j => (D j).b == 1 && (D j).c == z) := List.filter_congr (fun j hj => by rw [h j (List.mem_range.1 hj)])
  rw [hf]
  exact List.map_congr_left (fun j hj => by rw [h j (List.mem_range.1 ((List.mem_filter.1 hj).1))])
theorem delB_same {D D' : Nat → Ev} {n : Nat} (h : ∀ i, i < n → D' i = D i) (z : Int) : delB D' n z = delB D n z := by
  induction n with
  | zero => rfl
  | succ n ih => rw [delB_succ, delB_succ, ih (fun i hi => h i (by omega)), h n (by omega)]
theorem insB_same {D D' : Nat → Ev} {n : Nat} (h : ∀ i, i < n → D' i = D i) (z : Int) : insB D' n z = insB D n z := by
  induction n with
  | zero => rfl
  | succ n ih => rw [insB_succ, insB_succ, ih (fun i hi => h i (by omega)), h n (by omega)]
theorem walkP_kids {D D' : Nat → Ev} {n n' : Nat} (h : ∀ z, kids D' n' z = kids D n z) : ∀ f z, walkP D' n' f z = walkP D n f z := by
  intro f
  induction f with
  | zero => intro z; rfl
  | succ f ih =>
    intro z
    show (kids D' n' z).reverse.flatMap _ = (kids D n z).reverse.flatMap _
    rw [h]
    exact flat_congr (fun y _ => by rw [ih])
theorem sgn_snoc {D : Nat → Ev} {n : Nat} {x : Ev} (hok : allB (okS D) n = true) (hok' : allB (okS (snocD D n x)) (n + 1) = true) {y : Int} (h : insB D n y = true) : sgn (snocD D n x) (n + 1) y = sgn D n y := by
  obtain ⟨j, hj, _, rfl⟩ := insB_iff.1 h
  have e := snoc_at (D := D) (x := x) hj
  rw [(sgn_at hok hj).1, ← e, (sgn_at hok' (show j < n + 1 by omega)).1]
theorem filter_ne : ∀ (L : List Int) (j : Nat), L.Nodup → j < L.length → L.filter (fun y => !(L.getD j 0 == y)) = L.take j ++ L.drop (j + 1) := by
  intro L
  induction L with
  | nil => intro j _ h; simp at h
  | cons a L ih =>
    intro j hn hj
    have hn' := List.nodup_cons.1 hn
    cases j with
    | zero =>
      have h1 : (a :: L).getD 0 0 = a := rfl
      rw [h1]
      have h2 : L.filter (fun y => !(a == y)) = L := List.filter_eq_self.2 (fun y hy => by
        have : a ≠ y := fun e => hn'.1 (e ▸ hy)
        simpa using this)
      simp [h2]
    | succ j =>
      have hj' : j < L.length := by simpa using hj
      have h1 : (a :: L).getD (j + 1) 0 = L.getD j 0 := by simp
      have hm : L.getD j 0 ∈ L := by simp [List.getD, hj']
      have hne : L.getD j 0 ≠ a := fun e => hn'.1 (e ▸ hm)
      rw [h1, List.filter_cons_of_pos (by simpa using hne), ih j hn'.2 hj']
      rfl
theorem fold_text (D : Nat → Ev) (n : Nat) : ∀ (L : List Int) (s : ByteArray), L.foldl (fun s y => s ++ sgn D n y) s = s ++ textOf D n L := by
  intro L
  induction L with
  | nil => intro s; show s = s ++ textOf D n []; rw [show textOf D n [] = ByteArray.empty from rfl]; simp
  | cons y L ih =>
    intro s
    show L.foldl (fun s y => s ++ sgn D n y) (s ++ sgn D n y) = s ++ L.foldl (fun s y => s ++ sgn D n y) (ByteArray.empty ++ sgn D n y)
    rw [ih, ih, ByteArray.empty_append, ByteArray.append_assoc]
theorem textOf_append (D : Nat → Ev) (n : Nat) (A B : List Int) : textOf D n (A ++ B) = textOf D n A ++ textOf D n B := by
  show (A ++ B).foldl (fun s y => s ++ sgn D n y) ⟨#[]⟩ = _
  rw [List.foldl_append, fold_text]
  rfl
theorem textOf_congr {D D' : Nat → Ev} {n n' : Nat} : ∀ {L : List Int}, (∀ y ∈ L, sgn D' n' y = sgn D n y) → textOf D' n' L = textOf D n L := by
  intro L
  induction L with
  | nil => intro _; rfl
  | cons y L ih =>
    intro h
    rw [show y :: L = [y] ++ L from rfl, textOf_append, textOf_append, ih (fun x hx => h x (List.mem_cons_of_mem _ hx))]
    congr 1
    show (⟨#[]⟩ : ByteArray) ++ sgn D' n' y = (⟨#[]⟩ : ByteArray) ++ sgn D n y
    rw [h y List.mem_cons_self]
theorem idsR_nodup {D : Nat → Ev} {n : Nat} (hs : seqB D n = true) : (idsR D n).Nodup := by
  rw [idsR_yes hs]
  exact (ord_nodup (seqB_parts hs).2 0).filter _
theorem text_left {D : Nat → Ev} {n k : Nat} (hs : seqB D n = true) (hk : k ≤ (idsR D n).length) : (textR D n).extract 0 k = textOf D n ((idsR D n).take k) := by
  have h : textR D n = textOf D n ((idsR D n).take k) ++ textOf D n ((idsR D n).drop k) := by rw [← textOf_append, List.take_append_drop]; rfl
  rw [h]
  exact ByteArray.extract_append_eq_left (textOf_len (seqB_parts hs).2 (fun y hy => (idsR_ins hy).1) k hk).symm
theorem text_right {D : Nat → Ev} {n k : Nat} (hs : seqB D n = true) (hk : k ≤ (idsR D n).length) : (textR D n).extract k (textR D n).size = textOf D n ((idsR D n).drop k) := by
  have h : textR D n = textOf D n ((idsR D n).take k) ++ textOf D n ((idsR D n).drop k) := by rw [← textOf_append, List.take_append_drop]; rfl
  rw [h]
  exact ByteArray.extract_append_eq_right (textOf_len (seqB_parts hs).2 (fun y hy => (idsR_ins hy).1) k hk).symm (by rw [ByteArray.size_append])
theorem text_size {D : Nat → Ev} {n : Nat} (hs : seqB D n = true) : (textR D n).size = (idsR D n).length := by
  have h2 := textOf_len (seqB_parts hs).2 (L := idsR D n) (fun y hy => (idsR_ins hy).1) (idsR D n).length (Nat.le_refl _)
  rw [List.take_length] at h2
  exact h2
theorem ids_del {D : Nat → Ev} {n : Nat} {x : Ev} (hs : seqB D n = true) (hs' : seqB (snocD D n x) (n + 1) = true) (hb : x.b = 2) {j : Nat} (hj : j < (idsR D n).length) (hc : x.c = (idsR D n).getD j 0) : idsR (snocD D n x) (n + 1) = (idsR D n).take j ++ (idsR D n).drop (j + 1) := by
  have hsame : ∀ i, i < n → snocD D n x i = D i := fun i hi => snoc_at hi
  have hk : ∀ z, kids (snocD D n x) (n + 1) z = kids D n z := fun z => by
    rw [kids_no (by rw [snoc_last, hb]; rfl), kids_same hsame]
  have hd : ∀ z, delB (snocD D n x) (n + 1) z = (delB D n z || (x.c == z)) := fun z => by
    rw [delB_succ, delB_same hsame, snoc_last, hb]
    rfl
  rw [← filter_ne _ j (idsR_nodup hs) hj, ← hc, idsR_yes hs', idsR_yes hs]
  unfold idsL shownL ord
  rw [walkP_kids hk, List.filter_filter]
  refine List.filter_congr (fun y _ => ?_)
  rw [hd, Bool.not_or, Bool.and_comm]
theorem text_del {D : Nat → Ev} {n : Nat} {x : Ev} (hs : seqB D n = true) (hs' : seqB (snocD D n x) (n + 1) = true) (hb : x.b = 2) {j : Nat} (hj : j < (idsR D n).length) (hc : x.c = (idsR D n).getD j 0) : textR (snocD D n x) (n + 1) = (textR D n).extract 0 j ++ (textR D n).extract (j + 1) (textR D n).size := by
  rw [text_left hs (by omega), text_right hs (by omega), ← textOf_append, ← ids_del hs hs' hb hj hc]
  refine textOf_congr (fun y hy => sgn_snoc (seqB_parts hs).2 (seqB_parts hs').2 ?_)
  rw [ids_del hs hs' hb hj hc] at hy
  rcases List.mem_append.1 hy with h | h
  · exact (idsR_ins (List.mem_of_mem_take h)).1
  · exact (idsR_ins (List.mem_of_mem_drop h)).1

/-- one id more behind another -/
def insA (y new : Int) (L : List Int) : List Int := L.flatMap fun v => if v = y then [v, new] else [v]
theorem insA_append (y new : Int) (A B : List Int) : insA y new (A ++ B) = insA y new A ++ insA y new B := by unfold insA; rw [List.flatMap_append]
theorem insA_none {y new : Int} : ∀ {L : List Int}, y ∉ L → insA y new L = L := by
  intro L
  induction L with
  | nil => intro _; rfl
  | cons a L ih =>
    intro h
    show (if a = y then [a, new] else [a]) ++ insA y new L = a :: L
    rw [if_neg (fun e : a = y => h (by rw [← e]; exact List.mem_cons_self)), ih (fun hm => h (List.mem_cons_of_mem _ hm))]
    rfl
theorem insA_flat (y new : Int) (f : Int → List Int) : ∀ L : List Int, insA y new (L.flatMap f) = L.flatMap fun v => insA y new (f v) := by
  intro L
  induction L with
  | nil => rfl
  | cons a L ih => rw [List.flatMap_cons, List.flatMap_cons, insA_append, ih]
theorem insA_at {new : Int} : ∀ (L : List Int) (j : Nat), L.Nodup → j < L.length → insA (L.getD j 0) new L = L.take (j + 1) ++ [new] ++ L.drop (j + 1) := by
  intro L
  induction L with
  | nil => intro j _ h; simp at h
  | cons a L ih =>
    intro j hn hj
    have hn' := List.nodup_cons.1 hn
    cases j with
    | zero =>
      show (if a = a then [a, new] else [a]) ++ insA a new L = _
      rw [if_pos rfl, insA_none hn'.1]
      rfl
    | succ j =>
      have hj' : j < L.length := by simpa using hj
      have h1 : (a :: L).getD (j + 1) 0 = L.getD j 0 := by simp
      have hm : L.getD j 0 ∈ L := by simp [List.getD, hj']
      have hne : a ≠ L.getD j 0 := fun e => hn'.1 (e ▸ hm)
      rw [h1]
      show (if a = L.getD j 0 then [a, new] else [a]) ++ insA (L.getD j 0) new L = _
      rw [if_neg hne, ih j hn'.2 hj']
      rfl
theorem ord_ins {D : Nat → Ev} {n : Nat} {x : Ev} (hok : allB (okS D) n = true) (hok' : allB (okS (snocD D n x)) (n + 1) = true) (hb : x.b = 1) (hcx : x.c < x.a) (hmax : ∀ i, i < n → (D i).a < x.a) :
    ∀ z, ord (snocD D n x) (n + 1) z = (if z = x.c then [x.a] else []) ++ insA x.c x.a (ord D n z) := by
  have hsame : ∀ i, i < n → snocD D n x i = D i := fun i hi => snoc_at hi
  have hk : ∀ z, kids (snocD D n x) (n + 1) z = kids D n z ++ (if z = x.c then [x.a] else []) := fun z => by
    by_cases e : z = x.c
    · rw [kids_yes (by rw [snoc_last, hb, e]; simp), kids_same hsame, snoc_last, if_pos e]
    · have : (x.c == z) = false := by simpa using (fun h : x.c = z => e h.symm)
      rw [kids_no (by rw [snoc_last, hb, this]; rfl), kids_same hsame, if_neg e, List.append_nil]
  have hnew : ord (snocD D n x) (n + 1) x.a = [] := by
    rw [ord_eq hok', hk, if_neg (by omega), List.append_nil]
    have : kids D n x.a = [] := by
      cases h : kids D n x.a with
      | nil => rfl
      | cons y l =>
        obtain ⟨i, hi, _, _, e⟩ := kid_in (show y ∈ kids D n x.a by rw [h]; exact List.mem_cons_self)
        have h1 := (kid_lt hok (show y ∈ kids D n x.a by rw [h]; exact List.mem_cons_self)).1
        have h2 := hmax i hi
        omega
    rw [this]
    rfl
  refine down_ind (fun z ih => ?_)
  rw [ord_eq hok', ord_eq hok, hk, List.reverse_append, List.flatMap_append, insA_flat]
  congr 1
  · by_cases e : z = x.c
    · rw [if_pos e]
      show (x.a :: ord (snocD D n x) (n + 1) x.a) ++ [] = [x.a]
      rw [hnew]
      rfl
    · rw [if_neg e]
      rfl
  · refine flat_congr (fun y hy => ?_)
    have hy' := kid_lt hok (List.mem_reverse.1 hy)
    rw [ih y hy'.1 hy'.2.2]
    by_cases e : y = x.c
    · rw [if_pos e]
      show y :: ([x.a] ++ insA x.c x.a (ord D n y)) = (if y = x.c then [y, x.a] else [y]) ++ insA x.c x.a (ord D n y)
      rw [if_pos e]
      rfl
    · rw [if_neg e]
      show y :: ([] ++ insA x.c x.a (ord D n y)) = (if y = x.c then [y, x.a] else [y]) ++ insA x.c x.a (ord D n y)
      rw [if_neg e]
      rfl
theorem ids_ins {D : Nat → Ev} {n : Nat} {x : Ev} (hs : seqB D n = true) (hs' : seqB (snocD D n x) (n + 1) = true) (hb : x.b = 1) {z : Nat} (hz : z ≤ (idsR D n).length) (hc : x.c = aft (idsR D n) (z : Int)) : idsR (snocD D n x) (n + 1) = (idsR D n).take z ++ [x.a] ++ (idsR D n).drop z := by
  have hok := (seqB_parts hs).2
  have hok' := (seqB_parts hs').2
  have hsame : ∀ i, i < n → snocD D n x i = D i := fun i hi => snoc_at hi
  have hmax : ∀ i, i < n → (D i).a < x.a := fun i hi => by
    have := rise_lt hok' (n - i - 1) i (by omega)
    rw [show i + (n - i - 1) + 1 = n by omega, snoc_last, hsame i hi] at this
    exact this
  have hpos : 1 ≤ x.a := by
    have := ok_pos hok' (Nat.lt_succ_self n)
    rw [snoc_last] at this
    omega
  have hL : ∀ y ∈ idsR D n, y < x.a := fun y hy => by
    obtain ⟨i, hi, _, e⟩ := insB_iff.1 (idsR_ins hy).1
    rw [← e]
    exact hmax i hi
  have hcx : x.c < x.a := by
    rw [hc]
    unfold aft
    split
    · exact hL _ (by rw [List.getD_eq_getElem?_getD, List.getElem?_eq_getElem (show ((z : Int) - 1).toNat < (idsR D n).length by omega)]; simp)
    · omega
  have hd : ∀ y, delB (snocD D n x) (n + 1) y = delB D n y := fun y => by
    rw [delB_succ, delB_same hsame, snoc_last, hb]
    simp
  have hdn : delB D n x.a = false := by
    cases h : delB D n x.a with
    | false => rfl
    | true =>
      obtain ⟨i, hi, _, e⟩ := insB_iff.1 (del_key hok h)
      have := hmax i hi
      omega
  have hsh : ∀ M : List Int, delB D n x.c = false → (insA x.c x.a M).filter (fun y => !(delB D n y)) = insA x.c x.a (M.filter fun y => !(delB D n y)) := fun M hcd => by
    induction M with
    | nil => rfl
    | cons v M ih =>
      show ((if v = x.c then [v, x.a] else [v]) ++ insA x.c x.a M).filter _ = _
      rw [List.filter_append, ih]
      by_cases e : v = x.c
      · rw [if_pos e, List.filter_cons_of_pos (p := fun y => !(delB D n y)) (a := v) (l := M) (by rw [e, hcd]; rfl)]
        show _ = (if v = x.c then [v, x.a] else [v]) ++ insA x.c x.a _
        rw [if_pos e, List.filter_cons_of_pos (by rw [e, hcd]; rfl), List.filter_cons_of_pos (by rw [hdn]; rfl)]
        rfl
      · rw [if_neg e]
        cases hv : delB D n v with
        | true =>
          rw [List.filter_cons_of_neg (by rw [hv]; simp), List.filter_cons_of_neg (by rw [hv]; simp)]
          rfl
        | false =>
          rw [List.filter_cons_of_pos (by rw [hv]; rfl), List.filter_cons_of_pos (by rw [hv]; rfl)]
          show _ = (if v = x.c then [v, x.a] else [v]) ++ insA x.c x.a _
          rw [if_neg e]
          rfl
  have e1 : idsR (snocD D n x) (n + 1) = (if 0 = x.c then [x.a] else []) ++ (insA x.c x.a (ord D n 0)).filter (fun y => !(delB D n y)) := by
    rw [idsR_yes hs']
    unfold idsL shownL
    rw [ord_ins hok hok' hb hcx hmax 0, List.filter_append]
    have hf : (fun y => !(delB (snocD D n x) (n + 1) y)) = fun y => !(delB D n y) := funext fun y => by rw [hd]
    rw [hf]
    congr 1
    by_cases e : 0 = x.c
    · rw [if_pos e, List.filter_cons_of_pos (by rw [hdn]; rfl)]
      rfl
    · rw [if_neg e]
      rfl
  have e2 : (ord D n 0).filter (fun y => !(delB D n y)) = idsR D n := by rw [idsR_yes hs]; rfl
  cases z with
  | zero =>
    have hc0 : x.c = 0 := by rw [hc]; rfl
    have h0 : (0 : Int) ∉ idsR D n := fun h => by have := (idsR_ins h).2.1; omega
    have hd0 : delB D n x.c = false := by
      cases h : delB D n x.c with
      | false => rfl
      | true =>
        have := del_key hok h
        rw [hc0, ins_zero hok] at this
        cases this
    rw [e1, hsh _ hd0, e2, hc0, if_pos rfl, insA_none h0]
    rfl
  | succ z =>
    have hz' : z < (idsR D n).length := by omega
    have hcz : x.c = (idsR D n).getD z 0 := by
      rw [hc]
      unfold aft
      rw [if_pos (by omega)]
      congr 1
      omega
    have hm : x.c ∈ idsR D n := by rw [hcz]; simp [List.getD, hz']
    have hd0 : delB D n x.c = false := by
      rw [idsR_yes hs] at hm
      have := (List.mem_filter.1 hm).2
      simpa using this
    have hne : ¬ (0 : Int) = x.c := fun h => by have := (idsR_ins hm).2.1; omega
    rw [e1, hsh _ hd0, e2, if_neg hne, List.nil_append, hcz, insA_at _ z (idsR_nodup hs) hz']
theorem text_ins {D : Nat → Ev} {n : Nat} {x : Ev} (hs : seqB D n = true) (hs' : seqB (snocD D n x) (n + 1) = true) (hb : x.b = 1) {z : Nat} (hz : z ≤ (idsR D n).length) (hc : x.c = aft (idsR D n) (z : Int)) : textR (snocD D n x) (n + 1) = (textR D n).extract 0 z ++ x.d ++ (textR D n).extract z (textR D n).size := by
  have hin : ∀ L : List Int, (∀ y ∈ L, y ∈ idsR D n) → textOf (snocD D n x) (n + 1) L = textOf D n L := fun L hL => textOf_congr (fun y hy => sgn_snoc (seqB_parts hs).2 (seqB_parts hs').2 (idsR_ins (hL y hy)).1)
  have hnew : textOf (snocD D n x) (n + 1) [x.a] = x.d := by
    show (⟨#[]⟩ : ByteArray) ++ sgn (snocD D n x) (n + 1) x.a = x.d
    have := (sgn_at (seqB_parts hs').2 (Nat.lt_succ_self n)).1
    rw [snoc_last] at this
    rw [this]
    exact ByteArray.empty_append
  show textOf (snocD D n x) (n + 1) (idsR (snocD D n x) (n + 1)) = _
  rw [ids_ins hs hs' hb hz hc, textOf_append, textOf_append, hnew, hin _ (fun y hy => List.mem_of_mem_take hy), hin _ (fun y hy => List.mem_of_mem_drop hy), text_left hs hz, text_right hs hz]
end Go.Proofs.Ytjfciokpnhnhbaa
