/-
  A shelf: the map from names to piles, and how each change turns it. No condition.
-/
import Derived.Test.YtbohaefmokbgbaaDkQ
import Derived.Test.YtbohaefmokbgbaaDkU
namespace Go.Proofs.Ytbohaefmokbgbaa
open Go.RowKit Go.Maps
set_option linter.unusedVariables false

/-- pointers, as elements of a map -/
def PR : Value → Option (DataW Value × List MemPlace)
  | .pointer p => some (.held (.pointer p), [])
  | _ => none
theorem PR_inv (v : Value) (y : DataW Value × List MemPlace) (h : PR v = some y) : ∃ c : Option Addr, v = .pointer c := by
  unfold PR at h
  split at h
  · exact ⟨_, rfl⟩
  · cases h
def keyL (s : ByteArray) : Lit := .string s.data.toList
theorem keyL_is (s : ByteArray) : WideAt.IsKeyLit (keyL s) := trivial
theorem keyL_inj {s t : ByteArray} (h : keyL s = keyL t) : s.toList = t.toList := by
  unfold keyL at h
  rw [ByteArray.toList_eq, ByteArray.toList_eq]
  simpa using h
theorem keyL_eq {s t : ByteArray} (h : s.toList = t.toList) : keyL s = keyL t := by
  unfold keyL
  rw [← ByteArray.toList_eq, ← ByteArray.toList_eq, h]
theorem lawS : Keyed Try.prog 9 := string_keyed Try.underlying9
theorem zeroP (w : World) : (zeroValue 117).run Try.prog w = .ok (.pointer none) w := by kernel_rfl
theorem keyS {s : ByteArray} (h : s.size ≤ 9223372036854775807) : keyOf Try.prog 9 (.string s) = some (keyL s) := WideMaps.keyOf_string_mk Try.underlying9 h
theorem keyS_inv (key : Value) (kl : Lit) (h : keyOf Try.prog 9 key = some kl) : ∃ s : ByteArray, key = .string s := by
  cases key <;> simp [keyOf, Try.underlying9, mapKey] at h
  exact ⟨_, rfl⟩
theorem keyS_lit {s : ByteArray} {kl : Lit} (h : keyOf Try.prog 9 (.string s) = some kl) : kl = keyL s := by
  simp [keyOf, Try.underlying9, mapKey] at h
  exact h.2.symm

/-- piles by their names: block, slice, pieces -/
structure Pi where
  G : List UInt8 → Nat
  V : List UInt8 → Value
  P : List UInt8 → List ByteArray
def Pi.set (p : Pi) (s : List UInt8) (g : Nat) (v : Value) (Q : List ByteArray) : Pi := ⟨fun t => if t = s then g else p.G t, fun t => if t = s then v else p.V t, fun t => if t = s then Q else p.P t⟩
def joinP (P : List ByteArray) : ByteArray := P.foldl (· ++ ·) ⟨#[]⟩
theorem joinP_snoc (P : List ByteArray) (s : ByteArray) : joinP (P ++ [s]) = joinP P ++ s := by unfold joinP; rw [List.foldl_append]; rfl
def ptrP (g : Nat) : DataW Value := .held (.pointer (some ⟨g, 0, none⟩))
/-- block B is a map that holds a pile for each of the files L -/
structure Sh (w : World) (base B c : Nat) (L : List Fl) (D : DataW Value) (p : Pi) : Prop where
  own : w.ownsMap Try.prog 9 PR B c D
  ge : base ≤ B
  atk : ∀ (s : ByteArray) z, D.atKey (keyL s) z = (match getF L s with | none => z | some _ => ptrP (p.G s.toList))
  hask : ∀ s : ByteArray, has D (keyL s) = (getF L s).isSome
  sz : Maps.size D = L.length
  pile : ∀ s x, getF L s = some x → PileAt w base (p.G s.toList) (p.V s.toList) (p.P s.toList) x.size ∧ joinP (p.P s.toList) = x ∧ (p.P s.toList).length ≤ c
  sep : ∀ s t x y, getF L s = some x → getF L t = some y → s.toList ≠ t.toList → p.G s.toList ≠ p.G t.toList ∧ ∀ q, (p.V s.toList).ownBlock = some q → (p.V t.toList).ownBlock ≠ some q
  up : UpF L

theorem OwnS.cells {w : World} {base : Nat} {v : Value} {P : List ByteArray} (h : OwnS w base v P) {q : Nat} (hq : v.ownBlock = some q) : ∃ cs, w.heap[q]? = some (.cells cs 9 (0, 0)) := by
  rcases h.2 with ⟨h1, _⟩ | ⟨g, cap, cur, hv, hg, hh, _⟩
  · rw [h1] at hq; cases hq
  · rw [hv] at hq
    have e : some g = some q := hq
    cases e
    exact ⟨_, hh⟩
theorem map_ne {w : World} {B c g : Nat} {D : DataW Value} (h : w.ownsMap Try.prog 9 PR B c D) {cs : Array Value} {t : TypeId} {fr : Nat × Nat} (hg : w.heap[g]? = some (.cells cs t fr)) : g ≠ B := by
  rintro rfl
  obtain ⟨es, clock, hb, _⟩ := h
  rw [hg] at hb
  cases hb
theorem ownsMap_kept {w w' : World} {B c : Nat} {D : DataW Value} (h : w.ownsMap Try.prog 9 PR B c D) (he : w'.heap[B]? = w.heap[B]?) : w'.ownsMap Try.prog 9 PR B c D := by
  obtain ⟨es, clock, hb, F, hs, hD⟩ := h
  exact ⟨es, clock, he.trans hb, F, hs, hD⟩
/-- no pile's block has turned where only B and new blocks have -/
theorem Sh.piles {w w' : World} {base B c : Nat} {L : List Fl} {D : DataW Value} {p : Pi} (h : Sh w base B c L D p) (T : Turn (fun k => k = B) w w') {s x : ByteArray} (hx : getF L s = some x) : PileAt w' base (p.G s.toList) (p.V s.toList) (p.P s.toList) x.size := by
  obtain ⟨h1, _, _⟩ := h.pile s x hx
  refine h1.kept (T.block _ (lt_of_block h1.blk) (map_ne h.own h1.blk)) fun k hk => ?_
  obtain ⟨cs, hc⟩ := h1.own.cells hk
  exact T.block _ (lt_of_block hc) (map_ne h.own hc)
theorem Sh.below {w w' : World} {base B c : Nat} {L : List Fl} {D : DataW Value} {p : Pi} (h : Sh w base B c L D p) (hB : Below w.heap.size w w') : Sh w' base B c L D p :=
  ⟨ownsMap_kept h.own (hB.block _ h.own.lt), h.ge, h.atk, h.hask, h.sz, fun s x hx => ⟨h.piles (Turn.of_below hB) hx, (h.pile s x hx).2⟩, h.sep, h.up⟩
theorem Sh.more {w : World} {base B c c' : Nat} {L : List Fl} {D : DataW Value} {p : Pi} (h : Sh w base B c L D p) (hc : c ≤ c') : Sh w base B c' L D p :=
  ⟨h.own.mono hc, h.ge, h.atk, h.hask, h.sz, fun s x hx => ⟨(h.pile s x hx).1, (h.pile s x hx).2.1, Nat.le_trans (h.pile s x hx).2.2 hc⟩, h.sep, h.up⟩
theorem Sh.empty (w : World) (base : Nat) (hb : base ≤ w.heap.size) : Sh (w.alloc (.map #[] 0)) base w.heap.size 0 [] (.map []) ⟨fun _ => 0, fun _ => .nilIface, fun _ => []⟩ :=
  ⟨World.ownsMap_made _ _ _ _, hb, fun _ _ => rfl, fun _ => rfl, rfl, fun s x hx => (by cases hx), fun s t x y hx => (by cases hx), List.Pairwise.nil⟩
theorem Sh.look {w : World} {base B c : Nat} {L : List Fl} {D : DataW Value} {p : Pi} (h : Sh w base B c L D p) (s : ByteArray) (hs : s.size ≤ 9223372036854775807) :
    (Instr.lookup 74 (.map (some B)) (.string s) false).run Try.prog w = .ok (.pointer (match getF L s with | none => none | some _ => some ⟨p.G s.toList, 0, none⟩)) w := by
  obtain ⟨v, ps, hrun, hv⟩ := h.own.lookup (e := 117) lawS Try.underlying74 (zeroP w) (zd := .held (.pointer none)) (zp := []) rfl (keyS hs)
  obtain ⟨q, rfl⟩ := PR_inv _ _ hv
  rw [h.atk] at hv
  rw [hrun]
  simp only [PR, Option.some.injEq, Prod.mk.injEq] at hv
  cases hg : getF L s with
  | none => rw [hg] at hv; simp at hv; rw [hv.1]
  | some x => rw [hg] at hv; simp [ptrP] at hv; rw [hv.1]

theorem isSome_if {α : Type} (b : Bool) (x : α) (o : Option α) : (if b = true then some x else o).isSome = (b || o.isSome) := by cases b <;> simp
/-- a new, empty pile -/
theorem Sh.add1 {w w1 w3 : World} {base B c g : Nat} {L : List Fl} {D : DataW Value} {p : Pi} {s : ByteArray} (h : Sh w base B c L D p) (hs : getF L s = none) (hB : Below w.heap.size w w1) (hg : w1.heap[g]? = some (.cells #[.slice none 0 0, .int .i64 0] 119 (0, 0))) (hge : w.heap.size ≤ g) (hb : base ≤ w.heap.size)
    (how : w3.ownsMap Try.prog 9 PR B (c + 1) (D.put (keyL s) (ptrP g))) (hgr : w1.grownBy w3 (some B)) : Sh w3 base B (c + 1) (putR L s ⟨#[]⟩) (D.put (keyL s) (ptrP g)) (p.set s.toList g (.slice none 0 0) []) := by
  have hD := h.own.tidy lawS
  have h1 := h.below hB
  have T : Turn (fun k => k = B) w1 w3 := Turn.of_grown hgr (fun k hk => by cases hk; rfl)
  have hk : ∀ t : ByteArray, t.toList ≠ s.toList → keyL t ≠ keyL s := fun t ht e => ht (keyL_inj e)
  have gt : ∀ t x, getF L t = some x → t.toList ≠ s.toList := fun t x hx e => by rw [getF_congr L e, hs] at hx; cases hx
  have gp : ∀ t, getF (putR L s ⟨#[]⟩) t = if (s.toList == t.toList) = true then some ⟨#[]⟩ else getF L t := fun t => putR_get h.up _ _ _
  have old : ∀ t x, getF L t = some x → p.G t.toList < w.heap.size ∧ ∀ q, (p.V t.toList).ownBlock = some q → q < w.heap.size := fun t x hx => ⟨lt_of_block (h.pile t x hx).1.blk, fun q hq => by
    obtain ⟨cs, hc⟩ := (h.pile t x hx).1.own.cells hq
    exact lt_of_block hc⟩
  refine ⟨how, h.ge, fun t z => ?_, fun t => ?_, ?_, fun t x hx => ?_, fun t u x y hx hy hne => ?_, putR_up h.up _ _⟩
  · rw [gp]
    by_cases e : t.toList = s.toList
    · rw [keyL_eq e, atKey_put_same hD.isMap (keyL_is _), if_pos (by rw [e]; simp)]
      simp [Pi.set, e]
    · rw [atKey_put_other (hk t e), h.atk, if_neg (by simpa using fun q => e q.symm)]
      simp [Pi.set, e]
  · rw [gp]
    by_cases e : t.toList = s.toList
    · rw [keyL_eq e, has_put_same hD.isMap (keyL_is _), if_pos (by rw [e]; simp)]
      rfl
    · rw [has_put_other (hk t e), h.hask, if_neg (by simpa using fun q => e q.symm)]
  · rw [size_put hD, h.hask, hs, h.sz, putR_len h.up, hs]
  · rw [gp] at hx
    by_cases e : t.toList = s.toList
    · rw [if_pos (by rw [e]; simp)] at hx
      cases hx
      simp only [Pi.set, e, if_true]
      refine ⟨⟨?_, by omega, rfl, .inl ⟨rfl, rfl⟩⟩, rfl, Nat.zero_le _⟩
      exact (T.block g (lt_of_block hg) (map_ne h1.own hg)).trans hg
    · rw [if_neg (by simpa using fun q => e q.symm)] at hx
      simp only [Pi.set, if_neg e]
      exact ⟨h1.piles T hx, (h.pile t x hx).2.1, Nat.le_succ_of_le (h.pile t x hx).2.2⟩
  · rw [gp] at hx hy
    by_cases e : t.toList = s.toList
    · by_cases e' : u.toList = s.toList
      · exact absurd (e.trans e'.symm) hne
      · rw [if_neg (by simpa using fun q => e' q.symm)] at hy
        simp only [Pi.set, if_pos e, if_neg e']
        have := old u y hy
        exact ⟨by omega, fun q hq => by cases hq⟩
    · rw [if_neg (by simpa using fun q => e q.symm)] at hx
      by_cases e' : u.toList = s.toList
      · simp only [Pi.set, if_neg e, if_pos e']
        have := old t x hx
        exact ⟨by omega, fun q hq h => by cases h⟩
      · rw [if_neg (by simpa using fun q => e' q.symm)] at hy
        simp only [Pi.set, if_neg e, if_neg e']
        exact h.sep t u x y hx hy hne
/-- a piece more in a pile -/
theorem Sh.add2 {w w' : World} {base B c : Nat} {L : List Fl} {D : DataW Value} {p : Pi} {s x d : ByteArray} {v' : Value} (h : Sh w base B c L D p) (hs : getF L s = some x) (hp : PileAt w' base (p.G s.toList) v' (p.P s.toList ++ [d]) (x.size + d.size)) (hv : v'.ownBlock = (p.V s.toList).ownBlock ∨ ∃ q, v'.ownBlock = some q ∧ w.heap.size ≤ q)
    (T : Turn (fun k => k = p.G s.toList ∨ (p.V s.toList).ownBlock = some k) w w') : Sh w' base B (c + 1) (putR L s (x ++ d)) D (p.set s.toList (p.G s.toList) v' (p.P s.toList ++ [d])) := by
  have hD := h.own.tidy lawS
  have gp : ∀ t, getF (putR L s (x ++ d)) t = if (s.toList == t.toList) = true then some (x ++ d) else getF L t := fun t => putR_get h.up _ _ _
  have P0 := (h.pile s x hs).1
  have old : ∀ t x, getF L t = some x → ∀ q, (p.V t.toList).ownBlock = some q → q < w.heap.size := fun t x hx q hq => by
    obtain ⟨cs, hc⟩ := (h.pile t x hx).1.own.cells hq
    exact lt_of_block hc
  refine ⟨(ownsMap_kept h.own (T.block _ h.own.lt ?_)).mono (Nat.le_succ _), h.ge, fun t z => ?_, fun t => ?_, ?_, fun t y hy => ?_, fun t u a b ha hb hne => ?_, putR_up h.up _ _⟩
  · rintro (e | e)
    · exact map_ne h.own P0.blk e.symm
    · obtain ⟨cs, hc⟩ := P0.own.cells e
      exact map_ne h.own hc rfl
  · rw [gp, h.atk]
    by_cases e : t.toList = s.toList
    · rw [getF_congr L e, hs, if_pos (by rw [e]; simp)]
      simp [Pi.set, e]
    · rw [if_neg (by simpa using fun q => e q.symm)]
      simp [Pi.set, e]
  · rw [gp, h.hask]
    by_cases e : t.toList = s.toList
    · rw [getF_congr L e, hs, if_pos (by rw [e]; simp)]
      rfl
    · rw [if_neg (by simpa using fun q => e q.symm)]
  · rw [h.sz, putR_len h.up, hs]
    simp
  · rw [gp] at hy
    by_cases e : t.toList = s.toList
    · rw [if_pos (by rw [e]; simp)] at hy
      cases hy
      simp only [Pi.set, e, if_true]
      refine ⟨?_, ?_, ?_⟩
      · rw [ByteArray.size_append]; exact hp
      · rw [joinP_snoc, (h.pile s x hs).2.1]
      · rw [List.length_append]
        have := (h.pile s x hs).2.2
        simp
        omega
    · rw [if_neg (by simpa using fun q => e q.symm)] at hy
      simp only [Pi.set, if_neg e]
      obtain ⟨q1, q2, q3⟩ := h.pile t y hy
      have hsp := h.sep t s y x hy hs e
      refine ⟨q1.kept (T.block _ (lt_of_block q1.blk) ?_) fun k hk => ?_, q2, by omega⟩
      · rintro (e' | e')
        · exact hsp.1 e'
        · exact P0.own.ne q1.blk e'
      · refine T.block _ (old t y hy k hk) ?_
        rintro (e' | e')
        · exact q1.own.ne P0.blk (by rw [hk, e'])
        · exact hsp.2 k hk e'
  · rw [gp] at ha hb
    by_cases e : t.toList = s.toList
    · by_cases e' : u.toList = s.toList
      · exact absurd (e.trans e'.symm) hne
      · rw [if_neg (by simpa using fun q => e' q.symm)] at hb
        simp only [Pi.set, if_pos e, if_neg e']
        have hsp := h.sep s u x b hs hb (fun q => e' q.symm)
        refine ⟨hsp.1, fun q hq hq' => ?_⟩
        rcases hv with hv | ⟨r, hr, hge⟩
        · exact hsp.2 q (by rw [← hv]; exact hq) hq'
        · rw [hr] at hq
          cases hq
          have := old u b hb _ hq'
          omega
    · rw [if_neg (by simpa using fun q => e q.symm)] at ha
      by_cases e' : u.toList = s.toList
      · simp only [Pi.set, if_neg e, if_pos e']
        have hsp := h.sep t s a x ha hs e
        refine ⟨hsp.1, fun q hq hq' => ?_⟩
        rcases hv with hv | ⟨r, hr, hge⟩
        · exact hsp.2 q hq (by rw [← hv]; exact hq')
        · rw [hr] at hq'
          cases hq'
          have := old t a ha _ hq
          omega
      · rw [if_neg (by simpa using fun q => e' q.symm)] at hb
        simp only [Pi.set, if_neg e, if_neg e']
        exact h.sep t u a b ha hb hne
/-- a pile taken away -/
theorem Sh.cut {w w' : World} {base B c : Nat} {L : List Fl} {D : DataW Value} {p : Pi} {s : ByteArray} (h : Sh w base B c L D p) (how : w'.ownsMap Try.prog 9 PR B c (D.del (keyL s))) (T : Turn (fun k => k = B) w w') : Sh w' base B c (cutF L s) (D.del (keyL s)) p := by
  have hD := h.own.tidy lawS
  have hk : ∀ t : ByteArray, t.toList ≠ s.toList → keyL t ≠ keyL s := fun t ht e => ht (keyL_inj e)
  have gs : ∀ t x, getF (cutF L s) t = some x → getF L t = some x := fun t x hx => by
    rw [cutF_get] at hx
    split at hx
    · cases hx
    · exact hx
  refine ⟨how, h.ge, fun t z => ?_, fun t => ?_, ?_, fun t x hx => ⟨h.piles T (gs t x hx), (h.pile t x (gs t x hx)).2⟩, fun t u x y hx hy => h.sep t u x y (gs t x hx) (gs u y hy), cutF_up h.up _⟩
  · rw [cutF_get]
    by_cases e : t.toList = s.toList
    · rw [keyL_eq e, atKey_del_same, if_pos (by rw [e]; simp)]
    · rw [atKey_del_other (hk t e), h.atk, if_neg (by simpa using fun q => e q.symm)]
  · rw [cutF_get]
    by_cases e : t.toList = s.toList
    · rw [keyL_eq e, has_del_same, if_pos (by rw [e]; simp)]
      rfl
    · rw [has_del_other (hk t e), h.hask, if_neg (by simpa using fun q => e q.symm)]
  · have h1 := size_del (k := keyL s) hD
    have h2 := cutF_len2 h.up s
    rw [h.hask, h.sz] at h1
    omega
/-- a pile, cut off as s, under another name -/
theorem Sh.ren {w w' : World} {base B c : Nat} {L : List Fl} {D : DataW Value} {p : Pi} {s u x : ByteArray} (h : Sh w base B c L D p) (hs : getF L s = some x) (how : w'.ownsMap Try.prog 9 PR B (c + 1) ((D.del (keyL s)).put (keyL u) (ptrP (p.G s.toList)))) (T : Turn (fun k => k = B) w w') :
    Sh w' base B (c + 1) (putR (cutF L s) u x) ((D.del (keyL s)).put (keyL u) (ptrP (p.G s.toList))) (p.set u.toList (p.G s.toList) (p.V s.toList) (p.P s.toList)) := by
  have hD := (h.own.tidy lawS).del (keyL s)
  have hk : ∀ t : ByteArray, t.toList ≠ s.toList → keyL t ≠ keyL s := fun t ht e => ht (keyL_inj e)
  have hk' : ∀ t : ByteArray, t.toList ≠ u.toList → keyL t ≠ keyL u := fun t ht e => ht (keyL_inj e)
  have gp : ∀ t, getF (putR (cutF L s) u x) t = if (u.toList == t.toList) = true then some x else if (s.toList == t.toList) = true then none else getF L t := fun t => by rw [putR_get (cutF_up h.up _), cutF_get]
  have hasC : ∀ t : ByteArray, has (D.del (keyL s)) (keyL t) = (getF (cutF L s) t).isSome := fun t => by
    rw [cutF_get]
    by_cases e : t.toList = s.toList
    · rw [keyL_eq e, has_del_same, if_pos (by rw [e]; simp)]
      rfl
    · rw [has_del_other (hk t e), h.hask, if_neg (by simpa using fun q => e q.symm)]
  refine ⟨how, h.ge, fun t z => ?_, fun t => ?_, ?_, fun t y hy => ?_, fun t r a b ha hb hne => ?_, putR_up (cutF_up h.up _) _ _⟩
  · rw [gp]
    by_cases e : t.toList = u.toList
    · rw [keyL_eq e, atKey_put_same hD.isMap (keyL_is _), if_pos (by rw [e]; simp)]
      simp [Pi.set, e]
    · rw [atKey_put_other (hk' t e), if_neg (by simpa using fun q => e q.symm)]
      by_cases e2 : t.toList = s.toList
      · rw [keyL_eq e2, atKey_del_same, if_pos (by rw [e2]; simp)]
      · rw [atKey_del_other (hk t e2), h.atk, if_neg (by simpa using fun q => e2 q.symm)]
        simp [Pi.set, e]
  · rw [gp]
    by_cases e : t.toList = u.toList
    · rw [keyL_eq e, has_put_same hD.isMap (keyL_is _), if_pos (by rw [e]; simp)]
      rfl
    · rw [has_put_other (hk' t e), hasC, if_neg (by simpa using fun q => e q.symm), cutF_get]
  · have h1 := size_del (k := keyL s) (h.own.tidy lawS)
    have h2 := cutF_len2 h.up s
    rw [h.hask, h.sz] at h1
    rw [size_put hD, hasC, putR_len (cutF_up h.up _)]
    split <;> omega
  · rw [gp] at hy
    by_cases e : t.toList = u.toList
    · rw [if_pos (by rw [e]; simp)] at hy
      cases hy
      simp only [Pi.set, e, if_true]
      exact ⟨h.piles T hs, (h.pile s x hs).2.1, Nat.le_succ_of_le (h.pile s x hs).2.2⟩
    · rw [if_neg (by simpa using fun q => e q.symm)] at hy
      split at hy
      · cases hy
      · simp only [Pi.set, if_neg e]
        exact ⟨h.piles T hy, (h.pile t y hy).2.1, Nat.le_succ_of_le (h.pile t y hy).2.2⟩
  · rw [gp] at ha hb
    by_cases e : t.toList = u.toList
    · by_cases e' : r.toList = u.toList
      · exact absurd (e.trans e'.symm) hne
      · rw [if_neg (by simpa using fun q => e' q.symm)] at hb
        split at hb
        · cases hb
        · rename_i hsr
          simp only [Pi.set, if_pos e, if_neg e']
          exact h.sep s r x b hs hb (by simpa using hsr)
    · rw [if_neg (by simpa using fun q => e q.symm)] at ha
      split at ha
      · cases ha
      · rename_i hst
        by_cases e' : r.toList = u.toList
        · simp only [Pi.set, if_neg e, if_pos e']
          have := h.sep t s a x ha hs (fun q => hst (by rw [q]; simp))
          exact this
        · rw [if_neg (by simpa using fun q => e' q.symm)] at hb
          split at hb
          · cases hb
          · simp only [Pi.set, if_neg e, if_neg e']
            exact h.sep t r a b ha hb hne
end Go.Proofs.Ytbohaefmokbgbaa
