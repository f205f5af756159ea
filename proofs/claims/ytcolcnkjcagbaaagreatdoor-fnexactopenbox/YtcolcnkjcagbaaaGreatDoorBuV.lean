/-
  What the program keeps while it opens terms: the set of texts, and what waits under keys. No condition but that the terms are right.
  The program's take: what it does with the texts and with what waits; its list of waiting terms gone through. No condition but that the terms are right.
  The program's take, kind by kind. No condition but that the terms are right.
  The program's take of a key, a pair, a signed term, a sealed term whose key is there. No condition but that the terms are right.
  The program's take of a pair. No condition but that the terms are right.
  The program's take of a signed term and of a sealed one. No condition but that the terms are right.
-/
import Derived.Test.YtcolcnkjcagbaaaGreatDoorOqU
import Derived.Test.YtcolcnkjcagbaaaGreatDoorOqK
import Derived.Test.YtcolcnkjcagbaaaGreatDoorTxT
import Derived.Deep.AppendLies
import Derived.OwnWalk
namespace Go.Proofs.YtcolcnkjcagbaaaGreatDoor
open Go.RowKit Go.Maps
set_option linter.unusedVariables false

/-- slices, as elements of a map -/
def SR : Value → Option (DataW Value × List MemPlace)
  | .slice a n c => some (.held (.slice a n c), [])
  | _ => none
theorem SR_inv {v : Value} {d : DataW Value} {ps : List MemPlace} (h : SR v = some (d, ps)) : d = .held v ∧ ∃ a n c, v = .slice a n c := by
  unfold SR at h
  split at h
  · simp only [Option.some.injEq, Prod.mk.injEq] at h
    exact ⟨h.1.symm, _, _, _, rfl⟩
  · cases h
theorem zeroST (w : World) : (zeroValue 121).run Tryz.prog w = .ok (.slice none 0 0) w := by kernel_rfl
theorem lawI : Keyed Tryz.prog 2 := int_keyed Tryz.underlying2
def kI (n : Nat) : Lit := .int .i64 (n : Int)
theorem kI_is (n : Nat) : WideAt.IsKeyLit (kI n) := trivial
theorem kI_inj {n m : Nat} (h : kI n = kI m) : n = m := by
  unfold kI at h
  simp at h
  omega
theorem wf999 {n : Nat} (h : n ≤ 999) : (Lit.int .i64 (n : Int)).wf = true := by
  have h2 : IntKind.i64.min = -9223372036854775808 := rfl
  have h3 : IntKind.i64.max = 9223372036854775807 := rfl
  simp [Lit.wf]
  omega
theorem keyI {n : Nat} (h : n ≤ 999) : keyOf Tryz.prog 2 (.int .i64 (n : Int)) = some (kI n) := keyOf_int_mk Tryz.underlying2 (wf999 h)

/-- the set of texts at B reads as E: the texts of S; the map at F reads as G: under key k the slice sv k, a slice of the call's own that holds the terms W k -/
structure OpW (w : World) (base B F : Nat) (U : List Tr) (E G : DataW Value) (S : Tr → Prop) (W : Nat → List Tr) (sv : Nat → Value) : Prop where
  set : SetOf w B (Maps.size E) E
  keys : ∀ x, has E (.string x) = true ↔ ∃ t, S t ∧ t.txt.toList = x
  sub : ∀ t, S t → t ∈ U
  map : ∃ m, m ≤ Maps.size E ∧ w.ownsMap Tryz.prog 2 SR F m G
  at_ : ∀ k, k ≤ 999 → G.atKey (kI k) (.held (.slice none 0 0)) = .held (sv k)
  own : ∀ k, k ≤ 999 → w.ownsRow base 75 1 (sv k) (W k).length ((W k).map Tr.val)
  wsub : ∀ k t, t ∈ W k → t ∈ U
  wlen : ∀ k, k ≤ 999 → (W k).length ≤ Maps.size E
  apart : ∀ j k, j ≤ 999 → k ≤ 999 → j ≠ k → ∀ b, (sv j).ownBlock = some b → (sv k).ownBlock ≠ some b
  bs : base ≤ B ∧ base ≤ F ∧ B ≠ F

theorem row_map {w : World} {base : Nat} {e : TypeId} {s : Nat} {v : Value} {n : Nat} {xs : List Value} (h : w.ownsRow base e s v n xs) {k : TypeId} {R : Value → Option (DataW Value × List MemPlace)} {B m : Nat} {E : DataW Value} (hS : w.ownsMap Tryz.prog k R B m E) : v.ownBlock ≠ some B := by
  obtain ⟨es, clock, hb, _⟩ := hS
  rcases h.2 with ⟨rfl, _⟩ | ⟨g, cap, cur, rfl, _, hc, _⟩
  · simp [Value.ownBlock]
  · intro e
    simp only [Value.ownBlock, Option.some.injEq] at e
    subst e
    rw [hb] at hc
    cases hc
theorem map_kept {w w' : World} {k : TypeId} {R : Value → Option (DataW Value × List MemPlace)} {B n : Nat} {E : DataW Value} (h : w.ownsMap Tryz.prog k R B n E) (he : w'.heap[B]? = w.heap[B]?) : w'.ownsMap Tryz.prog k R B n E := by
  obtain ⟨es, clock, hb, F, hs, hD⟩ := h
  exact ⟨es, clock, he.trans hb, F, hs, hD⟩
theorem grown_block {w w' : World} {b B : Nat} (hg : w.grownBy w' (some b)) (hlt : B < w.heap.size) (hne : B ≠ b) : w'.heap[B]? = w.heap[B]? := hg.block B hlt (by simpa using hne)

section
variable {w w' : World} {base B F : Nat} {U : List Tr} {E G : DataW Value} {S : Tr → Prop} {W : Nat → List Tr} {sv : Nat → Value}
theorem OpW.below (h : OpW w base B F U E G S W sv) (hB : Below w.heap.size w w') : OpW w' base B F U E G S W sv := by
  obtain ⟨m, hm, hM⟩ := h.map
  exact ⟨h.set.below hB, h.keys, h.sub, ⟨m, hm, map_kept hM (hB.block _ (World.ownsMap.lt hM))⟩, h.at_, fun k hk => ownsRow_below (h.own k hk) hB, h.wsub, h.wlen, h.apart, h.bs⟩
theorem OpW.lts (h : OpW w base B F U E G S W sv) : B < w.heap.size ∧ F < w.heap.size := by
  obtain ⟨m, hm, hM⟩ := h.map
  exact ⟨World.ownsMap.lt h.set, World.ownsMap.lt hM⟩
theorem OpW.size (h : OpW w base B F U E G S W sv) : Maps.size E ≤ U.length := by
  obtain ⟨hnd, hmem⟩ := strKeys_spec h.set lawS Tryz.underlying9
  have := len_le (strKeys E) (U.map fun t => t.txt.toList) hnd (fun x hx => by
    obtain ⟨t, ht, e⟩ := (h.keys x).1 ((hmem x).1 hx)
    exact List.mem_map.2 ⟨t, h.sub t ht, e⟩)
  rw [strKeys_size E h.set.isMap, List.length_map] at this
  exact this
theorem OpW.has (h : OpW w base B F U E G S W sv) (hU : Uni U) {t : Tr} (ht : Fit t) : has E (.string t.txt.toList) = true ↔ S t := by
  rw [h.keys]
  constructor
  · rintro ⟨u, hu, e⟩
    rw [← txt_inj (hU.fit u (h.sub u hu)) ht e]
    exact hu
  · exact fun hs => ⟨t, hs, rfl⟩
theorem OpW.put (h : OpW w base B F U E G S W sv) (hU : Uni U) {t : Tr} (ht : t ∈ U) (hn : ¬ S t) {n : Nat} (hS : SetOf w' B n (putE E t.txt)) (hg : w.grownBy w' (some B)) : OpW w' base B F U (putE E t.txt) G (withT S t) W sv := by
  have h0 : Maps.has E (.string t.txt.toList) = false := by
    cases hh : Maps.has E (.string t.txt.toList) with
    | false => rfl
    | true => exact absurd ((h.has hU (hU.fit t ht)).1 hh) hn
  have hz := putE_size h.set h0
  obtain ⟨m, hm, hM⟩ := h.map
  refine ⟨hS.tight (Nat.le_refl _), fun x => ?_, fun u hu => hu.elim (h.sub u) (fun e => by rw [e]; exact ht), ⟨m, by omega, map_kept hM (grown_block hg h.lts.2 (fun e => h.bs.2.2 e.symm))⟩, h.at_, fun k hk => (h.own k hk).kept hg (.inr (row_map (h.own k hk) h.set)), h.wsub, fun k hk => by have := h.wlen k hk; omega, h.apart, h.bs⟩
  rw [putE_has h.set.isMap, h.keys]
  constructor
  · rintro (⟨u, hu, e⟩ | e)
    · exact ⟨u, .inl hu, e⟩
    · exact ⟨t, .inr rfl, e⟩
  · rintro ⟨u, hu | rfl, e⟩
    · exact .inl ⟨u, hu, e⟩
    · exact .inr e
/-- sv with v' at n -/
def withV (sv : Nat → Value) (n : Nat) (v : Value) : Nat → Value := fun k => if k = n then v else sv k
theorem OpW.wait {w1 w2 : World} (h : OpW w base B F U E G S W sv) {n : Nat} {t : Tr} (ht : t ∈ U) (hn : n ≤ 999) (hl : (W n).length + 1 ≤ Maps.size E) {v : Value} {m : Nat} (hm : m ≤ Maps.size E)
    (hown : w1.ownsRow base 75 1 v ((W n).length + 1) ((W n).map Tr.val ++ [t.val])) (hg1 : w.grownBy w1 (sv n).ownBlock) (hM : w2.ownsMap Tryz.prog 2 SR F m (G.put (kI n) (.held v))) (hg2 : w1.grownBy w2 (some F))
    (hfresh : ∀ b, v.ownBlock = some b → (sv n).ownBlock = some b ∨ w.heap.size ≤ b) (hMw : w1.ownsMap Tryz.prog 2 SR F (m - 1) G) : OpW w2 base B F U E (G.put (kI n) (.held v)) S (waitT W n t) (withV sv n v) := by
  obtain ⟨m0, hm0, hM0⟩ := h.map
  have hmap : IsMap G := World.ownsMap.isMap hM0
  have hBb : (sv n).ownBlock ≠ some B := row_map (h.own n hn) h.set
  have hFb : (sv n).ownBlock ≠ some F := row_map (h.own n hn) hM0
  have e1 : w1.heap[B]? = w.heap[B]? := hg1.block B h.lts.1 (fun e => hBb e.symm)
  have hs1 : w.heap.size ≤ w1.heap.size := hg1.size
  have e2 : w2.heap[B]? = w.heap[B]? := (grown_block hg2 (by have := h.lts.1; omega) h.bs.2.2).trans e1
  refine ⟨h.set.kept e2, h.keys, h.sub, ⟨m, hm, hM⟩, fun k hk => ?_, fun k hk => ?_, fun k u hu => ?_, fun k hk => ?_, fun j k hj hk hjk b hb => ?_, h.bs⟩
  · unfold withV
    by_cases e : k = n
    · subst e
      rw [if_pos rfl]
      exact atKey_put_same hmap (kI_is _) _ _
    · rw [if_neg e, atKey_put_other (fun q => e (kI_inj q))]
      exact h.at_ k hk
  · unfold withV waitT
    by_cases e : k = n
    · subst e
      rw [if_pos rfl, if_pos rfl, List.length_append, List.map_append]
      exact hown.kept hg2 (.inr (row_map hown hMw))
    · rw [if_neg e, if_neg e]
      have o1 : w1.ownsRow base 75 1 (sv k) (W k).length ((W k).map Tr.val) := by
        refine (h.own k hk).kept hg1 ?_
        cases hv : (sv k).ownBlock with
        | none => exact .inl rfl
        | some b => exact .inr fun q => h.apart k n hk hn e b hv q.symm
      exact o1.kept hg2 (.inr (row_map o1 hMw))
  · unfold waitT at hu
    by_cases e : k = n
    · subst e
      rw [if_pos rfl] at hu
      rcases List.mem_append.1 hu with h1 | h1
      · exact h.wsub _ u h1
      · rw [List.mem_singleton.1 h1]; exact ht
    · rw [if_neg e] at hu
      exact h.wsub k u hu
  · unfold waitT
    by_cases e : k = n
    · subst e
      rw [if_pos rfl, List.length_append]
      exact hl
    · rw [if_neg e]
      exact h.wlen k hk
  · unfold withV at hb ⊢
    have lt : ∀ i b, i ≤ 999 → (sv i).ownBlock = some b → b < w.heap.size := fun i b hi hb => ((h.own i hi).lt b hb).2
    by_cases e : j = n
    · subst e
      rw [if_pos rfl] at hb
      rw [if_neg (fun q => hjk q.symm)]
      intro hk2
      rcases hfresh b hb with h1 | h1
      · exact h.apart j k hj hk hjk b h1 hk2
      · have := lt k b hk hk2
        omega
    · rw [if_neg e] at hb
      by_cases e2 : k = n
      · subst e2
        rw [if_pos rfl]
        intro hk2
        rcases hfresh b hk2 with h1 | h1
        · exact h.apart j k hj hk hjk b hb h1
        · have := lt j b hj hb
          omega
      · rw [if_neg e2]
        exact h.apart j k hj hk hjk b hb
end
end Go.Proofs.YtcolcnkjcagbaaaGreatDoor

namespace Go.Proofs.YtcolcnkjcagbaaaGreatDoor
open Go.RowKit Go.Maps
set_option linter.unusedVariables false

/-- what the program has under way -/
structure OpSt where
  E : DataW Value
  G : DataW Value
  S : Tr → Prop
  W : Nat → List Tr
  sv : Nat → Value
def IsOp (w0 w : World) (B F : Nat) (U : List Tr) (s : OpSt) : Prop := OpW w w0.heap.size B F U s.E s.G s.S s.W s.sv ∧ Below w0.heap.size w0 w
theorem IsOp.below {w0 w w' : World} {B F : Nat} {U : List Tr} {s : OpSt} (h : IsOp w0 w B F U s) (hB : Below w.heap.size w w') : IsOp w0 w' B F U s := ⟨h.1.below hB, h.2.trans (hB.mono h.2.size)⟩
/-- of the old blocks only the two maps and the lists' own may have turned; a list lies in an old list's block or in a new one -/
structure Kpt (B F : Nat) (w w' : World) (sv sv' : Nat → Value) : Prop where
  size : w.heap.size ≤ w'.heap.size
  block : ∀ b, b < w.heap.size → b ≠ B → b ≠ F → (∀ k, k ≤ 999 → (sv k).ownBlock ≠ some b) → w'.heap[b]? = w.heap[b]?
  fresh : ∀ k b, k ≤ 999 → (sv' k).ownBlock = some b → (∃ j, j ≤ 999 ∧ (sv j).ownBlock = some b) ∨ w.heap.size ≤ b
theorem Kpt.below {B F : Nat} {w w' : World} (sv : Nat → Value) (h : Below w.heap.size w w') : Kpt B F w w' sv sv := ⟨h.size, fun b hb _ _ _ => h.block b hb, fun k b hk hb => .inl ⟨k, hk, hb⟩⟩
theorem Kpt.trans {B F : Nat} {w w1 w2 : World} {sv sv1 sv2 : Nat → Value} (h : Kpt B F w w1 sv sv1) (k : Kpt B F w1 w2 sv1 sv2) : Kpt B F w w2 sv sv2 := by
  have h0 := h.size
  refine ⟨Nat.le_trans h.size k.size, fun b hb h1 h2 h3 => ?_, fun j b hj hb => ?_⟩
  · rw [k.block b (by omega) h1 h2 (fun i hi e => ?_), h.block b hb h1 h2 h3]
    rcases h.fresh i b hi e with ⟨l, hl, e2⟩ | h4
    · exact h3 l hl e2
    · omega
  · rcases k.fresh j b hj hb with ⟨l, hl, e2⟩ | h4
    · exact h.fresh l b hl e2
    · exact .inr (by omega)
theorem Kpt.grown {B F : Nat} {w w' : World} (sv : Nat → Value) {r : Nat} (h : w.grownBy w' (some r)) (hr : r = B ∨ r = F) : Kpt B F w w' sv sv := ⟨h.size, fun b hb h1 h2 _ => h.block b hb (by intro e; simp only [Option.some.injEq] at e; rcases hr with rfl | rfl <;> simp_all), fun k b hk hb => .inl ⟨k, hk, hb⟩⟩
/-- the terms of L were taken -/
structure Goes (B F : Nat) (w w' : World) (s : OpSt) (L : List Tr) (s' : OpSt) : Prop where
  take : TakeL s.S s.W L s'.S s'.W
  still : ∀ k, k ≤ 999 → s.S (keyT k) → s'.sv k = s.sv k
  size : Maps.size s.E ≤ Maps.size s'.E
  kp : Kpt B F w w' s.sv s'.sv
theorem Goes.nil {B F : Nat} {w w' : World} (s : OpSt) (h : Below w.heap.size w w') : Goes B F w w' s [] s := ⟨TakeL.nil _ _, fun _ _ _ => rfl, Nat.le_refl _, Kpt.below _ h⟩
theorem Goes.trans {B F : Nat} {w w1 w2 : World} {s s1 s2 : OpSt} {L M : List Tr} (h : Goes B F w w1 s L s1) (k : Goes B F w1 w2 s1 M s2) : Goes B F w w2 s (L ++ M) s2 :=
  ⟨h.take.append k.take, fun j hj hs => (k.still j hj (h.take.grow _ hs)).trans (h.still j hj hs), Nat.le_trans h.size k.size, h.kp.trans k.kp⟩
theorem Goes.below {B F : Nat} {w w1 w2 : World} {s s1 : OpSt} {L : List Tr} (h : Goes B F w w1 s L s1) (k : Below w1.heap.size w1 w2) : Goes B F w w2 s L s1 := ⟨h.take, h.still, h.size, h.kp.trans (Kpt.below _ k)⟩
theorem Goes.from {B F : Nat} {w w1 w2 : World} {s s1 : OpSt} {L : List Tr} (k : Below w.heap.size w w1) (h : Goes B F w1 w2 s L s1) : Goes B F w w2 s L s1 := ⟨h.take, h.still, h.size, (Kpt.below _ k).trans h.kp⟩
/-- what happened behind the text was put there -/
theorem Goes.put {B F : Nat} {w w1 w2 : World} {s s1 : OpSt} {t : Tr} {L : List Tr} (h : Goes B F w1 w2 ⟨putE s.E t.txt, s.G, withT s.S t, s.W, s.sv⟩ L s1) (hk : Kpt B F w w1 s.sv s.sv) (hz : Maps.size s.E ≤ Maps.size (putE s.E t.txt))
    (ht : TakeL (withT s.S t) s.W L s1.S s1.W → TakeL s.S s.W [t] s1.S s1.W) : Goes B F w w2 s [t] s1 :=
  ⟨ht h.take, fun k hk2 hs => h.still k hk2 (.inl hs), Nat.le_trans hz h.size, hk.trans h.kp⟩

def opA (B F : Nat) : Value := .agg #[.map (some B), .map (some F)]
/-- a term is taken, where f texts at most are new -/
def TakeC (w0 : World) (B F : Nat) (U : List Tr) (f : Nat) : Prop := ∀ (t : Tr) (w : World) (s : OpSt), t ∈ U → IsOp w0 w B F U s → U.length ≤ Maps.size s.E + f →
  Calls Tryz.prog 103 #[.agg #[.map (some B), .map (some F)], t.val] w fun e w' => e = .returned (.tuple #[]) ∧ ∃ s', IsOp w0 w' B F U s' ∧ Goes B F w w' s [t] s'
def WaitC (w0 : World) (B F : Nat) (U : List Tr) (f : Nat) : Prop := ∀ (n : Nat) (w : World) (s : OpSt), n ≤ 999 → s.S (keyT n) → IsOp w0 w B F U s → U.length ≤ Maps.size s.E + f →
  Calls Tryz.prog 115 #[.agg #[.map (some B), .map (some F)], .int .i64 (n : Int)] w fun e w' => e = .returned (.tuple #[]) ∧ ∃ s', IsOp w0 w' B F U s' ∧ Goes B F w w' s (s.W n) s'

theorem val_iface (t : Tr) : ∃ T u, t.val = .iface T u := by rcases t with ⟨(⟨k, n⟩ | t | ⟨t, u⟩ | ⟨k, n, t⟩)⟩ <;> exact ⟨_, _, rfl⟩

section
variable {w0 : World} {B F : Nat} {U : List Tr}
/-- what the lookup of the waiting list answers -/
theorem look_wait {w : World} {s : OpSt} (h : IsOp w0 w B F U s) {n : Nat} (hn : n ≤ 999) :
    (Instr.lookup 165 (.map (some F)) (.int .i64 (n : Int)) false).run Tryz.prog w = .ok (s.sv n) w := by
  obtain ⟨m, hm, hM⟩ := h.1.map
  obtain ⟨v, ps, hrun, hv⟩ := hM.lookup (e := 121) lawI Tryz.underlying165 (zeroST w) (zd := .held (.slice none 0 0)) (zp := []) rfl (keyI hn)
  obtain ⟨e1, _⟩ := SR_inv hv
  rw [h.1.at_ n hn] at e1
  simp only [DataW.held.injEq] at e1
  rw [hrun, e1]
/-- the list that waits, as a row -/
theorem wait_form {w : World} {s : OpSt} (h : IsOp w0 w B F U s) {n : Nat} (hn : n ≤ 999) : ∃ a c, s.sv n = .slice a (s.W n).length c ∧ (s.W n).length ≤ c ∧ c ≤ 9223372036854775807 ∧ (0 < (s.W n).length → ∃ g, a = some ⟨g, 0, none⟩ ∧ (s.sv n).ownBlock = some g) := by
  have hO := h.1.own n hn
  rcases hO.2 with ⟨e1, e2⟩ | ⟨g, cap, cur, e, _, _, h1, h2, _⟩
  · exact ⟨none, 0, by rw [e1, e2], by omega, by decide, fun hp => by omega⟩
  · exact ⟨_, cap, e, h1, h2, fun _ => ⟨g, rfl, by rw [e]; rfl⟩⟩
theorem wait_at {w : World} {s : OpSt} (h : IsOp w0 w B F U s) {n : Nat} (hn : n ≤ 999) {g : Nat} (hg : (s.sv n).ownBlock = some g) {i : Nat} {t : Tr} (ht : (s.W n)[i]? = some t) : w.cell? ⟨g, i, none⟩ = some t.val := by
  have hO := h.1.own n hn
  have := hO.cells hg i t.val (by rw [List.getElem?_map, ht]; rfl)
  rw [add_at, Nat.zero_add] at this
  exact this

set_option maxRecDepth 8000 in
set_option maxHeartbeats 2000000 in
theorem waiting_any {f : Nat} (ih : TakeC w0 B F U f) : WaitC w0 B F U f := by
  intro n w s hn hk hS hf
  obtain ⟨a, c, hsv, hlc, hcm, hfm⟩ := wait_form hS hn
  obtain ⟨len, hlen⟩ : ∃ len, len = (s.W n).length := ⟨_, rfl⟩
  rw [← hlen] at hsv hlc hfm
  have hlm : len ≤ 9223372036854775807 := by omega
  obtain ⟨w1, hw1⟩ : ∃ w1, w1 = w.alloc (.cells #[.map (some B), .map (some F)] 167) := ⟨_, rfl⟩
  have HW1 : Hid (w1 = w.alloc (.cells #[.map (some B), .map (some F)] 167)) := hw1
  have hB1 : Below w.heap.size w w1 := by rw [hw1]; exact (Below.refl _ _).alloc (Nat.le_refl _) _
  have HB1 : Hid (Below w.heap.size w w1) := hB1
  have HS1 : Hid (IsOp w0 w1 B F U s) := hS.below hB1
  have hz1 : w1.heap.size = w.heap.size + 1 := by rw [hw1]; simp
  have HG : Hid (w1.heap[w.heap.size]? = some (.cells #[.map (some B), .map (some F)] 167 (0, 0))) := by show _ = _; rw [hw1]; exact heap_alloc_new _ _
  have HNE : Hid (w.heap.size ≠ B ∧ w.heap.size ≠ F ∧ ∀ k, k ≤ 999 → (s.sv k).ownBlock ≠ some w.heap.size) := by
    have := hS.1.lts
    exact ⟨by omega, by omega, fun k hk e => by have := ((hS.1.own k hk).lt _ e).2; omega⟩
  have c0 : w1.cell? ⟨w.heap.size, 0, none⟩ = some (.map (some B)) := cellN HG.out
  have c1 : w1.cell? ⟨w.heap.size, 1, none⟩ = some (.map (some F)) := cellN HG.out
  have hlk := look_wait HS1.out hn
  rw [hsv] at hlk
  have HIH : Hid (TakeC w0 B F U f) := ih
  have HF : Hid (U.length ≤ Maps.size s.E + f) := hf
  have HK : Hid (s.S (keyT n)) := hk
  have HLEN : Hid (len = (s.W n).length) := hlen
  have HSV : Hid (s.sv n = .slice a len c) := hsv
  clear ih hf hk hS hB1 hw1 hlen hsv
  go_enter Tryz.func115, Tryz.ntmps115
  go_wp2
  rw [← HW1.out]
  go_wp2
  rw [hlk]
  go_wp2
  clear c0 c1 hlk
  go_loopw [11] (fun i wr => ∃ (k : Nat) (s1 : OpSt), k ≤ len ∧ i = .int .i64 k ∧ IsOp w0 wr B F U s1 ∧ Goes B F w1 wr s ((s.W n).take k) s1) (fun i _ => len - (intOf i).toNat)
  case atStart => exact ⟨0, s, Nat.zero_le _, rfl, HS1.out, Goes.nil _ (Below.refl _ _)⟩
  case round =>
    obtain ⟨k, s1, hk, rfl, hS1, hG1⟩ := hrel
    have HSR : Hid (IsOp w0 wr B F U s1) := hS1
    have HGR : Hid (Goes B F w1 wr s ((s.W n).take k) s1) := hG1
    clear hS1 hG1
    by_cases hlt : k < len
    · have hltI : (k : Int) < (len : Int) := by omega
      obtain ⟨g, ha, hg⟩ := hfm (by omega)
      obtain ⟨t, ht⟩ : ∃ t, (s.W n)[k]? = some t := ⟨_, List.getElem?_eq_getElem (by rw [← HLEN.out]; exact hlt)⟩
      have hWn : s1.W n = s.W n := HGR.out.take.still n HK.out
      have hvn : s1.sv n = s.sv n := HGR.out.still n hn HK.out
      have d1 : wr.cell? ⟨g, k, none⟩ = some t.val := wait_at HSR.out hn (by rw [hvn]; exact hg) (by rw [hWn]; exact ht)
      have hbx : wr.heap[w.heap.size]? = some (.cells #[.map (some B), .map (some F)] 167 (0, 0)) := (HGR.out.kp.block w.heap.size (by omega) HNE.out.1 HNE.out.2.1 HNE.out.2.2).trans HG.out
      have c0 : wr.cell? ⟨w.heap.size, 0, none⟩ = some (.map (some B)) := cellN hbx
      have c1 : wr.cell? ⟨w.heap.size, 1, none⟩ = some (.map (some F)) := cellN hbx
      have htU : t ∈ U := HSR.out.1.wsub n t (by rw [hWn]; exact List.mem_of_getElem? ht)
      have HC : Hid (Calls Tryz.prog 103 #[.agg #[.map (some B), .map (some F)], t.val] wr fun e w' => e = .returned (.tuple #[]) ∧ ∃ s', IsOp w0 w' B F U s' ∧ Goes B F wr w' s1 [t] s') :=
        HIH.out t wr s1 htU HSR.out (by have := HF.out; have := HGR.out.size; omega)
      have HT : Hid ((s.W n).take (k + 1) = (s.W n).take k ++ [t]) := by
        show _ = _
        rw [List.take_add_one, ht]
        rfl
      obtain ⟨T, u, hv⟩ := val_iface t
      rw [hv] at d1 HC
      subst ha
      clear hWn hvn hbx htU hv ht
      go_wp2_with fail
      refine HC.out.mono ?_
      rintro e w2 ⟨rfl, s2, hS2, hG2⟩
      have HS2 : Hid (IsOp w0 w2 B F U s2) := hS2
      have HG2 : Hid (Goes B F w1 w2 s ((s.W n).take (k + 1)) s2) := by
        show Goes _ _ _ _ _ _ _
        rw [HT.out]
        exact HGR.out.trans hG2
      clear hS2 hG2 d1 c0 c1 HC
      go_wp2
      go_roundw
      case rel => exact ⟨k + 1, s2, by omega, by go_num, HS2.out, HG2.out⟩
      case measure => simp [intOf]; omega
    · have hke : k = len := by omega
      subst hke
      go_wp2
      go_end0
      refine ⟨rfl, s1, HSR.out, ?_⟩
      have := HGR.out
      rw [HLEN.out, List.take_length] at this
      exact Goes.from HB1.out this
end
end Go.Proofs.YtcolcnkjcagbaaaGreatDoor

namespace Go.Proofs.YtcolcnkjcagbaaaGreatDoor
open Go.RowKit Go.Maps
set_option linter.unusedVariables false

theorem asL (v : Value) (w : World) : (Instr.typeAssert (.iface 104 v) 75 104 true).run Tryz.prog w = .ok (.tuple #[v, .bool true]) w := by
  simp [Instr.typeAssert, run_underlying Tryz.underlying104, go_sem, Result.andThen]
theorem noL (v : Value) (w : World) (T : TypeId) (h : T ≠ 104) : (Instr.typeAssert (.iface T v) 75 104 true).run Tryz.prog w = .ok (.tuple #[.agg #[.int .i64 0, .int .i64 0], .bool false]) w := by
  have hz : Tryz.t104.zero = some (.agg #[.int .i64 0, .int .i64 0]) := by kernel_rfl
  simp [Instr.typeAssert, run_underlying Tryz.underlying104, go_sem, Result.andThen, h, zeroValue, hz]
theorem asP (v : Value) (w : World) : (Instr.typeAssert (.iface 191 v) 75 191 true).run Tryz.prog w = .ok (.tuple #[v, .bool true]) w := by
  simp [Instr.typeAssert, run_underlying Tryz.underlying191, go_sem, Result.andThen]
theorem noP (v : Value) (w : World) (T : TypeId) (h : T ≠ 191) : (Instr.typeAssert (.iface T v) 75 191 true).run Tryz.prog w = .ok (.tuple #[.agg #[.nilIface, .nilIface], .bool false]) w := by
  have hz : Tryz.t191.zero = some (.agg #[.nilIface, .nilIface]) := by kernel_rfl
  simp [Instr.typeAssert, run_underlying Tryz.underlying191, go_sem, Result.andThen, h, zeroValue, hz]
theorem asK (v : Value) (w : World) : (Instr.typeAssert (.iface 106 v) 75 106 true).run Tryz.prog w = .ok (.tuple #[v, .bool true]) w := by
  simp [Instr.typeAssert, run_underlying Tryz.underlying106, go_sem, Result.andThen]
theorem noK (v : Value) (w : World) (T : TypeId) (h : T ≠ 106) : (Instr.typeAssert (.iface T v) 75 106 true).run Tryz.prog w = .ok (.tuple #[.agg #[.int .i64 0, .int .i64 0, .nilIface], .bool false]) w := by
  have hz : Tryz.t106.zero = some (.agg #[.int .i64 0, .int .i64 0, .nilIface]) := by kernel_rfl
  simp [Instr.typeAssert, run_underlying Tryz.underlying106, go_sem, Result.andThen, h, zeroValue, hz]
theorem noL_H (v : Value) (w : World) : (Instr.typeAssert (.iface 189 v) 75 104 true).run Tryz.prog w = .ok (.tuple #[.agg #[.int .i64 0, .int .i64 0], .bool false]) w := noL v w 189 (by decide)
theorem noL_P (v : Value) (w : World) : (Instr.typeAssert (.iface 191 v) 75 104 true).run Tryz.prog w = .ok (.tuple #[.agg #[.int .i64 0, .int .i64 0], .bool false]) w := noL v w 191 (by decide)
theorem noL_K (v : Value) (w : World) : (Instr.typeAssert (.iface 106 v) 75 104 true).run Tryz.prog w = .ok (.tuple #[.agg #[.int .i64 0, .int .i64 0], .bool false]) w := noL v w 106 (by decide)
theorem noP_H (v : Value) (w : World) : (Instr.typeAssert (.iface 189 v) 75 191 true).run Tryz.prog w = .ok (.tuple #[.agg #[.nilIface, .nilIface], .bool false]) w := noP v w 189 (by decide)
theorem noP_K (v : Value) (w : World) : (Instr.typeAssert (.iface 106 v) 75 191 true).run Tryz.prog w = .ok (.tuple #[.agg #[.nilIface, .nilIface], .bool false]) w := noP v w 106 (by decide)
theorem noK_H (v : Value) (w : World) : (Instr.typeAssert (.iface 189 v) 75 106 true).run Tryz.prog w = .ok (.tuple #[.agg #[.int .i64 0, .int .i64 0, .nilIface], .bool false]) w := noK v w 189 (by decide)

theorem fitKey {n : Nat} (h : n ≤ 999) : Fit (keyT n) := ⟨⟨.inr (.inl rfl), h⟩, by simp [keyT, Tr.size], by simp [keyT, Tr.deep]⟩
theorem keyT_txt (n : Nat) : (keyT n).txt = keyT0 n := by unfold keyT keyT0; rw [Tr.txt]
theorem TakeL.bareNil {S S1 : Tr → Prop} {W W1 : Nat → List Tr} {t : Tr} (hb : Bare t) (hk : ∀ n, t ≠ keyT n) (h : TakeL (withT S t) W [] S1 W1) : TakeL S W [t] S1 W1 := (TakeL.bare (W := W) hb hk).append h
theorem Kpt.box {B F : Nat} {w1 w2 : World} {sv sv2 : Nat → Value} {b : Nat} {o : Obj} (h : Kpt B F w1 w2 sv sv2) (hb : b < w1.heap.size) (hn : b ≠ B ∧ b ≠ F ∧ ∀ k, k ≤ 999 → (sv k).ownBlock ≠ some b) (hg : w1.heap[b]? = some o) : w2.heap[b]? = some o := (h.block b hb hn.1 hn.2.1 hn.2.2).trans hg
theorem IsOp.new {w0 w : World} {B F : Nat} {U : List Tr} {s : OpSt} (h : IsOp w0 w B F U s) {b : Nat} (hb : w.heap.size ≤ b) : b ≠ B ∧ b ≠ F ∧ ∀ k, k ≤ 999 → (s.sv k).ownBlock ≠ some b := by
  have := h.1.lts
  exact ⟨by omega, by omega, fun k hk e => by have := ((h.1.own k hk).lt _ e).2; omega⟩
theorem IsOp.put {w0 w w' : World} {B F : Nat} {U : List Tr} {s : OpSt} (h : IsOp w0 w B F U s) (hu : Uni U) {t : Tr} (ht : t ∈ U) (hn : ¬ s.S t) {n : Nat} (hS : SetOf w' B n (putE s.E t.txt)) (hg : w.grownBy w' (some B)) : IsOp w0 w' B F U ⟨putE s.E t.txt, s.G, withT s.S t, s.W, s.sv⟩ :=
  ⟨h.1.put hu ht hn hS hg, h.2.grown hg h.2.size (fun x hx => by cases hx; exact h.1.bs.1)⟩
theorem IsOp.putSize {w0 w : World} {B F : Nat} {U : List Tr} {s : OpSt} (h : IsOp w0 w B F U s) (hu : Uni U) {t : Tr} (ht : t ∈ U) (hn : ¬ s.S t) : Maps.size (putE s.E t.txt) = Maps.size s.E + 1 := by
  refine putE_size h.1.set ?_
  cases hh : has s.E (.string t.txt.toList) with
  | false => rfl
  | true => exact absurd ((h.1.has hu (hu.fit t ht)).1 hh) hn
theorem bare_leaf {k n : Nat} (h : k ≠ 2) : Bare (⟨.inl (k, n)⟩ : Tr) ∧ ∀ m, (⟨.inl (k, n)⟩ : Tr) ≠ keyT m :=
  ⟨⟨fun u v e => by unfold pairT at e; simp at e, fun n u e => by unfold signT at e; simp at e, fun n u e => by unfold sealT at e; simp at e⟩, fun m e => by unfold keyT at e; simp at e; exact h e.1⟩
theorem bare_hash (u : Tr) : Bare (⟨.inr (.inl u)⟩ : Tr) ∧ ∀ m, (⟨.inr (.inl u)⟩ : Tr) ≠ keyT m :=
  ⟨⟨fun u v e => by unfold pairT at e; simp at e, fun n u e => by unfold signT at e; simp at e, fun n u e => by unfold sealT at e; simp at e⟩, fun m e => by unfold keyT at e; simp at e⟩
/-- behind the text's put -/
def PutC (w0 w w4 : World) (B F : Nat) (U : List Tr) (s : OpSt) (t : Tr) : Prop := IsOp w0 w4 B F U ⟨putE s.E t.txt, s.G, withT s.S t, s.W, s.sv⟩ ∧ Kpt B F w w4 s.sv s.sv ∧ Maps.size (putE s.E t.txt) = Maps.size s.E + 1 ∧ w.heap.size < w4.heap.size ∧ w4.heap[w.heap.size]? = some (.cells #[.map (some B), .map (some F)] 167 (0, 0)) ∧ (∃ m, m ≤ Maps.size s.E ∧ w4.ownsMap Tryz.prog 2 SR F m s.G) ∧ ∀ k, k ≤ 999 → (s.W k).length ≤ Maps.size s.E
theorem put_after {w0 w w1 w3 w4 : World} {B F : Nat} {U : List Tr} {s : OpSt} {t : Tr} {T : ByteArray} (hS : IsOp w0 w3 B F U s) (h1 : Below w.heap.size w w1) (h13 : Below w1.heap.size w1 w3) (hz : w1.heap.size = w.heap.size + 1) (hu : Uni U) (ht : t ∈ U) (hn : ¬ s.S t) (hT : T = t.txt)
    (hne : w.heap.size ≠ B ∧ w.heap.size ≠ F ∧ ∀ k, k ≤ 999 → (s.sv k).ownBlock ≠ some w.heap.size) (hg : w1.heap[w.heap.size]? = some (.cells #[.map (some B), .map (some F)] 167 (0, 0))) {n : Nat} (ho : SetOf w4 B n (putE s.E T)) (hgr : w3.grownBy w4 (some B)) : PutC w0 w w4 B F U s t := by
  subst hT
  obtain ⟨m, hm, hM⟩ := hS.1.map
  exact ⟨hS.put hu ht hn ho hgr, ((Kpt.below _ h1).trans (Kpt.below _ h13)).trans (Kpt.grown _ hgr (.inl rfl)), hS.putSize hu ht hn, by have := h13.size; have := hgr.size; omega, Kpt.box (((Kpt.below s.sv h13).trans (Kpt.grown (F := F) _ hgr (.inl rfl)))) (by omega) hne hg, ⟨m, hm, map_kept hM (grown_block hgr hS.1.lts.2 (fun e => hS.1.bs.2.2 e.symm))⟩, hS.1.wlen⟩
section
variable {w0 : World} {B F : Nat} {U : List Tr}

set_option maxRecDepth 8000 in
set_option maxHeartbeats 8000000 in
theorem take_leaf {f : Nat} (hu : Uni U) (hP : Pow w0) (k n : Nat) (ih : ∀ f', f' < f → TakeC w0 B F U f') (w : World) (s : OpSt) (ht : (⟨.inl (k, n)⟩ : Tr) ∈ U) (hS : IsOp w0 w B F U s) (hf : U.length ≤ Maps.size s.E + f) (hk2 : k ≠ 2) :
    Calls Tryz.prog 103 #[.agg #[.map (some B), .map (some F)], (⟨.inl (k, n)⟩ : Tr).val] w fun e w' => e = .returned (.tuple #[]) ∧ ∃ s', IsOp w0 w' B F U s' ∧ Goes B F w w' s [(⟨.inl (k, n)⟩ : Tr)] s' := by
  have hfit := hu.fit _ ht
  obtain ⟨t, htt⟩ : ∃ t : Tr, t = (⟨.inl (k, n)⟩ : Tr) := ⟨_, rfl⟩
  have hti : t.inn = .agg #[.int .i64 k, .int .i64 n] := by rw [htt, Tr.inn]
  have htY : t.ty = 104 := by rw [htt, Tr.ty]
  have HX0 : TextC t := by rw [htt]; exact ttext_any _ hfit.1 hfit.2.1
  obtain ⟨T, hT⟩ : ∃ T, T = t.txt := ⟨_, rfl⟩
  obtain ⟨v, hv⟩ : ∃ v, v = t.inn := ⟨_, rfl⟩
  obtain ⟨ty, hty⟩ : ∃ ty, ty = t.ty := ⟨_, rfl⟩
  obtain ⟨fn, hfn⟩ : ∃ fn, fn = t.tf := ⟨_, rfl⟩
  have hm : ∀ w, (method 348 ty v "loop.example/g00318/impl.text").run Tryz.prog w = .ok (fn, v) w := fun w => by rw [hv, hty, hfn]; exact mText t w
  have hen : ∀ args w, (callFunc fn args).run Tryz.prog w = .ok (.enter fn args) w := by rw [hfn]; exact enText t
  have HX : Hid (∀ w', Below w0.heap.size w0 w' → Calls Tryz.prog fn #[v] w' fun e w'' => e = .returned (.string T) ∧ Below w'.heap.size w' w'') := fun w' hB => by
    have h1 := HX0 w' (hP.below hB)
    rw [← hT, ← hfn, ← hv] at h1
    exact h1
  have HTV : Hid (ty = 104 ∧ v = .agg #[.int .i64 k, .int .i64 n]) := ⟨hty.trans htY, hv.trans hti⟩
  rw [← htt] at ht hfit ⊢
  rw [t.val_is, ← hv, ← hty]
  have hTs : T.size ≤ 9223372036854775807 := by have h1 := Tr.txt_size _ hfit.1; have h2 := hfit.2.1; rw [hT]; omega
  have HTT : Hid (t = (⟨.inl (k, n)⟩ : Tr)) := htt
  have HTX : Hid (T = t.txt) := hT
  have HP : Hid (Pow w0) := hP
  have HU : Hid (Uni U) := hu
  have HT : Hid (t ∈ U) := ht
  obtain ⟨w1, hw1⟩ : ∃ w1, w1 = w.alloc (.cells #[.map (some B), .map (some F)] 167) := ⟨_, rfl⟩
  have HW1 : Hid (w1 = w.alloc (.cells #[.map (some B), .map (some F)] 167)) := hw1
  have hB1 : Below w.heap.size w w1 := by rw [hw1]; exact (Below.refl _ _).alloc (Nat.le_refl _) _
  have HB1 : Hid (Below w.heap.size w w1) := hB1
  have HS1 : Hid (IsOp w0 w1 B F U s) := hS.below hB1
  have HZ1 : Hid (w1.heap.size = w.heap.size + 1) := by show _ = _; rw [hw1]; simp
  have HG : Hid (w1.heap[w.heap.size]? = some (.cells #[.map (some B), .map (some F)] 167 (0, 0))) := by show _ = _; rw [hw1]; exact heap_alloc_new _ _
  have HNE : Hid (w.heap.size ≠ B ∧ w.heap.size ≠ F ∧ ∀ k, k ≤ 999 → (s.sv k).ownBlock ≠ some w.heap.size) := hS.new (Nat.le_refl _)
  have c0 : w1.cell? ⟨w.heap.size, 0, none⟩ = some (.map (some B)) := cellN HG.out
  have HIH : Hid (∀ f', f' < f → TakeC w0 B F U f') := ih
  have HF : Hid (U.length ≤ Maps.size s.E + f) := hf
  have hst := hS.1.has hu hfit
  rw [← hT] at hst
  clear ih hf hS hB1 hw1 htt HX0 hu ht hP hT hfit hti htY hv hty hfn
  have A1 := asL
  have hk2I : ((k : Int) == 2) = false := by simp; omega
  cases hh : has s.E (.string T.toList) with
  | true =>
    have HO : Hid (s.S t) := hst.1 hh
    clear hst
    go_enter Tryz.func103, Tryz.ntmps103
    go_wp2
    rw [← HW1.out]
    go_wp2_with fail
    refine (HX.out w1 HS1.out.2).mono ?_
    rintro e w2 ⟨rfl, hB2⟩
    have HB2 : Hid (Below w1.heap.size w1 w2) := hB2
    have HS2 : Hid (IsOp w0 w2 B F U s) := HS1.out.below hB2
    have d0 : w2.cell? ⟨w.heap.size, 0, none⟩ = some (.map (some B)) := (hB2.cell (p := ⟨w.heap.size, 0, none⟩) (cell_lt c0)).trans c0
    clear hB2 c0
    go_wp2_with fail
    refine (has71_any B _ s.E T w2 HS2.out.1.set hTs).mono ?_
    rintro e w3 ⟨rfl, hB3⟩
    rw [hh]
    have HB3 : Hid (Below w2.heap.size w2 w3) := hB3
    have HS3 : Hid (IsOp w0 w3 B F U s) := HS2.out.below hB3
    clear hB3 d0
    go_wp2
    (first | go_end0 | ((try simp only [Exit.inBlock, Exit.then]); refine bodyPost_ret (results_none rfl _ _ _) rfl ?_))
    have hW := HB1.out.trans ((HB2.out.trans (HB3.out.mono HB2.out.size)).mono HB1.out.size)
    exact ⟨rfl, s, HS3.out, TakeL.old HO.out, fun _ _ _ => rfl, Nat.le_refl _, Kpt.below _ hW⟩
  | false =>
    have HO : Hid (¬ s.S t) := fun h => by rw [hst.2 h] at hh; cases hh
    clear hst
    have hkey : keyOf Tryz.prog 9 (.string T) = some (keyL T) := keyS hTs
    go_enter Tryz.func103, Tryz.ntmps103
    go_wp2
    rw [← HW1.out]
    go_wp2_with fail
    refine (HX.out w1 HS1.out.2).mono ?_
    rintro e w2 ⟨rfl, hB2⟩
    have HB2 : Hid (Below w1.heap.size w1 w2) := hB2
    have HS2 : Hid (IsOp w0 w2 B F U s) := HS1.out.below hB2
    have d0 : w2.cell? ⟨w.heap.size, 0, none⟩ = some (.map (some B)) := (hB2.cell (p := ⟨w.heap.size, 0, none⟩) (cell_lt c0)).trans c0
    clear hB2 c0
    go_wp2_with fail
    refine (has71_any B _ s.E T w2 HS2.out.1.set hTs).mono ?_
    rintro e w3 ⟨rfl, hB3⟩
    rw [hh]
    have HS3 : Hid (IsOp w0 w3 B F U s) := HS2.out.below hB3
    have HB13 : Hid (Below w1.heap.size w1 w3) := HB2.out.trans (hB3.mono HB2.out.size)
    have e0 : w3.cell? ⟨w.heap.size, 0, none⟩ = some (.map (some B)) := (hB3.cell (p := ⟨w.heap.size, 0, none⟩) (cell_lt d0)).trans d0
    have HSZ : Hid (Maps.size s.E ≤ 4000) := by show _ ≤ _; exact Nat.le_trans HS3.out.1.size HU.out.len
    have HOW : Hid (w3.ownsMap Tryz.prog 9 unitElem B (Maps.size s.E) s.E) := HS3.out.1.set
    clear hB3 d0 hh
    obtain ⟨e1, e2⟩ := HTV.out
    subst e1 e2
    have hmx : Maps.size s.E < maxLen := by have := HSZ.out; unfold maxLen; omega
    go_wp2_with (at_mapUpdate; go_loud (refine wpList_mapUpdate_own _ rfl _ _ _ 131 rfl 9 196 lawS Tryz.underlying131 unitElem B (Maps.size s.E) s.E rfl HOW.out hmx _ _ _ rfl rfl hkey (.agg []) [] unitElem_mk ?_); intro w4 hown4 hgrow4; have HX4 : Hid (PutC w0 w w4 B F U s t) := put_after HS3.out HB1.out HB13.out HZ1.out HU.out HT.out HO.out HTX.out HNE.out HG.out hown4 hgrow4; have f0 : w4.cell? ⟨w.heap.size, 0, none⟩ = some (.map (some B)) := cellN HX4.out.2.2.2.2.1; have f1 : w4.cell? ⟨w.heap.size, 1, none⟩ = some (.map (some F)) := cellN HX4.out.2.2.2.2.1; clear hown4 hgrow4 e0)
    go_wp2
    (first | go_end0 | ((try simp only [Exit.inBlock, Exit.then]); refine bodyPost_ret (results_none rfl _ _ _) rfl ?_))
    first
      | exact ⟨rfl, _, HX4.out.1, Goes.put (Goes.nil _ (Below.refl _ _)) HX4.out.2.1 (by have := HX4.out.2.2.1; omega) (TakeL.bareNil (by rw [HTT.out]; exact (bare_leaf hk2).1) (by rw [HTT.out]; exact (bare_leaf hk2).2))⟩
      | exact ⟨rfl, _, HX4.out.1.below ((Below.refl _ _).alloc (Nat.le_refl _) _), Goes.put (Goes.nil _ ((Below.refl _ _).alloc (Nat.le_refl _) _)) HX4.out.2.1 (by have := HX4.out.2.2.1; omega) (TakeL.bareNil (by rw [HTT.out]; exact (bare_leaf hk2).1) (by rw [HTT.out]; exact (bare_leaf hk2).2))⟩

set_option maxRecDepth 8000 in
set_option maxHeartbeats 8000000 in
theorem take_hash {f : Nat} (hu : Uni U) (hP : Pow w0) (u : Tr) (ih : ∀ f', f' < f → TakeC w0 B F U f') (w : World) (s : OpSt) (ht : (⟨.inr (.inl u)⟩ : Tr) ∈ U) (hS : IsOp w0 w B F U s) (hf : U.length ≤ Maps.size s.E + f) :
    Calls Tryz.prog 103 #[.agg #[.map (some B), .map (some F)], (⟨.inr (.inl u)⟩ : Tr).val] w fun e w' => e = .returned (.tuple #[]) ∧ ∃ s', IsOp w0 w' B F U s' ∧ Goes B F w w' s [(⟨.inr (.inl u)⟩ : Tr)] s' := by
  have hfit := hu.fit _ ht
  obtain ⟨t, htt⟩ : ∃ t : Tr, t = (⟨.inr (.inl u)⟩ : Tr) := ⟨_, rfl⟩
  have hti : t.inn = .agg #[u.val] := by rw [htt, Tr.inn]
  have htY : t.ty = 189 := by rw [htt, Tr.ty]
  have HX0 : TextC t := by rw [htt]; exact ttext_any _ hfit.1 hfit.2.1
  obtain ⟨T, hT⟩ : ∃ T, T = t.txt := ⟨_, rfl⟩
  obtain ⟨v, hv⟩ : ∃ v, v = t.inn := ⟨_, rfl⟩
  obtain ⟨ty, hty⟩ : ∃ ty, ty = t.ty := ⟨_, rfl⟩
  obtain ⟨fn, hfn⟩ : ∃ fn, fn = t.tf := ⟨_, rfl⟩
  have hm : ∀ w, (method 348 ty v "loop.example/g00318/impl.text").run Tryz.prog w = .ok (fn, v) w := fun w => by rw [hv, hty, hfn]; exact mText t w
  have hen : ∀ args w, (callFunc fn args).run Tryz.prog w = .ok (.enter fn args) w := by rw [hfn]; exact enText t
  have HX : Hid (∀ w', Below w0.heap.size w0 w' → Calls Tryz.prog fn #[v] w' fun e w'' => e = .returned (.string T) ∧ Below w'.heap.size w' w'') := fun w' hB => by
    have h1 := HX0 w' (hP.below hB)
    rw [← hT, ← hfn, ← hv] at h1
    exact h1
  have HTV : Hid (ty = 189 ∧ v = .agg #[u.val]) := ⟨hty.trans htY, hv.trans hti⟩
  rw [← htt] at ht hfit ⊢
  rw [t.val_is, ← hv, ← hty]
  have hTs : T.size ≤ 9223372036854775807 := by have h1 := Tr.txt_size _ hfit.1; have h2 := hfit.2.1; rw [hT]; omega
  have HTT : Hid (t = (⟨.inr (.inl u)⟩ : Tr)) := htt
  have HTX : Hid (T = t.txt) := hT
  have HP : Hid (Pow w0) := hP
  have HU : Hid (Uni U) := hu
  have HT : Hid (t ∈ U) := ht
  obtain ⟨w1, hw1⟩ : ∃ w1, w1 = w.alloc (.cells #[.map (some B), .map (some F)] 167) := ⟨_, rfl⟩
  have HW1 : Hid (w1 = w.alloc (.cells #[.map (some B), .map (some F)] 167)) := hw1
  have hB1 : Below w.heap.size w w1 := by rw [hw1]; exact (Below.refl _ _).alloc (Nat.le_refl _) _
  have HB1 : Hid (Below w.heap.size w w1) := hB1
  have HS1 : Hid (IsOp w0 w1 B F U s) := hS.below hB1
  have HZ1 : Hid (w1.heap.size = w.heap.size + 1) := by show _ = _; rw [hw1]; simp
  have HG : Hid (w1.heap[w.heap.size]? = some (.cells #[.map (some B), .map (some F)] 167 (0, 0))) := by show _ = _; rw [hw1]; exact heap_alloc_new _ _
  have HNE : Hid (w.heap.size ≠ B ∧ w.heap.size ≠ F ∧ ∀ k, k ≤ 999 → (s.sv k).ownBlock ≠ some w.heap.size) := hS.new (Nat.le_refl _)
  have c0 : w1.cell? ⟨w.heap.size, 0, none⟩ = some (.map (some B)) := cellN HG.out
  have HIH : Hid (∀ f', f' < f → TakeC w0 B F U f') := ih
  have HF : Hid (U.length ≤ Maps.size s.E + f) := hf
  have hst := hS.1.has hu hfit
  rw [← hT] at hst
  clear ih hf hS hB1 hw1 htt HX0 hu ht hP hT hfit hti htY hv hty hfn
  have A1 := noL_H
  have A2 := noP_H
  have A3 := noK_H
  cases hh : has s.E (.string T.toList) with
  | true =>
    have HO : Hid (s.S t) := hst.1 hh
    clear hst
    go_enter Tryz.func103, Tryz.ntmps103
    go_wp2
    rw [← HW1.out]
    go_wp2_with fail
    refine (HX.out w1 HS1.out.2).mono ?_
    rintro e w2 ⟨rfl, hB2⟩
    have HB2 : Hid (Below w1.heap.size w1 w2) := hB2
    have HS2 : Hid (IsOp w0 w2 B F U s) := HS1.out.below hB2
    have d0 : w2.cell? ⟨w.heap.size, 0, none⟩ = some (.map (some B)) := (hB2.cell (p := ⟨w.heap.size, 0, none⟩) (cell_lt c0)).trans c0
    clear hB2 c0
    go_wp2_with fail
    refine (has71_any B _ s.E T w2 HS2.out.1.set hTs).mono ?_
    rintro e w3 ⟨rfl, hB3⟩
    rw [hh]
    have HB3 : Hid (Below w2.heap.size w2 w3) := hB3
    have HS3 : Hid (IsOp w0 w3 B F U s) := HS2.out.below hB3
    clear hB3 d0
    go_wp2
    (first | go_end0 | ((try simp only [Exit.inBlock, Exit.then]); refine bodyPost_ret (results_none rfl _ _ _) rfl ?_))
    have hW := HB1.out.trans ((HB2.out.trans (HB3.out.mono HB2.out.size)).mono HB1.out.size)
    exact ⟨rfl, s, HS3.out, TakeL.old HO.out, fun _ _ _ => rfl, Nat.le_refl _, Kpt.below _ hW⟩
  | false =>
    have HO : Hid (¬ s.S t) := fun h => by rw [hst.2 h] at hh; cases hh
    clear hst
    have hkey : keyOf Tryz.prog 9 (.string T) = some (keyL T) := keyS hTs
    go_enter Tryz.func103, Tryz.ntmps103
    go_wp2
    rw [← HW1.out]
    go_wp2_with fail
    refine (HX.out w1 HS1.out.2).mono ?_
    rintro e w2 ⟨rfl, hB2⟩
    have HB2 : Hid (Below w1.heap.size w1 w2) := hB2
    have HS2 : Hid (IsOp w0 w2 B F U s) := HS1.out.below hB2
    have d0 : w2.cell? ⟨w.heap.size, 0, none⟩ = some (.map (some B)) := (hB2.cell (p := ⟨w.heap.size, 0, none⟩) (cell_lt c0)).trans c0
    clear hB2 c0
    go_wp2_with fail
    refine (has71_any B _ s.E T w2 HS2.out.1.set hTs).mono ?_
    rintro e w3 ⟨rfl, hB3⟩
    rw [hh]
    have HS3 : Hid (IsOp w0 w3 B F U s) := HS2.out.below hB3
    have HB13 : Hid (Below w1.heap.size w1 w3) := HB2.out.trans (hB3.mono HB2.out.size)
    have e0 : w3.cell? ⟨w.heap.size, 0, none⟩ = some (.map (some B)) := (hB3.cell (p := ⟨w.heap.size, 0, none⟩) (cell_lt d0)).trans d0
    have HSZ : Hid (Maps.size s.E ≤ 4000) := by show _ ≤ _; exact Nat.le_trans HS3.out.1.size HU.out.len
    have HOW : Hid (w3.ownsMap Tryz.prog 9 unitElem B (Maps.size s.E) s.E) := HS3.out.1.set
    clear hB3 d0 hh
    obtain ⟨e1, e2⟩ := HTV.out
    subst e1 e2
    have hmx : Maps.size s.E < maxLen := by have := HSZ.out; unfold maxLen; omega
    go_wp2_with (at_mapUpdate; go_loud (refine wpList_mapUpdate_own _ rfl _ _ _ 131 rfl 9 196 lawS Tryz.underlying131 unitElem B (Maps.size s.E) s.E rfl HOW.out hmx _ _ _ rfl rfl hkey (.agg []) [] unitElem_mk ?_); intro w4 hown4 hgrow4; have HX4 : Hid (PutC w0 w w4 B F U s t) := put_after HS3.out HB1.out HB13.out HZ1.out HU.out HT.out HO.out HTX.out HNE.out HG.out hown4 hgrow4; have f0 : w4.cell? ⟨w.heap.size, 0, none⟩ = some (.map (some B)) := cellN HX4.out.2.2.2.2.1; have f1 : w4.cell? ⟨w.heap.size, 1, none⟩ = some (.map (some F)) := cellN HX4.out.2.2.2.2.1; clear hown4 hgrow4 e0)
    go_wp2
    (first | go_end0 | ((try simp only [Exit.inBlock, Exit.then]); refine bodyPost_ret (results_none rfl _ _ _) rfl ?_))
    first
      | exact ⟨rfl, _, HX4.out.1, Goes.put (Goes.nil _ (Below.refl _ _)) HX4.out.2.1 (by have := HX4.out.2.2.1; omega) (TakeL.bareNil (by rw [HTT.out]; exact (bare_hash u).1) (by rw [HTT.out]; exact (bare_hash u).2))⟩
      | exact ⟨rfl, _, HX4.out.1.below ((Below.refl _ _).alloc (Nat.le_refl _) _), Goes.put (Goes.nil _ ((Below.refl _ _).alloc (Nat.le_refl _) _)) HX4.out.2.1 (by have := HX4.out.2.2.1; omega) (TakeL.bareNil (by rw [HTT.out]; exact (bare_hash u).1) (by rw [HTT.out]; exact (bare_hash u).2))⟩

end
end Go.Proofs.YtcolcnkjcagbaaaGreatDoor

namespace Go.Proofs.YtcolcnkjcagbaaaGreatDoor
open Go.RowKit Go.Maps
set_option linter.unusedVariables false
section
variable {w0 : World} {B F : Nat} {U : List Tr}
theorem PutC.room {w0 w w4 : World} {B F : Nat} {U : List Tr} {s : OpSt} {t : Tr} {f : Nat} (h : PutC w0 w w4 B F U s t) (hf : U.length ≤ Maps.size s.E + f) : 1 ≤ f ∧ U.length ≤ Maps.size (putE s.E t.txt) + (f - 1) := by
  have h1 := h.1.1.size
  have h2 := h.2.2.1
  have h3 : Maps.size (putE s.E t.txt) ≤ U.length := h1
  exact ⟨by omega, by omega⟩
theorem PutC.big {w0 w w4 : World} {B F : Nat} {U : List Tr} {s : OpSt} {t : Tr} (h : PutC w0 w w4 B F U s t) : Maps.size s.E ≤ Maps.size (putE s.E t.txt) := by have := h.2.2.1; omega

theorem key_waits {w w4 w5 : World} {s : OpSt} {t : Tr} {f n : Nat} (h : PutC w0 w w4 B F U s t) (htt : t = (⟨.inl (2, n)⟩ : Tr)) (hB : Below w4.heap.size w4 w5) (ih : ∀ f', f' < f → TakeC w0 B F U f') (hf : U.length ≤ Maps.size s.E + f) (hn : n ≤ 999) :
    Calls Tryz.prog 115 #[.agg #[.map (some B), .map (some F)], .int .i64 (n : Int)] w5 fun e w' => e = .returned (.tuple #[]) ∧ ∃ s', IsOp w0 w' B F U s' ∧ Goes B F w5 w' ⟨putE s.E t.txt, s.G, withT s.S t, s.W, s.sv⟩ (s.W n) s' := by
  obtain ⟨h1, h2⟩ := h.room hf
  exact waiting_any (ih (f - 1) (by omega)) n w5 ⟨putE s.E t.txt, s.G, withT s.S t, s.W, s.sv⟩ hn (.inr htt.symm) (h.1.below hB) h2
set_option maxRecDepth 8000 in
set_option maxHeartbeats 8000000 in
theorem take_key {f : Nat} (hu : Uni U) (hP : Pow w0) (n : Nat) (ih : ∀ f', f' < f → TakeC w0 B F U f') (w : World) (s : OpSt) (ht : (⟨.inl (2, n)⟩ : Tr) ∈ U) (hS : IsOp w0 w B F U s) (hf : U.length ≤ Maps.size s.E + f) :
    Calls Tryz.prog 103 #[.agg #[.map (some B), .map (some F)], (⟨.inl (2, n)⟩ : Tr).val] w fun e w' => e = .returned (.tuple #[]) ∧ ∃ s', IsOp w0 w' B F U s' ∧ Goes B F w w' s [(⟨.inl (2, n)⟩ : Tr)] s' := by
  have hfit := hu.fit _ ht
  have HFN : Hid (n ≤ 999) := hfit.1.2
  obtain ⟨t, htt⟩ : ∃ t : Tr, t = (⟨.inl (2, n)⟩ : Tr) := ⟨_, rfl⟩
  have hti : t.inn = .agg #[.int .i64 2, .int .i64 (n : Int)] := by rw [htt, Tr.inn]; rfl
  have htY : t.ty = 104 := by rw [htt, Tr.ty]
  have HX0 : TextC t := by rw [htt]; exact ttext_any _ hfit.1 hfit.2.1
  obtain ⟨T, hT⟩ : ∃ T, T = t.txt := ⟨_, rfl⟩
  obtain ⟨v, hv⟩ : ∃ v, v = t.inn := ⟨_, rfl⟩
  obtain ⟨ty, hty⟩ : ∃ ty, ty = t.ty := ⟨_, rfl⟩
  obtain ⟨fn, hfn⟩ : ∃ fn, fn = t.tf := ⟨_, rfl⟩
  have hm : ∀ w, (method 348 ty v "loop.example/g00318/impl.text").run Tryz.prog w = .ok (fn, v) w := fun w => by rw [hv, hty, hfn]; exact mText t w
  have hen : ∀ args w, (callFunc fn args).run Tryz.prog w = .ok (.enter fn args) w := by rw [hfn]; exact enText t
  have HX : Hid (∀ w', Below w0.heap.size w0 w' → Calls Tryz.prog fn #[v] w' fun e w'' => e = .returned (.string T) ∧ Below w'.heap.size w' w'') := fun w' hB => by
    have h1 := HX0 w' (hP.below hB)
    rw [← hT, ← hfn, ← hv] at h1
    exact h1
  have HTV : Hid (ty = 104 ∧ v = .agg #[.int .i64 2, .int .i64 (n : Int)]) := ⟨hty.trans htY, hv.trans hti⟩
  rw [← htt] at ht hfit ⊢
  rw [t.val_is, ← hv, ← hty]
  have hTs : T.size ≤ 9223372036854775807 := by have h1 := Tr.txt_size _ hfit.1; have h2 := hfit.2.1; rw [hT]; omega
  have HTT : Hid (t = (⟨.inl (2, n)⟩ : Tr)) := htt
  have HTX : Hid (T = t.txt) := hT
  have HP : Hid (Pow w0) := hP
  have HU : Hid (Uni U) := hu
  have HT : Hid (t ∈ U) := ht
  obtain ⟨w1, hw1⟩ : ∃ w1, w1 = w.alloc (.cells #[.map (some B), .map (some F)] 167) := ⟨_, rfl⟩
  have HW1 : Hid (w1 = w.alloc (.cells #[.map (some B), .map (some F)] 167)) := hw1
  have hB1 : Below w.heap.size w w1 := by rw [hw1]; exact (Below.refl _ _).alloc (Nat.le_refl _) _
  have HB1 : Hid (Below w.heap.size w w1) := hB1
  have HS1 : Hid (IsOp w0 w1 B F U s) := hS.below hB1
  have HZ1 : Hid (w1.heap.size = w.heap.size + 1) := by show _ = _; rw [hw1]; simp
  have HG : Hid (w1.heap[w.heap.size]? = some (.cells #[.map (some B), .map (some F)] 167 (0, 0))) := by show _ = _; rw [hw1]; exact heap_alloc_new _ _
  have HNE : Hid (w.heap.size ≠ B ∧ w.heap.size ≠ F ∧ ∀ k, k ≤ 999 → (s.sv k).ownBlock ≠ some w.heap.size) := hS.new (Nat.le_refl _)
  have c0 : w1.cell? ⟨w.heap.size, 0, none⟩ = some (.map (some B)) := cellN HG.out
  have HIH : Hid (∀ f', f' < f → TakeC w0 B F U f') := ih
  have HF : Hid (U.length ≤ Maps.size s.E + f) := hf
  have hst := hS.1.has hu hfit
  rw [← hT] at hst
  clear ih hf hS hB1 hw1 htt HX0 hu ht hP hT hfit hti htY hv hty hfn
  have A1 := asL
  have hn9 : n ≤ 999 := HFN.out
  cases hh : has s.E (.string T.toList) with
  | true =>
    have HO : Hid (s.S t) := hst.1 hh
    clear hst
    go_enter Tryz.func103, Tryz.ntmps103
    go_wp2
    rw [← HW1.out]
    go_wp2_with fail
    refine (HX.out w1 HS1.out.2).mono ?_
    rintro e w2 ⟨rfl, hB2⟩
    have HB2 : Hid (Below w1.heap.size w1 w2) := hB2
    have HS2 : Hid (IsOp w0 w2 B F U s) := HS1.out.below hB2
    have d0 : w2.cell? ⟨w.heap.size, 0, none⟩ = some (.map (some B)) := (hB2.cell (p := ⟨w.heap.size, 0, none⟩) (cell_lt c0)).trans c0
    clear hB2 c0
    go_wp2_with fail
    refine (has71_any B _ s.E T w2 HS2.out.1.set hTs).mono ?_
    rintro e w3 ⟨rfl, hB3⟩
    rw [hh]
    have HB3 : Hid (Below w2.heap.size w2 w3) := hB3
    have HS3 : Hid (IsOp w0 w3 B F U s) := HS2.out.below hB3
    clear hB3 d0
    go_wp2
    (first | go_end0 | ((try simp only [Exit.inBlock, Exit.then]); refine bodyPost_ret (results_none rfl _ _ _) rfl ?_))
    have hW := HB1.out.trans ((HB2.out.trans (HB3.out.mono HB2.out.size)).mono HB1.out.size)
    exact ⟨rfl, s, HS3.out, TakeL.old HO.out, fun _ _ _ => rfl, Nat.le_refl _, Kpt.below _ hW⟩
  | false =>
    have HO : Hid (¬ s.S t) := fun h => by rw [hst.2 h] at hh; cases hh
    clear hst
    have hkey : keyOf Tryz.prog 9 (.string T) = some (keyL T) := keyS hTs
    go_enter Tryz.func103, Tryz.ntmps103
    go_wp2
    rw [← HW1.out]
    go_wp2_with fail
    refine (HX.out w1 HS1.out.2).mono ?_
    rintro e w2 ⟨rfl, hB2⟩
    have HB2 : Hid (Below w1.heap.size w1 w2) := hB2
    have HS2 : Hid (IsOp w0 w2 B F U s) := HS1.out.below hB2
    have d0 : w2.cell? ⟨w.heap.size, 0, none⟩ = some (.map (some B)) := (hB2.cell (p := ⟨w.heap.size, 0, none⟩) (cell_lt c0)).trans c0
    clear hB2 c0
    go_wp2_with fail
    refine (has71_any B _ s.E T w2 HS2.out.1.set hTs).mono ?_
    rintro e w3 ⟨rfl, hB3⟩
    rw [hh]
    have HS3 : Hid (IsOp w0 w3 B F U s) := HS2.out.below hB3
    have HB13 : Hid (Below w1.heap.size w1 w3) := HB2.out.trans (hB3.mono HB2.out.size)
    have e0 : w3.cell? ⟨w.heap.size, 0, none⟩ = some (.map (some B)) := (hB3.cell (p := ⟨w.heap.size, 0, none⟩) (cell_lt d0)).trans d0
    have HSZ : Hid (Maps.size s.E ≤ 4000) := by show _ ≤ _; exact Nat.le_trans HS3.out.1.size HU.out.len
    have HOW : Hid (w3.ownsMap Tryz.prog 9 unitElem B (Maps.size s.E) s.E) := HS3.out.1.set
    clear hB3 d0 hh
    obtain ⟨e1, e2⟩ := HTV.out
    subst e1 e2
    have hmx : Maps.size s.E < maxLen := by have := HSZ.out; unfold maxLen; omega
    go_wp2_with (at_mapUpdate; go_loud (refine wpList_mapUpdate_own _ rfl _ _ _ 131 rfl 9 196 lawS Tryz.underlying131 unitElem B (Maps.size s.E) s.E rfl HOW.out hmx _ _ _ rfl rfl hkey (.agg []) [] unitElem_mk ?_); intro w4 hown4 hgrow4; have HX4 : Hid (PutC w0 w w4 B F U s t) := put_after HS3.out HB1.out HB13.out HZ1.out HU.out HT.out HO.out HTX.out HNE.out HG.out hown4 hgrow4; have f0 : w4.cell? ⟨w.heap.size, 0, none⟩ = some (.map (some B)) := cellN HX4.out.2.2.2.2.1; have f1 : w4.cell? ⟨w.heap.size, 1, none⟩ = some (.map (some F)) := cellN HX4.out.2.2.2.2.1; clear hown4 hgrow4 e0; obtain ⟨w5, hw5⟩ : ∃ w5, w5 = w4.alloc (.cells #[.int .i64 2, .int .i64 (n : Int)] 104) := ⟨_, rfl⟩; have HW5 : Hid (w5 = w4.alloc (.cells #[.int .i64 2, .int .i64 (n : Int)] 104)) := hw5; have hB45 : Below w4.heap.size w4 w5 := (by rw [hw5]; exact (Below.refl _ _).alloc (Nat.le_refl _) _); have HB45 : Hid (Below w4.heap.size w4 w5) := hB45; have HC : Hid (Calls Tryz.prog 115 #[.agg #[.map (some B), .map (some F)], .int .i64 (n : Int)] w5 fun e w' => e = .returned (.tuple #[]) ∧ ∃ s', IsOp w0 w' B F U s' ∧ Goes B F w5 w' ⟨putE s.E t.txt, s.G, withT s.S t, s.W, s.sv⟩ (s.W n) s') := key_waits HX4.out HTT.out HB45.out HIH.out HF.out hn9; have g0 := (hB45.cell (p := ⟨w.heap.size, 0, none⟩) (cell_lt f0)).trans f0; have g1 := (hB45.cell (p := ⟨w.heap.size, 1, none⟩) (cell_lt f0)).trans f1; rw [hw5] at g0 g1; clear hw5 hB45)
    rw [← HW5.out]
    refine HC.out.mono ?_
    rintro e w6 ⟨rfl, s6, hS6, hG6⟩
    have HF6 : Hid (IsOp w0 w6 B F U s6 ∧ Goes B F w w6 s [t] s6) := ⟨hS6, Goes.put (Goes.from HB45.out hG6) HX4.out.2.1 HX4.out.big (by rw [HTT.out]; exact fun h => TakeL.key h)⟩
    clear hS6 hG6
    go_wp2
    (first | go_end0 | ((try simp only [Exit.inBlock, Exit.then]); refine bodyPost_ret (results_none rfl _ _ _) rfl ?_))
    exact ⟨rfl, s6, HF6.out.1, HF6.out.2⟩
end
end Go.Proofs.YtcolcnkjcagbaaaGreatDoor

namespace Go.Proofs.YtcolcnkjcagbaaaGreatDoor
open Go.RowKit Go.Maps
set_option linter.unusedVariables false
section
variable {w0 : World} {B F : Nat} {U : List Tr}
theorem kid_take {w w4 w5 : World} {s : OpSt} {t a : Tr} {f : Nat} {T1 : TypeId} {u1 : Value} (h : PutC w0 w w4 B F U s t) (hB : Below w4.heap.size w4 w5) (ih : ∀ f', f' < f → TakeC w0 B F U f') (hf : U.length ≤ Maps.size s.E + f) (ha : a ∈ U) (hv : a.val = .iface T1 u1) :
    Calls Tryz.prog 103 #[.agg #[.map (some B), .map (some F)], .iface T1 u1] w5 fun e w' => e = .returned (.tuple #[]) ∧ ∃ s', IsOp w0 w' B F U s' ∧ Goes B F w5 w' ⟨putE s.E t.txt, s.G, withT s.S t, s.W, s.sv⟩ [a] s' := by
  obtain ⟨h1, h2⟩ := h.room hf
  rw [← hv]
  exact ih (f - 1) (by omega) a w5 ⟨putE s.E t.txt, s.G, withT s.S t, s.W, s.sv⟩ ha (h.1.below hB) h2
theorem next_take {w w4 w6 : World} {s s6 : OpSt} {t a : Tr} {f : Nat} {T1 : TypeId} {u1 : Value} (h : PutC w0 w w4 B F U s t) (h6 : IsOp w0 w6 B F U s6) (hz : Maps.size (putE s.E t.txt) ≤ Maps.size s6.E) (ih : ∀ f', f' < f → TakeC w0 B F U f') (hf : U.length ≤ Maps.size s.E + f) (ha : a ∈ U) (hv : a.val = .iface T1 u1) :
    Calls Tryz.prog 103 #[.agg #[.map (some B), .map (some F)], .iface T1 u1] w6 fun e w' => e = .returned (.tuple #[]) ∧ ∃ s', IsOp w0 w' B F U s' ∧ Goes B F w6 w' s6 [a] s' := by
  obtain ⟨h1, h2⟩ := h.room hf
  rw [← hv]
  exact ih (f - 1) (by omega) a w6 s6 ha h6 (by omega)

set_option maxRecDepth 8000 in
set_option maxHeartbeats 8000000 in
theorem take_pair {f : Nat} (hu : Uni U) (hP : Pow w0) (a b : Tr) (ih : ∀ f', f' < f → TakeC w0 B F U f') (w : World) (s : OpSt) (ht : (⟨.inr (.inr (.inl (a, b)))⟩ : Tr) ∈ U) (hS : IsOp w0 w B F U s) (hf : U.length ≤ Maps.size s.E + f) :
    Calls Tryz.prog 103 #[.agg #[.map (some B), .map (some F)], (⟨.inr (.inr (.inl (a, b)))⟩ : Tr).val] w fun e w' => e = .returned (.tuple #[]) ∧ ∃ s', IsOp w0 w' B F U s' ∧ Goes B F w w' s [(⟨.inr (.inr (.inl (a, b)))⟩ : Tr)] s' := by
  have hfit := hu.fit _ ht
  obtain ⟨T1, u1, hv1⟩ := val_iface a
  obtain ⟨T2, u2, hv2⟩ := val_iface b
  have HKD : Hid (a ∈ U ∧ b ∈ U) := ⟨hu.kid _ ht a (by simp [Tr.kids]), hu.kid _ ht b (by simp [Tr.kids])⟩
  obtain ⟨t, htt⟩ : ∃ t : Tr, t = (⟨.inr (.inr (.inl (a, b)))⟩ : Tr) := ⟨_, rfl⟩
  have hti : t.inn = .agg #[.iface T1 u1, .iface T2 u2] := by rw [htt, Tr.inn, hv1, hv2]
  have htY : t.ty = 191 := by rw [htt, Tr.ty]
  have HX0 : TextC t := by rw [htt]; exact ttext_any _ hfit.1 hfit.2.1
  obtain ⟨T, hT⟩ : ∃ T, T = t.txt := ⟨_, rfl⟩
  obtain ⟨v, hv⟩ : ∃ v, v = t.inn := ⟨_, rfl⟩
  obtain ⟨ty, hty⟩ : ∃ ty, ty = t.ty := ⟨_, rfl⟩
  obtain ⟨fn, hfn⟩ : ∃ fn, fn = t.tf := ⟨_, rfl⟩
  have hm : ∀ w, (method 348 ty v "loop.example/g00318/impl.text").run Tryz.prog w = .ok (fn, v) w := fun w => by rw [hv, hty, hfn]; exact mText t w
  have hen : ∀ args w, (callFunc fn args).run Tryz.prog w = .ok (.enter fn args) w := by rw [hfn]; exact enText t
  have HX : Hid (∀ w', Below w0.heap.size w0 w' → Calls Tryz.prog fn #[v] w' fun e w'' => e = .returned (.string T) ∧ Below w'.heap.size w' w'') := fun w' hB => by
    have h1 := HX0 w' (hP.below hB)
    rw [← hT, ← hfn, ← hv] at h1
    exact h1
  have HTV : Hid (ty = 191 ∧ v = .agg #[.iface T1 u1, .iface T2 u2]) := ⟨hty.trans htY, hv.trans hti⟩
  rw [← htt] at ht hfit ⊢
  rw [t.val_is, ← hv, ← hty]
  have hTs : T.size ≤ 9223372036854775807 := by have h1 := Tr.txt_size _ hfit.1; have h2 := hfit.2.1; rw [hT]; omega
  have HTT : Hid (t = (⟨.inr (.inr (.inl (a, b)))⟩ : Tr)) := htt
  have HTX : Hid (T = t.txt) := hT
  have HP : Hid (Pow w0) := hP
  have HU : Hid (Uni U) := hu
  have HT : Hid (t ∈ U) := ht
  obtain ⟨w1, hw1⟩ : ∃ w1, w1 = w.alloc (.cells #[.map (some B), .map (some F)] 167) := ⟨_, rfl⟩
  have HW1 : Hid (w1 = w.alloc (.cells #[.map (some B), .map (some F)] 167)) := hw1
  have hB1 : Below w.heap.size w w1 := by rw [hw1]; exact (Below.refl _ _).alloc (Nat.le_refl _) _
  have HB1 : Hid (Below w.heap.size w w1) := hB1
  have HS1 : Hid (IsOp w0 w1 B F U s) := hS.below hB1
  have HZ1 : Hid (w1.heap.size = w.heap.size + 1) := by show _ = _; rw [hw1]; simp
  have HG : Hid (w1.heap[w.heap.size]? = some (.cells #[.map (some B), .map (some F)] 167 (0, 0))) := by show _ = _; rw [hw1]; exact heap_alloc_new _ _
  have HNE : Hid (w.heap.size ≠ B ∧ w.heap.size ≠ F ∧ ∀ k, k ≤ 999 → (s.sv k).ownBlock ≠ some w.heap.size) := hS.new (Nat.le_refl _)
  have c0 : w1.cell? ⟨w.heap.size, 0, none⟩ = some (.map (some B)) := cellN HG.out
  have HIH : Hid (∀ f', f' < f → TakeC w0 B F U f') := ih
  have HF : Hid (U.length ≤ Maps.size s.E + f) := hf
  have hst := hS.1.has hu hfit
  rw [← hT] at hst
  clear ih hf hS hB1 hw1 htt HX0 hu ht hP hT hfit hti htY hv hty hfn
  have A1 := asP
  have A2 := noL_P
  have HV : Hid (a.val = .iface T1 u1 ∧ b.val = .iface T2 u2) := ⟨hv1, hv2⟩
  clear hv1 hv2
  cases hh : has s.E (.string T.toList) with
  | true =>
    have HO : Hid (s.S t) := hst.1 hh
    clear hst
    go_enter Tryz.func103, Tryz.ntmps103
    go_wp2
    rw [← HW1.out]
    go_wp2_with fail
    refine (HX.out w1 HS1.out.2).mono ?_
    rintro e w2 ⟨rfl, hB2⟩
    have HB2 : Hid (Below w1.heap.size w1 w2) := hB2
    have HS2 : Hid (IsOp w0 w2 B F U s) := HS1.out.below hB2
    have d0 : w2.cell? ⟨w.heap.size, 0, none⟩ = some (.map (some B)) := (hB2.cell (p := ⟨w.heap.size, 0, none⟩) (cell_lt c0)).trans c0
    clear hB2 c0
    go_wp2_with fail
    refine (has71_any B _ s.E T w2 HS2.out.1.set hTs).mono ?_
    rintro e w3 ⟨rfl, hB3⟩
    rw [hh]
    have HB3 : Hid (Below w2.heap.size w2 w3) := hB3
    have HS3 : Hid (IsOp w0 w3 B F U s) := HS2.out.below hB3
    clear hB3 d0
    go_wp2
    (first | go_end0 | ((try simp only [Exit.inBlock, Exit.then]); refine bodyPost_ret (results_none rfl _ _ _) rfl ?_))
    have hW := HB1.out.trans ((HB2.out.trans (HB3.out.mono HB2.out.size)).mono HB1.out.size)
    exact ⟨rfl, s, HS3.out, TakeL.old HO.out, fun _ _ _ => rfl, Nat.le_refl _, Kpt.below _ hW⟩
  | false =>
    have HO : Hid (¬ s.S t) := fun h => by rw [hst.2 h] at hh; cases hh
    clear hst
    have hkey : keyOf Tryz.prog 9 (.string T) = some (keyL T) := keyS hTs
    go_enter Tryz.func103, Tryz.ntmps103
    go_wp2
    rw [← HW1.out]
    go_wp2_with fail
    refine (HX.out w1 HS1.out.2).mono ?_
    rintro e w2 ⟨rfl, hB2⟩
    have HB2 : Hid (Below w1.heap.size w1 w2) := hB2
    have HS2 : Hid (IsOp w0 w2 B F U s) := HS1.out.below hB2
    have d0 : w2.cell? ⟨w.heap.size, 0, none⟩ = some (.map (some B)) := (hB2.cell (p := ⟨w.heap.size, 0, none⟩) (cell_lt c0)).trans c0
    clear hB2 c0
    go_wp2_with fail
    refine (has71_any B _ s.E T w2 HS2.out.1.set hTs).mono ?_
    rintro e w3 ⟨rfl, hB3⟩
    rw [hh]
    have HS3 : Hid (IsOp w0 w3 B F U s) := HS2.out.below hB3
    have HB13 : Hid (Below w1.heap.size w1 w3) := HB2.out.trans (hB3.mono HB2.out.size)
    have e0 : w3.cell? ⟨w.heap.size, 0, none⟩ = some (.map (some B)) := (hB3.cell (p := ⟨w.heap.size, 0, none⟩) (cell_lt d0)).trans d0
    have HSZ : Hid (Maps.size s.E ≤ 4000) := by show _ ≤ _; exact Nat.le_trans HS3.out.1.size HU.out.len
    have HOW : Hid (w3.ownsMap Tryz.prog 9 unitElem B (Maps.size s.E) s.E) := HS3.out.1.set
    clear hB3 d0 hh
    obtain ⟨e1, e2⟩ := HTV.out
    subst e1 e2
    have hmx : Maps.size s.E < maxLen := by have := HSZ.out; unfold maxLen; omega
    go_wp2_with (at_mapUpdate; go_loud (refine wpList_mapUpdate_own _ rfl _ _ _ 131 rfl 9 196 lawS Tryz.underlying131 unitElem B (Maps.size s.E) s.E rfl HOW.out hmx _ _ _ rfl rfl hkey (.agg []) [] unitElem_mk ?_); intro w4 hown4 hgrow4; have HX4 : Hid (PutC w0 w w4 B F U s t) := put_after HS3.out HB1.out HB13.out HZ1.out HU.out HT.out HO.out HTX.out HNE.out HG.out hown4 hgrow4; have f0 : w4.cell? ⟨w.heap.size, 0, none⟩ = some (.map (some B)) := cellN HX4.out.2.2.2.2.1; have f1 : w4.cell? ⟨w.heap.size, 1, none⟩ = some (.map (some F)) := cellN HX4.out.2.2.2.2.1; clear hown4 hgrow4 e0; obtain ⟨w5, hw5⟩ : ∃ w5, w5 = w4.alloc (.cells #[.iface T1 u1, .iface T2 u2] 191) := ⟨_, rfl⟩; have HW5 : Hid (w5 = w4.alloc (.cells #[.iface T1 u1, .iface T2 u2] 191)) := hw5; have hB45 : Below w4.heap.size w4 w5 := (by rw [hw5]; exact (Below.refl _ _).alloc (Nat.le_refl _) _); have HB45 : Hid (Below w4.heap.size w4 w5) := hB45; have HG5 : Hid (w5.heap[w4.heap.size]? = some (.cells #[.iface T1 u1, .iface T2 u2] 191 (0, 0))) := (by show _ = _; rw [hw5]; exact heap_alloc_new _ _); have g0 := (hB45.cell (p := ⟨w.heap.size, 0, none⟩) (cell_lt f0)).trans f0; have g1 := (hB45.cell (p := ⟨w.heap.size, 1, none⟩) (cell_lt f0)).trans f1; rw [hw5] at g0 g1; clear hw5 hB45; have HC : Hid (Calls Tryz.prog 103 #[.agg #[.map (some B), .map (some F)], .iface T1 u1] w5 fun e w' => e = .returned (.tuple #[]) ∧ ∃ s', IsOp w0 w' B F U s' ∧ Goes B F w5 w' ⟨putE s.E t.txt, s.G, withT s.S t, s.W, s.sv⟩ [a] s') := kid_take HX4.out HB45.out HIH.out HF.out HKD.out.1 HV.out.1)
    rw [← HW5.out]
    refine HC.out.mono ?_
    rintro e w6 ⟨rfl, s6, hS6, hG6⟩
    have HG6 : Hid (Goes B F w5 w6 ⟨putE s.E t.txt, s.G, withT s.S t, s.W, s.sv⟩ [a] s6) := hG6
    have HBO : Hid (w6.heap[w.heap.size]? = some (.cells #[.map (some B), .map (some F)] 167 (0, 0))) := Kpt.box hG6.kp (by have := HB45.out.size; have := HX4.out.2.2.2.1; omega) HNE.out ((HB45.out.block _ HX4.out.2.2.2.1).trans HX4.out.2.2.2.2.1)
    have HBP : Hid (w6.heap[w4.heap.size]? = some (.cells #[.iface T1 u1, .iface T2 u2] 191 (0, 0))) := Kpt.box hG6.kp (lt_of_block HG5.out) (HX4.out.1.new (Nat.le_refl _)) HG5.out
    have HC2 : Hid (Calls Tryz.prog 103 #[.agg #[.map (some B), .map (some F)], .iface T2 u2] w6 fun e w' => e = .returned (.tuple #[]) ∧ ∃ s', IsOp w0 w' B F U s' ∧ Goes B F w6 w' s6 [b] s') := next_take HX4.out hS6 hG6.size HIH.out HF.out HKD.out.2 HV.out.2
    have k0 : w6.cell? ⟨w.heap.size, 0, none⟩ = some (.map (some B)) := cellN HBO.out
    have k1 : w6.cell? ⟨w.heap.size, 1, none⟩ = some (.map (some F)) := cellN HBO.out
    have k2 : w6.cell? ⟨w4.heap.size, 1, none⟩ = some (.iface T2 u2) := cellN HBP.out
    clear hS6 hG6 f0 f1 g0 g1
    go_wp2_with fail
    refine HC2.out.mono ?_
    rintro e w7 ⟨rfl, s7, hS7, hG7⟩
    have HF7 : Hid (IsOp w0 w7 B F U s7 ∧ Goes B F w w7 s [t] s7) := ⟨hS7, Goes.put (Goes.from HB45.out (HG6.out.trans hG7)) HX4.out.2.1 HX4.out.big (by rw [HTT.out]; exact fun h => TakeL.pair h)⟩
    clear hS7 hG7 k0 k1 k2
    go_wp2
    (first | go_end0 | ((try simp only [Exit.inBlock, Exit.then]); refine bodyPost_ret (results_none rfl _ _ _) rfl ?_))
    exact ⟨rfl, s7, HF7.out.1, HF7.out.2⟩
end
end Go.Proofs.YtcolcnkjcagbaaaGreatDoor

namespace Go.Proofs.YtcolcnkjcagbaaaGreatDoor
open Go.RowKit Go.Maps
set_option linter.unusedVariables false
section
variable {w0 : World} {B F : Nat} {U : List Tr}
theorem key_there {w w4 : World} {s : OpSt} {t : Tr} {n : Nat} (h : PutC w0 w w4 B F U s t) (hu : Uni U) (hn : n ≤ 999) : has (putE s.E t.txt) (.string (keyT0 n).toList) = true ↔ withT s.S t (keyT n) := by
  rw [← keyT_txt]
  exact h.1.1.has hu (fitKey hn)

set_option maxRecDepth 8000 in
set_option maxHeartbeats 8000000 in
theorem take_sign {f : Nat} (hu : Uni U) (hP : Pow w0) (k n : Nat) (a : Tr) (ih : ∀ f', f' < f → TakeC w0 B F U f') (w : World) (s : OpSt) (ht : (⟨.inr (.inr (.inr (k, n, a)))⟩ : Tr) ∈ U) (hS : IsOp w0 w B F U s) (hf : U.length ≤ Maps.size s.E + f) (hk : k = 7) :
    Calls Tryz.prog 103 #[.agg #[.map (some B), .map (some F)], (⟨.inr (.inr (.inr (k, n, a)))⟩ : Tr).val] w fun e w' => e = .returned (.tuple #[]) ∧ ∃ s', IsOp w0 w' B F U s' ∧ Goes B F w w' s [(⟨.inr (.inr (.inr (k, n, a)))⟩ : Tr)] s' := by
  have hfit := hu.fit _ ht
  obtain ⟨T1, u1, hv1⟩ := val_iface a
  have HKD : Hid (a ∈ U) := hu.kid _ ht a (by simp [Tr.kids])
  have HFN : Hid (n ≤ 999) := hfit.1.2.1
  have HKK : Hid (k = 7) := hk
  obtain ⟨t, htt⟩ : ∃ t : Tr, t = (⟨.inr (.inr (.inr (k, n, a)))⟩ : Tr) := ⟨_, rfl⟩
  have hti : t.inn = .agg #[.int .i64 k, .int .i64 n, .iface T1 u1] := by rw [htt, Tr.inn, hv1]
  have htY : t.ty = 106 := by rw [htt, Tr.ty]
  have HX0 : TextC t := by rw [htt]; exact ttext_any _ hfit.1 hfit.2.1
  obtain ⟨T, hT⟩ : ∃ T, T = t.txt := ⟨_, rfl⟩
  obtain ⟨v, hv⟩ : ∃ v, v = t.inn := ⟨_, rfl⟩
  obtain ⟨ty, hty⟩ : ∃ ty, ty = t.ty := ⟨_, rfl⟩
  obtain ⟨fn, hfn⟩ : ∃ fn, fn = t.tf := ⟨_, rfl⟩
  have hm : ∀ w, (method 348 ty v "loop.example/g00318/impl.text").run Tryz.prog w = .ok (fn, v) w := fun w => by rw [hv, hty, hfn]; exact mText t w
  have hen : ∀ args w, (callFunc fn args).run Tryz.prog w = .ok (.enter fn args) w := by rw [hfn]; exact enText t
  have HX : Hid (∀ w', Below w0.heap.size w0 w' → Calls Tryz.prog fn #[v] w' fun e w'' => e = .returned (.string T) ∧ Below w'.heap.size w' w'') := fun w' hB => by
    have h1 := HX0 w' (hP.below hB)
    rw [← hT, ← hfn, ← hv] at h1
    exact h1
  have HTV : Hid (ty = 106 ∧ v = .agg #[.int .i64 k, .int .i64 n, .iface T1 u1]) := ⟨hty.trans htY, hv.trans hti⟩
  rw [← htt] at ht hfit ⊢
  rw [t.val_is, ← hv, ← hty]
  have hTs : T.size ≤ 9223372036854775807 := by have h1 := Tr.txt_size _ hfit.1; have h2 := hfit.2.1; rw [hT]; omega
  have HTT : Hid (t = (⟨.inr (.inr (.inr (k, n, a)))⟩ : Tr)) := htt
  have HTX : Hid (T = t.txt) := hT
  have HP : Hid (Pow w0) := hP
  have HU : Hid (Uni U) := hu
  have HT : Hid (t ∈ U) := ht
  obtain ⟨w1, hw1⟩ : ∃ w1, w1 = w.alloc (.cells #[.map (some B), .map (some F)] 167) := ⟨_, rfl⟩
  have HW1 : Hid (w1 = w.alloc (.cells #[.map (some B), .map (some F)] 167)) := hw1
  have hB1 : Below w.heap.size w w1 := by rw [hw1]; exact (Below.refl _ _).alloc (Nat.le_refl _) _
  have HB1 : Hid (Below w.heap.size w w1) := hB1
  have HS1 : Hid (IsOp w0 w1 B F U s) := hS.below hB1
  have HZ1 : Hid (w1.heap.size = w.heap.size + 1) := by show _ = _; rw [hw1]; simp
  have HG : Hid (w1.heap[w.heap.size]? = some (.cells #[.map (some B), .map (some F)] 167 (0, 0))) := by show _ = _; rw [hw1]; exact heap_alloc_new _ _
  have HNE : Hid (w.heap.size ≠ B ∧ w.heap.size ≠ F ∧ ∀ k, k ≤ 999 → (s.sv k).ownBlock ≠ some w.heap.size) := hS.new (Nat.le_refl _)
  have c0 : w1.cell? ⟨w.heap.size, 0, none⟩ = some (.map (some B)) := cellN HG.out
  have HIH : Hid (∀ f', f' < f → TakeC w0 B F U f') := ih
  have HF : Hid (U.length ≤ Maps.size s.E + f) := hf
  have hst := hS.1.has hu hfit
  rw [← hT] at hst
  clear ih hf hS hB1 hw1 htt HX0 hu ht hP hT hfit hti htY hv hty hfn
  have A1 := asK
  have A2 := noL_K
  have A3 := noP_K
  have HV : Hid (a.val = .iface T1 u1) := hv1
  clear hv1
  have hk7 : ((k : Int) == 7) = true := by simp; omega
  clear hk
  cases hh : has s.E (.string T.toList) with
  | true =>
    have HO : Hid (s.S t) := hst.1 hh
    clear hst
    go_enter Tryz.func103, Tryz.ntmps103
    go_wp2
    rw [← HW1.out]
    go_wp2_with fail
    refine (HX.out w1 HS1.out.2).mono ?_
    rintro e w2 ⟨rfl, hB2⟩
    have HB2 : Hid (Below w1.heap.size w1 w2) := hB2
    have HS2 : Hid (IsOp w0 w2 B F U s) := HS1.out.below hB2
    have d0 : w2.cell? ⟨w.heap.size, 0, none⟩ = some (.map (some B)) := (hB2.cell (p := ⟨w.heap.size, 0, none⟩) (cell_lt c0)).trans c0
    clear hB2 c0
    go_wp2_with fail
    refine (has71_any B _ s.E T w2 HS2.out.1.set hTs).mono ?_
    rintro e w3 ⟨rfl, hB3⟩
    rw [hh]
    have HB3 : Hid (Below w2.heap.size w2 w3) := hB3
    have HS3 : Hid (IsOp w0 w3 B F U s) := HS2.out.below hB3
    clear hB3 d0
    go_wp2
    (first | go_end0 | ((try simp only [Exit.inBlock, Exit.then]); refine bodyPost_ret (results_none rfl _ _ _) rfl ?_))
    have hW := HB1.out.trans ((HB2.out.trans (HB3.out.mono HB2.out.size)).mono HB1.out.size)
    exact ⟨rfl, s, HS3.out, TakeL.old HO.out, fun _ _ _ => rfl, Nat.le_refl _, Kpt.below _ hW⟩
  | false =>
    have HO : Hid (¬ s.S t) := fun h => by rw [hst.2 h] at hh; cases hh
    clear hst
    have hkey : keyOf Tryz.prog 9 (.string T) = some (keyL T) := keyS hTs
    go_enter Tryz.func103, Tryz.ntmps103
    go_wp2
    rw [← HW1.out]
    go_wp2_with fail
    refine (HX.out w1 HS1.out.2).mono ?_
    rintro e w2 ⟨rfl, hB2⟩
    have HB2 : Hid (Below w1.heap.size w1 w2) := hB2
    have HS2 : Hid (IsOp w0 w2 B F U s) := HS1.out.below hB2
    have d0 : w2.cell? ⟨w.heap.size, 0, none⟩ = some (.map (some B)) := (hB2.cell (p := ⟨w.heap.size, 0, none⟩) (cell_lt c0)).trans c0
    clear hB2 c0
    go_wp2_with fail
    refine (has71_any B _ s.E T w2 HS2.out.1.set hTs).mono ?_
    rintro e w3 ⟨rfl, hB3⟩
    rw [hh]
    have HS3 : Hid (IsOp w0 w3 B F U s) := HS2.out.below hB3
    have HB13 : Hid (Below w1.heap.size w1 w3) := HB2.out.trans (hB3.mono HB2.out.size)
    have e0 : w3.cell? ⟨w.heap.size, 0, none⟩ = some (.map (some B)) := (hB3.cell (p := ⟨w.heap.size, 0, none⟩) (cell_lt d0)).trans d0
    have HSZ : Hid (Maps.size s.E ≤ 4000) := by show _ ≤ _; exact Nat.le_trans HS3.out.1.size HU.out.len
    have HOW : Hid (w3.ownsMap Tryz.prog 9 unitElem B (Maps.size s.E) s.E) := HS3.out.1.set
    clear hB3 d0 hh
    obtain ⟨e1, e2⟩ := HTV.out
    subst e1 e2
    have hmx : Maps.size s.E < maxLen := by have := HSZ.out; unfold maxLen; omega
    go_wp2_with (at_mapUpdate; go_loud (refine wpList_mapUpdate_own _ rfl _ _ _ 131 rfl 9 196 lawS Tryz.underlying131 unitElem B (Maps.size s.E) s.E rfl HOW.out hmx _ _ _ rfl rfl hkey (.agg []) [] unitElem_mk ?_); intro w4 hown4 hgrow4; have HX4 : Hid (PutC w0 w w4 B F U s t) := put_after HS3.out HB1.out HB13.out HZ1.out HU.out HT.out HO.out HTX.out HNE.out HG.out hown4 hgrow4; have f0 : w4.cell? ⟨w.heap.size, 0, none⟩ = some (.map (some B)) := cellN HX4.out.2.2.2.2.1; have f1 : w4.cell? ⟨w.heap.size, 1, none⟩ = some (.map (some F)) := cellN HX4.out.2.2.2.2.1; clear hown4 hgrow4 e0; obtain ⟨w5, hw5⟩ : ∃ w5, w5 = w4.alloc (.cells #[.int .i64 k, .int .i64 n, .iface T1 u1] 106) := ⟨_, rfl⟩; have HW5 : Hid (w5 = w4.alloc (.cells #[.int .i64 k, .int .i64 n, .iface T1 u1] 106)) := hw5; have hB45 : Below w4.heap.size w4 w5 := (by rw [hw5]; exact (Below.refl _ _).alloc (Nat.le_refl _) _); have HB45 : Hid (Below w4.heap.size w4 w5) := hB45; have HG5 : Hid (w5.heap[w4.heap.size]? = some (.cells #[.int .i64 k, .int .i64 n, .iface T1 u1] 106 (0, 0))) := (by show _ = _; rw [hw5]; exact heap_alloc_new _ _); have g0 := (hB45.cell (p := ⟨w.heap.size, 0, none⟩) (cell_lt f0)).trans f0; have g1 := (hB45.cell (p := ⟨w.heap.size, 1, none⟩) (cell_lt f0)).trans f1; rw [hw5] at g0 g1; clear hw5 hB45)
    rw [← HW5.out]
    have HBO : Hid (w5.heap[w.heap.size]? = some (.cells #[.map (some B), .map (some F)] 167 (0, 0))) := (HB45.out.block _ HX4.out.2.2.2.1).trans HX4.out.2.2.2.2.1
    have HS5 : Hid (IsOp w0 w5 B F U ⟨putE s.E t.txt, s.G, withT s.S t, s.W, s.sv⟩) := HX4.out.1.below HB45.out
    clear f0 f1 g0 g1
    have p0 : ∀ s : Later w5, s.val.cell? ⟨w.heap.size, 0, none⟩ = some (.map (some B)) := fun s => s.cell (cellN HBO.out)
    have q0 : ∀ s : Later w5, s.val.cell? ⟨w4.heap.size, 0, none⟩ = some (.int .i64 k) := fun s => s.cell (cellN HG5.out)
    have q1 : ∀ s : Later w5, s.val.cell? ⟨w4.heap.size, 1, none⟩ = some (.int .i64 n) := fun s => s.cell (cellN HG5.out)
    have hne := Later.any w5
    refine wp_region_later (by kernel_rfl) (by kernel_rfl) ?_
    repeat (go_big_quiet_step (fail))
    refine wpQuiet_nil ?_
    rintro w6 ⟨⟨v6, hB6⟩, e6⟩
    obtain rfl : w6 = v6 := e6
    have HB6 : Hid (Below w5.heap.size w5 w6) := hB6
    have HB46 : Hid (Below w4.heap.size w4 w6) := HB45.out.trans (hB6.mono HB45.out.size)
    have r0 : w6.cell? ⟨w.heap.size, 0, none⟩ = some (.map (some B)) := (hB6.cell (p := ⟨w.heap.size, 0, none⟩) (lt_of_block HBO.out)).trans (cellN HBO.out)
    have r1 : w6.cell? ⟨w.heap.size, 1, none⟩ = some (.map (some F)) := (hB6.cell (p := ⟨w.heap.size, 1, none⟩) (lt_of_block HBO.out)).trans (cellN HBO.out)
    have r2 : w6.cell? ⟨w4.heap.size, 2, none⟩ = some (.iface T1 u1) := (hB6.cell (p := ⟨w4.heap.size, 2, none⟩) (lt_of_block HG5.out)).trans (cellN HG5.out)
    have HC : Hid (Calls Tryz.prog 103 #[.agg #[.map (some B), .map (some F)], .iface T1 u1] w6 fun e w' => e = .returned (.tuple #[]) ∧ ∃ s', IsOp w0 w' B F U s' ∧ Goes B F w6 w' ⟨putE s.E t.txt, s.G, withT s.S t, s.W, s.sv⟩ [a] s') := kid_take HX4.out HB46.out HIH.out HF.out HKD.out HV.out
    clear hB6 p0 q0 q1 hne
    go_wp2_with fail
    refine HC.out.mono ?_
    rintro e w7 ⟨rfl, s7, hS7, hG7⟩
    have HF7 : Hid (IsOp w0 w7 B F U s7 ∧ Goes B F w w7 s [t] s7) := ⟨hS7, Goes.put (Goes.from HB46.out hG7) HX4.out.2.1 HX4.out.big (by rw [HTT.out, HKK.out]; exact fun h => TakeL.sign h)⟩
    clear hS7 hG7 r0 r1 r2
    go_wp2
    (first | go_end0 | ((try simp only [Exit.inBlock, Exit.then]); refine bodyPost_ret (results_none rfl _ _ _) rfl ?_))
    exact ⟨rfl, s7, HF7.out.1, HF7.out.2⟩

theorem keyT0_small (n : Nat) (h : n ≤ 999) : (keyT0 n).size ≤ 9223372036854775807 := by
  have := decB_size n
  unfold keyT0
  rw [ByteArray.size_append]
  have := head_size 2
  omega

set_option maxRecDepth 8000 in
set_option maxHeartbeats 8000000 in
theorem take_seal {f : Nat} (hu : Uni U) (hP : Pow w0) (k n : Nat) (a : Tr) (ih : ∀ f', f' < f → TakeC w0 B F U f') (w : World) (s : OpSt) (ht : (⟨.inr (.inr (.inr (k, n, a)))⟩ : Tr) ∈ U) (hS : IsOp w0 w B F U s) (hf : U.length ≤ Maps.size s.E + f) (hk : k = 6) (hkt : s.S (keyT n)) :
    Calls Tryz.prog 103 #[.agg #[.map (some B), .map (some F)], (⟨.inr (.inr (.inr (k, n, a)))⟩ : Tr).val] w fun e w' => e = .returned (.tuple #[]) ∧ ∃ s', IsOp w0 w' B F U s' ∧ Goes B F w w' s [(⟨.inr (.inr (.inr (k, n, a)))⟩ : Tr)] s' := by
  have hfit := hu.fit _ ht
  obtain ⟨T1, u1, hv1⟩ := val_iface a
  have HKD : Hid (a ∈ U) := hu.kid _ ht a (by simp [Tr.kids])
  have HFN : Hid (n ≤ 999) := hfit.1.2.1
  have HKK : Hid (k = 6) := hk
  obtain ⟨t, htt⟩ : ∃ t : Tr, t = (⟨.inr (.inr (.inr (k, n, a)))⟩ : Tr) := ⟨_, rfl⟩
  have hti : t.inn = .agg #[.int .i64 k, .int .i64 n, .iface T1 u1] := by rw [htt, Tr.inn, hv1]
  have htY : t.ty = 106 := by rw [htt, Tr.ty]
  have HX0 : TextC t := by rw [htt]; exact ttext_any _ hfit.1 hfit.2.1
  obtain ⟨T, hT⟩ : ∃ T, T = t.txt := ⟨_, rfl⟩
  obtain ⟨v, hv⟩ : ∃ v, v = t.inn := ⟨_, rfl⟩
  obtain ⟨ty, hty⟩ : ∃ ty, ty = t.ty := ⟨_, rfl⟩
  obtain ⟨fn, hfn⟩ : ∃ fn, fn = t.tf := ⟨_, rfl⟩
  have hm : ∀ w, (method 348 ty v "loop.example/g00318/impl.text").run Tryz.prog w = .ok (fn, v) w := fun w => by rw [hv, hty, hfn]; exact mText t w
  have hen : ∀ args w, (callFunc fn args).run Tryz.prog w = .ok (.enter fn args) w := by rw [hfn]; exact enText t
  have HX : Hid (∀ w', Below w0.heap.size w0 w' → Calls Tryz.prog fn #[v] w' fun e w'' => e = .returned (.string T) ∧ Below w'.heap.size w' w'') := fun w' hB => by
    have h1 := HX0 w' (hP.below hB)
    rw [← hT, ← hfn, ← hv] at h1
    exact h1
  have HTV : Hid (ty = 106 ∧ v = .agg #[.int .i64 k, .int .i64 n, .iface T1 u1]) := ⟨hty.trans htY, hv.trans hti⟩
  rw [← htt] at ht hfit ⊢
  rw [t.val_is, ← hv, ← hty]
  have hTs : T.size ≤ 9223372036854775807 := by have h1 := Tr.txt_size _ hfit.1; have h2 := hfit.2.1; rw [hT]; omega
  have HTT : Hid (t = (⟨.inr (.inr (.inr (k, n, a)))⟩ : Tr)) := htt
  have HTX : Hid (T = t.txt) := hT
  have HP : Hid (Pow w0) := hP
  have HU : Hid (Uni U) := hu
  have HT : Hid (t ∈ U) := ht
  obtain ⟨w1, hw1⟩ : ∃ w1, w1 = w.alloc (.cells #[.map (some B), .map (some F)] 167) := ⟨_, rfl⟩
  have HW1 : Hid (w1 = w.alloc (.cells #[.map (some B), .map (some F)] 167)) := hw1
  have hB1 : Below w.heap.size w w1 := by rw [hw1]; exact (Below.refl _ _).alloc (Nat.le_refl _) _
  have HB1 : Hid (Below w.heap.size w w1) := hB1
  have HS1 : Hid (IsOp w0 w1 B F U s) := hS.below hB1
  have HZ1 : Hid (w1.heap.size = w.heap.size + 1) := by show _ = _; rw [hw1]; simp
  have HG : Hid (w1.heap[w.heap.size]? = some (.cells #[.map (some B), .map (some F)] 167 (0, 0))) := by show _ = _; rw [hw1]; exact heap_alloc_new _ _
  have HNE : Hid (w.heap.size ≠ B ∧ w.heap.size ≠ F ∧ ∀ k, k ≤ 999 → (s.sv k).ownBlock ≠ some w.heap.size) := hS.new (Nat.le_refl _)
  have c0 : w1.cell? ⟨w.heap.size, 0, none⟩ = some (.map (some B)) := cellN HG.out
  have HIH : Hid (∀ f', f' < f → TakeC w0 B F U f') := ih
  have HF : Hid (U.length ≤ Maps.size s.E + f) := hf
  have hst := hS.1.has hu hfit
  rw [← hT] at hst
  clear ih hf hS hB1 hw1 htt HX0 hu ht hP hT hfit hti htY hv hty hfn
  have A1 := asK
  have A2 := noL_K
  have A3 := noP_K
  have HV : Hid (a.val = .iface T1 u1) := hv1
  clear hv1
  have hk7 : ((k : Int) == 7) = false := by simp; omega
  have HKT0 : Hid (s.S (keyT n)) := hkt
  clear hkt
  clear hk
  cases hh : has s.E (.string T.toList) with
  | true =>
    have HO : Hid (s.S t) := hst.1 hh
    clear hst
    go_enter Tryz.func103, Tryz.ntmps103
    go_wp2
    rw [← HW1.out]
    go_wp2_with fail
    refine (HX.out w1 HS1.out.2).mono ?_
    rintro e w2 ⟨rfl, hB2⟩
    have HB2 : Hid (Below w1.heap.size w1 w2) := hB2
    have HS2 : Hid (IsOp w0 w2 B F U s) := HS1.out.below hB2
    have d0 : w2.cell? ⟨w.heap.size, 0, none⟩ = some (.map (some B)) := (hB2.cell (p := ⟨w.heap.size, 0, none⟩) (cell_lt c0)).trans c0
    clear hB2 c0
    go_wp2_with fail
    refine (has71_any B _ s.E T w2 HS2.out.1.set hTs).mono ?_
    rintro e w3 ⟨rfl, hB3⟩
    rw [hh]
    have HB3 : Hid (Below w2.heap.size w2 w3) := hB3
    have HS3 : Hid (IsOp w0 w3 B F U s) := HS2.out.below hB3
    clear hB3 d0
    go_wp2
    (first | go_end0 | ((try simp only [Exit.inBlock, Exit.then]); refine bodyPost_ret (results_none rfl _ _ _) rfl ?_))
    have hW := HB1.out.trans ((HB2.out.trans (HB3.out.mono HB2.out.size)).mono HB1.out.size)
    exact ⟨rfl, s, HS3.out, TakeL.old HO.out, fun _ _ _ => rfl, Nat.le_refl _, Kpt.below _ hW⟩
  | false =>
    have HO : Hid (¬ s.S t) := fun h => by rw [hst.2 h] at hh; cases hh
    clear hst
    have hkey : keyOf Tryz.prog 9 (.string T) = some (keyL T) := keyS hTs
    go_enter Tryz.func103, Tryz.ntmps103
    go_wp2
    rw [← HW1.out]
    go_wp2_with fail
    refine (HX.out w1 HS1.out.2).mono ?_
    rintro e w2 ⟨rfl, hB2⟩
    have HB2 : Hid (Below w1.heap.size w1 w2) := hB2
    have HS2 : Hid (IsOp w0 w2 B F U s) := HS1.out.below hB2
    have d0 : w2.cell? ⟨w.heap.size, 0, none⟩ = some (.map (some B)) := (hB2.cell (p := ⟨w.heap.size, 0, none⟩) (cell_lt c0)).trans c0
    clear hB2 c0
    go_wp2_with fail
    refine (has71_any B _ s.E T w2 HS2.out.1.set hTs).mono ?_
    rintro e w3 ⟨rfl, hB3⟩
    rw [hh]
    have HS3 : Hid (IsOp w0 w3 B F U s) := HS2.out.below hB3
    have HB13 : Hid (Below w1.heap.size w1 w3) := HB2.out.trans (hB3.mono HB2.out.size)
    have e0 : w3.cell? ⟨w.heap.size, 0, none⟩ = some (.map (some B)) := (hB3.cell (p := ⟨w.heap.size, 0, none⟩) (cell_lt d0)).trans d0
    have HSZ : Hid (Maps.size s.E ≤ 4000) := by show _ ≤ _; exact Nat.le_trans HS3.out.1.size HU.out.len
    have HOW : Hid (w3.ownsMap Tryz.prog 9 unitElem B (Maps.size s.E) s.E) := HS3.out.1.set
    clear hB3 d0 hh
    obtain ⟨e1, e2⟩ := HTV.out
    subst e1 e2
    have hmx : Maps.size s.E < maxLen := by have := HSZ.out; unfold maxLen; omega
    go_wp2_with (at_mapUpdate; go_loud (refine wpList_mapUpdate_own _ rfl _ _ _ 131 rfl 9 196 lawS Tryz.underlying131 unitElem B (Maps.size s.E) s.E rfl HOW.out hmx _ _ _ rfl rfl hkey (.agg []) [] unitElem_mk ?_); intro w4 hown4 hgrow4; have HX4 : Hid (PutC w0 w w4 B F U s t) := put_after HS3.out HB1.out HB13.out HZ1.out HU.out HT.out HO.out HTX.out HNE.out HG.out hown4 hgrow4; have f0 : w4.cell? ⟨w.heap.size, 0, none⟩ = some (.map (some B)) := cellN HX4.out.2.2.2.2.1; have f1 : w4.cell? ⟨w.heap.size, 1, none⟩ = some (.map (some F)) := cellN HX4.out.2.2.2.2.1; clear hown4 hgrow4 e0; obtain ⟨w5, hw5⟩ : ∃ w5, w5 = w4.alloc (.cells #[.int .i64 k, .int .i64 n, .iface T1 u1] 106) := ⟨_, rfl⟩; have HW5 : Hid (w5 = w4.alloc (.cells #[.int .i64 k, .int .i64 n, .iface T1 u1] 106)) := hw5; have hB45 : Below w4.heap.size w4 w5 := (by rw [hw5]; exact (Below.refl _ _).alloc (Nat.le_refl _) _); have HB45 : Hid (Below w4.heap.size w4 w5) := hB45; have HG5 : Hid (w5.heap[w4.heap.size]? = some (.cells #[.int .i64 k, .int .i64 n, .iface T1 u1] 106 (0, 0))) := (by show _ = _; rw [hw5]; exact heap_alloc_new _ _); have g0 := (hB45.cell (p := ⟨w.heap.size, 0, none⟩) (cell_lt f0)).trans f0; have g1 := (hB45.cell (p := ⟨w.heap.size, 1, none⟩) (cell_lt f0)).trans f1; rw [hw5] at g0 g1; clear hw5 hB45)
    rw [← HW5.out]
    have HBO : Hid (w5.heap[w.heap.size]? = some (.cells #[.map (some B), .map (some F)] 167 (0, 0))) := (HB45.out.block _ HX4.out.2.2.2.1).trans HX4.out.2.2.2.2.1
    have HS5 : Hid (IsOp w0 w5 B F U ⟨putE s.E t.txt, s.G, withT s.S t, s.W, s.sv⟩) := HX4.out.1.below HB45.out
    clear f0 f1 g0 g1
    have p0 : ∀ s : Later w5, s.val.cell? ⟨w.heap.size, 0, none⟩ = some (.map (some B)) := fun s => s.cell (cellN HBO.out)
    have q0 : ∀ s : Later w5, s.val.cell? ⟨w4.heap.size, 0, none⟩ = some (.int .i64 k) := fun s => s.cell (cellN HG5.out)
    have q1 : ∀ s : Later w5, s.val.cell? ⟨w4.heap.size, 1, none⟩ = some (.int .i64 n) := fun s => s.cell (cellN HG5.out)
    have hne := Later.any w5
    have HKT : Hid (∀ s : Later w5, Calls Tryz.prog 102 #[.int .i64 n] s.val fun e w' => e = .returned (.string (keyT0 n)) ∧ Below s.val.heap.size s.val w') := fun v => keyText_any n HFN.out v.val (HP.out.below (HS5.out.2.trans (v.ok.mono HS5.out.2.size)))
    have HHS : Hid (∀ v : Later w5, Calls Tryz.prog 101 #[.map (some B), .string (keyT0 n)] v.val fun e w' => e = .returned (.bool true) ∧ Below v.val.heap.size v.val w') := fun v => by
      have h1 := has71_any B _ (putE s.E t.txt) (keyT0 n) v.val (HS5.out.1.set.below v.ok) (keyT0_small n HFN.out)
      rw [(key_there HX4.out HU.out HFN.out).2 (.inl HKT0.out)] at h1
      exact h1
    refine wp_region_later (by kernel_rfl) (by kernel_rfl) ?_
    repeat (go_big_quiet_step ((first | (rename_i v; with_reducible exact Calls.later (HKT.out v)) | (rename_i v; with_reducible exact Calls.later (HHS.out v)))))
    refine wpQuiet_nil ?_
    rintro w6 ⟨⟨v6, hB6⟩, e6⟩
    obtain rfl : w6 = v6 := e6
    have HB6 : Hid (Below w5.heap.size w5 w6) := hB6
    have HB46 : Hid (Below w4.heap.size w4 w6) := HB45.out.trans (hB6.mono HB45.out.size)
    have r0 : w6.cell? ⟨w.heap.size, 0, none⟩ = some (.map (some B)) := (hB6.cell (p := ⟨w.heap.size, 0, none⟩) (lt_of_block HBO.out)).trans (cellN HBO.out)
    have r1 : w6.cell? ⟨w.heap.size, 1, none⟩ = some (.map (some F)) := (hB6.cell (p := ⟨w.heap.size, 1, none⟩) (lt_of_block HBO.out)).trans (cellN HBO.out)
    have r2 : w6.cell? ⟨w4.heap.size, 2, none⟩ = some (.iface T1 u1) := (hB6.cell (p := ⟨w4.heap.size, 2, none⟩) (lt_of_block HG5.out)).trans (cellN HG5.out)
    have HC : Hid (Calls Tryz.prog 103 #[.agg #[.map (some B), .map (some F)], .iface T1 u1] w6 fun e w' => e = .returned (.tuple #[]) ∧ ∃ s', IsOp w0 w' B F U s' ∧ Goes B F w6 w' ⟨putE s.E t.txt, s.G, withT s.S t, s.W, s.sv⟩ [a] s') := kid_take HX4.out HB46.out HIH.out HF.out HKD.out HV.out
    clear hB6 p0 q0 q1 hne
    go_wp2_with fail
    refine HC.out.mono ?_
    rintro e w7 ⟨rfl, s7, hS7, hG7⟩
    have HF7 : Hid (IsOp w0 w7 B F U s7 ∧ Goes B F w w7 s [t] s7) := ⟨hS7, Goes.put (Goes.from HB46.out hG7) HX4.out.2.1 HX4.out.big (by rw [HTT.out, HKK.out]; exact fun h => TakeL.sealOpen HKT0.out h)⟩
    clear hS7 hG7 r0 r1 r2
    go_wp2
    (first | go_end0 | ((try simp only [Exit.inBlock, Exit.then]); refine bodyPost_ret (results_none rfl _ _ _) rfl ?_))
    exact ⟨rfl, s7, HF7.out.1, HF7.out.2⟩

end
end Go.Proofs.YtcolcnkjcagbaaaGreatDoor
