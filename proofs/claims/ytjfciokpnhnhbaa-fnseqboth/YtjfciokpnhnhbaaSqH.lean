/-
  The program's shownSigns: the signs that nobody took out, in the order of the text. No condition but that the slice reads.
-/
import Derived.Test.YtjfciokpnhnhbaaSqV
import Derived.Laws.EntriesVeiled
namespace Go.Proofs.Ytjfciokpnhnhbaa
open Go.RowKit
set_option linter.unusedVariables false

theorem row_base {w : World} {base base' : Nat} {e : TypeId} {size : Nat} {v : Value} {n : Nat} {xs : List Value} (h : w.ownsRow base e size v n xs) (hb : base' ≤ base) : w.ownsRow base' e size v n xs := by
  obtain ⟨h1, h2⟩ := h
  refine ⟨h1, ?_⟩
  rcases h2 with h2 | ⟨g, cap, cur, hv, hg, r⟩
  · exact Or.inl h2
  · exact Or.inr ⟨g, cap, cur, hv, by omega, r⟩

theorem row_rdp {w : World} {base : Nat} {v : Value} {xs : List Value} (h : w.ownsRow base 60 1 v xs.length xs) : RdP w w.heap.size v xs := by
  rcases h.2 with ⟨rfl, hx⟩ | ⟨g, cap, cur, rfl, hb, hg, h1, h2, h3, h4⟩
  · refine ⟨none, 0, ?_, fun hp => absurd hp ?_⟩
    · have : xs.length = 0 := by simpa using hx
      rw [this]
    · have : xs.length = 0 := by simpa using hx
      omega
  · refine ⟨_, cap, rfl, fun hp => ⟨g, 0, rfl, lt_of_block hg, fun j u hu => ?_⟩⟩
    have hjl : j < xs.length := (List.getElem?_eq_some_iff.1 hu).1
    rw [cellN hg, Nat.zero_add, ← hu, ← Array.getElem?_toList]
    have e : xs[j]? = (cur.toList.take (xs.length * 1))[j]? := by rw [h4]
    rw [e, List.getElem?_take_of_lt (by omega)]
theorem Tree.at {w : World} {base MB n : Nat} {D : Nat → Ev} {P : Int → Nat} {K : Int → Value} {S : Int → ByteArray} (h : Tree w base MB D n P K S) : TreeAt D n P K S w.heap.size w := fun z hz => by
  refine ⟨lt_of_block (h.node z hz).2, (h.node z hz).2, row_rdp (base := base) ?_⟩
  rw [List.length_map]
  exact h.row z hz
/-- the ids that are shown -/
def idsR (D : Nat → Ev) (n : Nat) : List Int := if seqB D n = true then idsL D n else []
theorem idsR_no {D : Nat → Ev} {n : Nat} (h : seqB D n = false) : idsR D n = [] := by unfold idsR; rw [h]; rfl
theorem idsR_yes {D : Nat → Ev} {n : Nat} (h : seqB D n = true) : idsR D n = idsL D n := by unfold idsR; rw [if_pos h]
theorem seqB_parts {D : Nat → Ev} {n : Nat} (h : seqB D n = true) : n ≤ 40 ∧ allB (okS D) n = true := by
  unfold seqB at h
  simp only [Bool.and_eq_true, decide_eq_true_eq] at h
  exact h
theorem idsR_len (D : Nat → Ev) (n : Nat) : (idsR D n).length ≤ 40 := by
  cases h : seqB D n with
  | false => rw [idsR_no h]; decide
  | true =>
    rw [idsR_yes h]
    have := idsL_len (seqB_parts h).2
    have := (seqB_parts h).1
    omega
theorem idsR_ins {D : Nat → Ev} {n : Nat} {y : Int} (h : y ∈ idsR D n) : insB D n y = true ∧ 1 ≤ y ∧ y ≤ 1000000 := by
  cases hs : seqB D n with
  | false => rw [idsR_no hs] at h; cases h
  | true =>
    rw [idsR_yes hs] at h
    have hm := (List.mem_filter.1 h).1
    have hi := (ord_gt (seqB_parts hs).2 0 y hm).2
    obtain ⟨j, hj, _, rfl⟩ := insB_iff.1 hi
    exact ⟨hi, ok_pos (seqB_parts hs).2 hj⟩
/-- rows of pointers to the signs, in memory from base on -/
def Signs (D : Nat → Ev) (n : Nat) (w : World) (base : Nat) (v : Value) (L : List Int) (P : Int → Nat) (S : Int → ByteArray) : Prop :=
  w.ownsRow base 60 1 v L.length (L.map fun y => ptr (P y)) ∧ (∀ y ∈ L, ∃ d k, w.heap[P y]? = some (.cells #[.int .i64 y, .string (S y), d, k] 66 (0, 0))) ∧ (∀ j, j < n → (D j).b = 1 → S (D j).a = (D j).d)

set_option maxRecDepth 10000 in
set_option maxHeartbeats 4000000 in
theorem shown_any (a : Option Addr) (len cap : Nat) (D : Nat → Ev) (w : World) (h : IsEvs w a len cap D) (hF : ∀ i, i < len → (D i).in) :
    Calls Try.prog 34 #[.slice a len cap] w fun e w' => ∃ v P S, e = .returned v ∧ Below w.heap.size w w' ∧ (seqB D len = false → v = .slice none 0 0) ∧ (seqB D len = true → Signs D len w' w.heap.size v (idsL D len) P S) := by
  go_enter Try.func34, Try.ntmps34
  go_wp2_with fail
  refine (signTree_any a len cap D w h hF).mono ?_
  rintro e w1 ⟨p, rfl, hB1, hT⟩
  have HB1 : Hid (Below w.heap.size w w1) := hB1
  cases hs : seqB D len with
  | false =>
    clear hT hB1
    go_wp2
    go_ret
    exact ⟨_, fun _ => 0, fun _ => ⟨#[]⟩, rfl, HB1.out, fun _ => rfl, fun h => by rw [hs] at h; cases h⟩
  | true =>
    obtain ⟨MB, P, K, S, rfl, hTr⟩ := hT hs
    clear hT
    have hsp := seqB_parts hs
    obtain ⟨n₀, hn₀⟩ : ∃ n₀, n₀ = w1.heap.size := ⟨_, rfl⟩
    obtain ⟨W2, hW2⟩ : ∃ W2, W2 = (w1.alloc (.cells #[.slice none 0 0] 58)).alloc (.cells #[fnV n₀ (n₀ + 1)] 85) := ⟨_, rfl⟩
    have hB2 : Below w1.heap.size w1 W2 := by rw [hW2]; exact ((Below.refl _ _).alloc (Nat.le_refl _) _).alloc (by simp) _
    have hTA : TreeAt D len P K S n₀ W2 := by rw [hn₀]; exact (hTr.at).below hB2
    have hSh : Shown P n₀ n₀ W2 [] := ⟨.slice none 0 0, by rw [hW2, hn₀]; exact (Boxed.new _ _ _).alloc _, World.ownsRow_nil _ _ _ _, trivial⟩
    have hFb : Boxed W2 (n₀ + 1) 85 (fnV n₀ (n₀ + 1)) := by
      rw [hW2]
      have := Boxed.new (w1.alloc (.cells #[.slice none 0 0] 58)) 85 (fnV n₀ (n₀ + 1))
      rw [World.size_alloc, ← hn₀] at this
      exact this
    have HTA := (show Hid _ from hTA)
    have HSH := (show Hid _ from hSh)
    have HFB := (show Hid _ from hFb)
    have HTT := (show Hid _ from hTr)
    have HSP := (show Hid _ from hsp)
    have HW2 : Hid (W2 = (w1.alloc (.cells #[.slice none 0 0] 58)).alloc (.cells #[fnV n₀ (n₀ + 1)] 85)) := hW2
    have HB2 := (show Hid _ from hB2)
    have HN : Hid (n₀ = w1.heap.size) := hn₀
    clear hTr hTA hSh hFb hW2 hB2 hsp hB1 hn₀
    go_wp2_with fail
    have ew := HW2.out
    unfold fnV at ew
    rw [← HN.out, ← ew]
    refine (walk_any (P := P) (K := K) (S := S) (n₀ := n₀) (BS := n₀) (BW := n₀ + 1) HSP.out.2 HSP.out.1 (Nat.le_refl _) (Nat.le_succ _) (by omega) 0 (.inl rfl) [] W2 HTA.out HSH.out HFB.out (by rw [HN.out]; exact HB2.out.size) (by simp)).mono ?_
    rintro e w3 ⟨⟨ev, rfl⟩, ⟨u, hu1, hu2, _⟩, hE⟩
    have HU := (show Hid _ from hu2)
    have HE := (show Hid _ from hE)
    have hc := hu1.cell
    clear hu1 hu2 hE ew
    go_wp2
    go_ret
    rw [List.nil_append] at HU
    have hB3 : Below w.heap.size w w3 := (HB1.out.trans (HB2.out.mono HB1.out.size)).trans (HE.out.below.mono (by rw [HN.out]; exact HB1.out.size))
    refine ⟨u, P, S, rfl, hB3, fun h => (by rw [hs] at h; cases h), fun _ => ⟨row_base HU.out (by rw [HN.out]; exact HB1.out.size), fun y hy => ?_, HTT.out.sg⟩⟩
    have hm := (List.mem_filter.1 hy).1
    have hk : Key D len y := .inr (ord_gt HSP.out.2 0 y hm).2
    exact ⟨_, _, ((TreeAt.below HTA.out HE.out.below) y hk).2.1⟩
end Go.Proofs.Ytjfciokpnhnhbaa
