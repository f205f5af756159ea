/-
  The specification's TermText and ReadTerm, where the nodes are those of a term or are not right. No condition but that the slices read.
-/
import Derived.Test.YtcolcnkjcagbaaaGreatDoorSText
import Derived.Test.YtcolcnkjcagbaaaGreatDoorSpecOk
namespace Go.Proofs.YtcolcnkjcagbaaaGreatDoor
open Go.RowKit
set_option linter.unusedVariables false

section
variable {Kd N A B : Nat → Int}

theorem text_any {a : Option Addr} {len cap : Nat} (hlen : len ≤ 40) : ∀ (t : Tr) (o : Nat), t.Ok → Sits Kd N A B t o → o + t.size ≤ len → TextP Kd N A B a len cap (o + t.size) t.txt
  | ⟨.inl (k, n)⟩, o, hok, hs, hl => by
    obtain ⟨hk, hn⟩ := hok
    obtain ⟨k1, k2, k3, k4⟩ := hs
    have hP : o < len := by simp only [Tr.size] at hl; omega
    rcases hk with rfl | rfl | rfl
    · exact text_1 hlen hP hn k1 k2 k3 k4
    · exact text_2 hlen hP hn k1 k2 k3 k4
    · exact text_3 hlen hP hn k1 k2 k3 k4
  | ⟨.inr (.inl t)⟩, o, hok, hs, hl => by
    obtain ⟨hs, k1, k2, k3, k4⟩ := hs
    simp only [Tr.size] at hl
    have hz := t.txt_size hok
    exact text_4 (P := o + t.size) hlen (by omega) (by omega) k1 k2 k3 k4 (text_any hlen t o hok hs (by omega))
  | ⟨.inr (.inr (.inl (t, u)))⟩, o, hok, hs, hl => by
    obtain ⟨hs, hs2, k1, k2, k3, k4⟩ := hs
    simp only [Tr.size] at hl
    have hz := t.txt_size hok.1
    have hz2 := u.txt_size hok.2
    have := text_5 (a := a) (cap := cap) (P := o + t.size + u.size) (Q := o + t.size) hlen (by omega) (by omega) (by omega) k1 k2 k3 k4 (text_any hlen t o hok.1 hs (by omega)) (text_any hlen u (o + t.size) hok.2 hs2 (by omega))
    rw [show o + ((⟨.inr (.inr (.inl (t, u)))⟩ : Tr)).size = o + t.size + u.size + 1 by simp only [Tr.size]; omega]
    exact this
  | ⟨.inr (.inr (.inr (k, n, t)))⟩, o, hok, hs, hl => by
    obtain ⟨hs, k1, k2, k3, k4⟩ := hs
    obtain ⟨hk, hn, hok⟩ := hok
    simp only [Tr.size] at hl
    have hz := t.txt_size hok
    have ih := text_any (a := a) (cap := cap) hlen t o hok hs (by omega)
    rcases hk with rfl | rfl
    · exact text_6 (P := o + t.size) hlen (by omega) hn (by omega) k1 k2 k3 k4 ih
    · exact text_7 (P := o + t.size) hlen (by omega) hn (by omega) k1 k2 k3 k4 ih

theorem termText_no (a : Option Addr) (len cap : Nat) (w : World) (h : IsNodes w a len cap Kd N A B) (hno : sOk Kd N A B len = false) :
    Calls Tryz.prog 72 #[.slice a len cap] w fun e w' => e = .returned (.string ⟨#[]⟩) ∧ Below w.heap.size w w' := by
  go_enter Tryz.func72, Tryz.ntmps72
  go_wp2_with (go_at_call 95; refine (specTermOk_any a len cap _ h).mono ?_; rintro e w' ⟨rfl, hB⟩; rw [hno])
  go_ret
  exact ⟨rfl, hB⟩

theorem termText_yes (a : Option Addr) (len cap : Nat) (w : World) (h : IsNodes w a len cap Kd N A B) (hlen : len ≤ 40) (hyes : sOk Kd N A B len = true) (t : Tr) (hok : t.Ok) (hs : Sits Kd N A B t 0) (hl : t.size = len) :
    Calls Tryz.prog 72 #[.slice a len cap] w fun e w' => e = .returned (.string t.txt) ∧ Below w.heap.size w w' := by
  have hT : Hid (TextP Kd N A B a len cap len t.txt) := by
    have := text_any (a := a) (len := len) (cap := cap) hlen t 0 hok hs (by omega)
    rw [show 0 + t.size = len by omega] at this
    exact this
  have hp := t.size_pos
  clear hs hok
  go_enter Tryz.func72, Tryz.ntmps72
  go_wp2_with (go_at_call 95; refine (specTermOk_any a len cap _ h).mono ?_; rintro e w' ⟨rfl, hB⟩; rw [hyes])
  refine (TextP.at hT.out _ (h.below hB)).mono ?_
  rintro e w2 ⟨rfl, hB2⟩
  go_wp2
  go_ret
  exact ⟨rfl, hB.trans (hB2.mono hB.size)⟩

end

/-- the nodes of a list, by their place -/
def ndK (l : List Nd) (i : Nat) : Int := (l.getD i (0, 0, 0, 0)).1
def ndN (l : List Nd) (i : Nat) : Int := (l.getD i (0, 0, 0, 0)).2.1
def ndA (l : List Nd) (i : Nat) : Int := (l.getD i (0, 0, 0, 0)).2.2.1
def ndB (l : List Nd) (i : Nat) : Int := (l.getD i (0, 0, 0, 0)).2.2.2

theorem ndCells_get : ∀ (l : List Nd) (i : Nat), i < l.length → (ndCells l)[i * 4]? = some (.int .i64 (ndK l i)) ∧ (ndCells l)[i * 4 + 1]? = some (.int .i64 (ndN l i)) ∧ (ndCells l)[i * 4 + 2]? = some (.int .i64 (ndA l i)) ∧ (ndCells l)[i * 4 + 3]? = some (.int .i64 (ndB l i))
  | [], i, h => by simp at h
  | (k, n, a, b) :: l, 0, h => ⟨rfl, rfl, rfl, rfl⟩
  | (k, n, a, b) :: l, i + 1, h => by
    have ih := ndCells_get l i (by simpa using h)
    have e : ∀ r, (ndCells ((k, n, a, b) :: l))[(i + 1) * 4 + r]? = (ndCells l)[i * 4 + r]? := fun r => by
      rw [show (i + 1) * 4 + r = (i * 4 + r) + 4 by omega]
      rfl
    exact ⟨(e 0).trans ih.1, (e 1).trans ih.2.1, (e 2).trans ih.2.2.1, (e 3).trans ih.2.2.2⟩

theorem own_nodes {w : World} {base : Nat} {a : Option Addr} {cap : Nat} {l : List Nd} (h : w.ownsRow base 158 4 (.slice a l.length cap) l.length (ndCells l)) : IsNodes w a l.length cap (ndK l) (ndN l) (ndA l) (ndB l) := by
  rcases h.2 with ⟨hv, h0⟩ | ⟨g, cap', cur, hv, hb, hg, h1, h2, h3, h4⟩
  · simp only [Value.slice.injEq] at hv
    obtain ⟨rfl, hl, rfl⟩ := hv
    exact ⟨by omega, by omega, fun hp => by omega⟩
  · simp only [Value.slice.injEq, true_and] at hv
    obtain ⟨rfl, rfl⟩ := hv
    refine ⟨h1, h2, fun hp => ⟨g, 0, rfl, lt_of_block hg, fun i hi => ?_⟩⟩
    obtain ⟨g1, g2, g3, g4⟩ := ndCells_get l i hi
    refine ⟨?_, ?_, ?_, ?_⟩
    · rw [Nat.zero_add, h.cellAt _ (by omega)]; exact g1
    · rw [Nat.zero_add, h.cellAt _ (by omega)]; exact g2
    · rw [Nat.zero_add, h.cellAt _ (by omega)]; exact g3
    · rw [Nat.zero_add, h.cellAt _ (by omega)]; exact g4

end Go.Proofs.YtcolcnkjcagbaaaGreatDoor
