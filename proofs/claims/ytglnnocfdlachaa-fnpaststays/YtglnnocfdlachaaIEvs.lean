/-
  The program's events of one epoch, as values behind an interface. No condition but that the slices read.
-/
import Derived.Test.YtglnnocfdlachaaRsC
import Derived.Test.YtglnnocfdlachaaCk2
namespace Go.Proofs.Ytglnnocfdlachaa
open Go.RowKit
set_option linter.unusedVariables false

/-- an event of the program: its kind is its type -/
def encEv (x : Ev) : Value := .iface (if x.c = 1 then 87 else if x.c = 2 then 91 else 88) (.agg #[.int .i64 x.b, .int .i64 x.d])
theorem infoV : (Try.prog.info? 82).map (fun i => (i.zero, i.size, i.bytes)) = some (some .nilIface, 1, 16) := by kernel_rfl
/-- the events of epoch e among the first k -/
def selTo (D : Nat → Ev) (e : Int) : Nat → List Ev
  | 0 => []
  | k + 1 => if ((D k).a == e) = true then selTo D e k ++ [D k] else selTo D e k
theorem selTo_len (D : Nat → Ev) (e : Int) : ∀ k, (selTo D e k).length ≤ k
  | 0 => Nat.le_refl _
  | k + 1 => by
    unfold selTo
    have := selTo_len D e k
    split
    · simp; omega
    · omega
theorem selTo_mem (D : Nat → Ev) (e : Int) (x : Ev) : ∀ k, x ∈ selTo D e k ↔ ∃ j, j < k ∧ (D j).a = e ∧ D j = x
  | 0 => by simp [selTo]
  | k + 1 => by
    have ih := selTo_mem D e x k
    unfold selTo
    by_cases hc : ((D k).a == e) = true
    · rw [if_pos hc, List.mem_append, ih, List.mem_singleton]
      constructor
      · rintro (⟨j, hj, h1, h2⟩ | rfl)
        · exact ⟨j, by omega, h1, h2⟩
        · exact ⟨k, by omega, by simpa using hc, rfl⟩
      · rintro ⟨j, hj, h1, h2⟩
        by_cases ej : j = k
        · subst ej; exact .inr h2.symm
        · exact .inl ⟨j, by omega, h1, h2⟩
    · rw [if_neg hc, ih]
      constructor
      · rintro ⟨j, hj, h1, h2⟩; exact ⟨j, by omega, h1, h2⟩
      · rintro ⟨j, hj, h1, h2⟩
        have ej : j ≠ k := fun h => by subst h; exact hc (by simpa using h1)
        exact ⟨j, by omega, h1, h2⟩
def OwnEv (w : World) (base : Nat) (v : Value) (L : List Ev) : Prop := w.ownsRow base 82 1 v L.length (L.map encEv)
theorem OwnEv.below {w w' : World} {base : Nat} {v : Value} {L : List Ev} (h : OwnEv w base v L) (hB : Below w.heap.size w w') : OwnEv w' base v L := ownsRow_below h hB

set_option maxRecDepth 10000 in
set_option maxHeartbeats 4000000 in
theorem eventsOf_any (a : Option Addr) (len cap : Nat) (D : Nat → Ev) (e : Int) (w : World) (h : IsEvs w a len cap D) (hf : ∀ i, i < len → (D i).fine = true) (hl : len ≤ 30) :
    Calls Try.prog 35 #[.slice a len cap, .int .i64 e] w fun r w' => ∃ v, r = .returned v ∧ OwnEv w' w.heap.size v (selTo D e len) ∧ Below w.heap.size w w' := by
  obtain ⟨hlc, hcm, hc⟩ := h
  obtain ⟨i0, hi, hz0, hz1, hz2⟩ := info_parts infoV
  go_enter Try.func35, Try.ntmps35
  go_wp2
  go_loopw [5, 11] (fun v i wr => ∃ (k : Nat), k ≤ len ∧ i = .int .i64 k ∧ Hid (OwnEv wr w.heap.size v (selTo D e k)) ∧ Hid (Below w.heap.size w wr)) (fun _ i _ => len - (intOf i).toNat)
  case atStart => exact ⟨0, Nat.zero_le _, rfl, ⟨rfl, .inl ⟨rfl, rfl⟩⟩, Below.refl _ _⟩
  case round =>
    obtain ⟨k, hk, rfl, HO, HB⟩ := hrel
    by_cases hlt : k < len
    · obtain ⟨b, off, rfl, hbs, hcell⟩ := hc (by omega)
      obtain ⟨c0, c1, c2, c3⟩ : EvAt wr b (off + k * 4) (D k) := (hcell k hlt).grow hbs HB.out
      have hltI : (k : Int) < (len : Int) := by omega
      have hkd : (D k).c = 1 ∨ (D k).c = 2 ∨ (D k).c = 3 := by
        have := hf k hlt
        unfold Ev.fine inB at this
        simp at this
        omega
      clear hcell hc hf
      cases h1 : ((D k).a == e) with
      | false =>
        have hne : ((D k).a != e) = true := by simp at h1; simp [h1]
        have HF : Hid (OwnEv (wr.alloc (.cells #[.int .i64 (D k).a, .int .i64 (D k).b, .int .i64 (D k).c, .int .i64 (D k).d] 30)) w.heap.size u5 (selTo D e (k + 1)) ∧ Below w.heap.size w (wr.alloc (.cells #[.int .i64 (D k).a, .int .i64 (D k).b, .int .i64 (D k).c, .int .i64 (D k).d] 30))) := by
          refine ⟨?_, HB.out.alloc HB.out.size _⟩
          have : selTo D e (k + 1) = selTo D e k := by rw [selTo, if_neg (by rw [h1]; decide)]
          rw [this]
          exact HO.out.below ((Below.refl _ _).alloc (Nat.le_refl _) _)
        go_wp2
        go_roundw
        case rel => exact ⟨k + 1, by omega, by go_num, HF.out.1, HF.out.2⟩
        case measure => simp [intOf]; omega
      | true =>
        have hne : ((D k).a != e) = false := by simp at h1; simp [h1]
        have HT : Hid (selTo D e (k + 1) = selTo D e k ++ [D k]) := by show _ = _; rw [selTo, if_pos h1]
        obtain ⟨q, hq⟩ : ∃ q, q = (selTo D e k).length := ⟨_, rfl⟩
        have hq30 : q ≤ 30 := by rw [hq]; have := selTo_len D e k; omega
        have HO' : Hid (wr.ownsRow w.heap.size 82 1 u5 q ((selTo D e k).map encEv)) := by rw [hq]; exact HO.out
        have HQ : Hid (q = (selTo D e k).length ∧ q + 1 ≤ maxLen ∧ (q + 1) * 16 ≤ 140737488355328) := ⟨hq, by unfold maxLen; omega, by omega⟩
        clear hq hq30
        rcases hkd with hk1 | hk1 | hk1
        · have hb1 : ((D k).c == 1) = true := by simp [hk1]
          have HEN : Hid (encEv (D k) = .iface 87 (.agg #[.int .i64 (D k).b, .int .i64 (D k).d])) := by show _ = _; unfold encEv; simp [hk1]
          have HB3 : Hid (Below w.heap.size w (((wr.alloc (.cells #[.int .i64 (D k).a, .int .i64 (D k).b, .int .i64 (D k).c, .int .i64 (D k).d] 30)).alloc (.cells #[.int .i64 (D k).b, .int .i64 (D k).d] 85)).alloc (.cells #[.iface 87 (.agg #[.int .i64 (D k).b, .int .i64 (D k).d])] 82))) := ((HB.out.alloc HB.out.size _).alloc (by have := HB.out.size; simp; omega) _).alloc (by have := HB.out.size; simp; omega) _
          have HZ : Hid (w.heap.size ≤ (((wr.alloc (.cells #[.int .i64 (D k).a, .int .i64 (D k).b, .int .i64 (D k).c, .int .i64 (D k).d] 30)).alloc (.cells #[.int .i64 (D k).b, .int .i64 (D k).d] 85)).alloc (.cells #[.iface 87 (.agg #[.int .i64 (D k).b, .int .i64 (D k).d])] 82)).heap.size) := HB3.out.size
          have HN : Hid (∀ j u, [encEv (D k)][j]? = some u → (((wr.alloc (.cells #[.int .i64 (D k).a, .int .i64 (D k).b, .int .i64 (D k).c, .int .i64 (D k).d] 30)).alloc (.cells #[.int .i64 (D k).b, .int .i64 (D k).d] 85)).alloc (.cells #[.iface 87 (.agg #[.int .i64 (D k).b, .int .i64 (D k).d])] 82)).cell? ((⟨wr.heap.size + 1 + 1, 0, none⟩ : Addr).add j) = some u) := by
            show ∀ j u, _
            rw [HEN.out]
            have := World.news_of_block (heap_alloc_new ((wr.alloc (.cells #[.int .i64 (D k).a, .int .i64 (D k).b, .int .i64 (D k).c, .int .i64 (D k).d] 30)).alloc (.cells #[.int .i64 (D k).b, .int .i64 (D k).d] 85)) (.cells #[.iface 87 (.agg #[.int .i64 (D k).b, .int .i64 (D k).d])] 82))
            simpa using this
          clear hk1
          go_wp2_with (at_builtin; refine wpList_append_own _ rfl _ _ 60 rfl w.heap.size 82 i0 .nilIface 1 16 Try.underlying60 hi hz0 hz1 hz2 rfl (by decide) _ q _ rfl (((HO'.out.alloc _).alloc _).alloc _) ⟨wr.heap.size + 1 + 1, 0, none⟩ 1 1 [encEv (D k)] rfl rfl HN.out (by intro u hu; rw [List.mem_singleton] at hu; subst hu; rfl) HQ.out.2.1 HQ.out.2.2 HZ.out ?_; intro v4 w4 hown4 hgrow4 hnil4)
          have HF : Hid (OwnEv w4 w.heap.size v4 (selTo D e (k + 1)) ∧ Below w.heap.size w w4) := by
            refine ⟨?_, HB3.out.grown hgrow4 HB3.out.size (fun x hx => (HO'.out.lt x hx).1)⟩
            unfold OwnEv
            rw [HT.out, List.length_append, ← HQ.out.1, List.map_append]
            exact hown4
          clear hown4 hgrow4 hnil4
          go_wp2
          go_roundw
          case rel => exact ⟨k + 1, by omega, by go_num, HF.out.1, HF.out.2⟩
          case measure => simp [intOf]; omega
        · have hb1 : ((D k).c == 1) = false := by simp [hk1]
          have hb2 : ((D k).c == 2) = true := by simp [hk1]
          have HEN : Hid (encEv (D k) = .iface 91 (.agg #[.int .i64 (D k).b, .int .i64 (D k).d])) := by show _ = _; unfold encEv; simp [hk1]
          have HB3 : Hid (Below w.heap.size w (((wr.alloc (.cells #[.int .i64 (D k).a, .int .i64 (D k).b, .int .i64 (D k).c, .int .i64 (D k).d] 30)).alloc (.cells #[.int .i64 (D k).b, .int .i64 (D k).d] 85)).alloc (.cells #[.iface 91 (.agg #[.int .i64 (D k).b, .int .i64 (D k).d])] 82))) := ((HB.out.alloc HB.out.size _).alloc (by have := HB.out.size; simp; omega) _).alloc (by have := HB.out.size; simp; omega) _
          have HZ : Hid (w.heap.size ≤ (((wr.alloc (.cells #[.int .i64 (D k).a, .int .i64 (D k).b, .int .i64 (D k).c, .int .i64 (D k).d] 30)).alloc (.cells #[.int .i64 (D k).b, .int .i64 (D k).d] 85)).alloc (.cells #[.iface 91 (.agg #[.int .i64 (D k).b, .int .i64 (D k).d])] 82)).heap.size) := HB3.out.size
          have HN : Hid (∀ j u, [encEv (D k)][j]? = some u → (((wr.alloc (.cells #[.int .i64 (D k).a, .int .i64 (D k).b, .int .i64 (D k).c, .int .i64 (D k).d] 30)).alloc (.cells #[.int .i64 (D k).b, .int .i64 (D k).d] 85)).alloc (.cells #[.iface 91 (.agg #[.int .i64 (D k).b, .int .i64 (D k).d])] 82)).cell? ((⟨wr.heap.size + 1 + 1, 0, none⟩ : Addr).add j) = some u) := by
            show ∀ j u, _
            rw [HEN.out]
            have := World.news_of_block (heap_alloc_new ((wr.alloc (.cells #[.int .i64 (D k).a, .int .i64 (D k).b, .int .i64 (D k).c, .int .i64 (D k).d] 30)).alloc (.cells #[.int .i64 (D k).b, .int .i64 (D k).d] 85)) (.cells #[.iface 91 (.agg #[.int .i64 (D k).b, .int .i64 (D k).d])] 82))
            simpa using this
          clear hk1
          go_wp2_with (at_builtin; refine wpList_append_own _ rfl _ _ 60 rfl w.heap.size 82 i0 .nilIface 1 16 Try.underlying60 hi hz0 hz1 hz2 rfl (by decide) _ q _ rfl (((HO'.out.alloc _).alloc _).alloc _) ⟨wr.heap.size + 1 + 1, 0, none⟩ 1 1 [encEv (D k)] rfl rfl HN.out (by intro u hu; rw [List.mem_singleton] at hu; subst hu; rfl) HQ.out.2.1 HQ.out.2.2 HZ.out ?_; intro v4 w4 hown4 hgrow4 hnil4)
          have HF : Hid (OwnEv w4 w.heap.size v4 (selTo D e (k + 1)) ∧ Below w.heap.size w w4) := by
            refine ⟨?_, HB3.out.grown hgrow4 HB3.out.size (fun x hx => (HO'.out.lt x hx).1)⟩
            unfold OwnEv
            rw [HT.out, List.length_append, ← HQ.out.1, List.map_append]
            exact hown4
          clear hown4 hgrow4 hnil4
          go_wp2
          go_roundw
          case rel => exact ⟨k + 1, by omega, by go_num, HF.out.1, HF.out.2⟩
          case measure => simp [intOf]; omega
        · have hb1 : ((D k).c == 1) = false := by simp [hk1]
          have hb2 : ((D k).c == 2) = false := by simp [hk1]
          have hb3 : ((D k).c == 3) = true := by simp [hk1]
          have HEN : Hid (encEv (D k) = .iface 88 (.agg #[.int .i64 (D k).b, .int .i64 (D k).d])) := by show _ = _; unfold encEv; simp [hk1]
          have HB3 : Hid (Below w.heap.size w (((wr.alloc (.cells #[.int .i64 (D k).a, .int .i64 (D k).b, .int .i64 (D k).c, .int .i64 (D k).d] 30)).alloc (.cells #[.int .i64 (D k).b, .int .i64 (D k).d] 85)).alloc (.cells #[.iface 88 (.agg #[.int .i64 (D k).b, .int .i64 (D k).d])] 82))) := ((HB.out.alloc HB.out.size _).alloc (by have := HB.out.size; simp; omega) _).alloc (by have := HB.out.size; simp; omega) _
          have HZ : Hid (w.heap.size ≤ (((wr.alloc (.cells #[.int .i64 (D k).a, .int .i64 (D k).b, .int .i64 (D k).c, .int .i64 (D k).d] 30)).alloc (.cells #[.int .i64 (D k).b, .int .i64 (D k).d] 85)).alloc (.cells #[.iface 88 (.agg #[.int .i64 (D k).b, .int .i64 (D k).d])] 82)).heap.size) := HB3.out.size
          have HN : Hid (∀ j u, [encEv (D k)][j]? = some u → (((wr.alloc (.cells #[.int .i64 (D k).a, .int .i64 (D k).b, .int .i64 (D k).c, .int .i64 (D k).d] 30)).alloc (.cells #[.int .i64 (D k).b, .int .i64 (D k).d] 85)).alloc (.cells #[.iface 88 (.agg #[.int .i64 (D k).b, .int .i64 (D k).d])] 82)).cell? ((⟨wr.heap.size + 1 + 1, 0, none⟩ : Addr).add j) = some u) := by
            show ∀ j u, _
            rw [HEN.out]
            have := World.news_of_block (heap_alloc_new ((wr.alloc (.cells #[.int .i64 (D k).a, .int .i64 (D k).b, .int .i64 (D k).c, .int .i64 (D k).d] 30)).alloc (.cells #[.int .i64 (D k).b, .int .i64 (D k).d] 85)) (.cells #[.iface 88 (.agg #[.int .i64 (D k).b, .int .i64 (D k).d])] 82))
            simpa using this
          clear hk1
          go_wp2_with (at_builtin; refine wpList_append_own _ rfl _ _ 60 rfl w.heap.size 82 i0 .nilIface 1 16 Try.underlying60 hi hz0 hz1 hz2 rfl (by decide) _ q _ rfl (((HO'.out.alloc _).alloc _).alloc _) ⟨wr.heap.size + 1 + 1, 0, none⟩ 1 1 [encEv (D k)] rfl rfl HN.out (by intro u hu; rw [List.mem_singleton] at hu; subst hu; rfl) HQ.out.2.1 HQ.out.2.2 HZ.out ?_; intro v4 w4 hown4 hgrow4 hnil4)
          have HF : Hid (OwnEv w4 w.heap.size v4 (selTo D e (k + 1)) ∧ Below w.heap.size w w4) := by
            refine ⟨?_, HB3.out.grown hgrow4 HB3.out.size (fun x hx => (HO'.out.lt x hx).1)⟩
            unfold OwnEv
            rw [HT.out, List.length_append, ← HQ.out.1, List.map_append]
            exact hown4
          clear hown4 hgrow4 hnil4
          go_wp2
          go_roundw
          case rel => exact ⟨k + 1, by omega, by go_num, HF.out.1, HF.out.2⟩
          case measure => simp [intOf]; omega
    · have hke : k = len := by omega
      subst hke
      clear hc
      go_wp2
      go_ret
      exact ⟨_, rfl, HO.out, HB.out⟩
end Go.Proofs.Ytglnnocfdlachaa
