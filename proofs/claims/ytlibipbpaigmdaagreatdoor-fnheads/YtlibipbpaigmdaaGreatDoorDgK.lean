/-
  A drawn dag has no ring: the ups of a node stand below it. Condition: the code reads as bytes.
  The law FnHeads returns true at every code. Condition: the code reads as bytes, the tables lie.
-/
import Derived.Test.YtlibipbpaigmdaaGreatDoorDgE
import Derived.Test.YtlibipbpaigmdaaGreatDoorDgA
import Derived.Test.YtlibipbpaigmdaaGreatDoorDgH
namespace Go.Proofs.YtlibipbpaigmdaaGreatDoor
open Go.RowKit
set_option linter.unusedVariables false

/-- ranks by which the ups of each node, ids of the dag all, stand below it -/
def RkD (D : Nat → Nd) (n : Nat) : Prop := ∃ r : List UInt8 → Nat, ∀ i, i < n → ∀ j, j < (D i).n → IsId D n ((D i).S j).toList ∧ r ((D i).S j).toList < r (ids D i).toList
theorem like_id {d e : Nd} (h : d.Like e) : d.id = e.id := by
  obtain ⟨h1, h2, h3, h4, h5, h6, h7⟩ := h
  unfold Nd.id
  simp_all
theorem like_n {d e : Nd} (h : d.Like e) : d.n = e.n := by
  obtain ⟨h1, h2, h3, h4, h5, h6, h7⟩ := h
  simp_all
theorem like_S {d e : Nd} (h : d.Like e) : d.S = e.S := by
  obtain ⟨h1, h2, h3, h4, h5, h6, h7⟩ := h
  simp_all
theorem RkD.nil (D : Nat → Nd) : RkD D 0 := ⟨fun _ => 0, fun i hi => absurd hi (Nat.not_lt_zero _)⟩
theorem RkD.like {D E : Nat → Nd} {n : Nat} (h : RkD D n) (hL : ∀ i, i < n → (D i).Like (E i)) : RkD E n := by
  obtain ⟨r, hr⟩ := h
  have hid : ∀ i, i < n → ids D i = ids E i := fun i hi => like_id (hL i hi)
  refine ⟨r, fun i hi j hj => ?_⟩
  have h1 := hr i hi j (by rw [like_n (hL i hi)]; exact hj)
  rw [like_S (hL i hi), hid i hi] at h1
  refine ⟨?_, h1.2⟩
  obtain ⟨i', hi', e⟩ := h1.1
  exact ⟨i', hi', by rw [← hid i' hi']; exact e⟩
theorem rk_bound (D : Nat → Nd) (r : List UInt8 → Nat) : ∀ n, ∃ B, ∀ i, i < n → r (ids D i).toList < B
  | 0 => ⟨0, fun i hi => absurd hi (Nat.not_lt_zero _)⟩
  | n + 1 => by
    obtain ⟨B, hB⟩ := rk_bound D r n
    refine ⟨max B (r (ids D n).toList + 1), fun i hi => ?_⟩
    rcases Nat.lt_succ_iff_lt_or_eq.1 hi with h | rfl
    · have := hB i h; omega
    · omega
theorem RkD.ins {D : Nat → Nd} {n k : Nat} {x : Nd} (h : RkD D n) (hk : k ≤ n) (hx : ∀ j, j < x.n → IsId D n (x.S j).toList) (hne : ∀ i, i < n → (ids D i).toList ≠ x.id.toList) : RkD (insD D k x) (n + 1) := by
  obtain ⟨r, hr⟩ := h
  obtain ⟨B, hB⟩ := rk_bound D r n
  have hat : ∀ i, i < n + 1 → (i = k ∧ insD D k x i = x) ∨ ∃ i', i' < n ∧ insD D k x i = D i' := fun i hi => by
    unfold insD
    by_cases h1 : i < k
    · exact .inr ⟨i, by omega, by rw [if_pos h1]⟩
    · by_cases h2 : i = k
      · exact .inl ⟨h2, by rw [if_neg h1, if_pos h2]⟩
      · exact .inr ⟨i - 1, by omega, by rw [if_neg h1, if_neg h2]⟩
  have hid : ∀ t, IsId D n t → IsId (insD D k x) (n + 1) t := fun t ⟨i, hi, e⟩ => by
    by_cases h1 : i < k
    · exact ⟨i, by omega, by unfold ids insD; rw [if_pos h1]; exact e⟩
    · exact ⟨i + 1, by omega, by unfold ids insD; rw [if_neg (by omega), if_neg (by omega)]; exact e⟩
  refine ⟨fun t => if t = x.id.toList then B else r t, fun i hi j hj => ?_⟩
  rcases hat i hi with ⟨rfl, e⟩ | ⟨i', hi', e⟩
  · have ei : ids (insD D i x) i = x.id := by unfold ids; rw [e]
    rw [e] at hj
    rw [e, ei]
    obtain ⟨i', hi', e'⟩ := hx j hj
    refine ⟨hid _ (hx j hj), ?_⟩
    dsimp only
    rw [if_pos rfl, ← e', if_neg (hne i' hi')]
    exact hB i' hi'
  · have ei : ids (insD D k x) i = ids D i' := by unfold ids; rw [e]
    rw [e] at hj
    rw [e, ei]
    obtain ⟨h1, h2⟩ := hr i' hi' j hj
    refine ⟨hid _ h1, ?_⟩
    obtain ⟨i2, hi2, e2⟩ := h1
    dsimp only
    rw [if_neg (hne i' hi'), ← e2, if_neg (hne i2 hi2), e2]
    exact h2
theorem put_new {D : Nat → Nd} {n k : Nat} {x : Nd} (hq : dagB D n = true) (h1 : ∀ i, i < k → Op.bytesLess (ids D i).toList x.id.toList = true) (h2 : k < n → Op.bytesLess (ids D k).toList x.id.toList = false ∧ (ids D k).toList ≠ x.id.toList) : ∀ i, i < n → (ids D i).toList ≠ x.id.toList := fun i hi e => by
  rcases Nat.lt_trichotomy i k with h | rfl | h
  · have := h1 i h
    rw [e, bl_irr] at this
    cases this
  · exact (h2 hi).2 e
  · have h3 := h2 (by omega)
    have h4 := bl_tri _ _ h3.1 h3.2
    have h5 := rise_less (dagB_parts hq).2.2.1 k (i - k - 1) (by omega)
    rw [show k + (i - k - 1) + 1 = i by omega, e] at h5
    have h6 := bl_trans _ _ _ h4 h5
    rw [bl_irr] at h6
    cases h6
theorem RkD.put {L A : List Nd} {x : Nd} (h : RkD (gN L) L.length) (hq : dagB (gN L) L.length = true) (hx : DN L x) (hP : PutP (gN L) L.length x A) : RkD (gN A) A.length := by
  rcases hP with ⟨⟨hl, hk⟩, _⟩ | ⟨k, hk, ⟨hl, hk2⟩, h1, h2⟩
  · rw [hl]
    exact h.like hk
  · rw [hl]
    exact (h.ins hk hx.ups (put_new hq h1 h2)).like hk2
theorem RkD.set {L : List Nd} (h : RkD (gN L) L.length) {y : Nat} (hy : y < L.length) (S : Int) (hq : dagB (gN (L.set y { gN L y with s := S })) L.length = true) : RkD (gN (L.set y { gN L y with s := S })) L.length := by
  obtain ⟨r, hr⟩ := h
  have hat : ∀ i, i < L.length → (gN (L.set y { gN L y with s := S }) i).n = (gN L i).n ∧ (gN (L.set y { gN L y with s := S }) i).S = (gN L i).S ∧ (i ≠ y → ids (gN (L.set y { gN L y with s := S })) i = ids (gN L) i) := fun i hi => by
    unfold ids
    rw [gN_at (by rw [List.length_set]; exact hi), gN_at hi, List.getElem_set]
    by_cases h : y = i
    · subst h
      rw [if_pos rfl, gN_at hy]
      exact ⟨rfl, rfl, fun h => absurd rfl h⟩
    · rw [if_neg h]
      exact ⟨rfl, rfl, fun _ => rfl⟩
  obtain ⟨E, hE⟩ : ∃ E, E = gN (L.set y { gN L y with s := S }) := ⟨_, rfl⟩
  rw [← hE] at hat hq ⊢
  have inj := fun {i j} hi hj e => rise_inj (i := i) (j := j) (dagB_parts hq).2.2.1 hi hj e
  by_cases hs : (ids E y).toList = (ids (gN L) y).toList
  · have hid : ∀ i, i < L.length → (ids E i).toList = (ids (gN L) i).toList := fun i hi => by
      by_cases h : i = y
      · rw [h]; exact hs
      · rw [(hat i hi).2.2 h]
    refine ⟨r, fun i hi j hj => ?_⟩
    rw [(hat i hi).1] at hj
    obtain ⟨h1, h2⟩ := hr i hi j hj
    rw [(hat i hi).2.1, hid i hi]
    obtain ⟨i', hi', e⟩ := h1
    exact ⟨⟨i', hi', by rw [hid i' hi']; exact e⟩, h2⟩
  · obtain ⟨B, hB⟩ := rk_bound (gN L) r L.length
    have hnot : ∀ i, i < L.length → (ids (gN L) i).toList ≠ (ids E y).toList := fun i hi e => by
      by_cases h : i = y
      · rw [h] at e; exact hs e.symm
      · rw [← (hat i hi).2.2 h] at e
        exact h (inj hi hy e)
    refine ⟨fun t => if t = (ids E y).toList then B else r t, fun i hi j hj => ?_⟩
    rw [(hat i hi).1] at hj
    obtain ⟨h1, h2⟩ := hr i hi j hj
    obtain ⟨i', hi', e⟩ := h1
    have hne : ((gN L i).S j).toList ≠ (ids E y).toList := by rw [← e]; exact hnot i' hi'
    refine ⟨ups_ids hq hi (by rw [(hat i hi).1]; exact hj), ?_⟩
    rw [(hat i hi).2.1]
    dsimp only
    rw [if_neg hne]
    by_cases h : i = y
    · subst h
      rw [if_pos rfl, ← e]
      exact hB i' hi'
    · rw [(hat i hi).2.2 h, if_neg (hnot i hi)]
      exact h2
section
variable {W : World} {a : Option Addr} {len cap R : Nat} {Z : Nat → Int}
set_option maxRecDepth 20000 in
set_option maxHeartbeats 16000000 in
theorem dagK_any (hU : IsU8 W a len cap Z) (most : Int) (hm : 1 ≤ most ∧ most ≤ 200) (w : World) (h : Draw W a len cap R w) :
    Calls Tryz.prog 104 #[.pointer (some ⟨R, 0, none⟩), .int .i64 most] w fun e w' => ∃ g gc L n, n = L.length ∧ e = .returned (.slice (some ⟨g, 0, none⟩) n gc) ∧ DS W w a len cap R (.slice (some ⟨g, 0, none⟩) n gc) L w' ∧ (dagB (gN L) n = true → RkD (gN L) n) := by
  have HU := (show Hid _ from hU)
  have HM : Hid (1 ≤ most ∧ most ≤ 200) := hm
  have hO0 : OwnD (w.alloc (.cells #[] 50)) w.heap.size (.slice (some ⟨w.heap.size, 0, none⟩) 0 0) [] := ⟨World.ownsRow_made w #[] 0 (Nat.le_refl _) (by decide) rfl, fun d hd => by cases hd⟩
  have HS0 : Hid (DS W w a len cap R (.slice (some ⟨w.heap.size, 0, none⟩) 0 0) [] (w.alloc (.cells #[] 50))) := ⟨h.alloc _, (Mut.refl R w).alloc _, hO0, ⟨by decide, fun d hd => by cases hd⟩, h.lt⟩
  clear hU h hO0
  go_enter Tryz.func104, Tryz.ntmps104
  have hm1 := HM.out
  go_wp2_with fail
  refine (below_any HU.out (most + 1) (by omega) (by omega) _ HS0.out.draw).mono ?_
  rintro e w1 ⟨x1, hx0, hx1, rfl, hD1, hM1⟩
  have HS1 : Hid (DS W w a len cap R (.slice (some ⟨w.heap.size, 0, none⟩) 0 0) [] w1) := HS0.out.step hD1 hM1
  obtain ⟨k1, hk1⟩ : ∃ k : Nat, x1 = k := ⟨x1.toNat, by omega⟩
  subst hk1
  have HK1 : Hid (k1 ≤ 200) := by show k1 ≤ 200; omega
  clear hD1 hM1 HS0 hx0 hx1 hm1
  go_wp2_with fail
  go_loopw [5, 6] (fun d i wr => ∃ (k g gc : Nat) (L : List Nd), k ≤ 200 ∧ i = .int .i64 k ∧ d = .slice (some ⟨g, 0, none⟩) L.length gc ∧ Hid (DS W w a len cap R (.slice (some ⟨g, 0, none⟩) L.length gc) L wr) ∧ Hid (RkD (gN L) L.length)) (fun _ i _ => (Go.RowKit.intOf i).toNat)
  case atStart => exact ⟨k1, w.heap.size, 0, [], HK1.out, rfl, rfl, HS1, RkD.nil _⟩
  case round =>
    obtain ⟨k, g, gc, L, hk, rfl, rfl, HSS, HRK⟩ := hrel
    obtain ⟨_, cx, hve, hND, _⟩ := HSS.out.own.nds
    have hgc1 : L.length ≤ gc := by
      simp only [Value.slice.injEq] at hve
      rw [hve.2.2]; exact hND.1
    have hgc2 : gc ≤ 9223372036854775807 := by
      simp only [Value.slice.injEq] at hve
      rw [hve.2.2]; exact hND.2.1
    have HGC : Hid (L.length ≤ gc ∧ gc ≤ 9223372036854775807) := ⟨hgc1, hgc2⟩
    clear HS1 HK1 hve hND
    by_cases hk0 : 0 < k
    · have hk0I : (0 : Int) < (k : Int) := by omega
      go_wp2_with fail
      refine (node_any HU.out w.heap.size g gc L wr HSS.out.draw HSS.out.own HSS.out.lt HSS.out.mt0.size HSS.out.few.fine HSS.out.few.1).mono ?_
      rintro e w2 ⟨xx, rfl, hxo, hxd, hD2, hM2⟩
      have hs2 := HSS.out.step hD2 hM2
      have HS2 : Hid (DS W w a len cap R (.slice (some ⟨g, 0, none⟩) L.length gc) L w2) := hs2
      have HXD : Hid (DN L xx) := hxd
      have hI2 : IsNds w2 (some ⟨g, 0, none⟩) L.length gc (gN L) := by
        obtain ⟨u, c, e, hI, _⟩ := hs2.own.nds
        simp only [Value.slice.injEq] at e
        rw [← e.1, ← e.2.2] at hI
        exact hI
      have HAD : Hid (Calls Tryz.prog 158 #[.slice (some ⟨g, 0, none⟩) L.length gc, .agg #[.int .i64 xx.a, .int .i64 xx.s, .int .i64 xx.k, .string xx.key, .string xx.text, .slice xx.u xx.n xx.cap]] w2 fun e w' => ∃ v r, e = .returned (.tuple #[v, .bool r]) ∧ (r = true → dagB (gN L) L.length = true ∧ xx.ok = true ∧ hasB (ids (gN L)) L.length xx.S xx.n = true ∧ ∃ A, OwnD w' w2.heap.size v A ∧ PutP (gN L) L.length xx A ∧ v ≠ .slice none 0 0 ∧ A.length ≤ 30) ∧ Below w2.heap.size w2 w') := specAdded_any g 0 L.length gc (gN L) xx w2 hI2 hs2.few.fine (hs2.few.oku hs2.own) hs2.few.1 hxo.strs ⟨Nat.le_trans hxd.few (by decide), hxo.nil⟩ hxd.fine
      clear hxo hxd hD2 hM2 hs2 hI2 HSS
      go_wp2_with fail
      refine HAD.out.mono ?_
      rintro e w3 ⟨v, r, rfl, hr, hB3⟩
      cases r with
      | false =>
        have HS3 : Hid (DS W w a len cap R (.slice (some ⟨g, 0, none⟩) L.length gc) L w3) := HS2.out.below hB3
        clear hr hB3 HAD HS2
        go_wp2_with fail
        exact ⟨⟨k - 1, g, gc, L, by omega, by go_num, rfl, HS3, HRK⟩, by simp [Go.RowKit.intOf]; omega⟩
      | true =>
        obtain ⟨hdq, _, _, A, hO3, hP3, hv3, hA3⟩ := hr rfl
        have HRA : Hid (RkD (gN A) A.length) := HRK.out.put hdq HXD.out hP3
        have hs3 := HS2.out.below hB3
        have HS3 : Hid (DS W w a len cap R v A w3) := ⟨hs3.draw, hs3.mt0, hO3.base HS2.out.mt0.size, HS2.out.few.put HXD.out.fine HXD.out.few hP3 hA3, hs3.lt⟩
        have hsh : ∃ g' gc', v = .slice (some ⟨g', 0, none⟩) A.length gc' := by
          rcases hO3.1.2 with ⟨e1, _⟩ | ⟨g', c', cur, e1, _⟩
          · exact absurd e1 hv3
          · exact ⟨g', c', e1⟩
        obtain ⟨g', gc', rfl⟩ := hsh
        clear hr hB3 HAD HS2 hO3 hP3 hv3 hs3 hdq
        go_wp2_with fail
        exact ⟨⟨k - 1, g', gc', A, by omega, by go_num, rfl, HS3, HRA⟩, by simp [Go.RowKit.intOf]; omega⟩
    · have hk0I : ¬ (0 : Int) < (k : Int) := by omega
      go_wp2_with fail
      refine (once_any HU.out 40 (by omega) (by omega) _ HSS.out.draw).mono ?_
      rintro e w9 ⟨c9, rfl, hD9, hM9⟩
      have HS9 : Hid (DS W w a len cap R (.slice (some ⟨g, 0, none⟩) L.length gc) L w9) := HSS.out.step hD9 hM9
      clear hD9 hM9 HSS
      cases c9 with
      | false =>
        go_wp2_with fail
        go_ret
        exact ⟨g, gc, L, L.length, rfl, rfl, HS9.out, fun _ => HRK.out⟩
      | true =>
        by_cases hl0 : 0 < L.length
        · have hl0I : (0 : Int) < (L.length : Int) := by omega
          go_wp2_with fail
          refine (belowN_any HU.out L.length hl0 (by have := HS9.out.few.1; omega) _ HS9.out.draw).mono ?_
          rintro e w10 ⟨y, hy, rfl, hD10, hM10⟩
          have HS10 : Hid (DS W w a len cap R (.slice (some ⟨g, 0, none⟩) L.length gc) L w10) := HS9.out.step hD10 hM10
          clear hD10 hM10 HS9
          have hyI : (y : Int) < (L.length : Int) := by omega
          go_wp2_with fail
          refine (off19_any HU.out _ HS10.out.draw).mono ?_
          rintro e w11 ⟨x11, _, _, rfl, hD11, hM11⟩
          have hs11 := HS10.out.step hD11 hM11
          have HS11 : Hid (DS W w a len cap R (.slice (some ⟨g, 0, none⟩) L.length gc) L w11) := hs11
          have q1 := (ownD_at hs11.own hy).1.c1
          have q2 : w11.frozen? ⟨g, 0 + y * 6 + 1, none⟩ = false := by
            obtain ⟨cs, hcs⟩ := own_blk hs11.own.1 (k := g) rfl
            exact frozN hcs
          have HS12 : Hid (DS W w a len cap R (.slice (some ⟨g, 0, none⟩) L.length gc) (L.set y { gN L y with s := x11 }) (w11.setCell ⟨g, 0 + y * 6 + 1, none⟩ (.int .i64 x11))) := hs11.setS hy x11
          clear hD11 hM11 hs11 HS10
          simp only [Nat.zero_add] at q1 q2 HS12
          go_wp2_with fail
          go_ret
          exact ⟨g, gc, L.set y { gN L y with s := x11 }, L.length, (List.length_set).symm, rfl, HS12.out, fun hq => HRK.out.set hy x11 hq⟩
        · have hl0I : ¬ (0 : Int) < (L.length : Int) := by omega
          go_wp2_with fail
          go_ret
          exact ⟨g, gc, L, L.length, rfl, rfl, HS9.out, fun _ => HRK.out⟩
end
end Go.Proofs.YtlibipbpaigmdaaGreatDoor

namespace Go.Proofs.YtlibipbpaigmdaaGreatDoor
open Go.RowKit
set_option linter.unusedVariables false

theorem idsL_up {D : Nat → Nd} {n : Nat} (hq : dagB D n = true) : Up (idsL D n) := by
  unfold idsL Up
  rw [List.pairwise_map]
  refine List.Pairwise.imp_of_mem (fun {a b} ha hb hlt => ?_) (List.pairwise_lt_range (n := n))
  have := rise_less (dagB_parts hq).2.2.1 a (b - a - 1) (by have := List.mem_range.1 hb; omega)
  rw [show a + (b - a - 1) + 1 = b by omega] at this
  exact this
theorem idsL_at {D : Nat → Nd} {n i : Nat} (hi : i < n) : (atL (idsL D n) i).toList = (ids D i).toList := by
  rw [atL_list]
  unfold idsL
  simp [hi]
theorem heads_mem (D : Nat → Nd) (n : Nat) (x : List UInt8) : x ∈ headsL D n n ↔ ∃ i, i < n ∧ freeB D n (ids D i) = true ∧ (ids D i).toList = x := by
  unfold headsL
  rw [List.mem_map]
  constructor
  · rintro ⟨i, hi, e⟩
    obtain ⟨h1, h2⟩ := List.mem_filter.1 hi
    exact ⟨i, List.mem_range.1 h1, h2, e⟩
  · rintro ⟨i, hi, h2, e⟩
    exact ⟨i, List.mem_filter.2 ⟨List.mem_range.2 hi, h2⟩, e⟩
theorem heads_len (D : Nat → Nd) (n : Nat) : (headsL D n n).length ≤ n := by
  unfold headsL
  rw [List.length_map]
  have := List.length_filter_le (fun i => freeB D n (ids D i)) (List.range n)
  rw [List.length_range] at this
  exact this
theorem heads_no {D : Nat → Nd} {n t j : Nat} (ht : t < n) (hj : j < (D t).n) : ¬ ((D t).S j).toList ∈ headsL D n n := fun h => by
  obtain ⟨i, hi, hf, e⟩ := (heads_mem D n _).1 h
  exact (freeB_iff D n (ids D i)).1 hf t ht j hj e.symm
theorem all_behind {D : Nat → Nd} {n : Nat} (h : RkD D n) : ∀ i, i < n → Reach D n (atL (headsL D n n)) (headsL D n n).length (ids D i).toList := by
  obtain ⟨r, hr⟩ := h
  obtain ⟨B, hB⟩ := rk_bound D r n
  have key : ∀ m i, i < n → B - r (ids D i).toList ≤ m → Reach D n (atL (headsL D n n)) (headsL D n n).length (ids D i).toList := by
    intro m
    induction m with
    | zero => intro i hi h; have := hB i hi; omega
    | succ m ih =>
      intro i hi h
      cases hf : freeB D n (ids D i) with
      | true =>
        obtain ⟨j, hj, e⟩ := mem_at ((heads_mem D n _).2 ⟨i, hi, hf, rfl⟩)
        rw [← e]
        exact .base j i hj hi e.symm
      | false =>
        have hn : ¬ (∀ t, t < n → ∀ j, j < (D t).n → ((D t).S j).toList ≠ (ids D i).toList) := fun hh => by
          rw [(freeB_iff D n (ids D i)).2 hh] at hf
          cases hf
        have hex : ∃ t, t < n ∧ ∃ j, j < (D t).n ∧ ((D t).S j).toList = (ids D i).toList := Classical.byContradiction fun hh => hn fun t ht j hj e => hh ⟨t, ht, j, hj, e⟩
        obtain ⟨t, ht, j, hj, e⟩ := hex
        have h1 := (hr t ht j hj).2
        rw [e] at h1
        have h2 := hB t ht
        have := ih t ht (by omega)
        rw [← e]
        exact .step t j ht this hj
  exact fun i hi => key _ i hi (Nat.le_refl _)
theorem headsR_yes {D : Nat → Nd} {n : Nat} (hq : dagB D n = true) : headsR D n = headsL D n n := by unfold headsR; rw [if_pos hq]
theorem headsR_no {D : Nat → Nd} {n : Nat} (hq : dagB D n = false) : headsR D n = [] := by unfold headsR; rw [if_neg (by rw [hq]; simp)]

section
variable {a : Option Addr} {len cap : Nat} {Z : Nat → Int}
set_option maxHeartbeats 4000000 in
theorem drawHeads_any (w : World) (hU : IsU8 w a len cap Z) :
    Calls Tryz.prog 50 #[.slice a len cap] w fun e w' => ∃ (g gc n : Nat) (D : Nat → Nd), e = .returned (.slice (some ⟨g, 0, none⟩) n gc) ∧ IsNds w' (some ⟨g, 0, none⟩) n gc D ∧ Fine D n ∧ n ≤ 30 ∧ (dagB D n = true → RkD D n) ∧ Below w.heap.size w w' := by
  have HU := (show Hid _ from hU)
  clear hU
  go_enter Tryz.func50, Tryz.ntmps50
  go_wp2_with fail
  refine (open_any a len cap w).mono ?_
  rintro e w1 ⟨rfl, hD1⟩
  have HD1 := (show Hid _ from hD1)
  clear hD1
  go_wp2_with fail
  refine (dagK_any HU.out 8 (by omega) w1 HD1.out).mono ?_
  rintro e w2 ⟨g, gc, L, n, hn, rfl, hs2, hk⟩
  have HE : Hid (n = L.length ∧ DS w w1 a len cap w.heap.size (.slice (some ⟨g, 0, none⟩) n gc) L w2 ∧ (dagB (gN L) n = true → RkD (gN L) n)) := ⟨hn, hs2, hk⟩
  clear hn hs2 hk
  go_wp2
  go_ret
  exact ⟨g, gc, n, gN L, rfl, HE.out.2.1.own.is HE.out.1, by rw [HE.out.1]; exact HE.out.2.1.few.fine, by rw [HE.out.1]; exact HE.out.2.1.few.1, HE.out.2.2, HE.out.2.1.draw.bel⟩
end

set_option maxRecDepth 20000 in
set_option maxHeartbeats 4000000 in
theorem fnHeads_walk {a : Option Addr} {len cap : Nat} {Z : Nat → Int} (W : World) (hU : IsU8 W a len cap Z) (hP : AllT W) :
    Calls Tryz.prog 9 #[.slice a len cap] W fun e w' => e = .returned (.bool true) ∧ Below W.heap.size W w' := by
  have HU := (show Hid _ from hU)
  have HP := (show Hid _ from hP)
  clear hU hP
  obtain ⟨big, hbig⟩ : ∃ b, b = decide ((1048576 : Int) < (len : Int)) := ⟨_, rfl⟩
  have HBig : Hid (Calls Tryz.prog 34 #[.slice a len cap] W fun e w' => e = .returned (.bool big) ∧ w' = W) := by rw [hbig]; exact big_any a len cap W
  clear hbig
  go_enter Tryz.func9, Tryz.ntmps9
  go_wp2_with fail
  refine HBig.out.mono ?_
  rintro e w0 ⟨rfl, hw0⟩
  rw [hw0]
  clear hw0 w0 HBig
  cases big with
  | true =>
    go_wp2
    go_ret
    exact ⟨rfl, Below.refl _ _⟩
  | false =>
  go_wp2_with fail
  refine (drawHeads_any W HU.out).mono ?_
  rintro e w1 ⟨g, gc, n, D, rfl, hI, hF, hn, hk, b1⟩
  have HI : Hid (IsNds w1 (some ⟨g, 0, none⟩) n gc D) := hI
  have HF : Hid (Fine D n) := hF
  have HB1 : Hid (Below W.heap.size W w1) := b1
  have HM : Hid (n ≤ 30) := hn
  have HRK : Hid (dagB D n = true → RkD D n) := hk
  obtain ⟨K, hK⟩ : ∃ K, K = headsR D n := ⟨_, rfl⟩
  have HIm : Hid (Calls Tryz.prog 51 #[.slice (some ⟨g, 0, none⟩) n gc] w1 fun e w' => ∃ v, e = .returned v ∧ OwnL w' w1.heap.size v K ∧ Below w1.heap.size w1 w') := by
    rw [hK]
    exact implHeadsOf_any _ n gc D w1 hI hF (HP.out.below b1)
  have HSp : Hid (∀ w', Below w1.heap.size w1 w' → Calls Tryz.prog 52 #[.slice (some ⟨g, 0, none⟩) n gc] w' fun e w'' => ∃ v, e = .returned v ∧ OwnL w'' w'.heap.size v K ∧ Below w'.heap.size w' w'') := fun w' hB => by
    rw [hK]
    exact specHeadsOf_any _ n gc D w' (hI.below hB) hF
  have HK : Hid (K = headsR D n) := hK
  have hgc1 := hI.1
  have hgc2 := hI.2.1
  clear hI hF b1 hn hk hK
  go_wp2_with fail
  refine HIm.out.mono ?_
  rintro e w2 ⟨v2, rfl, o2, hB2⟩
  obtain ⟨a2, c2, rfl, i2, _⟩ := o2.strs
  obtain ⟨kl, hkl⟩ : ∃ kl, kl = K.length := ⟨_, rfl⟩
  rw [← hkl] at i2 ⊢
  have HI2 : Hid (IsStrs w2 a2 kl c2 (atL K)) := i2
  have HB2 : Hid (Below w1.heap.size w1 w2) := hB2
  have HKL : Hid (kl = K.length) := hkl
  have hk1 := i2.1
  have hk2 := i2.2.1
  clear o2 i2 hB2 HIm hkl
  go_wp2_with fail
  refine (HSp.out w2 HB2.out).mono ?_
  rintro e w3 ⟨v3, rfl, o3, hB3⟩
  obtain ⟨a3, c3, rfl, i3, _⟩ := o3.strs
  rw [← HKL.out] at i3 ⊢
  have HI3 : Hid (IsStrs w3 a3 kl c3 (atL K)) := i3
  have HB3 : Hid (Below w1.heap.size w1 w3) := HB2.out.trans (hB3.mono HB2.out.size)
  have HI23 : Hid (IsStrs w3 a2 kl c2 (atL K)) := HI2.out.below hB3
  clear o3 i3 hB3
  go_wp2_with fail
  refine (sameL_any _ _ _ _ kl K w3 HI23.out HI3.out).mono ?_
  rintro e w4 ⟨rfl, hB4⟩
  have HB4 : Hid (Below w1.heap.size w1 w4) := HB3.out.trans (hB4.mono HB3.out.size)
  have HI4 : Hid (IsStrs w4 a2 kl c2 (atL K)) := HI23.out.below hB4
  have HD4 : Hid (Calls Tryz.prog 46 #[.slice (some ⟨g, 0, none⟩) n gc] w4 fun e w' => e = .returned (.bool (dagB D n)) ∧ Below w4.heap.size w4 w') := specDagOk_any _ n gc D w4 (HI.out.below HB4.out) HF.out
  clear hB4
  go_wp2_with fail
  refine HD4.out.mono ?_
  rintro e w5 ⟨rfl, hB5⟩
  have HB5 : Hid (Below w1.heap.size w1 w5) := HB4.out.trans (hB5.mono HB4.out.size)
  have HI5 : Hid (IsStrs w5 a2 kl c2 (atL K)) := HI4.out.below hB5
  clear hB5 HD4
  cases hq : dagB D n with
  | false =>
    have HKL0 : Hid (kl = 0) := by show _ = _; rw [HKL.out, HK.out, headsR_no hq]; rfl
    go_wp2_with fail
    refine (HSp.out w5 HB5.out).mono ?_
    rintro e w6 ⟨v6, rfl, o6, hB6⟩
    obtain ⟨a6, c6, rfl, i6, _⟩ := o6.strs
    rw [← HKL.out] at i6 ⊢
    have HI6 : Hid (IsStrs w6 a6 kl c6 (atL K)) := i6
    have HI56 : Hid (IsStrs w6 a2 kl c2 (atL K)) := HI5.out.below hB6
    have HB6 : Hid (Below w1.heap.size w1 w6) := HB5.out.trans (hB6.mono HB5.out.size)
    clear o6 i6 hB6
    go_wp2_with fail
    refine (sameL_any _ _ _ _ kl K w6 HI56.out HI6.out).mono ?_
    rintro e w7 ⟨rfl, hB7⟩
    have HBE : Hid (Below W.heap.size W w7) := HB1.out.trans ((HB6.out.trans (hB7.mono HB6.out.size)).mono HB1.out.size)
    obtain rfl : kl = 0 := HKL0.out
    clear hB7
    go_wp2
    go_ret
    exact ⟨rfl, HBE.out⟩
  | true =>
    have HKH : Hid (K = headsL D n n) := by show _ = _; rw [HK.out, headsR_yes hq]
    have HQ : Hid (dagB D n = true) := hq
    have HI5n : Hid (IsNds w5 (some ⟨g, 0, none⟩) n gc D) := HI.out.below HB5.out
    clear hq
    go_wp2
    go_loopw [5, 6] (fun i _ wr => ∃ (k : Nat), k ≤ n ∧ i = .int .i64 k ∧ wr = w5) (fun i _ _ => n - (Go.RowKit.intOf i).toNat)
    case atStart => exact ⟨0, Nat.zero_le _, rfl, rfl⟩
    case round =>
      obtain ⟨k, hk, rfl, rfl⟩ := hrel
      by_cases hlt : k < n
      · have hltI : (k : Int) < (n : Int) := by omega
        obtain ⟨gb, go, hg, _, hgcell⟩ := HI5n.out.2.2 (by omega)
        cases hg
        obtain ⟨c0, c1, c2', c3', c4, c5, ci⟩ := hgcell k hlt
        simp only [Nat.zero_add] at c0 c1 c2' c3' c4 c5
        have HUp : Hid (IsStrs wr (D k).u (D k).n (D k).cap (D k).S) := ci
        obtain ⟨un, hun⟩ : ∃ un, un = (D k).n := ⟨_, rfl⟩
        obtain ⟨ua, hua⟩ : ∃ ua, ua = (D k).u := ⟨_, rfl⟩
        obtain ⟨uc, huc⟩ : ∃ uc, uc = (D k).cap := ⟨_, rfl⟩
        rw [← hun, ← hua, ← huc] at HUp c5
        have HUN : Hid (un = (D k).n) := hun
        have hu1 := HUp.out.1
        have hu2 := HUp.out.2.1
        clear hgcell ci c2' c3' c4 c0 c1 hun hua huc
        go_wp2
        go_loopw [6] (fun j wr' => ∃ (l : Nat), l ≤ un ∧ j = .int .i64 l ∧ wr' = wr) (fun j _ => un - (Go.RowKit.intOf j).toNat)
        case atStart => exact ⟨0, Nat.zero_le _, rfl, rfl⟩
        case round =>
          obtain ⟨l, hl, rfl, rfl⟩ := hrel
          by_cases hll : l < un
          · have hllI : (l : Int) < (un : Int) := by omega
            obtain ⟨ub, uo, hu, _, hucell⟩ := HUp.out.2.2 (by omega)
            have d1 := hucell l hll
            subst hu
            have HH : Hid (Calls Tryz.prog 38 #[.slice a2 kl c2, .string ((D k).S l)] wr fun e w' => e = .returned (.bool false) ∧ w' = wr) := by
              have := lawHas_any a2 kl c2 (atL K) ((D k).S l) wr HI5.out
              have hn : ¬ ((D k).S l).toList ∈ K := by rw [HKH.out]; exact heads_no hlt (by rw [← HUN.out]; exact hll)
              have h2 : outB (atL K) kl ((D k).S l) = true := by
                rw [HKL.out]
                cases h3 : outB (atL K) K.length ((D k).S l) with
                | true => rfl
                | false => exact absurd ((out_mem K _).1 h3) hn
              rw [h2] at this
              exact this
            clear hucell
            go_wp2_with fail
            refine HH.out.mono ?_
            rintro e w7 ⟨rfl, hw7⟩
            rw [hw7]
            clear hw7 w7
            go_wp2
            go_roundw
            case rel => exact ⟨l + 1, by omega, by go_num, by first | rfl | trivial⟩
            case measure => simp [Go.RowKit.intOf]; omega
          · have hle : l = un := by omega
            subst hle
            go_wp2
            go_roundw
            case rel => exact ⟨k + 1, by omega, by go_num, by first | rfl | trivial⟩
            case measure => simp [Go.RowKit.intOf]; omega
      · have hke : k = n := by omega
        subst hke
        have hkn : kl ≤ k := by rw [HKL.out, HKH.out]; exact heads_len D k
        have hsz : ∀ j, j < kl → (atL K j).size ≤ 9223372036854775807 := fun j hj => by
          have hm := at_mem (K := K) (j := j) (by rw [← HKL.out]; exact hj)
          rw [HKH.out] at hm
          obtain ⟨i, hi, _, e⟩ := (heads_mem D k _).1 hm
          have := bid_size (D := D) (n := k) ⟨i, hi, e⟩
          rw [← HKH.out, ByteArray.toList_eq] at this
          simp at this
          omega
        have HBe : Hid (Calls Tryz.prog 48 #[.slice (some ⟨g, 0, none⟩) k gc, .slice a2 kl c2] wr fun e w'' => ∃ v, e = .returned v ∧ OwnL w'' wr.heap.size v (idsL D k) ∧ Below wr.heap.size wr w'') := by
          refine (implBehind_any _ k gc D a2 kl c2 (atL K) wr HI5n.out HF.out HI5.out hsz (HP.out.below (HB1.out.trans (HB5.out.mono HB1.out.size)))).mono ?_
          rintro e w'' ⟨v, L, rfl, ho, hU, hM, hB⟩
          obtain rfl : L = idsL D k := up_unique hU (idsL_up HQ.out) (fun x => by
            rw [hM x, idsL_mem]
            constructor
            · exact fun h => h.2.2.isId HQ.out
            · rintro ⟨i, hi, rfl⟩
              refine ⟨HQ.out, by have := HM.out; omega, ?_⟩
              rw [HKL.out, HKH.out]
              exact all_behind (HRK.out HQ.out) i hi)
          exact ⟨v, rfl, ho, hB⟩
        clear hsz hkn
        go_wp2_with fail
        refine HBe.out.mono ?_
        rintro e w7 ⟨v7, rfl, o7, hB7⟩
        obtain ⟨a7, c7, rfl, i7, _⟩ := o7.strs
        rw [idsL_len] at i7 ⊢
        have HI7 : Hid (IsStrs w7 a7 k c7 (atL (idsL D k))) := i7
        have HB7 : Hid (Below w1.heap.size w1 w7) := HB5.out.trans (hB7.mono HB5.out.size)
        clear o7 i7 hB7
        go_wp2_with fail
        refine (lawIds_any _ k gc D w7 (HI.out.below HB7.out) HF.out (by have := HM.out; omega)).mono ?_
        rintro e w8 ⟨ga, ac, rfl, ia, hB8⟩
        have HIA : Hid (IsStrs w8 ga k ac (ids D)) := ia
        have HI8 : Hid (IsStrs w8 a7 k c7 (atL (idsL D k))) := HI7.out.below hB8
        have HB8 : Hid (Below w1.heap.size w1 w8) := HB7.out.trans (hB8.mono HB7.out.size)
        have HSa : Hid (Calls Tryz.prog 36 #[.slice a7 k c7, .slice ga k ac] w8 fun e w' => e = .returned (.bool true) ∧ Below w8.heap.size w8 w') := by
          refine (lawSame_any a7 k c7 _ ga k ac (ids D) w8 HI8.out HIA.out).mono ?_
          rintro e w' ⟨rfl, hB⟩
          rw [show sameB (atL (idsL D k)) (ids D) k = true from by
            unfold sameB
            exact allB_true fun i hi => by rw [idsL_at hi]; simp]
          exact ⟨by simp, hB⟩
        clear ia hB8
        go_wp2_with fail
        refine HSa.out.mono ?_
        rintro e w9 ⟨rfl, hB9⟩
        go_wp2
        go_ret
        exact ⟨rfl, HB1.out.trans ((HB8.out.trans (hB9.mono HB8.out.size)).mono HB1.out.size)⟩
end Go.Proofs.YtlibipbpaigmdaaGreatDoor
