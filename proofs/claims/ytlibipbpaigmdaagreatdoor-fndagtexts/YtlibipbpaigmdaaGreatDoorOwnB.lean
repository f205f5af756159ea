/-
  A slice of bytes of the call's own: append onto it, its bytes as a text, a text's bytes as such a slice. No condition but lengths.
-/
import Derived.Test.YtlibipbpaigmdaaGreatDoorBlocks
import Derived.Laws.IdiomStrings
import Derived.ArgAppend
import Derived.Deep.AppendLies
namespace Go.Proofs.YtlibipbpaigmdaaGreatDoor
open Go.RowKit
set_option linter.unusedVariables false

/-- v is a slice of the call's own (a block from base on) that holds zs; what is spare can be written -/
def OwnB (w : World) (base : Nat) (v : Value) (zs : List Int) : Prop :=
  (v = .slice none 0 0 ∧ zs = []) ∨
  ∃ g cap, v = .slice (some ⟨g, 0, none⟩) zs.length cap ∧ base ≤ g ∧ g < w.heap.size ∧ zs.length ≤ cap ∧ cap ≤ maxLen ∧
    (∀ j z, zs[j]? = some z → w.cell? ⟨g, j, none⟩ = some (.int .u8 z)) ∧ (∀ j, zs.length ≤ j → j < cap → (w.cell? ⟨g, j, none⟩).isSome = true ∧ w.frozen? ⟨g, j, none⟩ = false)

theorem OwnB.nil (w : World) (base : Nat) : OwnB w base (.slice none 0 0) [] := .inl ⟨rfl, rfl⟩

theorem OwnB.below {w w' : World} {base : Nat} {v : Value} {zs : List Int} (h : OwnB w base v zs) (hB : Below w.heap.size w w') : OwnB w' base v zs := by
  rcases h with h | ⟨g, cap, h1, h2, h3, h4, h5, h6, h7⟩
  · exact .inl h
  · exact .inr ⟨g, cap, h1, h2, by have := hB.size; omega, h4, h5, fun j z hj => (hB.cell (p := ⟨g, j, none⟩) h3).trans (h6 j z hj), fun j a b => by
      rw [hB.cell (p := ⟨g, j, none⟩) h3, hB.frozen (p := ⟨g, j, none⟩) h3]
      exact h7 j a b⟩

theorem OwnB.alloc {w : World} {base : Nat} {v : Value} {zs : List Int} (h : OwnB w base v zs) (o : Obj) : OwnB (w.alloc o) base v zs := h.below ((Below.refl _ _).alloc (Nat.le_refl _) _)
theorem OwnB.drew {w : World} {base : Nat} {v : Value} {zs : List Int} (h : OwnB w base v zs) : OwnB w.drew base v zs := h.below (Below.refl _ _).drew

theorem OwnB.of_row {w : World} {base : Nat} {g cap : Nat} {v : Value} {n : Nat} {zs : List Int} (h : w.ownsRow base 5 1 v n (zs.map (Value.int .u8))) : OwnB w base v zs := by
  have hn : n = zs.length := by have := h.1; simp at this; omega
  subst hn
  rcases h.2 with ⟨h1, h2⟩ | ⟨g, cap, cur, hv, hb, hg, hc, hm, hs, ht⟩
  · exact .inl ⟨h1, List.eq_nil_of_length_eq_zero h2⟩
  · refine .inr ⟨g, cap, hv, hb, lt_of_block hg, hc, hm, fun j z hj => ?_, fun j h1 h2 => ?_⟩
    · rw [cell_of hg]
      have hl : j < zs.length := by
        rcases Nat.lt_or_ge j zs.length with h | h
        · exact h
        · rw [List.getElem?_eq_none h] at hj; cases hj
      have : (cur.toList.take (zs.length * 1))[j]? = (zs.map (Value.int .u8))[j]? := by rw [ht]
      rw [List.getElem?_take_of_lt (by omega), Array.getElem?_toList, List.getElem?_map, hj] at this
      exact this
    · rw [cell_of hg, froz_of hg]
      refine ⟨?_, rfl⟩
      rw [Array.getElem?_eq_getElem (by omega)]
      rfl

theorem below_setCells {base g : Nat} (hg : base ≤ g) : ∀ (vs : List Value) (o : Nat) (a w : World), Below base a w → Below base a (w.setCells g o vs)
  | [], _, _, _, h => h
  | v :: vs, o, a, w, h => below_setCells hg vs (o + 1) a _ (h.setCell (p := ⟨g, o, none⟩) hg v)

theorem size_setCells (g : Nat) : ∀ (vs : List Value) (o : Nat) (w : World), w.heap.size ≤ (w.setCells g o vs).heap.size := fun vs o w => (below_setCells (base := 0) (Nat.zero_le _) vs o w w (Below.refl _ _)).size

/-- THE LAW -/
theorem run_appendB {w : World} {base : Nat} {v : Value} {zs : List Int} (ty : TypeId) (h : OwnB w base v zs) (ad : Addr) (m c : Nat) (news : List Int) (hl : news.length = m) (hm : 0 < m)
    (hn : ∀ j z, news[j]? = some z → w.cell? (ad.add j) = some (.int .u8 z)) (hs : zs.length + m ≤ 100000000) (hb : base ≤ w.heap.size) :
    ∃ g cap w', (Builtin.append_ #[44, 44] ty #[v, .slice (some ad) m c]).run Tryz.prog w = .ok (.slice (some ⟨g, 0, none⟩) (zs.length + m) cap) w' ∧ OwnB w' base (.slice (some ⟨g, 0, none⟩) (zs.length + m) cap) (zs ++ news) ∧ Below base w w' := by
  obtain ⟨i0, hi, hz0, hz1, hz2⟩ := info_parts info5
  have hn' : ∀ j u, (news.map (Value.int .u8))[j]? = some u → w.cell? (ad.add j) = some u := by
    intro j u hu
    rw [List.getElem?_map] at hu
    cases hq : news[j]? with
    | none => rw [hq] at hu; cases hu
    | some z => rw [hq] at hu; cases hu; exact hn j z hq
  have hone : ∀ u ∈ news.map (Value.int .u8), u.oneCell' = true := by
    intro u hu
    obtain ⟨z, _, rfl⟩ := List.mem_map.1 hu
    rfl
  rcases h with ⟨rfl, rfl⟩ | ⟨g, cap, rfl, hbg, hgl, hc, hcm, hcell, hspare⟩
  · obtain ⟨g, cap, w', hr, hown, hgrow, _, hlt⟩ := run_append_lies (P := Tryz.prog) w 44 ty base 5 i0 (.int .u8 0) 1 1 Tryz.underlying44 hi hz0 hz1 hz2 rfl (by decide) (.slice none 0 0) 0 [] (World.ownsRow_nil _ _ _ _) ad m c (news.map (Value.int .u8)) (by simp [hl]) hn' hone hm (by unfold maxLen; omega) (by omega) hb _ rfl
    refine ⟨g, cap, w', by simpa using hr, ?_, (Below.refl _ _).grown hgrow hb (fun k hk => by cases hk)⟩
    have := OwnB.of_row (g := 0) (cap := 0) (zs := news) (by simpa using hown)
    simpa using this
  · by_cases hr : zs.length + m ≤ cap
    · have hrun := run_append_room_cells (P := Tryz.prog) w 44 ty 5 i0 Tryz.underlying44 hi g 0 zs.length cap ad m c (news.map (Value.int .u8)) (by rw [hz1]; simp [hl]) hn' hone hr
        (fun j hj => by rw [hz1]; simp at hj; simpa using (hspare (zs.length + j) (by omega) (by omega)).1)
        (fun j hj => by rw [hz1]; simp at hj; simpa using (hspare (zs.length + j) (by omega) (by omega)).2)
      rw [hz1, Nat.zero_add, Nat.mul_one] at hrun
      refine ⟨g, cap, _, hrun, .inr ⟨g, cap, by rw [List.length_append, hl], hbg, Nat.lt_of_lt_of_le hgl (size_setCells _ _ _ _), by rw [List.length_append, hl]; exact hr, hcm, fun j z hj => ?_, fun j h1 h2 => ?_⟩, below_setCells hbg _ _ _ _ (Below.refl _ _)⟩
      · by_cases hlt : j < zs.length
        · rw [World.cell?_setCells_out g _ _ _ _ (fun _ _ => .inl hlt)]
          rw [List.getElem?_append_left hlt] at hj
          exact hcell j z hj
        · rw [List.getElem?_append_right (by omega)] at hj
          have hjl : j - zs.length < news.length := by
            rcases Nat.lt_or_ge (j - zs.length) news.length with h | h
            · exact h
            · rw [List.getElem?_eq_none h] at hj; cases hj
          have := World.cell?_setCells_in g (news.map (Value.int .u8)) zs.length w (fun i hi => by simp at hi; exact (hspare (zs.length + i) (by omega) (by omega)).1) (j - zs.length) (by simpa using hjl)
          rw [show zs.length + (j - zs.length) = j by omega] at this
          rw [this, List.getElem_map]
          rw [List.getElem?_eq_getElem hjl] at hj
          rw [Option.some.inj hj]
      · rw [List.length_append] at h1
        rw [World.cell?_setCells_out g _ _ _ _ (fun _ _ => .inr (by simp; omega)), World.frozen?_setCells]
        exact hspare j (by omega) h2
    · obtain ⟨v', w', hrun, hown, hgrow⟩ := run_append_arg_grows (P := Tryz.prog) w 44 ty 5 i0 (.int .u8 0) 1 1 Tryz.underlying44 hi hz0 hz1 hz2 rfl (by decide) ⟨g, 0, none⟩ zs.length cap (zs.map (Value.int .u8)) (by simp) (fun j u hu => by
          rw [List.getElem?_map] at hu
          rw [Addr.add_lit, Nat.zero_add]
          cases hq : zs[j]? with
          | none => rw [hq] at hu; cases hu
          | some z => rw [hq] at hu; cases hu; exact hcell j z hq) ad m c (news.map (Value.int .u8)) (by simp [hl]) hn' (by omega) (by unfold maxLen; omega) (by omega)
      obtain ⟨g', cap', rfl, _, hlt⟩ := hown.form (by omega)
      have hB : Below w.heap.size w w' := (Below.refl _ _).grown hgrow (Nat.le_refl _) (fun k hk => by cases hk)
      refine ⟨g', cap', w', hrun, ?_, hB.mono hb⟩
      have := OwnB.of_row (g := 0) (cap := 0) (zs := zs ++ news) (by rw [List.map_append]; exact hown)
      rcases this with ⟨h, _⟩ | ⟨g2, cap2, e1, e2, e3, e4, e5, e6, e7⟩
      · cases h
      · simp only [Value.slice.injEq, Option.some.injEq, Addr.mk.injEq, and_true] at e1
        obtain ⟨rfl, _, rfl⟩ := e1
        exact .inr ⟨g', cap', by rw [List.length_append, hl], by omega, e3, e4, e5, e6, e7⟩

theorem wp_appendB {w : World} {o : Oper} {a : Act} {K : Act → World → Prop} {Q : Exit → Act → World → Prop} (s x : Operand)
    (ho : o.op = .call { callee := .builtin .append, args := #[s, x], argTypes := #[44, 44] })
    {base : Nat} {v : Value} {zs : List Int} (hs : a.eval s = v) (h : OwnB w base v zs) (ad : Addr) (m c : Nat) (news : List Int) (hx : a.eval x = .slice (some ad) m c) (hl : news.length = m) (hm : 0 < m)
    (hn : ∀ j z, news[j]? = some z → w.cell? (ad.add j) = some (.int .u8 z)) (hsz : zs.length + m ≤ 100000000) (hb : base ≤ w.heap.size)
    (hK : ∀ g cap w', OwnB w' base (.slice (some ⟨g, 0, none⟩) (zs.length + m) cap) (zs ++ news) → Below base w w' → K (a.put o.dst (.slice (some ⟨g, 0, none⟩) (zs.length + m) cap)) w') : o.wp Tryz.prog a w K Q := by
  obtain ⟨g, cap, w', hr, h2, h3⟩ := run_appendB o.type h ad m c news hl hm hn hsz hb
  unfold Oper.wp execOp
  simp only [ho, resolve, invoke, builtin, Sem.run_bind, Sem.run_pure, Result.andThen_ok, List.map_toArray, List.map_cons, List.map_nil, hs, hx, hr]
  exact hK g cap w' h2 h3

theorem wpList_appendB {w : World} {ops : Array Oper} {rest : List Oper} {o : Oper} {a : Act} {Q : Exit → Act → World → Prop} (hgd : o.guard = none) (s x : Operand)
    (ho : o.op = .call { callee := .builtin .append, args := #[s, x], argTypes := #[44, 44] })
    {base : Nat} {v : Value} {zs : List Int} (hs : a.eval s = v) (h : OwnB w base v zs) (ad : Addr) (m c : Nat) (news : List Int) (hx : a.eval x = .slice (some ad) m c) (hl : news.length = m) (hm : 0 < m)
    (hn : ∀ j z, news[j]? = some z → w.cell? (ad.add j) = some (.int .u8 z)) (hsz : zs.length + m ≤ 100000000) (hb : base ≤ w.heap.size)
    (hK : ∀ g cap w', OwnB w' base (.slice (some ⟨g, 0, none⟩) (zs.length + m) cap) (zs ++ news) → Below base w w' → wpList Tryz.prog ops Q rest (a.put o.dst (.slice (some ⟨g, 0, none⟩) (zs.length + m) cap)) w') : wpList Tryz.prog ops Q (o :: rest) a w :=
  wpList_plain hgd fun _ hK' => wp_appendB s x ho hs h ad m c news hx hl hm hn hsz hb fun g cap w' h2 h3 => hK' _ _ (hK g cap w' h2 h3)

theorem step_appendB {w : World} {ops : Array Oper} {o : Oper} {a : Act} {K : Act → World → Prop} {Q : Exit → Act → World → Prop} {E : Prop} (hgd : o.guard = none) (s x : Operand)
    (ho : o.op = .call { callee := .builtin .append, args := #[s, x], argTypes := #[44, 44] })
    {base : Nat} {v : Value} {zs : List Int} (hs : a.eval s = v) (h : OwnB w base v zs) (ad : Addr) (m c : Nat) (news : List Int) (hx : a.eval x = .slice (some ad) m c) (hl : news.length = m) (hm : 0 < m)
    (hn : ∀ j z, news[j]? = some z → w.cell? (ad.add j) = some (.int .u8 z)) (hsz : zs.length + m ≤ 100000000) (hb : base ≤ w.heap.size)
    (hK : ∀ g cap w', OwnB w' base (.slice (some ⟨g, 0, none⟩) (zs.length + m) cap) (zs ++ news) → Below base w w' → K (a.put o.dst (.slice (some ⟨g, 0, none⟩) (zs.length + m) cap)) w') :
    if Region.wanted o (yielded ops a.tmps) = true then Oper.wp Tryz.prog o a w K Q else E := by
  have hw : Region.wanted o (yielded ops a.tmps) = true := by simp [Region.wanted, hgd]
  rw [if_pos hw]
  exact wp_appendB s x ho hs h ad m c news hx hl hm hn hsz hb hK

theorem OwnB.form {w : World} {base : Nat} {v : Value} {zs : List Int} (h : OwnB w base v zs) (hz : 0 < zs.length) : ∃ g cap, v = .slice (some ⟨g, 0, none⟩) zs.length cap := by
  rcases h with ⟨_, rfl⟩ | ⟨g, cap, e, _⟩
  · exact absurd hz (by simp)
  · exact ⟨g, cap, e⟩

/-- new bytes, laid to be appended -/
theorem news_new (w : World) (zs : List Int) (j : Nat) (z : Int) (h : zs[j]? = some z) : (w.alloc (.cells (zs.map (Value.int .u8)).toArray 5)).cell? ((⟨w.heap.size, 0, none⟩ : Addr).add j) = some (.int .u8 z) := by
  rw [Addr.add_lit, Nat.zero_add, cell_of (heap_alloc_new w _), List.getElem?_toArray, List.getElem?_map, h]
  rfl

theorem alloc_size (w : World) {b : Nat} (h : b ≤ w.heap.size) (o : Obj) : b ≤ (w.alloc o).heap.size := by simp; omega

/-- the bytes as a text -/
theorem OwnB.str {w : World} {base g len cap : Nat} {zs : List Int} (h : OwnB w base (.slice (some ⟨g, 0, none⟩) len cap) zs) :
    (convert 44 9 (.slice (some ⟨g, 0, none⟩) len cap)).run Tryz.prog w = .ok (.string (strB zs)) w := by
  rcases h with ⟨h, _⟩ | ⟨g', cap', e, _, _, _, _, hc, _⟩
  · cases h
  simp only [Value.slice.injEq, Option.some.injEq, Addr.mk.injEq, and_true] at e
  obtain ⟨rfl, rfl, rfl⟩ := e
  rw [run_convert_bytes_string _ 44 9 5 _ _ _ Tryz.underlying44 Tryz.underlying5 Tryz.underlying9, run_bytesToString _ _ _ _ zs]
  · rw [foldl_strB]
    simp
  · have := run_loadCells_list (P := Tryz.prog) w ⟨g, 0, none⟩ (zs.map (Value.int .u8)) (by
      intro j v hv
      rw [List.getElem?_map] at hv
      rw [Go.WideShapes.add_plain, Nat.zero_add]
      cases hq : zs[j]? with
      | none => rw [hq] at hv; cases hv
      | some z => rw [hq] at hv; cases hv; exact hc j z hq)
    simpa using this

/-- a text's bytes as a slice -/
theorem bytes_new (s : ByteArray) (w : World) (hs : s.size ≤ 100000000) : ∃ cap w', (convert 9 44 (.string s)).run Tryz.prog w = .ok (.slice (some ⟨w.heap.size, 0, none⟩) s.size cap) w' ∧ OwnB w' w.heap.size (.slice (some ⟨w.heap.size, 0, none⟩) s.size cap) (bl s) ∧ Below w.heap.size w w' := by
  refine ⟨_, _, run_bytes_of_string w 9 44 5 s Tryz.underlying9 Tryz.underlying44 Tryz.underlying5, ?_, ((Below.refl _ _).drew).alloc (Nat.le_refl _) _⟩
  have hge := grownCap_ge w s.size 0 5
  have hle := grownCap_le_maxLen w s.size 0 5 (by unfold maxLen; omega)
  generalize grownCap w s.size 0 5 = cap at hge hle
  have hrs : (bytesRow s cap).size = cap := by
    have : s.data.size = s.size := rfl
    simp [bytesRow, this]
    omega
  have hg : (w.drew.alloc (.cells (bytesRow s cap) 5 ((bytesRow s cap).size, (bytesRow s cap).size + 1))).heap[w.heap.size]? = some (.cells (bytesRow s cap) 5 ((bytesRow s cap).size, (bytesRow s cap).size + 1)) := heap_alloc_new w.drew _
  refine .inr ⟨w.heap.size, cap, by rw [bl_len], Nat.le_refl _, lt_of_block hg, by rw [bl_len]; exact hge, hle, fun j z hj => ?_, fun j h1 h2 => ?_⟩
  · simp only [World.cell?, hg]
    have hjl : j < (bl s).length := by
      rcases Nat.lt_or_ge j (bl s).length with h | h
      · exact h
      · rw [List.getElem?_eq_none h] at hj; cases hj
    rw [bl_len] at hjl
    have hjd : j < s.data.size := hjl
    unfold bytesRow
    rw [Array.getElem?_append_left (by simpa using hjd)]
    unfold bl at hj
    rw [List.getElem?_map, Array.getElem?_toList, Array.getElem?_eq_getElem hjd] at hj
    rw [Array.getElem?_map, Array.getElem?_eq_getElem hjd]
    cases hj
    rfl
  · simp only [World.cell?, World.frozen?, hg]
    rw [hrs]
    refine ⟨?_, ?_⟩
    · rw [Array.getElem?_eq_getElem (by omega)]; rfl
    · simp; omega
end Go.Proofs.YtlibipbpaigmdaaGreatDoor
