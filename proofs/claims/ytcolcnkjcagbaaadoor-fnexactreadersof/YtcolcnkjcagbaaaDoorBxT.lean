/-
  The program's ReadersOf. Conditions: the slices read; the box's text is not huge; errNoBox holds a pointer, the errors package's errorType is the type error.
-/
import Derived.Test.YtcolcnkjcagbaaaDoorBxQ
namespace Go.Proofs.YtcolcnkjcagbaaaDoor
open Go.RowKit
set_option linter.unusedVariables false

theorem fst_lt {K : Nat → Int} {key : Int} {len k : Nat} (h : fst K key len = some k) : k < len := by
  unfold fst at h
  exact List.mem_range.1 (List.mem_of_find?_eq_some h)
/-- no slice of members is nil with room -/
def Sound (w : World) (a : Option Addr) (len : Nat) : Prop := ∀ b off i u l c, a = some ⟨b, off, none⟩ → i < len → w.cell? ⟨b, off + i * 2 + 1, none⟩ = some (.slice u l c) → u = none → l = 0 ∧ c = 0
theorem Sound.below {w w' : World} {a : Option Addr} {len cap : Nat} {K : Nat → Int} {L : Nat → Nat} {M : Nat → Nat → Int} (h : Sound w a len) (hI : Ep.IsEps w a len cap K L M) (hB : Below w.heap.size w w') : Sound w' a len := by
  intro b off i u l c e hi hc
  obtain ⟨b', off', A, C, e', hb, _⟩ := hI.2.2 (by omega)
  rw [e] at e'
  cases e'
  exact h b off i u l c e hi ((hB.cell (p := ⟨b, off + i * 2 + 1, none⟩) hb).symm.trans hc)

def farW (key : Int) (t : ByteArray) : Value := .iface 75 (.agg #[.int .i64 key, .iface 80 (.agg #[.string t])])
/-- what epochOf answers -/
def EpV (w : World) (K : Nat → Int) (L : Nat → Nat) (M : Nat → Nat → Int) (len : Nat) (key : Int) (s : ByteArray) (b : Addr) (v : Value) : Prop :=
  (okB key s = false ∧ v = .tuple #[.agg #[.int .i64 0, .slice none 0 0], refusal key b]) ∨
  (okB key s = true ∧ (fst K key len = none ∨ Ep.epsB K L M len = false) ∧ ∃ t, v = .tuple #[.agg #[.int .i64 0, .slice none 0 0], farW key t]) ∨
  (okB key s = true ∧ Ep.epsB K L M len = true ∧ ∃ k A C, fst K key len = some k ∧ v = .tuple #[.agg #[.int .i64 (K k), .slice A (L k) C], .nilIface] ∧ Ep.IsI64 w A (L k) C (M k) ∧ (A = none → L k = 0 ∧ C = 0))

theorem results_row_tmpE {P : Program} {fn : Func} {p u : Tmp} {ty : TypeId} (h : fn.results = #[.cell p ty, .tmp u]) (tmps : Array Value) (w : World) (g : Nat) (t : TypeId) (cs : Array Value) (fr : Nat × Nat) (d : TypeDesc)
    (hp : tmps.getD p undef = .pointer (some ⟨g, 0, none⟩)) (hg : w.heap[g]? = some (.cells cs t fr))
    (hu : P.underlying ty = some d) (hd : (match d with | .struct _ | .array _ _ => true | _ => false) = true) (hi : (P.info? ty).map (·.size) = some cs.size) :
    (results fn tmps).run P w = .ok (.tuple #[.agg cs, tmps.getD u undef]) w := by
  have hp' : tmps[p]?.getD undef = .pointer (some ⟨g, 0, none⟩) := by simpa using hp
  rw [results_cell_tmp h]
  simp [hp', asAddr, run_loadVar_row w g t ty cs fr d hg hu hd hi, Result.andThen]
theorem row2 {w : World} {g : Nat} {x0 y0 : Value} (x y : Value) (h : w.heap[g]? = some (.cells #[x0, y0] 58 (0, 0))) : ((w.setCell ⟨g, 0, none⟩ x).setCell ⟨g, 1, none⟩ y).heap[g]? = some (.cells #[x, y] 58 (0, 0)) := by
  have h1 := heap_setCell_same w g 0 _ 58 x h
  have h2 := heap_setCell_same (w.setCell ⟨g, 0, none⟩ x) g 1 _ 58 y h1
  rw [h2]
  rfl

set_option maxHeartbeats 1000000 in
theorem epochOf_any (a : Option Addr) (len cap : Nat) (K : Nat → Int) (L : Nat → Nat) (M : Nat → Nat → Int) (key : Int) (s : ByteArray) (b : Addr) (w : World) (h : Ep.IsEps w a len cap K L M) (hS : Sound w a len) (hsz : s.size ≤ 1048576) (hG : w.cell? ⟨0, 0, none⟩ = some (.iface 133 (.pointer (some b)))) (h0 : 0 < w.heap.size) :
    Calls Tryd.prog 32 #[.slice a len cap, .agg #[.int .i64 key, .string s]] w fun e w' => ∃ v, e = .returned v ∧ EpV w K L M len key s b v ∧ Below w.heap.size w w' := by
  have hB0 : Below w.heap.size w ((w.alloc (.cells #[.int .i64 key, .string s] 26)).alloc (.cells #[.int .i64 0, .slice none 0 0] 58)) := ((Below.refl _ _).alloc (Nat.le_refl _) _).alloc (by simp) _
  have hx0 : (w.alloc (.cells #[.int .i64 key, .string s] 26)).heap[w.heap.size]? = some (.cells #[.int .i64 key, .string s] 26 (0, 0)) := heap_alloc_new w _
  have HX : Hid (((w.alloc (.cells #[.int .i64 key, .string s] 26)).alloc (.cells #[.int .i64 0, .slice none 0 0] 58)).heap[w.heap.size]? = some (.cells #[.int .i64 key, .string s] 26 (0, 0))) := (Below.heap_alloc _ (.cells #[.int .i64 0, .slice none 0 0] 58) _ (lt_of_block hx0)).trans hx0
  have HY : Hid (((w.alloc (.cells #[.int .i64 key, .string s] 26)).alloc (.cells #[.int .i64 0, .slice none 0 0] 58)).heap[w.heap.size + 1]? = some (.cells #[.int .i64 0, .slice none 0 0] 58 (0, 0))) := by
    have := heap_alloc_new (w.alloc (.cells #[.int .i64 key, .string s] 26)) (.cells #[.int .i64 0, .slice none 0 0] 58)
    have e : (w.alloc (.cells #[.int .i64 key, .string s] 26)).heap.size = w.heap.size + 1 := by simp
    rw [e] at this
    exact this
  have HW : Hid (∀ v, Below ((w.alloc (.cells #[.int .i64 key, .string s] 26)).alloc (.cells #[.int .i64 0, .slice none 0 0] 58)).heap.size ((w.alloc (.cells #[.int .i64 key, .string s] 26)).alloc (.cells #[.int .i64 0, .slice none 0 0] 58)) v → v.heap[w.heap.size + 1]? = some (.cells #[.int .i64 0, .slice none 0 0] 58 (0, 0)) ∧ v.cell? ⟨w.heap.size + 1, 0, none⟩ = some (.int .i64 0) ∧ v.cell? ⟨w.heap.size + 1, 1, none⟩ = some (.slice none 0 0) ∧ v.frozen? ⟨w.heap.size + 1, 0, none⟩ = false ∧ v.frozen? ⟨w.heap.size + 1, 1, none⟩ = false) := fun v hv => by
    have r := (hv.block _ (lt_of_block HY.out)).trans HY.out
    exact ⟨r, cell_of_row v _ 0 _ _ _ r, cell_of_row v _ 1 _ _ _ r, by simp [World.frozen?, r], by simp [World.frozen?, r]⟩
  have hG' : ((w.alloc (.cells #[.int .i64 key, .string s] 26)).alloc (.cells #[.int .i64 0, .slice none 0 0] 58)).cell? ⟨0, 0, none⟩ = some (.iface 133 (.pointer (some b))) := (hB0.cell (p := ⟨0, 0, none⟩) h0).trans hG
  obtain ⟨r, hr, _, HC⟩ := bodyOf_any key s b _ hsz hG' (Nat.lt_of_lt_of_le h0 hB0.size)
  have HI : Hid (Ep.IsEps w a len cap K L M) := h
  have HS : Hid (Sound w a len) := hS
  have HB0 := (show Hid _ from hB0)
  have HR : Hid (r.isSome = okB key s) := hr
  clear hG hG' h0 hB0 hr h hS hsz
  go_enter Tryd.func32, Tryd.ntmps32
  go_wp2_with fail
  refine HC.mono ?_
  rintro e w1 ⟨rfl, hB1⟩
  have HB1 : Hid (Below w.heap.size w w1) := HB0.out.trans (hB1.mono HB0.out.size)
  have x1 := (hB1.block _ (lt_of_block HX.out)).trans HX.out
  have HX1 := (show Hid _ from x1)
  have HD1 : Hid (Below ((w.alloc (.cells #[.int .i64 key, .string s] 26)).alloc (.cells #[.int .i64 0, .slice none 0 0] 58)).heap.size ((w.alloc (.cells #[.int .i64 key, .string s] 26)).alloc (.cells #[.int .i64 0, .slice none 0 0] 58)) w1) := hB1
  clear hB1
  cases r with
  | none =>
    have HOK : Hid (okB key s = false) := HR.out.symm
    unfold bodyV refusal
    clear x1
    obtain ⟨r1, f1, f2, f3, f4⟩ := HW.out _ HD1.out
    go_wp2
    refine bodyPost_ret (v := .tuple #[.agg #[.int .i64 0, .slice none 0 0], _]) (results_row_tmpE (p := 4) (u := 5) (ty := 58) rfl _ _ (w.heap.size + 1) 58 _ _ _ rfl (row2 _ _ r1) Tryd.underlying58 rfl (by kernel_rfl)) rfl ⟨_, rfl, .inl ⟨HOK.out, rfl⟩, ((HB1.out).setCell (by simp) _).setCell (by simp) _⟩
  | some n =>
    have HOK : Hid (okB key s = true) := HR.out.symm
    unfold bodyV
    clear x1
    go_wp2_with fail
    refine (index_any a len cap K L M key s w.heap.size w1 (HI.out.below HB1.out) HX1.out).mono ?_
    rintro e w2 ⟨rfl, hB2⟩
    have HB2 : Hid (Below w.heap.size w w2) := HB1.out.trans (hB2.mono HB1.out.size)
    have x2 := (hB2.block _ (lt_of_block HX1.out)).trans HX1.out
    have HX2 := (show Hid _ from x2)
    have HD2 : Hid (Below ((w.alloc (.cells #[.int .i64 key, .string s] 26)).alloc (.cells #[.int .i64 0, .slice none 0 0] 58)).heap.size ((w.alloc (.cells #[.int .i64 key, .string s] 26)).alloc (.cells #[.int .i64 0, .slice none 0 0] 58)) w2) := HD1.out.trans (hB2.mono HD1.out.size)
    have c20 : w2.cell? ⟨w.heap.size, 0, none⟩ = some (.int .i64 key) := cell_of_row w2 _ 0 _ _ _ x2
    clear hB2 x2
    cases hf : fst K key len with
    | none =>
      have HF : Hid (fst K key len = none) := hf
      unfold atV
      clear hf
      obtain ⟨r2, f1, f2, f3, f4⟩ := HW.out _ HD2.out
      go_wp2
      go_region_with (fail)
      all_goals
        go_wp2
        refine bodyPost_ret (v := .tuple #[.agg #[.int .i64 0, .slice none 0 0], _]) (results_row_tmpE (p := 4) (u := 5) (ty := 58) rfl _ _ (w.heap.size + 1) 58 _ _ _ rfl (row2 _ _ r2) Tryd.underlying58 rfl (by kernel_rfl)) rfl ⟨_, rfl, .inr (.inl ⟨HOK.out, .inl HF.out, _, rfl⟩), ((HB2.out.drew).setCell (by simp) _).setCell (by simp) _⟩
    | some k =>
      have HF : Hid (fst K key len = some k) := hf
      have hk := fst_lt hf
      unfold atV
      obtain ⟨eb, heb⟩ : ∃ eb, eb = Ep.epsB K L M len := ⟨_, rfl⟩
      have HEB : Hid (eb = Ep.epsB K L M len) := heb
      have hnn : decide ((k : Int) < 0) = false := by simp
      have hE := Ep.implEpochsOk_any a len cap K L M w2 (HI.out.below HB2.out)
      rw [← heb] at hE
      clear hf heb c20
      go_wp2_with fail
      refine hE.mono ?_
      rintro e w3 ⟨rfl, hB3⟩
      have HB3 : Hid (Below w.heap.size w w3) := HB2.out.trans (hB3.mono HB2.out.size)
      obtain ⟨r3, f1, f2, f3, f4⟩ := HW.out _ (HD2.out.trans (hB3.mono HD2.out.size))
      have c30 : w3.cell? ⟨w.heap.size, 0, none⟩ = some (.int .i64 key) := cell_of_row w3 _ 0 _ _ _ ((hB3.block _ (lt_of_block HX2.out)).trans HX2.out)
      clear hB3
      cases eb with
      | false =>
        go_wp2
        go_region_with (fail)
        all_goals
          go_wp2
          refine bodyPost_ret (v := .tuple #[.agg #[.int .i64 0, .slice none 0 0], _]) (results_row_tmpE (p := 4) (u := 5) (ty := 58) rfl _ _ (w.heap.size + 1) 58 _ _ _ rfl (row2 _ _ r3) Tryd.underlying58 rfl (by kernel_rfl)) rfl ⟨_, rfl, .inr (.inl ⟨HOK.out, .inr HEB.out.symm, _, rfl⟩), ((HB3.out.drew).setCell (by simp) _).setCell (by simp) _⟩
      | true =>
        obtain ⟨b2, off, A, C, ha, hbs, hcell⟩ := HI.out.2.2 (by omega)
        obtain ⟨c1, c2, c3⟩ := hcell k hk
        have HV : Hid (EpV w K L M len key s b (.tuple #[.agg #[.int .i64 (K k), .slice (A k) (L k) (C k)], .nilIface])) := .inr (.inr ⟨HOK.out, HEB.out.symm, k, A k, C k, HF.out, rfl, c3, HS.out b2 off k _ _ _ ha hk c2⟩)
        have d1 := (HB3.out.cell (p := ⟨b2, off + k * 2, none⟩) hbs).trans c1
        have d2 := (HB3.out.cell (p := ⟨b2, off + k * 2 + 1, none⟩) hbs).trans c2
        have hltI : (k : Int) < (len : Int) := by omega
        rw [ha]
        clear hcell c1 c2 c3
        go_wp2
        refine bodyPost_ret (v := .tuple #[.agg #[.int .i64 (K k), .slice (A k) (L k) (C k)], _]) (results_row_tmpE (p := 4) (u := 5) (ty := 58) rfl _ _ (w.heap.size + 1) 58 _ _ _ rfl (row2 _ _ r3) Tryd.underlying58 rfl (by kernel_rfl)) rfl ⟨_, rfl, HV.out, ((HB3.out).setCell (by simp) _).setCell (by simp) _⟩
end Go.Proofs.YtcolcnkjcagbaaaDoor
