/-
  ReadersOf, the program's and the specification's: the members of the first epoch of the box's key. Conditions: the slices read; the box's text is not huge; errNoBox holds a pointer, the errors package's errorType is the type error.
-/
import Derived.Test.YtcolcnkjcagbaaaDoorBxT
namespace Go.Proofs.YtcolcnkjcagbaaaDoor
open Go.RowKit
set_option linter.unusedVariables false

/-- how many readers a box has, and who they are -/
def rdN (K : Nat → Int) (L : Nat → Nat) (M : Nat → Nat → Int) (len : Nat) (key : Int) (s : ByteArray) : Nat := if okB key s && Ep.epsB K L M len then (match fst K key len with | some k => L k | none => 0) else 0
def rdZ (K : Nat → Int) (M : Nat → Nat → Int) (len : Nat) (key : Int) : Nat → Int := match fst K key len with | some k => M k | none => fun _ => 0
theorem rd_no {K : Nat → Int} {L : Nat → Nat} {M : Nat → Nat → Int} {len : Nat} {key : Int} {s : ByteArray} (h : okB key s = false ∨ fst K key len = none ∨ Ep.epsB K L M len = false) : rdN K L M len key s = 0 := by
  unfold rdN
  rcases h with h | h | h
  · rw [h]; simp
  · rw [h]; simp
  · rw [h]; simp
theorem rd_yes {K : Nat → Int} {L : Nat → Nat} {M : Nat → Nat → Int} {len : Nat} {key : Int} {s : ByteArray} {k : Nat} (h1 : okB key s = true) (h2 : Ep.epsB K L M len = true) (h3 : fst K key len = some k) : rdN K L M len key s = L k ∧ rdZ K M len key = M k := by
  unfold rdN rdZ
  rw [h1, h2, h3]
  simp

set_option maxHeartbeats 1000000 in
theorem implReaders_any (a : Option Addr) (len cap : Nat) (K : Nat → Int) (L : Nat → Nat) (M : Nat → Nat → Int) (key : Int) (s : ByteArray) (b : Addr) (w : World) (h : Ep.IsEps w a len cap K L M) (hL : ∀ i, i < len → L i ≤ 1048576) (hS : Sound w a len) (hsz : s.size ≤ 1048576) (hG : w.cell? ⟨0, 0, none⟩ = some (.iface 133 (.pointer (some b)))) (hE : w.cell? ⟨1, 0, none⟩ = some (.iface 115 (.agg #[.pointer (some ⟨6, 48, none⟩)]))) (h1 : 1 < w.heap.size) :
    Calls Tryd.prog 17 #[.slice a len cap, .agg #[.int .i64 key, .string s]] w fun e w' => ∃ u c, e = .returned (.slice u (rdN K L M len key s) c) ∧ OwnZ w' w.heap.size (.slice u (rdN K L M len key s) c) (rdN K L M len key s) (rdZ K M len key) ∧ Below w.heap.size w w' := by
  have HI : Hid (Ep.IsEps w a len cap K L M) := h
  have HS : Hid (Sound w a len) := hS
  have HG := (show Hid _ from hG)
  have HE := (show Hid _ from hE)
  have H1 := (show Hid _ from h1)
  have HL : Hid (∀ i, i < len → L i ≤ 1048576) := hL
  have HC : Hid (∀ v, Below w.heap.size w v → Calls Tryd.prog 32 #[.slice a len cap, .agg #[.int .i64 key, .string s]] v fun e w' => ∃ x, e = .returned x ∧ EpV v K L M len key s b x ∧ Below v.heap.size v w') := fun v hv =>
    epochOf_any a len cap K L M key s b v (HI.out.below hv) (HS.out.below HI.out hv) hsz ((hv.cell (p := ⟨0, 0, none⟩) (by show 0 < _; omega)).trans hG) (by have := hv.size; omega)
  clear h hL hS hG hE h1
  have HB0 : Hid (Below w.heap.size w (w.alloc (.cells #[.int .i64 key, .string s] 26))) := (Below.refl _ _).alloc (Nat.le_refl _) _
  go_enter Tryd.func17, Tryd.ntmps17
  go_wp2_with fail
  refine (HC.out _ HB0.out).mono ?_
  rintro e w1 ⟨v, rfl, hv, hB1⟩
  have HB1 : Hid (Below w.heap.size w w1) := HB0.out.trans (hB1.mono HB0.out.size)
  have g1 : w1.cell? ⟨0, 0, none⟩ = some (.iface 133 (.pointer (some b))) := (HB1.out.cell (p := ⟨0, 0, none⟩) (by show 0 < _; have := H1.out; omega)).trans HG.out
  have e1 : w1.cell? ⟨1, 0, none⟩ = some (.iface 115 (.agg #[.pointer (some ⟨6, 48, none⟩)])) := (HB1.out.cell (p := ⟨1, 0, none⟩) H1.out).trans HE.out
  have z1 : 1 < w1.heap.size := Nat.lt_of_lt_of_le H1.out HB1.out.size
  rcases hv with ⟨hok, rfl⟩ | ⟨hok, hno, t, rfl⟩ | ⟨hok, heb, k, A, C, hk, rfl, hZ, hA⟩
  · have HN : Hid (rdN K L M len key s = 0) := rd_no (.inl hok)
    have hb : Below w1.heap.size w1 (w1.alloc (.cells #[.int .i64 0, .slice none 0 0] 58)) := (Below.refl _ _).alloc (Nat.le_refl _) _
    have HH := heldBox_any key b _ ((hb.cell (p := ⟨0, 0, none⟩) (by show 0 < _; omega)).trans g1) (by have := hb.size; omega)
    have HB4 : Hid (Below w.heap.size w (w1.alloc (.cells #[.int .i64 0, .slice none 0 0] 58))) := HB1.out.trans (hb.mono HB1.out.size)
    unfold refusal
    clear hok g1 e1 z1 hB1 hb
    go_wp2_with fail
    refine HH.mono ?_
    rintro e w2 ⟨rfl, hB2⟩
    go_wp2
    rw [HN.out]
    go_ret
    exact ⟨_, _, rfl, World.ownsRow_nil _ _ _ _, HB4.out.trans (hB2.mono HB4.out.size)⟩
  · have HN : Hid (rdN K L M len key s = 0) := rd_no (.inr hno)
    have hb : Below w1.heap.size w1 (w1.alloc (.cells #[.int .i64 0, .slice none 0 0] 58)) := (Below.refl _ _).alloc (Nat.le_refl _) _
    have HH := heldFar_any key t b _ ((hb.cell (p := ⟨0, 0, none⟩) (by show 0 < _; omega)).trans g1) ((hb.cell (p := ⟨1, 0, none⟩) z1).trans e1) (by have := hb.size; omega)
    have HB4 : Hid (Below w.heap.size w (w1.alloc (.cells #[.int .i64 0, .slice none 0 0] 58))) := HB1.out.trans (hb.mono HB1.out.size)
    unfold farW
    clear hok hno g1 e1 z1 hB1 hb
    go_wp2_with fail
    refine HH.mono ?_
    rintro e w2 ⟨rfl, hB2⟩
    go_wp2
    rw [HN.out]
    go_ret
    exact ⟨_, _, rfl, World.ownsRow_nil _ _ _ _, HB4.out.trans (hB2.mono HB4.out.size)⟩
  · have HN : Hid (rdN K L M len key s = L k ∧ rdZ K M len key = M k) := rd_yes hok heb hk
    have HLk : Hid (L k ≤ 1048576) := HL.out k (fst_lt hk)
    have hb : Below w1.heap.size w1 (w1.alloc (.cells #[.int .i64 (K k), .slice A (L k) C] 58)) := (Below.refl _ _).alloc (Nat.le_refl _) _
    have HH := heldNil_any b _ ((hb.cell (p := ⟨0, 0, none⟩) (by show 0 < _; omega)).trans g1) (by have := hb.size; omega)
    have HY : Hid ((w1.alloc (.cells #[.int .i64 (K k), .slice A (L k) C] 58)).heap[w1.heap.size]? = some (.cells #[.int .i64 (K k), .slice A (L k) C] 58 (0, 0))) := heap_alloc_new w1 _
    have HB4 : Hid (Below w.heap.size w (w1.alloc (.cells #[.int .i64 (K k), .slice A (L k) C] 58))) := HB1.out.trans (hb.mono HB1.out.size)
    have HZ : Hid (Ep.IsI64 (w1.alloc (.cells #[.int .i64 (K k), .slice A (L k) C] 58)) A (L k) C (M k)) := (hZ.below hB1).below hb
    have HA : Hid (A = none → L k = 0 ∧ C = 0) := hA
    clear hok heb hk hZ hA g1 e1 z1 hB1 hb
    go_wp2_with fail
    refine HH.mono ?_
    rintro e w2 ⟨rfl, hB2⟩
    have HB2 : Hid (Below w.heap.size w w2) := HB4.out.trans (hB2.mono HB4.out.size)
    have c21 : w2.cell? ⟨w1.heap.size, 1, none⟩ = some (.slice A (L k) C) := cell_of_row w2 _ 1 _ _ _ ((hB2.block _ (lt_of_block HY.out)).trans HY.out)
    have hCl := clone_any A (L k) C (M k) w2 (HZ.out.below hB2) HA.out HLk.out
    clear hB2
    go_wp2_with fail
    refine hCl.mono ?_
    rintro e w3 ⟨u, c, rfl, ho, hB3⟩
    have HO : Hid (OwnZ w3 w.heap.size (.slice u (L k) c) (L k) (M k)) := ⟨ho.1, ho.2.imp id (fun ⟨g, cap, cur, h1, h2, r⟩ => ⟨g, cap, cur, h1, Nat.le_trans HB2.out.size h2, r⟩)⟩
    have HB3 : Hid (Below w.heap.size w w3) := HB2.out.trans (hB3.mono HB2.out.size)
    clear ho hB3
    go_wp2
    rw [HN.out.1, HN.out.2]
    go_ret
    exact ⟨_, _, rfl, HO.out, HB3.out⟩

set_option maxHeartbeats 1000000 in
theorem specReaders_any (a : Option Addr) (len cap : Nat) (K : Nat → Int) (L : Nat → Nat) (M : Nat → Nat → Int) (key : Int) (s : ByteArray) (w : World) (h : Ep.IsEps w a len cap K L M) (hL : ∀ i, i < len → L i ≤ 1048576) (hS : Sound w a len) (k1 : -9223372036854775808 ≤ key) (k2 : key ≤ 9223372036854775807) :
    Calls Tryd.prog 16 #[.slice a len cap, .agg #[.int .i64 key, .string s]] w fun e w' => ∃ u c, e = .returned (.slice u (rdN K L M len key s) c) ∧ OwnZ w' w.heap.size (.slice u (rdN K L M len key s) c) (rdN K L M len key s) (rdZ K M len key) ∧ Below w.heap.size w w' := by
  have HI : Hid (Ep.IsEps w a len cap K L M) := h
  have HS : Hid (Sound w a len) := hS
  have HL : Hid (∀ i, i < len → L i ≤ 1048576) := hL
  have HB0 : Hid (Below w.heap.size w (w.alloc (.cells #[.int .i64 key, .string s] 26))) := (Below.refl _ _).alloc (Nat.le_refl _) _
  have HX : Hid ((w.alloc (.cells #[.int .i64 key, .string s] 26)).heap[w.heap.size]? = some (.cells #[.int .i64 key, .string s] 26 (0, 0))) := heap_alloc_new w _
  obtain ⟨eb, heb⟩ : ∃ eb, eb = Ep.epsB K L M len := ⟨_, rfl⟩
  have HEB : Hid (eb = Ep.epsB K L M len) := heb
  obtain ⟨ob, hob⟩ : ∃ ob, ob = okB key s := ⟨_, rfl⟩
  have HOB : Hid (ob = okB key s) := hob
  obtain ⟨f, hf⟩ : ∃ f, f = fst K key len := ⟨_, rfl⟩
  have HF : Hid (f = fst K key len) := hf
  have HE : Hid (∀ v, Below w.heap.size w v → Calls Tryd.prog 27 #[.slice a len cap] v fun e w' => e = .returned (.bool eb) ∧ Below v.heap.size v w') := fun v hv => by
    rw [HEB.out]
    exact Ep.specEpochsOk_any a len cap K L M v (h.below hv)
  have HO : Hid (∀ v, Calls Tryd.prog 7 #[.agg #[.int .i64 key, .string s]] v fun e w' => e = .returned (.bool ob) ∧ Below v.heap.size v w') := fun v => by
    rw [HOB.out]
    exact specBoxOk_any key s k1 k2 v
  have HC : Hid (∀ v, Below w.heap.size w v → Calls Tryd.prog 28 #[.slice a len cap, .int .i64 key] v fun e w' => e = .returned (.int .i64 (atV f)) ∧ Below v.heap.size v w') := fun v hv => by
    rw [HF.out]
    exact l12Epoch_any a len cap K L M key v (h.below hv)
  clear h hL hS heb hob hf k1 k2
  go_enter Tryd.func16, Tryd.ntmps16
  go_wp2_with fail
  refine (HE.out _ HB0.out).mono ?_
  rintro e w1 ⟨rfl, hB1⟩
  have HB1 : Hid (Below w.heap.size w w1) := HB0.out.trans (hB1.mono HB0.out.size)
  have x1 := (hB1.block _ (lt_of_block HX.out)).trans HX.out
  have HX1 := (show Hid _ from x1)
  have c10 : w1.cell? ⟨w.heap.size, 0, none⟩ = some (.int .i64 key) := cell_of_row w1 _ 0 _ _ _ x1
  have c11 : w1.cell? ⟨w.heap.size, 1, none⟩ = some (.string s) := cell_of_row w1 _ 1 _ _ _ x1
  clear hB1 x1
  cases eb with
  | false =>
    have HN : Hid (rdN K L M len key s = 0) := rd_no (.inr (.inr HEB.out.symm))
    go_wp2
    rw [HN.out]
    go_ret
    exact ⟨_, _, rfl, World.ownsRow_made w1 #[] 0 HB1.out.size (by decide) rfl, HB1.out.alloc HB1.out.size _⟩
  | true =>
  go_wp2_with fail
  refine (HO.out _).mono ?_
  rintro e w2 ⟨rfl, hB2⟩
  have HB2 : Hid (Below w.heap.size w w2) := HB1.out.trans (hB2.mono HB1.out.size)
  have x2 := (hB2.block _ (lt_of_block HX1.out)).trans HX1.out
  have HX2 := (show Hid _ from x2)
  have c20 : w2.cell? ⟨w.heap.size, 0, none⟩ = some (.int .i64 key) := cell_of_row w2 _ 0 _ _ _ x2
  clear hB2 x2 c10 c11
  cases ob with
  | false =>
    have HN : Hid (rdN K L M len key s = 0) := rd_no (.inl HOB.out.symm)
    go_wp2
    rw [HN.out]
    go_ret
    exact ⟨_, _, rfl, World.ownsRow_made w2 #[] 0 HB2.out.size (by decide) rfl, HB2.out.alloc HB2.out.size _⟩
  | true =>
  go_wp2_with fail
  refine (HC.out _ HB2.out).mono ?_
  rintro e w3 ⟨rfl, hB3⟩
  have HB3 : Hid (Below w.heap.size w w3) := HB2.out.trans (hB3.mono HB2.out.size)
  have x3 := (hB3.block _ (lt_of_block HX2.out)).trans HX2.out
  have HX3 := (show Hid _ from x3)
  have c30 : w3.cell? ⟨w.heap.size, 0, none⟩ = some (.int .i64 key) := cell_of_row w3 _ 0 _ _ _ x3
  clear hB3 x3 c20
  cases f with
  | none =>
    have HN : Hid (rdN K L M len key s = 0) := rd_no (.inr (.inl HF.out.symm))
    unfold atV
    go_wp2
    rw [HN.out]
    go_ret
    exact ⟨_, _, rfl, World.ownsRow_made w3 #[] 0 HB3.out.size (by decide) rfl, HB3.out.alloc HB3.out.size _⟩
  | some k =>
    have HN : Hid (rdN K L M len key s = L k ∧ rdZ K M len key = M k) := rd_yes HOB.out.symm HEB.out.symm HF.out.symm
    have hk := fst_lt HF.out.symm
    have hnn : decide ((k : Int) < 0) = false := by simp
    have hB4 : Below w3.heap.size w3 (w3.alloc (.cells #[] 2)) := (Below.refl _ _).alloc (Nat.le_refl _) _
    have HB4 : Hid (Below w.heap.size w (w3.alloc (.cells #[] 2))) := HB3.out.trans (hB4.mono HB3.out.size)
    have c40 : (w3.alloc (.cells #[] 2)).cell? ⟨w.heap.size, 0, none⟩ = some (.int .i64 key) := (hB4.cell (p := ⟨w.heap.size, 0, none⟩) (lt_of_block HX3.out)).trans c30
    have HO4 : Hid ((w3.alloc (.cells #[] 2)).ownsRow w3.heap.size 2 1 (.slice (some ⟨w3.heap.size, 0, none⟩) 0 0) 0 []) := World.ownsRow_made w3 #[] 0 (Nat.le_refl _) (by decide) rfl
    have HS3 : Hid (w.heap.size ≤ w3.heap.size) := HB3.out.size
    clear hB4
    unfold atV at *
    go_wp2_with fail
    refine (HC.out _ HB4.out).mono ?_
    rintro e w5 ⟨rfl, hB5⟩
    have HB5 : Hid (Below w.heap.size w w5) := HB4.out.trans (hB5.mono HB4.out.size)
    have HO5 : Hid (w5.ownsRow w3.heap.size 2 1 (.slice (some ⟨w3.heap.size, 0, none⟩) 0 0) 0 []) := Ep.ownsRow_below HO4.out hB5
    obtain ⟨b2, off, A, C, ha, hbs, hcell⟩ := HI.out.2.2 (by omega)
    obtain ⟨c1, c2, c3⟩ := hcell k hk
    have HA : Hid (A k = none → L k = 0 ∧ C k = 0) := HS.out b2 off k _ _ _ ha hk c2
    have HLk : Hid (L k ≤ 1048576) := HL.out k hk
    have HZ : Hid (Ep.IsI64 w5 (A k) (L k) (C k) (M k)) := c3.below HB5.out
    have d1 := (HB5.out.cell (p := ⟨b2, off + k * 2, none⟩) hbs).trans c1
    have d2 := (HB5.out.cell (p := ⟨b2, off + k * 2 + 1, none⟩) hbs).trans c2
    have hltI : (k : Int) < (len : Int) := by omega
    have HSZ : Hid (w3.heap.size ≤ w5.heap.size) := Nat.le_trans (by simp) hB5.size
    rw [ha]
    clear hcell c1 c2 c3 hB5
    generalize A k = Ak at *
    generalize C k = Ck at *
    generalize L k = Lk at *
    go_wp2_with (at_builtin
                 refine wpList_appI rfl _ _ rfl w3.heap.size (.slice (some ⟨w3.heap.size, 0, none⟩) 0 0) 0 [] Ak Lk Ck (M k) rfl rfl HO5.out HZ.out HA.out (by have := HLk.out; omega) HSZ.out ?_
                 intro v6 w6 ho6 hg6)
    rw [Nat.zero_add, List.nil_append] at ho6
    have HB6 : Hid (Below w.heap.size w w6) := HB5.out.grown hg6 HB5.out.size (fun x hx => by have hx' : some w3.heap.size = some x := hx; cases hx'; exact HS3.out)
    have ho : OwnZ w6 w.heap.size v6 Lk (M k) := ⟨ho6.1, ho6.2.imp id (fun ⟨g, cap, cur, h1, h2, r⟩ => ⟨g, cap, cur, h1, Nat.le_trans HS3.out h2, r⟩)⟩
    obtain ⟨u6, q6, rfl⟩ : ∃ u c, v6 = .slice u Lk c := by
      rcases ho6.2 with ⟨rfl, h2⟩ | ⟨g, c, cur, rfl, _⟩
      · subst h2
        exact ⟨none, 0, rfl⟩
      · exact ⟨_, c, rfl⟩
    have HO : Hid (OwnZ w6 w.heap.size (.slice u6 Lk q6) Lk (M k)) := ho
    clear ho ho6 hg6
    rw [HN.out.1, HN.out.2]
    go_ret
    exact ⟨_, _, rfl, HO.out, HB6.out⟩
end Go.Proofs.YtcolcnkjcagbaaaDoor
