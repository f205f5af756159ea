/-
  The law of ReadersOf returns true. Conditions: the slices read; errNoBox holds a pointer, the errors package's errorType is the type error.
-/
import Derived.Test.YtcolcnkjcagbaaaDoorBxN
import Derived.Test.YtcolcnkjcagbaaaDoorOqEpsB
namespace Go.Proofs.YtcolcnkjcagbaaaDoor
open Go.RowKit
set_option linter.unusedVariables false

theorem sound_own {w : World} {base top g len : Nat} {L : Nat → Nat} (h : Ep.OwnEp w base top g len L) : Sound w (some ⟨g, 0, none⟩) len := by
  obtain ⟨xs, G, ho, _, hall⟩ := h
  intro b off i u l c e hi hc hu
  simp only [Option.some.injEq, Addr.mk.injEq, and_true] at e
  obtain ⟨rfl, rfl⟩ := e
  obtain ⟨_, h2, _⟩ := hall i hi
  have hx : xs.length = len * 2 := ho.1
  rw [Nat.zero_add, ho.cellAt (i * 2 + 1) (by omega), h2] at hc
  simp only [Option.some.injEq, Value.slice.injEq] at hc
  rw [hu] at hc
  cases hc.1
theorem ints_z {w : World} {base : Nat} {u : Option Addr} {n c : Nat} {Z : Nat → Int} (h : OwnZ w base (.slice u n c) n Z) : Ep.IsI64 w u n c Z ∧ ∀ b off, u = some ⟨b, off, none⟩ → base ≤ b ∧ b < w.heap.size := by
  obtain ⟨a, cap, e, hI, hb⟩ := Ep.ints_of_own (Z := Z) h (fun i hi => by simp [hi])
  simp only [Value.slice.injEq, true_and] at e
  obtain ⟨rfl, rfl⟩ := e
  exact ⟨hI, hb⟩
theorem OwnZ.kept {p : Nat → Prop} {w w' : World} {base n : Nat} {v : Value} {xs : List Value} (h : w.ownsRow base 2 1 v n xs) (hK : Kept p w w') (hp : ∀ b, base ≤ b → p b) : w'.ownsRow base 2 1 v n xs := by
  obtain ⟨h1, h2⟩ := h
  refine ⟨h1, ?_⟩
  rcases h2 with h2 | ⟨g, cap, cur, hv, hg, hh, r⟩
  · exact Or.inl h2
  · exact Or.inr ⟨g, cap, cur, hv, hg, (hK.block _ (lt_of_block hh) (hp _ hg)).trans hh, r⟩
theorem szBox_left (key : Int) (s : ByteArray) (left : Int) (h0 : 0 ≤ left) (h1 : left ≤ 1048576) (hs : s.size ≤ 9223372036854775807) (w : World) :
    Calls Tryd.prog 6 #[.agg #[.int .i64 key, .string s], .int .i64 left] w fun e w' => ∃ r : Int, e = .returned (.int .i64 r) ∧ Hid (r < 0 ∨ 0 ≤ r ∧ s.size ≤ 1048576) ∧ Below w.heap.size w w' := by
  by_cases h : (s.size : Int) ≤ left
  · have hI : ¬ (left - (s.size : Int) < 0) := by omega
    have HH : Hid (left - s.size < 0 ∨ 0 ≤ left - s.size ∧ s.size ≤ 1048576) := .inr ⟨by omega, by omega⟩
    clear h
    go_enter Tryd.func6, Tryd.ntmps6
    go_wp2
    go_ret
    exact ⟨_, rfl, HH, (Below.refl _ _).alloc (Nat.le_refl _) _⟩
  · have hI : (left - (s.size : Int) < 0) := by omega
    have HH : Hid ((-1 : Int) < 0 ∨ 0 ≤ (-1 : Int) ∧ s.size ≤ 1048576) := .inl (by omega)
    clear h
    go_enter Tryd.func6, Tryd.ntmps6
    go_wp2
    go_ret
    exact ⟨_, rfl, HH, (Below.refl _ _).alloc (Nat.le_refl _) _⟩

theorem eps_few {K : Nat → Int} {L : Nat → Nat} {M : Nat → Nat → Int} {len i : Nat} (h : Ep.epsB K L M len = true) (hi : i < len) : L i ≤ 5 ∧ len ≤ 5 := by
  unfold Ep.epsB Ep.epsTo at h
  rw [Bool.and_eq_true, List.all_eq_true] at h
  have h1 := h.2 i (List.mem_range.2 hi)
  rw [Bool.and_eq_true] at h1
  have h2 := h1.2
  unfold Ep.epB at h2
  rw [Bool.and_eq_true, Bool.and_eq_true] at h2
  exact ⟨(Ep.few (L i) h2.1.2 h2.2).2, of_decide_eq_true h.1⟩
theorem rdN_le {K : Nat → Int} {L : Nat → Nat} {M : Nat → Nat → Int} {len : Nat} {key : Int} {s : ByteArray} : rdN K L M len key s ≤ 5 := by
  unfold rdN
  split
  · rename_i h
    rw [Bool.and_eq_true] at h
    split
    · rename_i k hk; exact (eps_few h.2 (fst_lt hk)).1
    · omega
  · omega

set_option maxHeartbeats 8000000 in
theorem readers_walk (a : Option Addr) (len cap : Nat) (D : (Nat → Int) × (Nat → Nat) × (Nat → Nat → Int)) (key : Int) (s : ByteArray) (b : Addr) (w : World) (hI : IsEps w a len cap D) (_ : EFine D len) (k1 : -9223372036854775808 ≤ key) (k2 : key ≤ 9223372036854775807) (hs9 : s.size ≤ 9223372036854775807)
    (hG : w.cell? ⟨0, 0, none⟩ = some (.iface 133 (.pointer (some b)))) (hE : w.cell? ⟨1, 0, none⟩ = some (.iface 115 (.agg #[.pointer (some ⟨6, 48, none⟩)]))) (h1 : 1 < w.heap.size) :
    Calls Tryd.prog 5 #[.slice a len cap, .agg #[.int .i64 key, .string s]] w fun e w' => e = .returned (.bool true) ∧ Below w.heap.size w w' := by
  obtain ⟨K, L, M⟩ := D
  have HI : Hid (Ep.IsEps w a len cap K L M) := hI
  have HG := (show Hid _ from hG)
  have HE := (show Hid _ from hE)
  have H1 := (show Hid _ from h1)
  have HK : Hid (-9223372036854775808 ≤ key ∧ key ≤ 9223372036854775807 ∧ s.size ≤ 9223372036854775807) := ⟨k1, k2, hs9⟩
  have HB0 : Hid (Below w.heap.size w (w.alloc (.cells #[.int .i64 key, .string s] 23))) := (Below.refl _ _).alloc (Nat.le_refl _) _
  have HX : Hid ((w.alloc (.cells #[.int .i64 key, .string s] 23)).heap[w.heap.size]? = some (.cells #[.int .i64 key, .string s] 23 (0, 0))) := heap_alloc_new w _
  have HC : Hid (∀ v, Below (w.alloc (.cells #[.int .i64 key, .string s] 23)).heap.size (w.alloc (.cells #[.int .i64 key, .string s] 23)) v → v.cell? ⟨w.heap.size, 0, none⟩ = some (.int .i64 key) ∧ v.cell? ⟨w.heap.size, 1, none⟩ = some (.string s)) := fun v hv =>
    ⟨cell_of_row v _ 0 _ _ _ ((hv.block _ (lt_of_block HX.out)).trans HX.out), cell_of_row v _ 1 _ _ _ ((hv.block _ (lt_of_block HX.out)).trans HX.out)⟩
  have HGE : Hid (∀ v, Below w.heap.size w v → v.cell? ⟨0, 0, none⟩ = some (.iface 133 (.pointer (some b))) ∧ v.cell? ⟨1, 0, none⟩ = some (.iface 115 (.agg #[.pointer (some ⟨6, 48, none⟩)])) ∧ 1 < v.heap.size) := fun v hv =>
    ⟨(hv.cell (p := ⟨0, 0, none⟩) (by show 0 < _; have := H1.out; omega)).trans HG.out, (hv.cell (p := ⟨1, 0, none⟩) H1.out).trans HE.out, Nat.lt_of_lt_of_le H1.out hv.size⟩
  clear hI hG hE h1 k1 k2 hs9
  go_enter Tryd.func5, Tryd.ntmps5
  go_wp2_with fail
  refine (Ep.szEpochS_any a len cap K L M _ (HI.out.below HB0.out)).mono ?_
  rintro e w1 ⟨r, rfl, hr, d1⟩
  have b1 := HB0.out.trans (d1.mono HB0.out.size)
  rcases hr with hr | ⟨hr0, hr1, hl, hL⟩
  · go_wp2
    go_ret
    exact ⟨rfl, b1⟩
  have HL : Hid (∀ i, i < len → L i ≤ 1048576) := hL
  clear hL
  obtain ⟨c10, c11⟩ := HC.out _ d1
  go_wp2_with fail
  refine (szBox_left key s r hr0 hr1 HK.out.2.2 _).mono ?_
  rintro e w2 ⟨r3, rfl, hr3, hB2⟩
  have b2 := b1.trans (hB2.mono b1.size)
  have d2 := d1.trans (hB2.mono d1.size)
  clear c10 c11 d1
  rcases hr3.out with hr3 | ⟨hr30, hsz⟩
  · go_wp2
    go_ret
    exact ⟨rfl, b2⟩
  clear hr0 hr1 hr3 hB2
  obtain ⟨c20, c21⟩ := HC.out _ d2
  have B2 : Hid (Below w.heap.size w w2) := b2
  have D2 : Hid (Below (w.alloc (.cells #[.int .i64 key, .string s] 23)).heap.size (w.alloc (.cells #[.int .i64 key, .string s] 23)) w2) := d2
  clear b2 d2 b1
  obtain ⟨n, hn⟩ : ∃ n, n = rdN K L M len key s := ⟨_, rfl⟩
  obtain ⟨Z, hZ⟩ : ∃ Z, Z = rdZ K M len key := ⟨_, rfl⟩
  have HN : Hid (n ≤ 5) := by rw [hn]; exact rdN_le
  have HSP : Hid (∀ v g, Ep.IsEps v (some ⟨g, 0, none⟩) len len K L M → Sound v (some ⟨g, 0, none⟩) len → Calls Tryd.prog 16 #[.slice (some ⟨g, 0, none⟩) len len, .agg #[.int .i64 key, .string s]] v fun e w' => ∃ u c, e = .returned (.slice u n c) ∧ OwnZ w' v.heap.size (.slice u n c) n Z ∧ Below v.heap.size v w') := fun v g p q => by
    rw [hn, hZ]
    exact specReaders_any _ len len K L M key s v p HL.out q HK.out.1 HK.out.2.1
  have HIM : Hid (∀ v g, Ep.IsEps v (some ⟨g, 0, none⟩) len len K L M → Sound v (some ⟨g, 0, none⟩) len → Below w.heap.size w v → Calls Tryd.prog 17 #[.slice (some ⟨g, 0, none⟩) len len, .agg #[.int .i64 key, .string s]] v fun e w' => ∃ u c, e = .returned (.slice u n c) ∧ OwnZ w' v.heap.size (.slice u n c) n Z ∧ Below v.heap.size v w') := fun v g p q hv => by
    rw [hn, hZ]
    obtain ⟨x1, x2, x3⟩ := HGE.out v hv
    exact implReaders_any _ len len K L M key s b v p HL.out q hsz x1 x2 x3
  clear hn hZ
  go_wp2_with fail
  go_region_with (first
    | (go_at_call 12; (refine (Ep.toEpochS_own a len cap K L M w2.drew (HI.out.below B2.out.drew) hl HL).mono ?_; rintro e wa ⟨ga, rfl, ja, oa, hBa⟩; have BA : Hid (Below w.heap.size w wa) := B2.out.drew.trans (hBa.mono B2.out.drew.size); have da := D2.out.drew.trans (hBa.mono D2.out.drew.size); obtain ⟨ca0, ca1⟩ := HC.out _ da; have DA : Hid (Below (w.alloc (.cells #[.int .i64 key, .string s] 23)).heap.size (w.alloc (.cells #[.int .i64 key, .string s] 23)) wa) := da; have JA : Hid (Ep.IsEps wa (some ⟨ga, 0, none⟩) len len K L M) := ja; have SA : Hid (Sound wa (some ⟨ga, 0, none⟩) len) := sound_own oa; clear da ja oa hBa))
    | (go_at_call 8; (refine (toBox_any key s wa).mono ?_; rintro e wb ⟨rfl, hBb⟩; have BB : Hid (Below w.heap.size w wb) := BA.out.trans (hBb.mono BA.out.size); have DB : Hid (Below (w.alloc (.cells #[.int .i64 key, .string s] 23)).heap.size (w.alloc (.cells #[.int .i64 key, .string s] 23)) wb) := DA.out.trans (hBb.mono DA.out.size); have JB : Hid (Ep.IsEps wb (some ⟨ga, 0, none⟩) len len K L M) := JA.out.below hBb; have SB : Hid (Sound wb (some ⟨ga, 0, none⟩) len) := SA.out.below JA.out hBb; clear hBb))
    | (go_at_call 16; (refine (HSP.out wb ga JB.out SB.out).mono ?_; rintro e wc ⟨ac, cc, rfl, oc, hBc⟩; have BC : Hid (Below w.heap.size w wc) := BB.out.trans (hBc.mono BB.out.size); have DC : Hid (Below (w.alloc (.cells #[.int .i64 key, .string s] 23)).heap.size (w.alloc (.cells #[.int .i64 key, .string s] 23)) wc) := DB.out.trans (hBc.mono DB.out.size); have IC : Hid (Ep.IsI64 wc ac n cc Z) := (ints_z oc).1; clear oc hBc)))
  all_goals
    have bc := BC.out
    have dc := DC.out
    have ic := IC.out
    clear B2 D2 BA DA JA SA BB DB JB SB BC DC IC
    go_wp2_with fail
    refine (Ep.toEpochS_own a len cap K L M _ (HI.out.below bc) hl HL).mono ?_
    rintro e wd ⟨gd, rfl, jd, od, hBd⟩
    have bd := bc.trans (hBd.mono bc.size)
    have dd := dc.trans (hBd.mono dc.size)
    obtain ⟨c10, c11⟩ := HC.out _ dd
    have sd := sound_own od
    go_wp2_with fail
    refine (toBox_any key s _).mono ?_
    rintro e we ⟨rfl, hBe⟩
    have be := bd.trans (hBe.mono bd.size)
    clear c10 c11 dd
    have HTE : Hid (wd.heap.size ≤ we.heap.size ∧ wc.heap.size ≤ wd.heap.size ∧ w.heap.size ≤ wc.heap.size) := ⟨hBe.size, hBd.size, bc.size⟩
    go_wp2_with fail
    refine (HIM.out _ gd (jd.below hBe) (sd.below jd hBe) be).mono ?_
    rintro e wf ⟨af, cf, rfl, of, hBf⟩
    have bf := be.trans (hBf.mono be.size)
    obtain ⟨jf, qf⟩ := ints_z of
    have HQF : Hid (∀ b off, af = some ⟨b, off, none⟩ → we.heap.size ≤ b ∧ b < wf.heap.size) := qf
    have HOF : Hid (wf.ownsRow we.heap.size 2 1 (.slice af n cf) n ((List.range n).map fun i => .int .i64 (Z i))) := of
    have Ccf : Below wc.heap.size wc wf := hBd.trans ((hBe.trans (hBf.mono hBe.size)).mono hBd.size)
    have Hdf : Below wd.heap.size wd wf := hBe.trans (hBf.mono hBe.size)
    clear of qf sd
    go_wp2_with fail
    refine (Ep.eqInt64_same af ac n cf cc Z _ jf (ic.below Ccf)).mono ?_
    rintro e wg ⟨rfl, hBg⟩
    have bg := bf.trans (hBg.mono bf.size)
    have Hdg : Below wd.heap.size wd wg := Hdf.trans (hBg.mono Hdf.size)
    go_wp2_with fail
    refine (Ep.toEpochS_any a len cap K L M _ (HI.out.below bg) hl HL).mono ?_
    rintro e wh ⟨gh, rfl, jh, hBh⟩
    have bh := bg.trans (hBh.mono bg.size)
    have Hdh : Below wd.heap.size wd wh := Hdg.trans (hBh.mono Hdg.size)
    go_wp2_with fail
    refine (Ep.eqEpochS_same _ _ _ _ _ K L M _ (jd.below Hdh) jh).mono ?_
    rintro e wi ⟨rfl, hBi⟩
    have bi := bh.trans (hBi.mono bh.size)
    have Hdi : Below wd.heap.size wd wi := Hdh.trans (hBi.mono Hdh.size)
    have Hfi : Below wf.heap.size wf wi := hBg.trans ((hBh.trans (hBi.mono hBh.size)).mono hBg.size)
    have Cci : Below wc.heap.size wc wi := hBd.trans (Hdi.mono hBd.size)
    have ok := od.below Hdi
    have jfk := jf.below Hfi
    have ofk : wi.ownsRow we.heap.size 2 1 (.slice af n cf) n ((List.range n).map fun i => .int .i64 (Z i)) := Ep.ownsRow_below HOF.out Hfi
    have sck : wc.heap.size ≤ wi.heap.size := Cci.size
    clear hBd hBe hBf hBg hBh hBi Hdf Hdg Hdh Hdi Hfi Ccf jd jf jh od
    go_wp2_with fail
    refine (Ep.markEpochS_any wc.heap.size wd.heap.size gd len L _ ok hl HL).mono ?_
    rintro e wl ⟨kr, rfl, hk0, hk1, hKl⟩
    have Ccl0 : Below wc.heap.size wi wl := (hKl.mono (q := fun k => k < wc.heap.size) (fun k hk => .inl hk)).below sck
    have bl := bi.trans (Ccl0.mono bc.size)
    have Ccl := Cci.trans Ccl0
    have jfl := jfk.kept hKl (fun b off e => .inr (by have := HQF.out b off e; have := HTE.out; omega))
    have ofl := OwnZ.kept ofk hKl (fun b hb => .inr (by have := HTE.out; omega))
    have hkn : decide ((kr : Int) < 0) = false := by simp
    clear hKl jfk ofk ok Ccl0 hk1
    go_wp2_with fail
    refine (Ep.eqInt64_same af ac n cf cc Z _ jfl (ic.below Ccl)).mono ?_
    rintro e wn ⟨rfl, hBn⟩
    have bn := bl.trans (hBn.mono bl.size)
    have Ccn := Ccl.trans (hBn.mono Ccl.size)
    have ofn : wn.ownsRow we.heap.size 2 1 (.slice af n cf) n ((List.range n).map fun i => .int .i64 (Z i)) := Ep.ownsRow_below ofl hBn
    clear hkn jfl ofl hBn
    go_wp2_with fail
    refine (Ep.markInt64S_any af n cf we.heap.size ((List.range n).map fun i => .int .i64 (Z i)) 1 _ ofn (by have := HN.out; omega)).mono ?_
    rintro e wo ⟨rfl, oo, hGo⟩
    have hrow : ∀ k, (Value.slice af n cf).ownBlock = some k → we.heap.size ≤ k := fun k hk => (ofn.lt k hk).1
    have bo := bn.grown hGo bn.size (fun k hk => by have := hrow k hk; have := be.size; omega)
    have Cco := Ccn.grown hGo Ccn.size (fun k hk => by have := hrow k hk; have := HTE.out; omega)
    have io : Ep.IsI64 wo af n cf (fun i => ((1 + i : Nat) : Int)) := by
      obtain ⟨a', cap', e', hI, _⟩ := Ep.ints_of_own (Z := fun i => ((1 + i : Nat) : Int)) oo (fun i hi => Ep.imarksK_at hi)
      simp only [Value.slice.injEq, true_and] at e'
      obtain ⟨rfl, rfl⟩ := e'
      exact hI
    clear ofn hGo hrow oo
    have hq1 : decide (((1 + n : Nat) : Int) < 0) = false := by simp; omega
    have hq2 : ((((1 + n : Nat) : Int)) != ((1 + n : Nat) : Int)) = false := by simp
    go_wp2_with fail
    refine (Ep.heldInt64S_any af n cf _ io (by have := HN.out; omega)).mono ?_
    rintro e wp ⟨rfl, hBp⟩
    have BP : Hid (Below w.heap.size w wp) := bo.trans (hBp.mono bo.size)
    have CP : Hid (Below wc.heap.size wc wp) := Cco.trans (hBp.mono Cco.size)
    have IP : Hid (Ep.IsI64 wp af n cf (fun i => ((1 + i : Nat) : Int))) := io.below hBp
    have ICC : Hid (Ep.IsI64 wc ac n cc Z) := ic
    have DP : Hid (Below (w.alloc (.cells #[.int .i64 key, .string s] 23)).heap.size (w.alloc (.cells #[.int .i64 key, .string s] 23)) wp) := dc.trans (CP.out.mono dc.size)
    obtain ⟨cp0, cp1⟩ := HC.out _ DP.out
    clear bd be bf bg bh bi bl bn bo Cco Ccn Ccl Cci io hBp ic sck dc bc
    go_wp2_with fail
    go_region_with (first
      | (go_at_call 12; (refine (Ep.toEpochS_own a len cap K L M wp.drew (HI.out.below BP.out.drew) hl HL).mono ?_; rintro e wq ⟨gq, rfl, jq, oq, hBq⟩; have BQ : Hid (Below w.heap.size w wq) := BP.out.drew.trans (hBq.mono BP.out.drew.size); have dq := DP.out.drew.trans (hBq.mono DP.out.drew.size); obtain ⟨cq0, cq1⟩ := HC.out _ dq; have CQ : Hid (Below wp.heap.size wp wq) := Below.trans (show Below wp.heap.size wp wp.drew from (Below.refl _ _).drew) hBq; have JQ : Hid (Ep.IsEps wq (some ⟨gq, 0, none⟩) len len K L M) := jq; have SQ : Hid (Sound wq (some ⟨gq, 0, none⟩) len) := sound_own oq; clear dq jq oq hBq))
      | (go_at_call 8; (refine (toBox_any key s wq).mono ?_; rintro e wr ⟨rfl, hBr⟩; have BR : Hid (Below w.heap.size w wr) := BQ.out.trans (hBr.mono BQ.out.size); have CR : Hid (Below wp.heap.size wp wr) := CQ.out.trans (hBr.mono CQ.out.size); have JR : Hid (Ep.IsEps wr (some ⟨gq, 0, none⟩) len len K L M) := JQ.out.below hBr; have SR : Hid (Sound wr (some ⟨gq, 0, none⟩) len) := SQ.out.below JQ.out hBr; clear hBr))
      | (go_at_call 17; (refine (HIM.out wr gq JR.out SR.out BR.out).mono ?_; rintro e ws ⟨as1, cs, rfl, os, hBs⟩; have BS : Hid (Below w.heap.size w ws) := BR.out.trans (hBs.mono BR.out.size); have CS : Hid (Below wp.heap.size wp ws) := CR.out.trans (hBs.mono CR.out.size); have JS : Hid (Ep.IsI64 ws as1 n cs Z) := (ints_z os).1; clear os hBs)))
    all_goals
      go_wp2_with fail
      refine (Ep.eqInt64_same as1 ac n cs cc Z _ JS.out (ICC.out.below (CP.out.trans (CS.out.mono CP.out.size)))).mono ?_
      rintro e wt ⟨rfl, hBt⟩
      have bt := BS.out.trans (hBt.mono BS.out.size)
      have IT := (IP.out.below CS.out).below hBt
      go_wp2_with fail
      refine (Ep.heldInt64S_any af n cf _ IT (by have := HN.out; omega)).mono ?_
      rintro e wu ⟨rfl, hBu⟩
      have bu := bt.trans (hBu.mono bt.size)
      go_wp2
      go_ret
      exact ⟨rfl, bu⟩
end Go.Proofs.YtcolcnkjcagbaaaDoor
