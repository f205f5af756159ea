/-
  The program's ReadNode, walked: what it answers, by the lines that it reads. No condition but that the text has at most 1000 bytes.
-/
import Derived.Test.YtcaomoadkbdmgaaDoorRImp
import Derived.Deep.RegionLaw
import Derived.Laws.ResultCell
namespace Go.Proofs.YtcaomoadkbdmgaaDoor
open Go.RowKit
set_option linter.unusedVariables false

def keyR (s : ByteArray) : ByteArray := valV (restN (restN (restN s))) wKey
def txtR (s : ByteArray) : ByteArray := valV (restN (restN (restN (restN s)))) wText
def r5R (s : ByteArray) : ByteArray := restN (restN (restN (restN (restN s))))
def f5R (s : ByteArray) : Bool := valF (restN (restN (restN (restN s)))) wText (valF (restN (restN (restN s))) wKey (numF (restN (restN s)) wKind (numF (restN s) wSeq (numF s wAuthor false))))
def upR (s : ByteArray) (i : Nat) : ByteArray := valV (stU (r5R s) (f5R s) i).1 wUp
/-- has all been read, and is it right, behind j ups -/
def okR (s : ByteArray) (j : Nat) : Bool := !(stU (r5R s) (f5R s) j).2 && nodeB (rdec (valV s wAuthor)).1 (rdec (valV (restN s) wSeq)).1 (rdec (valV (restN (restN s)) wKind)).1 (keyR s) (txtR s) (upR s) j
abbrev zeroQ : Array Value := #[.int .i64 0, .int .i64 0, .int .i64 0, .string ⟨#[]⟩, .string ⟨#[]⟩, .slice none 0 0]

theorem results_row_tmp {P : Program} {fn : Func} {p u : Tmp} {ty : TypeId} (h : fn.results = #[.cell p ty, .tmp u]) (tmps : Array Value) (w : World) (g : Nat) (t : TypeId) (cs : Array Value) (fr : Nat × Nat) (d : TypeDesc)
    (hp : tmps.getD p undef = .pointer (some ⟨g, 0, none⟩)) (hg : w.heap[g]? = some (.cells cs t fr))
    (hu : P.underlying ty = some d) (hd : (match d with | .struct _ | .array _ _ => true | _ => false) = true) (hi : (P.info? ty).map (·.size) = some cs.size) :
    (results fn tmps).run P w = .ok (.tuple #[.agg cs, tmps.getD u undef]) w := by
  have hp' : tmps[p]?.getD undef = .pointer (some ⟨g, 0, none⟩) := by simpa using hp
  rw [results_cell_tmp h]
  simp [hp', asAddr, run_loadVar_row w g t ty cs fr d hg hu hd hi, Result.andThen]

theorem strs_of_own' {w : World} {base : Nat} {v : Value} {n : Nat} {xs : List Value} {S : Nat → ByteArray} (h : w.ownsRow base 9 1 v n xs) (hx : ∀ i, i < n → xs[i]? = some (.string (S i))) :
    ∃ a cap, v = .slice a n cap ∧ IsStrs w a n cap S := by
  rcases h.2 with ⟨rfl, rfl⟩ | ⟨g, cap, cur, rfl, hb, hg, hnc, hcm, hcs, htake⟩
  · exact ⟨none, 0, rfl, Nat.le_refl _, by omega, fun h => absurd h (Nat.lt_irrefl _)⟩
  · refine ⟨_, cap, rfl, hnc, by unfold maxLen at hcm; omega, fun hp => ⟨g, 0, rfl, (Array.getElem?_eq_some_iff.1 hg).1, fun i hi => ?_⟩⟩
    have := h.cells (g := g) rfl i _ (hx i hi)
    have hadd : (⟨g, 0, none⟩ : Addr).add i = ⟨g, i, none⟩ := by unfold Addr.add; split <;> simp_all
    rw [hadd] at this
    rw [Nat.zero_add]
    exact this
theorem stU_size (r : ByteArray) (f : Bool) : ∀ i, (stU r f i).1.size ≤ r.size
  | 0 => Nat.le_refl _
  | i + 1 => Nat.le_trans (restN_size _) (stU_size r f i)
theorem mono_base {w : World} {base base' : Nat} {e : TypeId} {size : Nat} {v : Value} {n : Nat} {xs : List Value} (h : w.ownsRow base e size v n xs) (hb : base' ≤ base) : w.ownsRow base' e size v n xs := by
  obtain ⟨h1, h2⟩ := h
  refine ⟨h1, ?_⟩
  rcases h2 with h2 | ⟨g, cap, cur, hv, hg, r⟩
  · exact Or.inl h2
  · exact Or.inr ⟨g, cap, cur, hv, Nat.le_trans hb hg, r⟩
theorem own_setRow {w : World} {base e size g : Nat} {v : Value} {n : Nat} {xs : List Value} (h : w.ownsRow base e size v n xs) (hg : g < base) (cs : Array Value) : (w.setRow g cs).ownsRow base e size v n xs := by
  obtain ⟨h1, h2⟩ := h
  refine ⟨h1, ?_⟩
  rcases h2 with h2 | ⟨g', cap, cur, hv, hg', hh, r⟩
  · exact Or.inl h2
  · exact Or.inr ⟨g', cap, cur, hv, hg', (setRow_other _ _ _ _ (by omega)).trans hh, r⟩

set_option maxRecDepth 20000 in
set_option maxHeartbeats 4000000 in
theorem implRead_any (s : ByteArray) (m : Int) (w : World) (hs : s.size ≤ 1000) (hm : w.cell? ⟨0, 0, none⟩ = some (.int .i64 m)) :
    Calls Tryd.prog 5 #[.string s] w fun e w' => ∃ (j : Nat) (v : Value) (xs : List Value) (q : Array Value), e = .returned (.tuple #[.agg q, .bool (okR s j)]) ∧ (∀ i, i < j → goes (stU (r5R s) (f5R s) i) = true) ∧ goes (stU (r5R s) (f5R s) j) = false ∧ (okR s j = true → q = #[.int .i64 (rdec (valV s wAuthor)).1, .int .i64 (rdec (valV (restN s) wSeq)).1, .int .i64 (rdec (valV (restN (restN s)) wKind)).1, .string (keyR s), .string (txtR s), v]) ∧ (okR s j = false → q = zeroQ) ∧ w'.ownsRow w.heap.size 9 1 v j xs ∧ (∀ i, i < j → xs[i]? = some (.string (upR s i))) ∧ j ≤ 1000 ∧ Below w.heap.size w w' := by
  have hlen : decide ((1000 : Int) < (s.size : Int)) = false := by simp; omega
  have s1 := restN_size s
  have s2 := restN_size (restN s)
  have s3 := restN_size (restN (restN s))
  have s4 := restN_size (restN (restN (restN s)))
  have s5 := restN_size (restN (restN (restN (restN s))))
  go_enter Tryd.func5, Tryd.ntmps5
  go_wp2_with fail
  obtain ⟨wa, hwa⟩ : ∃ wa, wa = (w.alloc (.cells #[.int .i64 0, .int .i64 0, .int .i64 0, .string ⟨#[]⟩, .string ⟨#[]⟩, .slice none 0 0] 24)).alloc (.cells #[.string s, .bool false] 36) := ⟨_, rfl⟩
  rw [← hwa]
  have S0 : RS w wa s false m := by
    have h3 : 0 < w.heap.size := cell_lt hm
    have hb := heap_alloc_new (w.alloc (.cells #[.int .i64 0, .int .i64 0, .int .i64 0, .string ⟨#[]⟩, .string ⟨#[]⟩, .slice none 0 0] 24)) (.cells #[.string s, .bool false] 36)
    have hb' : wa.heap[w.heap.size + 1]? = some (.cells #[.string s, .bool false] 36) := by rw [hwa]; simpa using hb
    have hB : Below w.heap.size w wa := by rw [hwa]; exact ((Below.refl _ _).alloc (Nat.le_refl _) _).alloc (by simp) _
    refine ⟨⟨cellN hb', cellN hb', frozN hb', frozN hb'⟩, (hB.cell (p := ⟨0, 0, none⟩) h3).trans hm, hB, ?_, h3⟩
    rw [hwa, Below.heap_alloc _ _ _ (by simp)]
    exact heap_alloc_new w _
  clear hwa hm
  refine (number_any _ s wAuthor false m wa (by omega) (by decide) S0.rd S0.m).mono ?_
  rintro e w1 ⟨rfl, R1, g1⟩
  have S1 := S0.step R1 g1
  clear S0 R1 g1
  go_wp2_with fail
  refine (number_any _ (restN s) wSeq _ m w1 (by omega) (by decide) S1.rd S1.m).mono ?_
  rintro e w2 ⟨rfl, R2, g2⟩
  have S2 := S1.step R2 g2
  clear S1 R2 g2
  go_wp2_with fail
  refine (number_any _ (restN (restN s)) wKind _ m w2 (by omega) (by decide) S2.rd S2.m).mono ?_
  rintro e w3 ⟨rfl, R3, g3⟩
  have S3 := S2.step R3 g3
  clear S2 R3 g3
  generalize hna_ : (rdec (valV s wAuthor)).1 = na at *
  have Hna_ : Hid ((rdec (valV s wAuthor)).1 = na) := hna_
  clear hna_
  generalize hns_ : (rdec (valV (restN s) wSeq)).1 = ns at *
  have Hns_ : Hid ((rdec (valV (restN s) wSeq)).1 = ns) := hns_
  clear hns_
  generalize hnk_ : (rdec (valV (restN (restN s)) wKind)).1 = nk at *
  have Hnk_ : Hid ((rdec (valV (restN (restN s)) wKind)).1 = nk) := hnk_
  clear hnk_
  go_wp2_with fail
  have hN : w.heap.size + 1 < w3.heap.size := cell_lt S3.rd.c0
  have T4 := S3.alloc (.cells #[.int .i64 na, .int .i64 ns, .int .i64 nk, .string ⟨#[]⟩, .string ⟨#[]⟩, .slice none 0 0] 24)
  have N4 := ND.new w3 na ns nk ⟨#[]⟩ ⟨#[]⟩ (.slice none 0 0) 24
  refine (value_any _ (restN (restN (restN s))) wKey _ m _ (by omega) (by decide) T4.rd T4.m).mono ?_
  generalize w3.heap.size = N at *
  rintro e w5 ⟨rfl, R5, g5⟩
  have S5 := T4.step R5 g5
  have N5 := N4.kept g5 (by simp; omega)
  have c53 := N5.c3
  have f53 := N5.z 3
  clear S3 T4 N4 R5 g5 hlen
  go_wp2_with fail
  have S6 := S5.own hN (grown_set (grown_refl w5 _) 3 (.string (valV (restN (restN (restN s))) wKey)))
  have N6 := N5.set3 (valV (restN (restN (restN s))) wKey)
  refine (value_any _ (restN (restN (restN (restN s)))) wText _ m _ (by omega) (by decide) S6.rd S6.m).mono ?_
  rintro e w7 ⟨rfl, R7, g7⟩
  have S7 := S6.step R7 g7
  have N7 := N6.kept g7 (by simp; omega)
  have c74 := N7.c4
  have f74 := N7.z 4
  clear S5 S6 N5 N6 R7 g7 c53 f53
  go_wp2_with fail
  have S8 := S7.own hN (grown_set (grown_refl w7 _) 4 (.string (valV (restN (restN (restN (restN s)))) wText)))
  have N8 := N7.set4 (valV (restN (restN (restN (restN s)))) wText)
  have hk0 := valV_size (restN (restN (restN s))) wKey
  have ht0 := valV_size (restN (restN (restN (restN s)))) wText
  have hr5 : (restN (restN (restN (restN (restN s))))).size ≤ 1000 := by omega
  have hkey : (valV (restN (restN (restN s))) wKey).size ≤ 1000 := by omega
  have htx : (valV (restN (restN (restN (restN s)))) wText).size ≤ 1000 := by omega
  have S8' : RS w _ (restN (restN (restN (restN (restN s))))) _ m := S8
  clear S8 S7 N7 c74 f74 s1 s2 s3 s4 s5 hk0 ht0
  generalize htx_ : valV (restN (restN (restN (restN s)))) wText = tx at *
  have Htx_ : Hid (valV (restN (restN (restN (restN s)))) wText = tx) := htx_
  clear htx_
  generalize hkey_ : valV (restN (restN (restN s))) wKey = key at *
  have Hkey_ : Hid (valV (restN (restN (restN s))) wKey = key) := hkey_
  clear hkey_
  generalize w7.setCell ⟨N, 4, none⟩ (.string tx) = w8 at *
  generalize hr5_ : restN (restN (restN (restN (restN s)))) = r5 at *
  have Hr5_ : Hid (restN (restN (restN (restN (restN s)))) = r5) := hr5_
  clear hr5_
  generalize hf5_ : valF (restN (restN (restN (restN s)))) wText (valF (restN (restN (restN s))) wKey (numF (restN (restN s)) wKind (numF (restN s) wSeq (numF s wAuthor false)))) = f5 at *
  have Hf5_ : Hid (valF (restN (restN (restN (restN s)))) wText (valF (restN (restN (restN s))) wKey (numF (restN (restN s)) wKind (numF (restN s) wSeq (numF s wAuthor false)))) = f5) := hf5_
  clear hf5_
  obtain ⟨i0, hi, hz0, hz1, hz2⟩ := info_parts info9'
  have he := empty_list
  go_loopw [20] (fun _ wr => ∃ (j : Nat) (v : Value) (xs : List Value), RS w wr (stU r5 f5 j).1 (stU r5 f5 j).2 m ∧ ND wr N na ns nk key tx v ∧ wr.ownsRow (N + 1) 9 1 v j xs ∧ Hid (∀ i, i < j → xs[i]? = some (.string (valV (stU r5 f5 i).1 wUp))) ∧ Hid (∀ i, i < j → goes (stU r5 f5 i) = true) ∧ j + (stU r5 f5 j).1.size ≤ 1000)
    (fun _ wr => rdLen wr (w.heap.size + 1))
  case atStart => exact ⟨0, .slice none 0 0, [], S8', N8, World.ownsRow_nil _ _ _ _, fun i hi => absurd hi (Nat.not_lt_zero _), fun i hi => absurd hi (Nat.not_lt_zero _), by show 0 + r5.size ≤ 1000; omega⟩
  case round =>
    obtain ⟨j, v, xs, S, Nd0, how, HX, HG, hjs⟩ := hrel
    have HS := (show Hid (RS w wr (stU r5 f5 j).1 (stU r5 f5 j).2 m) from S)
    have HN := (show Hid (ND wr N na ns nk key tx v) from Nd0)
    have HO := (show Hid (wr.ownsRow (N + 1) 9 1 v j xs) from how)
    have c0 := S.rd.c0
    have c1 := S.rd.c1
    have c5 := Nd0.c5
    have f5' := Nd0.z 5
    have hNl := cell_lt Nd0.c0
    clear S Nd0 how S8' N8
    cases hE : (stU r5 f5 j).1.toList.isEmpty with
    | true =>
      cases hF : (stU r5 f5 j).2 with
      | true =>
        have hgf : goes (stU r5 f5 j) = false := by unfold goes; rw [hF]; simp
        obtain ⟨q, hq⟩ : ∃ q, q = zeroQ := ⟨_, rfl⟩
        have hi6 : (Tryd.prog.info? 24).map (·.size) = some q.size := by rw [hq]; exact info24
        have ho6 : (#[Value.int .i64 0, .int .i64 0, .int .i64 0, .string ⟨#[]⟩, .string ⟨#[]⟩, .slice none 0 0] : Array Value).size = q.size := by rw [hq]
        have h16 : q.all (·.oneCell') = true := by rw [hq]; simp [Value.oneCell']
        have HQQ : Hid (q = zeroQ) := hq
        clear hq
        have HOK : Hid (okR s j = false) := by
          show _ = _
          unfold okR
          rw [show r5R s = r5 from Hr5_.out, show f5R s = f5 from Hf5_.out, hF]
          rfl
        have HGF : Hid (goes (stU r5 f5 j) = false) := hgf
        rw [hF] at c1
        clear hF hgf
        go_wp2_with (refine wpList_store_row rfl 24 _ _ rfl w.heap.size q rfl (congrArg Value.agg HQQ.out.symm) 24 _ HS.out.z hi6 ho6 h16 ?_)
        refine bodyPost_ret (results_row_tmp rfl _ _ w.heap.size 24 _ _ _ rfl (setRow_heap _ _ _ _ _ _ HS.out.z) Tryd.underlying24 rfl hi6) rfl ⟨j, v, xs, q, ?_, ?_, ?_, ?_, ?_, ?_, ?_, ?_, ?_⟩
        · exact ret_val (by rw [HOK.out]; rfl)
        · rw [show r5R s = r5 from Hr5_.out, show f5R s = f5 from Hf5_.out]; exact HG.out
        · rw [show r5R s = r5 from Hr5_.out, show f5R s = f5 from Hf5_.out]; exact HGF.out
        · intro h; rw [HOK.out] at h; cases h
        · exact fun _ => HQQ.out
        · exact mono_base (own_setRow HO.out (by omega) _) (by omega)
        · intro i hi
          unfold upR
          rw [show r5R s = r5 from Hr5_.out, show f5R s = f5 from Hf5_.out]
          exact HX.out i hi
        · omega
        · exact below_setRow HS.out.b (Nat.le_refl _) _
      | false =>
        have hgf : goes (stU r5 f5 j) = false := by unfold goes; rw [hE]; rfl
        have HGF : Hid (goes (stU r5 f5 j) = false) := hgf
        obtain ⟨ua, uc, hv, hIS⟩ := strs_of_own' HO.out HX.out
        subst hv
        have hsz : ∀ i, i < j → (valV (stU r5 f5 i).1 wUp).size ≤ 9223372036854775807 := fun i _ => by
          have h1 := valV_size (stU r5 f5 i).1 wUp
          have h2 := stU_size r5 f5 i
          omega
        have HC : Hid (Calls Tryd.prog 14 #[.agg #[.int .i64 na, .int .i64 ns, .int .i64 nk, .string key, .string tx, .slice ua j uc]] wr fun e w' => e = .returned (.bool (nodeB na ns nk key tx (fun i => valV (stU r5 f5 i).1 wUp) j)) ∧ Below wr.heap.size wr w') := implNodeOk_any na ns nk key tx ua j uc (fun i => valV (stU r5 f5 i).1 wUp) wr hIS hsz (by omega) (by omega)
        have HOK : Hid (okR s j = nodeB na ns nk key tx (fun i => valV (stU r5 f5 i).1 wUp) j) := by
          show _ = _
          unfold okR
          have e1 : upR s = fun i => valV (stU r5 f5 i).1 wUp := by
            funext i
            unfold upR
            rw [show r5R s = r5 from Hr5_.out, show f5R s = f5 from Hf5_.out]
          rw [e1, show r5R s = r5 from Hr5_.out, show f5R s = f5 from Hf5_.out, hF, Hna_.out, Hns_.out, Hnk_.out, show keyR s = key from Hkey_.out, show txtR s = tx from Htx_.out]
          rfl
        have d0 := HN.out.c0
        have d1 := HN.out.c1
        have d2 := HN.out.c2
        have d3 := HN.out.c3
        have d4 := HN.out.c4
        rw [hF] at c1
        clear hF hgf hIS hsz
        cases hb : nodeB na ns nk key tx (fun i => valV (stU r5 f5 i).1 wUp) j with
        | false =>
          obtain ⟨q, hq⟩ : ∃ q, q = zeroQ := ⟨_, rfl⟩
          have hi6 : (Tryd.prog.info? 24).map (·.size) = some q.size := by rw [hq]; exact info24
          have ho6 : (#[Value.int .i64 0, .int .i64 0, .int .i64 0, .string ⟨#[]⟩, .string ⟨#[]⟩, .slice none 0 0] : Array Value).size = q.size := by rw [hq]
          have h16 : q.all (·.oneCell') = true := by rw [hq]; simp [Value.oneCell']
          have HQQ : Hid (q = zeroQ) := hq
          clear hq
          rw [hb] at HC HOK
          clear hb
          go_wp2_with (first
            | (go_at_call 14; refine HC.out.mono ?_; rintro e w2 ⟨rfl, hB2⟩; have HB2 : Hid (Below wr.heap.size wr w2) := hB2; have HZ2 : Hid (w2.heap[w.heap.size]? = some (.cells #[.int .i64 0, .int .i64 0, .int .i64 0, .string ⟨#[]⟩, .string ⟨#[]⟩, .slice none 0 0] 24)) := (hB2.block _ (lt_of_block HS.out.z)).trans HS.out.z; clear hB2)
            | (refine wpList_store_row rfl 24 _ _ rfl w.heap.size q rfl (congrArg Value.agg HQQ.out.symm) 24 _ HZ2.out hi6 ho6 h16 ?_))
          refine bodyPost_ret (results_row_tmp rfl _ _ w.heap.size 24 _ _ _ rfl (setRow_heap _ _ _ _ _ _ HZ2.out) Tryd.underlying24 rfl hi6) rfl ⟨j, .slice ua j uc, xs, q, ?_, ?_, ?_, ?_, ?_, ?_, ?_, ?_, ?_⟩
          · exact ret_val (by rw [HOK.out]; rfl)
          · rw [show r5R s = r5 from Hr5_.out, show f5R s = f5 from Hf5_.out]; exact HG.out
          · rw [show r5R s = r5 from Hr5_.out, show f5R s = f5 from Hf5_.out]; exact HGF.out
          · intro h; rw [HOK.out] at h; cases h
          · exact fun _ => HQQ.out
          · exact mono_base (own_setRow (ownsRow_below HO.out HB2.out) (by omega) _) (by omega)
          · intro i hi
            unfold upR
            rw [show r5R s = r5 from Hr5_.out, show f5R s = f5 from Hf5_.out]
            exact HX.out i hi
          · omega
          · exact below_setRow (HS.out.b.trans (HB2.out.mono HS.out.b.size)) (Nat.le_refl _) _
        | true =>
          obtain ⟨q, hq⟩ : ∃ q, q = #[Value.int .i64 na, .int .i64 ns, .int .i64 nk, .string key, .string tx, .slice ua j uc] := ⟨_, rfl⟩
          have hi6 : (Tryd.prog.info? 24).map (·.size) = some q.size := by rw [hq]; exact info24
          have ho6 : (#[Value.int .i64 0, .int .i64 0, .int .i64 0, .string ⟨#[]⟩, .string ⟨#[]⟩, .slice none 0 0] : Array Value).size = q.size := by rw [hq]; rfl
          have h16 : q.all (·.oneCell') = true := by rw [hq]; simp [Value.oneCell']
          have HQQ : Hid (q = #[Value.int .i64 na, .int .i64 ns, .int .i64 nk, .string key, .string tx, .slice ua j uc]) := hq
          clear hq
          rw [hb] at HC HOK
          clear hb
          go_wp2_with (first
            | (go_at_call 14; refine HC.out.mono ?_; rintro e w2 ⟨rfl, hB2⟩; have HB2 : Hid (Below wr.heap.size wr w2) := hB2; have HZ2 : Hid (w2.heap[w.heap.size]? = some (.cells #[.int .i64 0, .int .i64 0, .int .i64 0, .string ⟨#[]⟩, .string ⟨#[]⟩, .slice none 0 0] 24)) := (hB2.block _ (lt_of_block HS.out.z)).trans HS.out.z; have N2 := HN.out.kept (row := none) ⟨hB2.os, hB2.tape, hB2.output, hB2.size, fun k hk _ => hB2.block k hk⟩ (by simp); have k0 := N2.c0; have k1 := N2.c1; have k2 := N2.c2; have k3 := N2.c3; have k4 := N2.c4; have k5 := N2.c5; clear hB2 N2)
            | (refine wpList_store_row rfl 24 _ _ rfl w.heap.size q rfl (congrArg Value.agg HQQ.out.symm) 24 _ HZ2.out hi6 ho6 h16 ?_))
          refine bodyPost_ret (results_row_tmp rfl _ _ w.heap.size 24 _ _ _ rfl (setRow_heap _ _ _ _ _ _ HZ2.out) Tryd.underlying24 rfl hi6) rfl ⟨j, .slice ua j uc, xs, q, ?_, ?_, ?_, ?_, ?_, ?_, ?_, ?_, ?_⟩
          · exact ret_val (by rw [HOK.out]; rfl)
          · rw [show r5R s = r5 from Hr5_.out, show f5R s = f5 from Hf5_.out]; exact HG.out
          · rw [show r5R s = r5 from Hr5_.out, show f5R s = f5 from Hf5_.out]; exact HGF.out
          · intro _
            rw [HQQ.out, Hna_.out, Hns_.out, Hnk_.out, show keyR s = key from Hkey_.out, show txtR s = tx from Htx_.out]
          · intro h; rw [HOK.out] at h; cases h
          · exact mono_base (own_setRow (ownsRow_below HO.out HB2.out) (by omega) _) (by omega)
          · intro i hi
            unfold upR
            rw [show r5R s = r5 from Hr5_.out, show f5R s = f5 from Hf5_.out]
            exact HX.out i hi
          · omega
          · exact below_setRow (HS.out.b.trans (HB2.out.mono HS.out.b.size)) (Nat.le_refl _) _
    | false =>
      cases hF : (stU r5 f5 j).2 with
      | true =>
        have hgf : goes (stU r5 f5 j) = false := by unfold goes; rw [hF]; simp
        obtain ⟨q, hq⟩ : ∃ q, q = zeroQ := ⟨_, rfl⟩
        have hi6 : (Tryd.prog.info? 24).map (·.size) = some q.size := by rw [hq]; exact info24
        have ho6 : (#[Value.int .i64 0, .int .i64 0, .int .i64 0, .string ⟨#[]⟩, .string ⟨#[]⟩, .slice none 0 0] : Array Value).size = q.size := by rw [hq]
        have h16 : q.all (·.oneCell') = true := by rw [hq]; simp [Value.oneCell']
        have HQQ : Hid (q = zeroQ) := hq
        clear hq
        have HOK : Hid (okR s j = false) := by
          show _ = _
          unfold okR
          rw [show r5R s = r5 from Hr5_.out, show f5R s = f5 from Hf5_.out, hF]
          rfl
        have HGF : Hid (goes (stU r5 f5 j) = false) := hgf
        rw [hF] at c1
        clear hF hgf
        go_wp2_with (refine wpList_store_row rfl 24 _ _ rfl w.heap.size q rfl (congrArg Value.agg HQQ.out.symm) 24 _ HS.out.z hi6 ho6 h16 ?_)
        refine bodyPost_ret (results_row_tmp rfl _ _ w.heap.size 24 _ _ _ rfl (setRow_heap _ _ _ _ _ _ HS.out.z) Tryd.underlying24 rfl hi6) rfl ⟨j, v, xs, q, ?_, ?_, ?_, ?_, ?_, ?_, ?_, ?_, ?_⟩
        · exact ret_val (by rw [HOK.out]; rfl)
        · rw [show r5R s = r5 from Hr5_.out, show f5R s = f5 from Hf5_.out]; exact HG.out
        · rw [show r5R s = r5 from Hr5_.out, show f5R s = f5 from Hf5_.out]; exact HGF.out
        · intro h; rw [HOK.out] at h; cases h
        · exact fun _ => HQQ.out
        · exact mono_base (own_setRow HO.out (by omega) _) (by omega)
        · intro i hi
          unfold upR
          rw [show r5R s = r5 from Hr5_.out, show f5R s = f5 from Hf5_.out]
          exact HX.out i hi
        · omega
        · exact below_setRow HS.out.b (Nat.le_refl _) _
      | false =>
        have hgo : goes (stU r5 f5 j) = true := by unfold goes; rw [hE, hF]; rfl
        have hlt := restN_lt hE
        have hst1 : (stU r5 f5 (j + 1)).1 = restN (stU r5 f5 j).1 := rfl
        have hst2 : (stU r5 f5 (j + 1)).2 = valF (stU r5 f5 j).1 wUp (stU r5 f5 j).2 := rfl
        have HV : Hid (Calls Tryd.prog 13 #[.pointer (some ⟨w.heap.size + 1, 0, none⟩), .string wUp] wr.drew fun e w' => e = .returned (.string (valV (stU r5 f5 j).1 wUp)) ∧ Rd w' (w.heap.size + 1) (restN (stU r5 f5 j).1) (valF (stU r5 f5 j).1 wUp (stU r5 f5 j).2) ∧ wr.drew.grownBy w' (some (w.heap.size + 1))) := value_any _ _ wUp _ m wr.drew (by omega) (by decide) HS.out.drew.rd HS.out.drew.m
        have hmx : j + 1 ≤ maxLen := by unfold maxLen; omega
        have hbt : (j + 1) * 16 ≤ 140737488355328 := by omega
        have HX' : Hid (∀ i, i < j + 1 → (xs ++ [Value.string (valV (stU r5 f5 j).1 wUp)])[i]? = some (.string (valV (stU r5 f5 i).1 wUp))) := by
          have hxl : xs.length = j := by have := HO.out.1; omega
          intro i hi
          rcases Nat.lt_succ_iff_lt_or_eq.1 hi with h1 | rfl
          · rw [List.getElem?_append_left (by omega)]; exact HX.out i h1
          · rw [List.getElem?_append_right (by omega), hxl, Nat.sub_self]; rfl
        have HG' : Hid (∀ i, i < j + 1 → goes (stU r5 f5 i) = true) := by
          intro i hi
          rcases Nat.lt_succ_iff_lt_or_eq.1 hi with h1 | rfl
          · exact HG.out i h1
          · exact hgo
        have HJ : Hid (j + 1 + (restN (stU r5 f5 j).1).size ≤ 1000 ∧ (restN (stU r5 f5 j).1).size < (stU r5 f5 j).1.size) := ⟨by omega, hlt⟩
        have H1 := (show Hid ((stU r5 f5 (j + 1)).1 = restN (stU r5 f5 j).1) from hst1)
        have H2 := (show Hid ((stU r5 f5 (j + 1)).2 = valF (stU r5 f5 j).1 wUp (stU r5 f5 j).2) from hst2)
        rw [hF] at c1
        have hso : ∀ x ∈ [Value.string (valV (stU r5 f5 j).1 wUp)], x.oneCell' = true := by simp [Value.oneCell']
        clear hst1 hst2 hgo hlt hF HX HG
        go_wp2
        go_region_law (first
          | (go_simp; go_at_call 13; refine HV.out.mono ?_; rintro e wv ⟨rfl, Rv, gv⟩; have h7 : wv.cell? ⟨N, 5, none⟩ = some v := gv.cell (show wr.drew.cell? ⟨N, 5, none⟩ = some v from c5) (by simp; omega); have h7a : (wv.alloc (.cells #[.string (valV (stU r5 f5 j).1 wUp)] 9)).cell? ⟨N, 5, none⟩ = some v := (World.grownBy_alloc wv _ none).cell h7 (by simp); have h7f : wv.frozen? ⟨N, 5, none⟩ = false := (World.frozen?_of_block (gv.block N hNl (by simp; omega))).trans f5')
          | (refine step_append_lies _ rfl _ _ 22 rfl (N + 1) 9 i0 (.string ⟨#[]⟩) 1 16 Tryd.underlying22 hi hz0 hz1 hz2 rfl (by decide) v j xs rfl ((own_kept (show wr.drew.ownsRow (N + 1) 9 1 v j xs from HO.out) gv (fun k hk => by cases hk; omega)).alloc _) ⟨wv.heap.size, 0, none⟩ 1 1 [.string (valV (stU r5 f5 j).1 wUp)] rfl rfl (World.news_of_block (heap_alloc_new _ _)) hso (by decide) hmx hbt (by have := gv.size; have h9 : wr.drew.heap.size = wr.heap.size := rfl; simp; omega) _ rfl ?_; intro g cap' w9 hown9 hgrow9 hat9 hlt9; have h8 : w9.cell? ⟨N, 5, none⟩ = some v := hgrow9.cell ((World.grownBy_alloc wv _ none).cell h7 (by simp)) (fun e => by have := ((own_kept (show wr.drew.ownsRow (N + 1) 9 1 v j xs from HO.out) gv (fun k hk => by cases hk; omega)).lt N e.symm).1; omega); have h8f : w9.frozen? ⟨N, 5, none⟩ = false := (World.frozen?_of_block (hgrow9.block N (by have := gv.size; have h9 : wr.drew.heap.size = wr.heap.size := rfl; simp; omega) (fun e => by have := ((own_kept (show wr.drew.ownsRow (N + 1) 9 1 v j xs from HO.out) gv (fun k hk => by cases hk; omega)).lt N e.symm).1; omega))).trans ((World.frozen?_of_block ((World.grownBy_alloc wv _ none).block N (by have := gv.size; have h9 : wr.drew.heap.size = wr.heap.size := rfl; omega) (by simp))).trans h7f)))
        all_goals
          have hOB : ∀ k, v.ownBlock = some k → N + 1 ≤ k := fun k hk => (HO.out.lt k hk).1
          have HSf : Hid (RS w (w9.setCell ⟨N, 5, none⟩ (.slice (some ⟨g, 0, none⟩) (j + 1) cap')) (stU r5 f5 (j + 1)).1 (stU r5 f5 (j + 1)).2 m) := by
            rw [H1.out, H2.out]
            exact (((HS.out.drew.step Rv gv).alloc (.cells #[.string (valV (stU r5 f5 j).1 wUp)] 9)).grown (fun k hk => by have := hOB k hk; omega) hgrow9).own hN (grown_set (grown_refl w9 _) 5 _)
          have HNf : Hid (ND (w9.setCell ⟨N, 5, none⟩ (.slice (some ⟨g, 0, none⟩) (j + 1) cap')) N na ns nk key tx (.slice (some ⟨g, 0, none⟩) (j + 1) cap')) :=
            ((((show ND wr.drew N na ns nk key tx v from ⟨HN.out.c0, HN.out.c1, HN.out.c2, HN.out.c3, HN.out.c4, HN.out.c5, HN.out.z⟩).kept gv (by simp; omega)).kept (World.grownBy_alloc wv _ none) (by simp)).kept hgrow9 (fun e => by have := hOB N e.symm; omega)).set5 _
          have HOf : Hid ((w9.setCell ⟨N, 5, none⟩ (.slice (some ⟨g, 0, none⟩) (j + 1) cap')).ownsRow (N + 1) 9 1 (.slice (some ⟨g, 0, none⟩) (j + 1) cap') (j + 1) (xs ++ [.string (valV (stU r5 f5 j).1 wUp)])) := own_kept hown9 (grown_set (grown_refl w9 (some N)) 5 _) (fun k hk => by cases hk; omega)
          clear hown9 hgrow9 hat9 hlt9 h8 h8f h7 h7a h7f Rv gv hOB
          go_wp2
          go_roundw
          case rel => exact ⟨j + 1, _, _, HSf.out, HNf.out, HOf.out, HX', HG', by rw [H1.out]; exact HJ.out.1⟩
          case measure => rw [rdLen_eq HSf.out.rd, rdLen_eq HS.out.rd, H1.out]; exact HJ.out.2
end Go.Proofs.YtcaomoadkbdmgaaDoor
