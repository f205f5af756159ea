/-
  The specification's SeqIds. No condition but that the slice reads.
-/
import Derived.Test.YtjfciokpnhnhbaaSqJ
namespace Go.Proofs.Ytjfciokpnhnhbaa
open Go.RowKit
set_option linter.unusedVariables false

set_option maxHeartbeats 1000000 in
theorem gone_any (a : Option Addr) (len cap : Nat) (D : Nat → Ev) (z : Int) (w : World) (h : IsEvs w a len cap D) :
    Calls Try.prog 62 #[.slice a len cap, .int .i64 z] w fun e w' => e = .returned (.bool (delB D len z)) ∧ w' = w := by
  obtain ⟨hlc, hcm, hc⟩ := h
  go_enter Try.func62, Try.ntmps62
  go_wp2
  go_loop [5] (fun i => ∃ (k : Nat), k ≤ len ∧ i = .int .i64 k ∧ Hid (delB D k z = false)) (fun i => len - (Go.RowKit.intOf i).toNat)
  case atStart => exact ⟨0, Nat.zero_le _, rfl, rfl⟩
  case round =>
    obtain ⟨k, hk, rfl, HA⟩ := hrel
    by_cases hlt : k < len
    · obtain ⟨b, off, rfl, hbs, hcell⟩ := hc (by omega)
      obtain ⟨c0, c1, c2, c3⟩ := hcell k hlt
      have hltI : (k : Int) < (len : Int) := by omega
      obtain ⟨x, hx⟩ : ∃ x, x = D k := ⟨_, rfl⟩
      rw [← hx] at c1 c2
      have HS : Hid (delB D (k + 1) z = (x.b == 2 && x.c == z)) := by show _ = _; rw [delB_succ, HA.out, hx]; rfl
      have HT : Hid ((x.b == 2 && x.c == z) = true → delB D len z = true) := fun e => by
        unfold delB
        rw [List.any_eq_true]
        exact ⟨k, List.mem_range.2 hlt, by rw [← hx]; exact e⟩
      clear hcell hc c0 c3 hx
      cases hb1 : (x.b == 2) with
      | false =>
        have HR : Hid (delB D (k + 1) z = false) := by show _ = _; rw [HS.out, hb1]; rfl
        go_wp2
        go_round
        case rel => exact ⟨k + 1, by omega, by go_num, HR⟩
        case measure => simp [Go.RowKit.intOf]; omega
      | true =>
        cases hb2 : (x.c == z) with
        | false =>
          have HR : Hid (delB D (k + 1) z = false) := by show _ = _; rw [HS.out, hb1, hb2]; rfl
          go_wp2
          go_round
          case rel => exact ⟨k + 1, by omega, by go_num, HR⟩
          case measure => simp [Go.RowKit.intOf]; omega
        | true =>
          have HR : Hid (delB D len z = true) := HT.out (by rw [hb1, hb2]; rfl)
          go_wp2
          go_ret
          exact ⟨ret_bool HR.out.symm, rfl⟩
    · have hke : k = len := by omega
      subst hke
      clear hc
      go_wp2
      go_ret
      exact ⟨ret_bool HA.out.symm, rfl⟩

/-- what is still to come when the first i ops are left -/
def restP (D : Nat → Ev) (n i : Nat) (z : Int) : List Int := (kids D i z).reverse.flatMap fun y => y :: ord D n y
theorem restP_yes {D : Nat → Ev} {n i : Nat} {z : Int} (h : ((D i).b == 1 && (D i).c == z) = true) : restP D n (i + 1) z = ((D i).a :: ord D n (D i).a) ++ restP D n i z := by
  unfold restP
  rw [kids_yes h, List.reverse_append]
  rfl
theorem restP_no {D : Nat → Ev} {n i : Nat} {z : Int} (h : ((D i).b == 1 && (D i).c == z) = false) : restP D n (i + 1) z = restP D n i z := by
  unfold restP
  rw [kids_no h]
theorem ord_len {D : Nat → Ev} {n : Nat} (hok : allB (okS D) n = true) (z : Int) : (ord D n z).length ≤ n := ins_list (ord_nodup hok z) (fun x hx => (ord_gt hok z x hx).2)

set_option maxRecDepth 10000 in
set_option maxHeartbeats 4000000 in
theorem walk10_any {a : Option Addr} {len cap : Nat} {D : Nat → Ev} {w0 : World} (h : IsEvs w0 a len cap D) (hok : allB (okS D) len = true) (h40 : len ≤ 40) :
    ∀ z (v : Value) (L : List Int) (w : World), Below w0.heap.size w0 w → OwnI w w0.heap.size v L → (L.length : Int) ≤ 2000 * z →
      Calls Try.prog 61 #[.slice a len cap, .int .i64 z, v] w fun e w' => ∃ v', e = .returned v' ∧ OwnI w' w0.heap.size v' (L ++ ord D len z) ∧ Below w0.heap.size w0 w' := by
  have HE : Hid (0 < len → ∃ b off, a = some ⟨b, off, none⟩ ∧ ∀ w', Below w0.heap.size w0 w' → ∀ i, i < len → EvAt w' b (off + i * 4) (D i)) := fun hp => by
    obtain ⟨b, off, e, hb, hc⟩ := h.2.2 hp
    exact ⟨b, off, e, fun w' hB i hi => (hc i hi).grow hb hB⟩
  have HOK : Hid (allB (okS D) len = true) := hok
  clear h hok
  refine down_ind (fun z ih => ?_)
  intro v L w hB hO hL
  obtain ⟨i0, hi, hz0, hz1, hz2⟩ := info_parts infoI6
  have HO0 : Hid (OwnI w w0.heap.size v L ∧ Below w0.heap.size w0 w) := ⟨hO, hB⟩
  obtain ⟨va, vc, ev⟩ := hO.slice
  obtain ⟨vn, hvn⟩ : ∃ n, n = L.length := ⟨_, rfl⟩
  rw [← hvn] at ev
  subst ev
  have HL : Hid ((L.length : Int) ≤ 2000 * z ∧ (ord D len z).length ≤ 40) := ⟨hL, Nat.le_trans (ord_len HOK.out z) h40⟩
  have hw0 : IntKind.i64.wrap ((len : Int) - 1) = (len : Int) - 1 := by rw [IntKind.wrap_i64]; omega
  have HIH := (show Hid _ from ih)
  clear hO hB hL hvn ih
  go_enter Try.func61, Try.ntmps61
  go_wp2
  go_loopw [2, 7] (fun u i wr => ∃ (k : Nat) (uv : Value), k ≤ len ∧ i = .int .i64 ((k : Int) - 1) ∧ uv = u ∧ Hid (∃ M, OwnI wr w0.heap.size uv M ∧ M ++ restP D len k z = L ++ ord D len z ∧ Below w0.heap.size w0 wr)) (fun _ i _ => (Go.RowKit.intOf i + 1).toNat)
  case atStart => exact ⟨len, _, Nat.le_refl _, rfl, rfl, L, HO0.out.1, by rw [ord_eq HOK.out z]; rfl, HO0.out.2⟩
  case round =>
    obtain ⟨k, uv, hk, rfl, rfl, HI⟩ := hrel
    obtain ⟨M, hM1, hM2, hM3⟩ := HI.out
    have HM : Hid (OwnI wr w0.heap.size uv M ∧ M ++ restP D len k z = L ++ ord D len z ∧ Below w0.heap.size w0 wr) := ⟨hM1, hM2, hM3⟩
    obtain ⟨ua, uc, eu⟩ := hM1.slice
    obtain ⟨m, hm⟩ : ∃ m, m = M.length := ⟨_, rfl⟩
    rw [← hm] at eu
    subst eu
    have HML : Hid (m = M.length ∧ (M.length : Int) ≤ 2000 * z + 40) := ⟨hm, by
      have e := congrArg List.length hM2
      rw [List.length_append, List.length_append] at e
      have := HL.out
      omega⟩
    clear HI hM1 hM2 hM3 hm
    by_cases hk0 : 0 < k
    · obtain ⟨j, rfl⟩ : ∃ j, k = j + 1 := ⟨k - 1, by omega⟩
      have hj : j < len := by omega
      obtain ⟨b, off, rfl, hcell⟩ := HE.out (by omega)
      obtain ⟨c0, c1, c2, c3⟩ := hcell wr HM.out.2.2 j hj
      obtain ⟨x, hx⟩ : ∃ x, x = D j := ⟨_, rfl⟩
      rw [← hx] at c0 c1 c2
      have hjI : (j : Int) < (len : Int) := by omega
      have hj1 : ((j + 1 : Nat) : Int) - 1 = (j : Int) := by omega
      have hw1 : IntKind.i64.wrap ((j : Int) - 1) = (j : Int) - 1 := by rw [IntKind.wrap_i64]; omega
      have HX : Hid (x = D j ∧ j < len) := ⟨hx, hj⟩
      have HC0 : Hid (∀ w', Below w0.heap.size w0 w' → w'.cell? ⟨b, off + j * 4, none⟩ = some (.int .i64 x.a)) := fun w' hB => by rw [hx]; exact (hcell w' hB j hj).c0
      rw [hj1]
      clear hcell c3 hx hj1 hj hk hk0
      cases hb : (x.b == 1 && x.c == z) with
      | false =>
        have HR : Hid (M ++ restP D len j z = L ++ ord D len z) := by
          show _ = _
          rw [← HM.out.2.1, restP_no (by rw [← HX.out.1]; exact hb)]
        cases hb1 : (x.b == 1) with
        | false =>
          clear hb
          go_wp2
          go_roundw
          case rel => exact ⟨j, _, by have := HX.out.2; omega, rfl, rfl, M, HM.out.1, HR.out, HM.out.2.2⟩
          case measure => simp [Go.RowKit.intOf] <;> omega
        | true =>
          have hb2 : (x.c == z) = false := by rw [hb1] at hb; simpa using hb
          clear hb
          go_wp2
          go_roundw
          case rel => exact ⟨j, _, by have := HX.out.2; omega, rfl, rfl, M, HM.out.1, HR.out, HM.out.2.2⟩
          case measure => simp [Go.RowKit.intOf] <;> omega
      | true =>
        obtain ⟨hb1, hb2⟩ : (x.b == 1) = true ∧ (x.c == z) = true := by simpa using hb
        obtain ⟨y, hy⟩ : ∃ y, y = x.a := ⟨_, rfl⟩
        have HY : Hid (z < y ∧ y ≤ 1000000 ∧ (M ++ [y]) ++ ord D len y ++ restP D len j z = L ++ ord D len z) := by
          have hkid : y ∈ kids D len z := by
            have e1 : (D j).b = 1 := by rw [← HX.out.1]; exact eq_of_beq hb1
            have e2 : (D j).c = z := by rw [← HX.out.1]; exact eq_of_beq hb2
            have := kid_of HX.out.2 e1
            rw [e2, ← HX.out.1, ← hy] at this
            exact this
          have hl := kid_lt HOK.out hkid
          refine ⟨hl.1, hl.2.2, ?_⟩
          rw [← HM.out.2.1, restP_yes (by rw [← HX.out.1]; exact hb), ← HX.out.1, ← hy]
          simp
        have HC : Hid (∀ w', Below w0.heap.size w0 w' → w'.cell? ⟨b, off + j * 4, none⟩ = some (.int .i64 y)) := fun w' hB => by rw [hy]; exact HC0.out w' hB
        rw [← hy] at c0
        have hBo : Below wr.heap.size wr (wr.alloc (.cells #[.int .i64 y] 2)) := (Below.refl _ _).alloc (Nat.le_refl _) _
        have HOW : Hid ((wr.alloc (.cells #[.int .i64 y] 2)).ownsRow w0.heap.size 2 1 (.slice ua m uc) m (M.map (.int .i64 ·))) := by
          have := HM.out.1.below hBo
          unfold OwnI at this
          rw [← HML.out.1] at this
          exact this
        have HNW : Hid (∀ j v, ([Value.int .i64 y] : List Value)[j]? = some v → (wr.alloc (.cells #[.int .i64 y] 2)).cell? ((⟨wr.heap.size, 0, none⟩ : Addr).add j) = some v) := by
          show ∀ j v, _
          have := World.news_of_block (heap_alloc_new wr (.cells #[.int .i64 y] 2))
          simpa using this
        have HMX9 : Hid (m + 1 ≤ maxLen ∧ (m + 1) * 8 ≤ 140737488355328 ∧ w0.heap.size ≤ (wr.alloc (.cells #[.int .i64 y] 2)).heap.size) := ⟨by unfold maxLen; have := HML.out; have := HY.out; omega, by have := HML.out; have := HY.out; omega, by have := HM.out.2.2.size; simp; omega⟩
        have HFIN : Hid (∀ v7 w7, w7.ownsRow w0.heap.size 2 1 v7 (m + 1) (M.map (.int .i64 ·) ++ [.int .i64 y]) → (wr.alloc (.cells #[.int .i64 y] 2)).grownBy w7 (Value.slice ua m uc).ownBlock → OwnI w7 w0.heap.size v7 (M ++ [y]) ∧ Below w0.heap.size w0 w7) := fun v7 w7 hown hgrow => by
          refine ⟨?_, ?_⟩
          · unfold OwnI
            rw [List.map_append, List.length_append, ← HML.out.1]
            exact hown
          · have hb := HM.out.2.2.alloc HM.out.2.2.size (.cells #[.int .i64 y] 2)
            exact hb.grown hgrow hb.size (fun x hx => (World.ownsRow.lt HM.out.1 x hx).1)
        have HCALL : Hid (∀ v7 w7, OwnI w7 w0.heap.size v7 (M ++ [y]) → Below w0.heap.size w0 w7 → Calls Try.prog 61 #[.slice (some ⟨b, off, none⟩) len cap, .int .i64 y, v7] w7 fun e w' => ∃ v', e = .returned v' ∧ OwnI w' w0.heap.size v' ((M ++ [y]) ++ ord D len y) ∧ Below w0.heap.size w0 w') := fun v7 w7 ho hb => HIH.out y HY.out.1 HY.out.2.1 v7 (M ++ [y]) w7 hb ho (by rw [List.length_append]; have := HML.out; have := HY.out; simp; omega)
        clear hBo hb hy
        go_wp2_with (first
          | (at_builtin
             refine wpList_append_own _ rfl _ _ 37 rfl w0.heap.size 2 i0 (.int .i64 0) 1 8 Try.underlying37 hi hz0 hz1 hz2 rfl (by decide) (.slice ua m uc) m _ rfl HOW.out ⟨wr.heap.size, 0, none⟩ 1 1 [.int .i64 y] rfl rfl HNW.out (by simp [Value.oneCell']) HMX9.out.1 HMX9.out.2.1 HMX9.out.2.2 ?_
             intro v7 w7 hown7 hgrow7 hnil7
             have HF7 := (show Hid _ from HFIN.out v7 w7 hown7 hgrow7)
             have d0 := HC.out w7 HF7.out.2
             clear hown7 hgrow7 hnil7)
          | (go_at_call 61
             refine (HCALL.out v7 w7 HF7.out.1 HF7.out.2).mono ?_
             rintro e w8 ⟨v8, rfl, ho8, hb8⟩))
        go_roundw
        case rel => exact ⟨j, _, by have := HX.out.2; omega, rfl, rfl, _, ho8, HY.out.2.2, hb8⟩
        case measure => simp [Go.RowKit.intOf] <;> omega
    · have hk1 : k = 0 := by omega
      subst hk1
      have HEND : Hid (OwnI wr w0.heap.size (.slice ua m uc) (L ++ ord D len z) ∧ Below w0.heap.size w0 wr) := by
        have e := HM.out.2.1
        have e2 : M = L ++ ord D len z := by rw [← e]; show M = M ++ []; simp
        rw [← e2]
        exact ⟨HM.out.1, HM.out.2.2⟩
      go_wp2
      go_ret
      exact ⟨_, rfl, HEND.out.1, HEND.out.2⟩
end Go.Proofs.Ytjfciokpnhnhbaa
