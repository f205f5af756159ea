/-
  Marks that are laid on rows, from a greater number on. No condition but that the slices read.
-/
import Derived.Test.YtjnngncnfbdpkaaRwX
namespace Go.Proofs.Ytjnngncnfbdpkaa
open Go.RowKit
set_option linter.unusedVariables false

set_option maxHeartbeats 1000000 in
theorem markI2_any (base : Nat) (v : Value) (L : List Int) (s : Nat) (w : World) (h : OwnI w base v L) (hb : L.length ≤ 1048576) (hs : s ≤ 4398046511104) :
    Calls Try.prog 32 #[v, .int .i64 (s : Int)] w fun e w' => e = .returned (.int .i64 ((s + L.length : Nat) : Int)) ∧ OwnI w' base v (marksI s L.length) ∧ w.grownBy w' v.ownBlock := by
  obtain ⟨a, cap, rfl⟩ := h.slice
  obtain ⟨len, hlen⟩ : ∃ len, len = L.length := ⟨_, rfl⟩
  have HO0 : Hid (w.ownsRow base 2 1 (.slice a len cap) len (L.map (.int .i64 ·))) := by rw [hlen]; exact h
  have hr : ∀ w' : World, w'.ownsRow base 2 1 (.slice a len cap) len ((marksI s len).map (.int .i64 ·)) → OwnI w' base (.slice a len cap) (marksI s len) := fun w' q => by unfold OwnI; rw [marksI_len]; exact q
  have HR := (show Hid _ from hr)
  have hcap : cap ≤ 9223372036854775807 ∧ len ≤ cap := by
    obtain ⟨a', c', e, h1, h2, _⟩ := h.rd
    simp at e
    obtain ⟨_, rfl⟩ := e
    rw [hlen]
    exact ⟨h2, h1⟩
  rw [← hlen] at hb ⊢
  clear hlen h hr
  obtain ⟨hcm, hlc⟩ := hcap
  go_enter Try.func32, Try.ntmps32
  go_wp2
  go_loopw [1, 5] (fun x i wr => ∃ (j : Nat) (xs : List Value), j ≤ len ∧ i = .int .i64 j ∧ x = .int .i64 ((s + j : Nat) : Int) ∧ wr.ownsRow base 2 1 (.slice a len cap) len xs ∧ Hid (∀ t, t < j → xs[t]? = some (.int .i64 ((s + t : Nat) : Int))) ∧ w.grownBy wr (Value.slice a len cap).ownBlock)
    (fun _ i _ => len - (intOf i).toNat)
  case atStart => exact ⟨0, _, Nat.zero_le _, rfl, rfl, HO0.out, fun t ht => absurd ht (Nat.not_lt_zero _), World.grownBy.refl _ _⟩
  case round =>
    obtain ⟨j, xs, hj, rfl, rfl, how, HA, hG⟩ := hrel
    by_cases hlt : j < len
    · obtain ⟨g, rfl⟩ : ∃ g, a = some ⟨g, 0, none⟩ := by
        rcases how.2 with ⟨h', h0⟩ | ⟨g, cap', cur, h', _⟩
        · omega
        · simp only [Value.slice.injEq] at h'
          exact ⟨g, h'.1⟩
      have hltI : (j : Int) < (len : Int) := by omega
      have hxl : xs.length = len * 1 := how.1
      have f1 := how.frozenAt j
      obtain ⟨v1, e1⟩ := own_some how j (by omega)
      have HO : Hid (_) := how
      have HG : Hid (_) := hG
      clear how hG
      go_wp2
      go_roundw
      case rel =>
        refine ⟨j + 1, xs.set j (.int .i64 ((s + j : Nat) : Int)), by omega, by go_num, by go_num, (World.ownsRow.stored HO.out _ _).1, ?_, HG.out.trans (World.ownsRow.stored HO.out _ _).2⟩
        intro t ht
        rcases Nat.lt_succ_iff_lt_or_eq.1 ht with h1 | rfl
        · rw [List.getElem?_set_ne (by omega)]
          exact HA.out t h1
        · rw [List.getElem?_set_self (by omega)]
      case measure => simp [intOf]; omega
    · have hje : j = len := by omega
      subst hje
      have hm : xs = (marksI s j).map (.int .i64 ·) := marksI_of (by have := how.1; omega) HA.out
      have HO : Hid (wr.ownsRow base 2 1 (.slice a j cap) j ((marksI s j).map (.int .i64 ·))) := by rw [← hm]; exact how
      clear how hm
      go_wp2
      go_ret
      exact ⟨rfl, HR.out _ HO.out, hG⟩

set_option maxRecDepth 10000 in
set_option maxHeartbeats 4000000 in
theorem markRows2_any (lo hi : Nat) (v : Value) (L : List Rw) (s : Nat) (w : World) (h : OwnR w lo hi v L) (hh : hi ≤ w.heap.size) (hl : L.length ≤ 1048576) (hcs : ∀ i, i < L.length → (L.getD i rwZ).cs.length ≤ 1048576) (hs : s ≤ 1099512800000) (hoff : ∀ i, i ≤ L.length → offR L i ≤ 1099512700000) :
    Calls Try.prog 11 #[v, .int .i64 (s : Int)] w fun e w' => e = .returned (.int .i64 ((s + offR L L.length : Nat) : Int)) ∧ OwnR w' lo hi v (mixR s L L.length) ∧ TurnR lo hi w w' := by
  rcases h.slice with ⟨rfl, rfl⟩ | ⟨g, cap, rfl, hc1, hc2, hlg, hgs⟩
  · go_enter Try.func11, Try.ntmps11
    go_wp2
    refine wp_loop_rounds 1 ?_
    rw [rounds_succ]; go_wp2
    go_ret
    exact ⟨rfl, h, TurnR.refl _ _ _⟩
  obtain ⟨n, hn⟩ : ∃ n, n = L.length := ⟨_, rfl⟩
  have HN : Hid (n = L.length) := hn
  have HO0 : Hid (OwnR w lo hi (.slice (some ⟨g, 0, none⟩) n cap) (mixR s L 0)) := by
    have := h.eq (M := mixR s L 0) (mixR_len _ _ _) (fun j hj => by rw [mixR_at _ _ _ hj, if_neg (by omega)])
    rw [hn]; exact this
  have HCS : Hid (∀ i, i < n → (L.getD i rwZ).cs.length ≤ 1048576) := by rw [hn]; exact hcs
  have HOF : Hid (∀ i, i ≤ n → offR L i ≤ 1099512700000) := by rw [hn]; exact hoff
  rw [← hn] at hc1 hl ⊢
  clear h hn hcs hoff
  go_enter Try.func11, Try.ntmps11
  go_wp2
  go_loopw [1, 5] (fun x i wr => ∃ (k : Nat), k ≤ n ∧ i = .int .i64 k ∧ x = .int .i64 ((s + offR L k : Nat) : Int) ∧ Hid (OwnR wr lo hi (.slice (some ⟨g, 0, none⟩) n cap) (mixR s L k)) ∧ Hid (TurnR lo hi w wr)) (fun _ i _ => n - (intOf i).toNat)
  case atStart => exact ⟨0, Nat.zero_le _, rfl, rfl, HO0, TurnR.refl _ _ _⟩
  case round =>
    obtain ⟨k, hk, rfl, rfl, HO, HT⟩ := hrel
    by_cases hlt : k < n
    · have hltI : (k : Int) < (n : Int) := by omega
      obtain ⟨xs, u, h1, h2, h3, h4⟩ := HO.out
      have hml := mixR_len s L k
      rw [hml, ← HN.out] at h1 h3 h4
      have hkL : k < L.length := by rw [← HN.out]; exact hlt
      have hxl : xs.length = n * 2 := h1.1
      have f0 := h1.frozenAt (k * 2)
      obtain ⟨v0, y0⟩ := own_some h1 (k * 2) (by omega)
      obtain ⟨c0, c1, c2, c3⟩ := h3 k hlt
      have d1 : wr.cell? ⟨g, k * 2 + 1, none⟩ = some (u k) := by rw [h1.cellAt _ (by omega)]; exact c1
      rw [mixR_at _ _ _ hkL, if_neg (by omega)] at c2
      obtain ⟨au, cu, huk⟩ := c2.slice
      have hsucc := offR_succ L hkL
      have hoffk := HOF.out k hk
      have hck := HCS.out k hlt
      obtain ⟨y, hy⟩ : ∃ y, y = L.getD k rwZ := ⟨_, rfl⟩
      rw [← hy] at c2 huk hsucc hck
      have HY : Hid (y = L.getD k rwZ) := hy
      obtain ⟨t, ht⟩ : ∃ t, t = s + offR L k := ⟨_, rfl⟩
      have HTT : Hid (t = s + offR L k) := ht
      have htb : t ≤ 2199025500000 := by omega
      rw [← ht]
      have hne : ∀ q, (u k).ownBlock = some q → q ≠ g := fun q hq e => row_ne_int h1 c2 hq (by rw [e]; rfl)
      have d1' : (wr.setCell ⟨g, k * 2, none⟩ (.int .i64 (t : Int))).cell? ⟨g, k * 2 + 1, none⟩ = some (.slice au y.cs.length cu) := by
        rw [World.cell?_setCell_other _ _ _ _ (by simp), d1, huk]
      have HI1 : Hid (OwnI (wr.setCell ⟨g, k * 2, none⟩ (.int .i64 (t : Int))) lo (.slice au y.cs.length cu) y.cs) := by
        rw [← huk]
        exact c2.blk fun q hq => Below.heap_setCell _ _ _ _ (hne q hq)
      have HH : Hid (∀ w2 cs', (wr.setCell ⟨g, k * 2, none⟩ (.int .i64 (t : Int))).grownBy w2 (Value.slice au y.cs.length cu).ownBlock → OwnI w2 lo (.slice au y.cs.length cu) cs' → cs' = marksI (t + 1) y.cs.length → OwnR w2 lo hi (.slice (some ⟨g, 0, none⟩) n cap) (mixR s L (k + 1)) ∧ TurnR lo hi wr w2) := fun w2 cs' hG hO he => by
        rw [← huk] at hG hO
        refine ⟨own_set h1 h2 h3 h4 hlt hG hO (by rw [mixR_len, HN.out]) ?_ (fun j hj hjk => ?_), ?_⟩
        · rw [mixR_at _ _ _ hkL, if_pos (by omega), he]
          unfold mkRow
          rw [← HY.out, ← HTT.out]
        · have hjL : j < L.length := by rw [← HN.out]; exact hj
          rw [mixR_at _ _ _ hjL, mixR_at _ _ _ hjL]
          by_cases hjl : j < k
          · rw [if_pos hjl, if_pos (by omega)]
          · rw [if_neg hjl, if_neg (by omega)]
        · have t1 : TurnR lo hi wr (wr.setCell ⟨g, k * 2, none⟩ (.int .i64 (t : Int))) := TurnR.grown (h1.stored (k * 2) (.int .i64 (t : Int))).2 (fun q hq => by
            have e : g = q := Option.some.inj hq
            subst e
            exact ⟨hlg, h2 g rfl⟩)
          exact t1.trans (TurnR.grown hG (fun q hq => ⟨(World.ownsRow.lt c2 q hq).1, c3 q hq⟩))
      have hwr : IntKind.i64.wrap ((t : Int) + 1) = (t : Int) + 1 := by rw [IntKind.wrap_i64]; omega
      have HSU : Hid (t + 1 + y.cs.length = s + offR L (k + 1)) := by show _ = _; rw [hsucc, HTT.out]; omega
      clear h1 h2 h3 h4 c0 c1 c2 c3 d1 huk hsucc hy ht hml hxl hne hoffk
      go_wp2_with fail
      have hmk := markI2_any lo (.slice au y.cs.length cu) y.cs (t + 1) _ HI1.out (by omega) (by omega)
      rw [show (((t + 1 : Nat) : Int)) = (t : Int) + 1 by omega] at hmk
      refine hmk.mono ?_
      rintro e w2 ⟨rfl, hO2, hG2⟩
      rw [HSU.out]
      obtain ⟨hR2, hT2⟩ := HH.out w2 _ hG2 hO2 rfl
      have HR2 : Hid (OwnR w2 lo hi (.slice (some ⟨g, 0, none⟩) n cap) (mixR s L (k + 1))) := hR2
      have HT2 : Hid (TurnR lo hi w w2) := HT.out.trans hT2
      clear hO2 hG2 hR2 hT2 hmk
      go_wp2
      go_roundw
      case rel => exact ⟨k + 1, by omega, by go_num, rfl, HR2, HT2⟩
      case measure => simp [intOf]; omega
    · have hke : k = n := by omega
      subst hke
      have hkd : decide ((k : Int) < (k : Int)) = false := by simp
      go_wp2
      go_ret
      exact ⟨rfl, HO.out, HT.out⟩
end Go.Proofs.Ytjnngncnfbdpkaa
