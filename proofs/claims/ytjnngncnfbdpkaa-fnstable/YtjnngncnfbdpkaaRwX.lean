/-
  Marks written into rows that the call owns, and read again. No condition but that they are not too many.
-/
import Derived.Test.YtjnngncnfbdpkaaRwB
namespace Go.Proofs.Ytjnngncnfbdpkaa
open Go.RowKit
set_option linter.unusedVariables false

/-- only blocks from lo on and below hi have turned -/
structure TurnR (lo hi : Nat) (w w' : World) : Prop where
  os : w'.os = w.os
  tape : w'.tape = w.tape
  output : w'.output = w.output
  size : w.heap.size ≤ w'.heap.size
  block : ∀ k, k < w.heap.size → ¬ (lo ≤ k ∧ k < hi) → w'.heap[k]? = w.heap[k]?
theorem TurnR.refl (lo hi : Nat) (w : World) : TurnR lo hi w w := ⟨rfl, rfl, rfl, Nat.le_refl _, fun _ _ _ => rfl⟩
theorem TurnR.trans {lo hi : Nat} {a b c : World} (h : TurnR lo hi a b) (k : TurnR lo hi b c) : TurnR lo hi a c :=
  ⟨k.os.trans h.os, k.tape.trans h.tape, k.output.trans h.output, Nat.le_trans h.size k.size, fun i hi' hn => (k.block i (Nat.lt_of_lt_of_le hi' h.size) hn).trans (h.block i hi' hn)⟩
theorem TurnR.grown {lo hi : Nat} {w w' : World} {r : Option Nat} (h : w.grownBy w' r) (hr : ∀ k, r = some k → lo ≤ k ∧ k < hi) : TurnR lo hi w w' :=
  ⟨h.os, h.tape, h.output, h.size, fun k hk hn => h.block k hk (fun e => hn (hr k e.symm))⟩
theorem TurnR.below {lo hi n : Nat} {W w w' : World} (h : TurnR lo hi w w') (hB : Below n W w) (hl : n ≤ lo) (hn : n ≤ W.heap.size) : Below n W w' :=
  ⟨h.os.trans hB.os, h.tape.trans hB.tape, h.output.trans hB.output, Nat.le_trans hB.size h.size, fun k hk => (h.block k (Nat.lt_of_lt_of_le hk (Nat.le_trans hn hB.size)) (by omega)).trans (hB.block k hk)⟩
theorem OwnI.turn {lo hi : Nat} {w w' : World} {base : Nat} {v : Value} {L : List Int} (h : OwnI w base v L) (hT : TurnR lo hi w w') (hn : ∀ k, v.ownBlock = some k → ¬ (lo ≤ k ∧ k < hi)) : OwnI w' base v L :=
  h.blk fun k hk => hT.block k (World.ownsRow.lt h k hk).2 (hn k hk)

/-- where the marks of row i begin -/
def offR (L : List Rw) (i : Nat) : Nat := ((L.take i).map fun x => 1 + x.cs.length).sum
theorem offR_succ (L : List Rw) {i : Nat} (h : i < L.length) : offR L (i + 1) = offR L i + (1 + (L.getD i rwZ).cs.length) := by
  unfold offR
  rw [List.take_add_one, List.map_append, List.sum_append]
  have : L[i]?.toList = [L.getD i rwZ] := by simp [h]
  rw [this]
  simp
def mkRow (s : Nat) (L : List Rw) (i : Nat) : Rw := ⟨((s + offR L i : Nat) : Int), marksI (s + offR L i + 1) (L.getD i rwZ).cs.length⟩
/-- the first i rows marked -/
def mixR (s : Nat) (L : List Rw) (i : Nat) : List Rw := (List.range L.length).map fun j => if j < i then mkRow s L j else L.getD j rwZ
theorem mixR_len (s : Nat) (L : List Rw) (i : Nat) : (mixR s L i).length = L.length := by unfold mixR; simp
theorem mixR_at (s : Nat) (L : List Rw) (i : Nat) {j : Nat} (h : j < L.length) : (mixR s L i).getD j rwZ = if j < i then mkRow s L j else L.getD j rwZ := by unfold mixR; simp [h]
theorem OwnR.eq {w : World} {lo hi : Nat} {v : Value} {L M : List Rw} (h : OwnR w lo hi v L) (hl : M.length = L.length) (he : ∀ j, j < L.length → M.getD j rwZ = L.getD j rwZ) : OwnR w lo hi v M := by
  obtain ⟨xs, u, h1, h2, h3, h4⟩ := h
  refine ⟨xs, u, by rw [hl]; exact h1, h2, fun i hi' => ?_, fun i j hi' => h4 i j (by omega)⟩
  rw [hl] at hi'
  rw [he i hi']
  exact h3 i hi'
/-- one row written anew -/
theorem own_set {w w2 : World} {lo hi g n cap : Nat} {xs : List Value} {u : Nat → Value} {M M' : List Rw} {i : Nat} {z : Int} {cs' : List Int}
    (h1 : w.ownsRow lo 46 2 (.slice (some ⟨g, 0, none⟩) n cap) n xs) (h2 : ∀ k, (Value.slice (some ⟨g, 0, none⟩) n cap).ownBlock = some k → k < hi)
    (h3 : ∀ i, i < n → xs[i * 2]? = some (.int .i64 (M.getD i rwZ).who) ∧ xs[i * 2 + 1]? = some (u i) ∧ OwnI w lo (u i) (M.getD i rwZ).cs ∧ ∀ k, (u i).ownBlock = some k → k < hi)
    (h4 : ∀ i j, i < n → j < i → ∀ k, (u i).ownBlock = some k → (u j).ownBlock ≠ some k) (hin : i < n)
    (hG : (w.setCell ⟨g, i * 2, none⟩ (.int .i64 z)).grownBy w2 (u i).ownBlock) (hO : OwnI w2 lo (u i) cs') (hM : M'.length = n)
    (hM1 : M'.getD i rwZ = ⟨z, cs'⟩) (hM2 : ∀ j, j < n → j ≠ i → M'.getD j rwZ = M.getD j rwZ) : OwnR w2 lo hi (.slice (some ⟨g, 0, none⟩) n cap) M' := by
  have hs := h1.stored (i * 2) (.int .i64 z)
  have hgi : ∀ k, (u i).ownBlock = some k → g ≠ k := fun k hk e => row_ne_int h1 (h3 i hin).2.2.1 hk (by rw [← e]; rfl)
  have hsize : (w.setCell ⟨g, i * 2, none⟩ (.int .i64 z)).heap.size = w.heap.size := by simp [World.setCell]
  have keepRow : w2.ownsRow lo 46 2 (.slice (some ⟨g, 0, none⟩) n cap) n (xs.set (i * 2) (.int .i64 z)) := by
    obtain ⟨q1, q2⟩ := hs.1
    refine ⟨q1, ?_⟩
    rcases q2 with q2 | ⟨g', cap', cur, hv, hb, hh, r⟩
    · exact .inl q2
    · refine .inr ⟨g', cap', cur, hv, hb, ?_, r⟩
      have e : g = g' := Option.some.inj (congrArg Value.ownBlock hv)
      subst e
      exact (hG.block g (lt_of_block hh) (fun e => hgi g e.symm rfl)).trans hh
  refine ⟨xs.set (i * 2) (.int .i64 z), u, by rw [hM]; exact keepRow, h2, fun j hj => ?_, fun a b ha hb => h4 a b (by omega) hb⟩
  rw [hM] at hj
  obtain ⟨c0, c1, c2, c3⟩ := h3 j hj
  have hxl : xs.length = n * 2 := h1.1
  by_cases hji : j = i
  · subst hji
    rw [hM1]
    refine ⟨?_, ?_, hO, c3⟩
    · rw [List.getElem?_set_self (by omega)]
    · rw [List.getElem?_set_ne (by omega)]; exact c1
  · rw [hM2 j hj hji]
    refine ⟨?_, ?_, ?_, c3⟩
    · rw [List.getElem?_set_ne (by omega)]; exact c0
    · rw [List.getElem?_set_ne (by omega)]; exact c1
    · refine c2.blk fun k hk => ?_
      have hlt := (World.ownsRow.lt c2 k hk).2
      have hne : (u i).ownBlock ≠ some k := by
        rcases Nat.lt_or_gt_of_ne hji with h | h
        · exact fun e => h4 i j hin h k e hk
        · exact h4 j i hj h k hk
      have hgk : k ≠ g := fun e => row_ne_int h1 c2 hk (by rw [e]; rfl)
      rw [hG.block k (by rw [hsize]; exact hlt) (fun e => hne e.symm), Below.heap_setCell _ _ _ _ hgk]

set_option maxRecDepth 10000 in
set_option maxHeartbeats 4000000 in
theorem markRows_any (lo hi : Nat) (v : Value) (L : List Rw) (s : Nat) (w : World) (h : OwnR w lo hi v L) (hh : hi ≤ w.heap.size) (hl : L.length ≤ 1048576) (hcs : ∀ i, i < L.length → (L.getD i rwZ).cs.length ≤ 1048576) (hs : s ≤ 1000) (hoff : ∀ i, i ≤ L.length → offR L i ≤ 1099512700000) :
    Calls Try.prog 11 #[v, .int .i64 (s : Int)] w fun e w' => e = .returned (.int .i64 ((s + offR L L.length : Nat) : Int)) ∧ OwnR w' lo hi v (mixR s L L.length) ∧ TurnR lo hi w w' := by
  rcases h.slice with ⟨rfl, rfl⟩ | ⟨g, cap, rfl, hc1, hc2, hlg, hgs⟩
  · go_enter Try.func11, Try.ntmps11
    go_wp2
    refine wp_loop_rounds 1 ?_
    rw [rounds_succ]; go_wp2
    go_ret
    exact ⟨rfl, h, TurnR.refl _ _ _⟩
  obtain ⟨n, hn⟩ : ∃ n, n = L.length := ⟨_, rfl⟩
  have HN : Hid (n = L.length) := hn
  have HO0 : Hid (OwnR w lo hi (.slice (some ⟨g, 0, none⟩) n cap) (mixR s L 0)) := by
    have := h.eq (M := mixR s L 0) (mixR_len _ _ _) (fun j hj => by rw [mixR_at _ _ _ hj, if_neg (by omega)])
    rw [hn]; exact this
  have HCS : Hid (∀ i, i < n → (L.getD i rwZ).cs.length ≤ 1048576) := by rw [hn]; exact hcs
  have HOF : Hid (∀ i, i ≤ n → offR L i ≤ 1099512700000) := by rw [hn]; exact hoff
  rw [← hn] at hc1 hl ⊢
  clear h hn hcs hoff
  go_enter Try.func11, Try.ntmps11
  go_wp2
  go_loopw [1, 5] (fun x i wr => ∃ (k : Nat), k ≤ n ∧ i = .int .i64 k ∧ x = .int .i64 ((s + offR L k : Nat) : Int) ∧ Hid (OwnR wr lo hi (.slice (some ⟨g, 0, none⟩) n cap) (mixR s L k)) ∧ Hid (TurnR lo hi w wr)) (fun _ i _ => n - (intOf i).toNat)
  case atStart => exact ⟨0, Nat.zero_le _, rfl, rfl, HO0, TurnR.refl _ _ _⟩
  case round =>
    obtain ⟨k, hk, rfl, rfl, HO, HT⟩ := hrel
    by_cases hlt : k < n
    · have hltI : (k : Int) < (n : Int) := by omega
      obtain ⟨xs, u, h1, h2, h3, h4⟩ := HO.out
      have hml := mixR_len s L k
      rw [hml, ← HN.out] at h1 h3 h4
      have hkL : k < L.length := by rw [← HN.out]; exact hlt
      have hxl : xs.length = n * 2 := h1.1
      have f0 := h1.frozenAt (k * 2)
      obtain ⟨v0, y0⟩ := own_some h1 (k * 2) (by omega)
      obtain ⟨c0, c1, c2, c3⟩ := h3 k hlt
      have d1 : wr.cell? ⟨g, k * 2 + 1, none⟩ = some (u k) := by rw [h1.cellAt _ (by omega)]; exact c1
      rw [mixR_at _ _ _ hkL, if_neg (by omega)] at c2
      obtain ⟨au, cu, huk⟩ := c2.slice
      have hsucc := offR_succ L hkL
      have hoffk := HOF.out k hk
      have hck := HCS.out k hlt
      obtain ⟨y, hy⟩ : ∃ y, y = L.getD k rwZ := ⟨_, rfl⟩
      rw [← hy] at c2 huk hsucc hck
      have HY : Hid (y = L.getD k rwZ) := hy
      obtain ⟨t, ht⟩ : ∃ t, t = s + offR L k := ⟨_, rfl⟩
      have HTT : Hid (t = s + offR L k) := ht
      have htb : t ≤ 1099512800000 := by omega
      rw [← ht]
      have hne : ∀ q, (u k).ownBlock = some q → q ≠ g := fun q hq e => row_ne_int h1 c2 hq (by rw [e]; rfl)
      have d1' : (wr.setCell ⟨g, k * 2, none⟩ (.int .i64 (t : Int))).cell? ⟨g, k * 2 + 1, none⟩ = some (.slice au y.cs.length cu) := by
        rw [World.cell?_setCell_other _ _ _ _ (by simp), d1, huk]
      have HI1 : Hid (OwnI (wr.setCell ⟨g, k * 2, none⟩ (.int .i64 (t : Int))) lo (.slice au y.cs.length cu) y.cs) := by
        rw [← huk]
        exact c2.blk fun q hq => Below.heap_setCell _ _ _ _ (hne q hq)
      have HH : Hid (∀ w2 cs', (wr.setCell ⟨g, k * 2, none⟩ (.int .i64 (t : Int))).grownBy w2 (Value.slice au y.cs.length cu).ownBlock → OwnI w2 lo (.slice au y.cs.length cu) cs' → cs' = marksI (t + 1) y.cs.length → OwnR w2 lo hi (.slice (some ⟨g, 0, none⟩) n cap) (mixR s L (k + 1)) ∧ TurnR lo hi wr w2) := fun w2 cs' hG hO he => by
        rw [← huk] at hG hO
        refine ⟨own_set h1 h2 h3 h4 hlt hG hO (by rw [mixR_len, HN.out]) ?_ (fun j hj hjk => ?_), ?_⟩
        · rw [mixR_at _ _ _ hkL, if_pos (by omega), he]
          unfold mkRow
          rw [← HY.out, ← HTT.out]
        · have hjL : j < L.length := by rw [← HN.out]; exact hj
          rw [mixR_at _ _ _ hjL, mixR_at _ _ _ hjL]
          by_cases hjl : j < k
          · rw [if_pos hjl, if_pos (by omega)]
          · rw [if_neg hjl, if_neg (by omega)]
        · have t1 : TurnR lo hi wr (wr.setCell ⟨g, k * 2, none⟩ (.int .i64 (t : Int))) := TurnR.grown (h1.stored (k * 2) (.int .i64 (t : Int))).2 (fun q hq => by
            have e : g = q := Option.some.inj hq
            subst e
            exact ⟨hlg, h2 g rfl⟩)
          exact t1.trans (TurnR.grown hG (fun q hq => ⟨(World.ownsRow.lt c2 q hq).1, c3 q hq⟩))
      have hwr : IntKind.i64.wrap ((t : Int) + 1) = (t : Int) + 1 := by rw [IntKind.wrap_i64]; omega
      have HSU : Hid (t + 1 + y.cs.length = s + offR L (k + 1)) := by show _ = _; rw [hsucc, HTT.out]; omega
      clear h1 h2 h3 h4 c0 c1 c2 c3 d1 huk hsucc hy ht hml hxl hne hoffk
      go_wp2_with fail
      have hmk := markI_any lo (.slice au y.cs.length cu) y.cs (t + 1) _ HI1.out (by omega) (by omega)
      rw [show (((t + 1 : Nat) : Int)) = (t : Int) + 1 by omega] at hmk
      refine hmk.mono ?_
      rintro e w2 ⟨rfl, hO2, hG2⟩
      rw [HSU.out]
      obtain ⟨hR2, hT2⟩ := HH.out w2 _ hG2 hO2 rfl
      have HR2 : Hid (OwnR w2 lo hi (.slice (some ⟨g, 0, none⟩) n cap) (mixR s L (k + 1))) := hR2
      have HT2 : Hid (TurnR lo hi w w2) := HT.out.trans hT2
      clear hO2 hG2 hR2 hT2 hmk
      go_wp2
      go_roundw
      case rel => exact ⟨k + 1, by omega, by go_num, rfl, HR2, HT2⟩
      case measure => simp [intOf]; omega
    · have hke : k = n := by omega
      subst hke
      have hkd : decide ((k : Int) < (k : Int)) = false := by simp
      go_wp2
      go_ret
      exact ⟨rfl, HO.out, HT.out⟩
end Go.Proofs.Ytjnngncnfbdpkaa
