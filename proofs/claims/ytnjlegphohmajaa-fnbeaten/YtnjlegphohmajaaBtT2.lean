/-
  The board's own functions: takeAll, told. No condition but that the beats are right.
-/
import Derived.Test.YtnjlegphohmajaaBtT
import Derived.Test.YtnjlegphohmajaaBtK
import Derived.Handy
namespace Go.Proofs.Ytnjlegphohmajaa
open Go.RowKit Go.Maps
set_option linter.unusedVariables false

theorem EvAt.kept {w w' : World} {b o : Nat} {x : Ev} (h : EvAt w b o x) (he : w'.heap[b]? = w.heap[b]?) : EvAt w' b o x := by
  have e : ∀ j, w'.cell? ⟨b, j, none⟩ = w.cell? ⟨b, j, none⟩ := fun j => by simp only [World.cell?, he]
  exact ⟨(e _).trans h.c0, (e _).trans h.c1, (e _).trans h.c2, (e _).trans h.c3⟩
theorem EvAt.notMap {w : World} {b o B c : Nat} {x : Ev} {E : DataW Value} {L : List Ev} (h : EvAt w b o x) (hB : Bd w B c E L) : b ≠ B := by
  rintro rfl
  obtain ⟨es, clock, hb, _⟩ := hB.own
  have := h.c0
  simp [World.cell?, hb] at this

set_option maxRecDepth 10000 in
set_option maxHeartbeats 2000000 in
theorem takeAll_any (B c : Nat) (E : DataW Value) (S : List Ev) (a : Option Addr) (len cap : Nat) (D : Nat → Ev) (w : World) (h : Bd w B c E S) (hs : IsEvs w a len cap D) (hc : c + len ≤ 1000000) (hD : ∀ i, i < len → (Lit.int .i64 (D i).a).wf = true ∧ 1 ≤ (D i).b) :
    Calls Try.prog 41 #[.map (some B), .slice a len cap] w fun e w' => e = .returned (.tuple #[]) ∧ (∃ E', Bd w' B (c + len) E' (mgFrom S D len)) ∧ w.grownBy w' (some B) := by
  have HH : Hid (Bd w B c E S) := h
  have HBs : Hid (B < w.heap.size) := h.own.lt
  obtain ⟨hlc, hcm, hcl⟩ := hs
  have HD : Hid (∀ i, i < len → (Lit.int .i64 (D i).a).wf = true ∧ 1 ≤ (D i).b) := hD
  clear h hD
  go_enter Try.func41, Try.ntmps41
  go_wp2
  go_loopw [8] (fun i wr => ∃ (k : Nat) (E' : DataW Value), k ≤ len ∧ i = .int .i64 k ∧ Hid (Bd wr B (c + k) E' (mgFrom S D k)) ∧ Hid (w.grownBy wr (some B))) (fun i _ => len - (intOf i).toNat)
  case atStart => exact ⟨0, E, Nat.zero_le _, rfl, HH, World.grownBy.refl _ _⟩
  case round =>
    obtain ⟨k, E', hk, rfl, HO, HG⟩ := hrel
    by_cases hlt : k < len
    · have hltI : (k : Int) < (len : Int) := by omega
      obtain ⟨b, off, rfl, hbs, hcell⟩ := hcl (by omega)
      have m0 := hcell k hlt
      obtain ⟨c0, c1, c2, c3⟩ : EvAt wr b (off + k * 4) (D k) := m0.kept (HG.out.block b hbs (by intro e; exact m0.notMap HH.out (by cases e; rfl)))
      obtain ⟨hw, hb1⟩ := HD.out k hlt
      have HBx : Hid (Bd (wr.alloc (.cells #[.int .i64 (D k).a, .int .i64 (D k).b, .int .i64 (D k).c, .string (D k).d] 32)) B (c + k) E' (mgFrom S D k)) := HO.out.below ((Below.refl _ _).alloc (Nat.le_refl _) _)
      have HGx : Hid (w.grownBy (wr.alloc (.cells #[.int .i64 (D k).a, .int .i64 (D k).b, .int .i64 (D k).c, .string (D k).d] 32)) (some B)) := grownBy_trans HG.out (grownBy_below _ ((Below.refl _ _).alloc (Nat.le_refl _) _))
      clear hcell hcl m0
      go_wp2_with fail
      refine (take_any B (c + k) E' (mgFrom S D k) (D k) _ HBx.out (by omega) hw hb1).mono ?_
      rintro e w4 ⟨rfl, ⟨E4, hE4⟩, hG4⟩
      have HE4 : Hid (Bd w4 B (c + (k + 1)) E4 (mgFrom S D (k + 1))) := hE4
      have HG4 : Hid (w.grownBy w4 (some B)) := grownBy_trans HGx.out hG4
      clear hE4 hG4
      go_wp2
      go_roundw
      case rel => exact ⟨k + 1, E4, by omega, by go_num, HE4, HG4⟩
      case measure => simp [intOf]; omega
    · have hke : k = len := by omega
      subst hke
      clear hcl
      go_wp2
      go_end0
      exact ⟨rfl, ⟨_, HO.out⟩, HG.out⟩

set_option maxRecDepth 10000 in
set_option maxHeartbeats 2000000 in
theorem told_any (B c : Nat) (E : DataW Value) (L : List Ev) (w : World) (h : Bd w B c E L) (hc : c ≤ 1000) (hL : L.length ≤ 1000) (hwf : ∀ x ∈ L, (Lit.int .i64 x.a).wf = true) :
    Calls Try.prog 43 #[.map (some B)] w fun e w' => ∃ v, e = .returned v ∧ OwnV w' w.heap.size v L ∧ Below w.heap.size w w' := by
  obtain ⟨i0, hi, hz0, hz1, hz2⟩ := info_parts infoE
  have HO : Hid (w.ownsMap Try.prog 2 VR B c E) := h.own
  have HD : Hid (Bd w B c E L) := h
  clear h
  go_enter Try.func43, Try.ntmps43
  go_wp2_with (first
    | (go_at_call 60; refine (Try.maps_Keys_I _ _).mono ?_; rintro e w' ⟨rfl, hw'⟩; rw [hw']; clear hw' w')
    | (go_at_call 51; refine (sortedI B c E VR _ HO.out (by omega)).mono ?_; rintro e w4 ⟨v, ss, rfl, hU, hM, hO4, hB4⟩; obtain ⟨a4, cap4, rfl⟩ := hO4.slice))
  have hss : ss = L.map (·.a) := upI_unique hU (List.pairwise_map.2 HD.out.up) (fun z => by rw [hM, HD.out.hask, lookB_some])
  have HSS : Hid (ss.map (fun z => (lookB L z).getD evZ) = L) := by show _ = _; rw [hss]; exact lookB_all L HD.out.up
  have HWF : Hid (∀ i, i < ss.length → (Lit.int .i64 (ss.getD i 0)).wf = true) := fun i hi => by
    have h1 : ss.getD i 0 ∈ ss := by simp [hi]
    rw [hss] at h1 ⊢
    obtain ⟨x, hx, e⟩ := List.mem_map.1 h1
    rw [← e]
    exact hwf x hx
  have hsl : ss.length ≤ 1000 := by rw [hss, List.length_map]; exact hL
  obtain ⟨a', cap', e', hlc, hcm, hcell⟩ := hO4.rd
  simp at e'
  obtain ⟨rfl, rfl⟩ := e'
  obtain ⟨n, hn⟩ : ∃ n, n = ss.length := ⟨_, rfl⟩
  have HN : Hid (n = ss.length) := hn
  have HB4 : Hid (Below w.heap.size w w4) := hB4
  rw [← hn] at hlc hcell hsl HWF ⊢
  clear hss hU hM hO4 hn hwf hL HO hB4
  go_loopw [3, 10] (fun v i wr => ∃ (k : Nat), k ≤ n ∧ i = .int .i64 k ∧ Hid (OwnV wr w4.heap.size v ((ss.take k).map (fun z => (lookB L z).getD evZ))) ∧ Hid (Below w4.heap.size w4 wr)) (fun _ i _ => n - (intOf i).toNat)
  case atStart => exact ⟨0, Nat.zero_le _, rfl, OwnV.nil _ _, Below.refl _ _⟩
  case round =>
    obtain ⟨k, hk, rfl, HO, HB⟩ := hrel
    by_cases hlt : k < n
    · have hltI : (k : Int) < (n : Int) := by omega
      obtain ⟨b, off, rfl, hbs, hce⟩ := hcell (by omega)
      have ck := (HB.out.cell (p := ⟨b, off + k, none⟩) hbs).trans (hce k hlt)
      have hzw := HWF.out k hlt
      have hst : (ss.take (k + 1)).map (fun z => (lookB L z).getD evZ) = (ss.take k).map (fun z => (lookB L z).getD evZ) ++ [(lookB L (ss.getD k 0)).getD evZ] := by
        rw [List.take_add_one, List.map_append]
        have : ss[k]?.toList = [ss.getD k 0] := by simp [show k < ss.length by rw [← HN.out]; exact hlt]
        rw [this]
        rfl
      obtain ⟨z, hz⟩ : ∃ z, z = ss.getD k 0 := ⟨_, rfl⟩
      rw [← hz] at ck hzw hst
      obtain ⟨y, hy⟩ : ∃ y, y = (lookB L z).getD evZ := ⟨_, rfl⟩
      rw [← hy] at hst
      have hbd : Bd wr B c E L := HD.out.below (HB4.out.trans (HB.out.mono HB4.out.size))
      have hlk : (Instr.lookup 62 (.map (some B)) (.int .i64 z) false).run Try.prog wr = .ok (.agg #[.int .i64 y.a, .int .i64 y.b, .int .i64 y.c, .string y.d]) wr := by rw [hbd.look hzw, ← hy]; rfl
      have HT : Hid (_) := hst
      obtain ⟨M, hM⟩ : ∃ M, M = (ss.take k).map (fun z => (lookB L z).getD evZ) := ⟨_, rfl⟩
      have hMl : M.length ≤ 1000 := by rw [hM, List.length_map, List.length_take]; omega
      rw [← hM] at HO HT
      obtain ⟨q, hq⟩ : ∃ q, q = M.length := ⟨_, rfl⟩
      have HO' : Hid (wr.ownsRow w4.heap.size 32 4 u3 q (cellsL M)) := by rw [hq]; exact HO.out
      have HQ : Hid (q = M.length ∧ q + 1 ≤ maxLen ∧ (q + 1) * 40 ≤ 140737488355328) := ⟨hq, by unfold maxLen; omega, by omega⟩
      have HBW : Hid (Below w4.heap.size w4 (wr.alloc (.cells #[.int .i64 y.a, .int .i64 y.b, .int .i64 y.c, .string y.d] 32))) := HB.out.alloc HB.out.size _
      have HZ : Hid (w4.heap.size ≤ (wr.alloc (.cells #[.int .i64 y.a, .int .i64 y.b, .int .i64 y.c, .string y.d] 32)).heap.size) := HBW.out.size
      have HNw : Hid (∀ j u, (enc4 y)[j]? = some u → (wr.alloc (.cells #[.int .i64 y.a, .int .i64 y.b, .int .i64 y.c, .string y.d] 32)).cell? ((⟨wr.heap.size, 0, none⟩ : Addr).add j) = some u) := by
        show ∀ j u, _
        have := World.news_of_block (heap_alloc_new wr (.cells #[.int .i64 y.a, .int .i64 y.b, .int .i64 y.c, .string y.d] 32))
        simpa [enc4] using this
      clear hce hcell hst hz hy hM hMl hq hbd hzw
      go_wp2_with (at_builtin; refine wpList_append_own _ rfl _ _ 24 rfl w4.heap.size 32 i0 (.agg #[.int .i64 0, .int .i64 0, .int .i64 0, .string ⟨#[]⟩]) 4 40 Try.underlying24 hi hz0 hz1 hz2 rfl (by decide) _ q _ rfl (HO'.out.alloc _) ⟨wr.heap.size, 0, none⟩ 1 1 (enc4 y) rfl rfl HNw.out (by rw [← cellsL_one]; exact oneL _) HQ.out.2.1 HQ.out.2.2 HZ.out ?_; intro v5 w5 hown5 hgrow5 hnil5)
      have HF : Hid (OwnV w5 w4.heap.size v5 ((ss.take (k + 1)).map (fun z => (lookB L z).getD evZ)) ∧ Below w4.heap.size w4 w5) := by
        refine ⟨?_, HBW.out.grown hgrow5 HBW.out.size (fun x hx => (HO'.out.lt x hx).1)⟩
        unfold OwnV
        rw [HT.out, List.length_append, ← HQ.out.1, cellsL_append, cellsL_one]
        exact hown5
      clear hown5 hgrow5 hnil5
      go_wp2
      go_roundw
      case rel => exact ⟨k + 1, by omega, by go_num, HF.out.1, HF.out.2⟩
      case measure => simp [intOf]; omega
    · have hke : k = n := by omega
      subst hke
      have HF : Hid (OwnV wr w.heap.size u3 L) := by
        have := HO.out
        rw [HN.out, List.take_length, HSS.out] at this
        exact this.base HB4.out.size
      clear hcell HO
      go_wp2
      go_ret
      exact ⟨_, rfl, HF.out, HB4.out.trans (HB.out.mono HB4.out.size)⟩
end Go.Proofs.Ytnjlegphohmajaa
