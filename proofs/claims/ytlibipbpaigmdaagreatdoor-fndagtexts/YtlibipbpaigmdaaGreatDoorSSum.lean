/-
  The specification's Sum answers the bytes of the state behind the whole message.
-/
import Derived.Test.YtlibipbpaigmdaaGreatDoorBlk
import Derived.Test.YtlibipbpaigmdaaGreatDoorISum
import Derived.Deep.RegionHeld3
namespace Go.Proofs.YtlibipbpaigmdaaGreatDoor
open Go.RowKit
set_option linter.unusedVariables false

def slen : Value → Nat
  | .slice _ n _ => n
  | _ => 0

/-- the text, a byte 128, and so many bytes 0 -/
def pre (s : ByteArray) (j : Nat) : List Int := bl s ++ [128] ++ List.replicate j 0
theorem pre_len (s : ByteArray) (j : Nat) : (pre s j).length = s.size + 1 + j := by simp [pre, bl_len]; omega
theorem pre_succ (s : ByteArray) (j : Nat) : pre s (j + 1) = pre s j ++ [0] := by
  unfold pre
  rw [List.append_assoc, List.append_assoc, List.append_assoc, List.replicate_succ']
theorem msg_pre (s : ByteArray) : msg s = pre s ((119 - s.size % 64) % 64) ++ big (8 * s.size) 8 := rfl

theorem msg_range (s : ByteArray) : ∀ x ∈ msg s, 0 ≤ x ∧ x ≤ 255 := by
  intro x hx
  unfold msg at hx
  rw [List.mem_append, List.mem_append, List.mem_append] at hx
  rcases hx with ((hx | hx) | hx) | hx
  · unfold bl at hx
    obtain ⟨b, _, rfl⟩ := List.mem_map.1 hx
    have := b.toNat_lt
    omega
  · simp at hx; omega
  · rw [(List.mem_replicate.1 hx).2]; omega
  · unfold big at hx
    obtain ⟨j, _, rfl⟩ := List.mem_map.1 hx
    exact bigB_range _ _

theorem big_range (n : Int) (k : Nat) : ∀ x ∈ big n k, 0 ≤ x ∧ x ≤ 255 := by
  intro x hx
  unfold big at hx
  obtain ⟨j, _, rfl⟩ := List.mem_map.1 hx
  exact bigB_range _ _

theorem OwnB.news {w : World} {base g len cap : Nat} {zs : List Int} (h : OwnB w base (.slice (some ⟨g, 0, none⟩) len cap) zs) (j : Nat) (z : Int) (hj : zs[j]? = some z) : w.cell? ((⟨g, 0, none⟩ : Addr).add j) = some (.int .u8 z) := by
  rcases h with ⟨h, _⟩ | ⟨g', cap', e, _, _, _, _, hc, _⟩
  · cases h
  simp only [Value.slice.injEq, Option.some.injEq, Addr.mk.injEq, and_true] at e
  obtain ⟨rfl, rfl, rfl⟩ := e
  rw [Addr.add_lit, Nat.zero_add]
  exact hc j z hj

set_option maxRecDepth 10000 in
set_option maxHeartbeats 1600000 in
theorem specSum_any (s : ByteArray) (hs : s.size ≤ 1048576) (w : World) :
    Calls Tryz.prog 161 #[.string s] w fun e w' => e = .returned (.string (strB (sumS kW s00 s).bytes)) ∧ Below w.heap.size w w' := by
  obtain ⟨capA, wA, hcv, hownA, hBA⟩ := bytes_new s w (by omega)
  have HOA : Hid (OwnB wA w.heap.size _ (bl s)) := hownA
  have HNA : Hid (∀ o, w.heap.size ≤ (wA.alloc o).heap.size) := alloc_size wA hBA.size
  have hszA : (bl s).length + 1 ≤ 100000000 := by rw [bl_len]; omega
  clear hownA
  go_enter Tryz.func161, Tryz.ntmps161
  go_wp2_with (at_builtin; refine wpList_appendB rfl _ _ rfl rfl (HOA.out.alloc _) ⟨wA.heap.size, 0, none⟩ 1 1 [128] rfl rfl (by decide) (news_new wA [128]) hszA (HNA.out _) ?_; intro g1 cap1 w1 hown1 hB1)
  have hown1' : OwnB w1 w.heap.size (.slice (some ⟨g1, 0, none⟩) ((bl s).length + 1) cap1) (pre s 0) := by simpa [pre] using hown1
  have hBw1 : Below w.heap.size w w1 := (hBA.alloc hBA.size _).trans hB1
  clear hown1 hcv HOA HNA hB1 hBA hszA
  obtain ⟨zz, hzz⟩ : ∃ zz, zz = (119 - s.size % 64) % 64 := ⟨_, rfl⟩
  have HZZ : Hid (zz = (119 - s.size % 64) % 64) := hzz
  have hzl : zz < 64 := by omega
  have hzm : (s.size + 1 + zz) % 64 = 56 := by omega
  have hzn : ∀ j, j < zz → (s.size + 1 + j) % 64 ≠ 56 := by intro j hj; omega
  clear hzz
  go_loopw [3] (fun v wr => ∃ (j : Nat), j ≤ zz ∧ OwnB wr w.heap.size v (pre s j) ∧ Below w.heap.size w wr) (fun v _ => s.size + 1 + zz - slen v)
  case atStart => exact ⟨0, by omega, hown1', hBw1⟩
  case round =>
    obtain ⟨j, hj, how, hBr⟩ := hrel
    have hpl := pre_len s j
    obtain ⟨g0, cap0, rfl⟩ := how.form (by omega)
    have hsz : (pre s j).length + 1 ≤ 100000000 := by omega
    have HO : Hid (OwnB wr w.heap.size _ (pre s j)) := how
    obtain ⟨n, hn⟩ : ∃ n, n = (pre s j).length := ⟨_, rfl⟩
    rw [← hn] at HO
    rw [← hn]
    have hnn : n = s.size + 1 + j := by omega
    clear how hown1'
    by_cases hlt : j < zz
    · have hne : ((n : Int) % 64 == 56) = false := by
        have := hzn j hlt
        simp
        omega
      have hne2 : ((n : Int) % 64 != 56) = true := by simp only [bne, hne]; rfl
      have HP : Hid (pre s (j + 1) = pre s j ++ [0]) := pre_succ s j
      have HN : Hid (∀ o, w.heap.size ≤ (wr.alloc o).heap.size) := alloc_size wr hBr.size
      have HNN : Hid (n = (pre s j).length ∧ n = s.size + 1 + j) := ⟨hn, hnn⟩
      clear hzm hzn hpl hn hnn
      go_wp2_with (at_builtin; refine wpList_appendB rfl _ _ rfl rfl (HO.out.alloc _) ⟨wr.heap.size, 0, none⟩ 1 1 [0] rfl rfl (by decide) (news_new wr [0]) hsz (HN.out _) ?_; intro g2 cap2 w2 hown2 hB2)
      go_roundw
      case rel => exact ⟨j + 1, by omega, by rw [HP.out]; exact hown2, (hBr.alloc hBr.size _).trans hB2⟩
      case measure =>
        obtain ⟨e1, e2⟩ := HNN.out
        simp only [slen]
        rw [← e1]
        omega
    · have hjz : j = zz := by omega
      subst hjz
      have heq : (n : Int) % 64 = 56 := by omega
      have heq2 : ((n : Int) % 64 != 56) = false := by rw [heq]; rfl
      have hwu : IntKind.u64.wrap (s.size : Int) = (s.size : Int) := by rw [IntKind.wrap_u64]; omega
      have hmu : (s.size : Int) * 8 = 8 * (s.size : Int) := by omega
      have HNN : Hid (n = (pre s j).length ∧ n = s.size + 1 + j) := ⟨hn, hnn⟩
      clear hzm hzn hpl hn hnn hlt hj
      go_wp2_with fail
      refine (l5Big_any (8 * (s.size : Int)) (by omega) (by omega) _).mono ?_
      rintro e w2 ⟨rfl, hB2⟩
      obtain ⟨q, hq⟩ : ∃ q, q = strB (big (8 * (s.size : Int)) 8) := ⟨_, rfl⟩
      rw [← hq]
      have hq8 : q.size = 8 := by rw [hq, strB_size, big_len]
      have hqb : bl q = big (8 * (s.size : Int)) 8 := by rw [hq, bl_strB (big_range _ _)]
      obtain ⟨cap3, w3, hcv3, hown3, hB3⟩ := bytes_new q w2 (by omega)
      rw [hqb, hq8] at hown3
      rw [hq8] at hcv3
      have hB13 : Below wr.heap.size wr w3 := hB2.trans (hB3.mono hB2.size)
      have HO3 : Hid (OwnB w3 w.heap.size _ (pre s j)) := HO.out.below hB13
      have HN3 : Hid (∀ j z, (big (8 * (s.size : Int)) 8)[j]? = some z → w3.cell? ((⟨w2.heap.size, 0, none⟩ : Addr).add j) = some (.int .u8 z)) := hown3.news
      have hBw3 : Below w.heap.size w w3 := hBr.trans (hB13.mono hBr.size)
      have hs3 : w.heap.size ≤ w3.heap.size := hBw3.size
      have hsz8 : (pre s j).length + 8 ≤ 100000000 := by have := HNN.out; omega
      have HM : Hid (pre s j ++ big (8 * (s.size : Int)) 8 = msg s) := by show _ = _; rw [msg_pre, ← HZZ.out]
      clear hq hqb hq8 hown3 hB2 hB3 hB13 heq heq2 hwu hmu hsz
      go_wp2_with (first
        | (at_builtin; refine wpList_appendB rfl _ _ rfl rfl HO3.out ⟨w2.heap.size, 0, none⟩ 8 cap3 (big (8 * (s.size : Int)) 8) rfl (big_len _ _) (by decide) HN3.out hsz8 hs3 ?_; intro g4 cap4 w4 hown4 hB4; rw [HM.out] at hown4)
        | (go_at_call 193; refine (l5K_any _).mono ?_; rintro e w5 ⟨rfl, rfl⟩))
      obtain ⟨nb, hnb⟩ : ∃ nb, nb = (msg s).length / 64 := ⟨_, rfl⟩
      have hml : (msg s).length = 64 * nb := by have := msg_len s; omega
      have hmn : (pre s j).length + 8 = 64 * nb := by rw [← hml, ← HM.out, List.length_append, big_len]
      have hms : 64 * nb ≤ 10000000 := by have := msg_len s; omega
      rw [hmn] at hown4 ⊢
      obtain ⟨wS, hwS⟩ : ∃ wS, wS = (w4.alloc (.cells (kList.map (Value.int .u32)).toArray 172)).alloc (.cells #[.int .u32 1779033703, .int .u32 3144134277, .int .u32 1013904242, .int .u32 2773480762, .int .u32 1359893119, .int .u32 2600822924, .int .u32 528734635, .int .u32 1541459225] 172) := ⟨_, rfl⟩
      rw [← hwS]
      have hB4S : Below w4.heap.size w4 wS := by rw [hwS]; exact ((Below.refl _ _).alloc (Nat.le_refl _) _).alloc (by simp) _
      have hownS := hown4.below hB4S
      have hk0 : wS.heap[w4.heap.size]? = some (.cells (kList.map (Value.int .u32)).toArray 172 (0, 0)) := by rw [hwS]; exact (two_new w4 _ _).1
      have hh0 : wS.heap[w4.heap.size + 1]? = some (.cells s00.cells 172 (0, 0)) := by rw [hwS]; exact (two_new w4 _ _).2
      have hBwS : Below w.heap.size w wS := (hBw3.trans hB4).trans (hB4S.mono (by have := (hBw3.trans hB4).size; omega))
      have hg4 : w.heap.size ≤ w4.heap.size + 1 := by have := (hBw3.trans hB4).size; omega
      have hkS : ∀ i, i < 64 → wS.cell? ⟨w4.heap.size, i, none⟩ = some (.int .u32 (kW i)) := fun i hi => by
        rw [cell_of hk0, List.getElem?_toArray, List.getElem?_map, kW, List.getD, List.getElem?_eq_getElem (show i < kList.length from hi)]
        rfl
      generalize w4.heap.size = gk at hk0 hh0 hkS hg4 ⊢
      obtain ⟨cb, hcb⟩ : ∃ cb, cb = cap4 := ⟨_, rfl⟩
      rcases hownS with ⟨h, _⟩ | ⟨gx, capx, hvx, hgx, hgl, hlc, hcm, hcl, _⟩
      · cases h
      simp only [Value.slice.injEq, Option.some.injEq, Addr.mk.injEq, and_true] at hvx
      obtain ⟨rfl, hdel, rfl⟩ := hvx
      clear hdel
      rw [hml] at hlc
      have hbS : ∀ i, i < 64 * nb → wS.cell? ⟨g4, i, none⟩ = some (.int .u8 ((msg s).getD i 0)) := fun i hi => by
        refine hcl i _ ?_
        rw [List.getD, List.getElem?_eq_getElem (by omega)]
        rfl
      have hrS : ∀ i, i < 64 * nb → 0 ≤ (msg s).getD i 0 ∧ (msg s).getD i 0 ≤ 255 := fun i hi => by
        rw [List.getD, List.getElem?_eq_getElem (by omega)]
        exact msg_range s _ (List.getElem_mem _)
      have HS : Hid (sumS kW s00 s = stirN kW s00 (fun i => (msg s).getD i 0) nb) := by show _ = _; unfold sumS; rw [← hnb]
      clear hwS hB4S hcl hown4 hB4 hk0 hcb HO3 HN3 HO hnb hml hmn hBw3 hs3 hsz8 hcv3
      go_loopw [5, 6] (fun v i wr => ∃ (k gh : Nat), k ≤ nb ∧ i = .int .i64 ((64 * k : Nat) : Int) ∧ v = .slice (some ⟨gh, 0, none⟩) 8 8 ∧ wr.heap[gh]? = some (.cells (stirN kW s00 (fun i => (msg s).getD i 0) k).cells 172 (0, 0)) ∧ Below wS.heap.size wS wr ∧ Below w.heap.size w wr) (fun _ i _ => 64 * nb - (intOf i).toNat)
      case atStart => exact ⟨0, gk + 1, by omega, rfl, rfl, hh0, Below.refl _ _, hBwS⟩
      case round =>
        obtain ⟨k, gh, hk, rfl, rfl, hh, hBS, hBr⟩ := hrel
        by_cases hlt : k < nb
        · obtain ⟨j1, hj1⟩ : ∃ j1, j1 = 64 * k := ⟨_, rfl⟩
          obtain ⟨j2, hj2⟩ : ∃ j2, j2 = 64 * k + 64 := ⟨_, rfl⟩
          rw [← hj1]
          have hltI : (j1 : Int) < ((64 * nb : Nat) : Int) := by omega
          have hw2 : (j1 : Int) + 64 = (j2 : Int) := by omega
          have h12 : j1 ≤ j2 := by omega
          have h2c : j2 ≤ cap4 := by omega
          have hjj : j2 - j1 = 64 := by omega
          have HJ : Hid (j1 = 64 * k ∧ j2 = 64 * k + 64 ∧ k < nb) := ⟨hj1, hj2, hlt⟩
          have HBS : Hid (Below wS.heap.size wS wr) := hBS
          have HBr : Hid (Below w.heap.size w wr) := hBr
          have HH : Hid (_) := hh
          have HKS : Hid (_) := hkS
          have HBB : Hid (_) := hbS
          have HRR : Hid (_) := hrS
          clear hj1 hj2 hlt hk hBS hBr hh hkS hbS hrS
          go_wp2_with fail
          obtain ⟨e1, e2, e3⟩ := HJ.out
          have hIn : BlkIn wr (stirN kW s00 (fun i => (msg s).getD i 0) k) gh gk g4 j1 (fun i => (msg s).getD (64 * k + i) 0) := by
            refine ⟨HH.out, fun i hi => (HBS.out.cell (p := ⟨gk, i, none⟩) (cell_lt (HKS.out i hi))).trans (HKS.out i hi), fun i hi => ?_, fun i hi => HRR.out _ (by omega)⟩
            rw [← e1]
            exact (HBS.out.cell (p := ⟨g4, j1 + i, none⟩) (cell_lt (HBB.out (j1 + i) (by omega)))).trans (HBB.out (j1 + i) (by omega))
          refine (l5Block_any _ gh gk g4 j1 (cap4 - j1) _ (by omega) wr hIn).mono ?_
          rintro e w6 ⟨g6, rfl, hg6, hh6, hB6⟩
          clear hIn e1 e2 e3
          go_wp2
          obtain ⟨e1, e2, e3⟩ := HJ.out
          go_roundw
          case rel => exact ⟨k + 1, g6, by omega, by rw [e2]; rfl, rfl, hh6, HBS.out.trans (hB6.mono HBS.out.size), HBr.out.trans (hB6.mono HBr.out.size)⟩
          case measure => simp [intOf]; omega
        · have hkn : k = nb := by omega
          subst hkn
          have hge : ¬ ((64 * k : Nat) : Int) < ((64 * k : Nat) : Int) := by omega
          rw [← HS.out] at hh
          have HS2 : Hid (_) := HS
          clear HS
          generalize hu : sumS kW s00 s = u at hh
          have HU : Hid (sumS kW s00 s = u) := hu
          have HBr : Hid (Below w.heap.size w wr) := hBr
          have hcu : ∀ i, i < 8 → wr.cell? ⟨gh, i, none⟩ = some (.int .u32 (u.at i)) := fun i hi => (cell_of hh).trans (u.cell hi)
          have hgw : gh < wr.heap.size := lt_of_block hh
          clear hu hh hkS hbS hrS hBS hBr hlc hgx hgl hk hlt
          go_wp2
          generalize wr = wT at *
          go_loopw [7, 8] (fun v i wx => ∃ k : Nat, k ≤ 8 ∧ i = .int .i64 k ∧ OwnB wx wT.heap.size v (u.first k) ∧ Below wT.heap.size wT wx) (fun _ i _ => 8 - (intOf i).toNat)
          case atStart => exact ⟨0, by omega, rfl, .inr ⟨wT.heap.size, 0, rfl, Nat.le_refl _, by simp, Nat.le_refl _, by unfold maxLen; omega, fun j z hj => by simp [S8.first] at hj, fun j a b => absurd b (by omega)⟩, (Below.refl _ _).alloc (Nat.le_refl _) _⟩
          case round =>
            obtain ⟨k, hk, rfl, how, hBx⟩ := hrel
            by_cases hlt : k < 8
            · have hltI : (k : Int) < 8 := by omega
              have hc0 : wr.cell? ⟨gh, k, none⟩ = some (.int .u32 (u.at k)) := (hBx.cell (p := ⟨gh, k, none⟩) hgw).trans (hcu k hlt)
              have hfl := u.first_len k hk
              have hsz : (u.first k).length + 4 ≤ 100000000 := by omega
              have HF : Hid (u.first (k + 1) = u.first k ++ by4 (u.at k)) := u.first_succ hlt
              have HO : Hid (OwnB wr.drew wT.heap.size _ (u.first k)) := how.drew
              have HBd : Hid (Below wT.heap.size wT wr.drew) := hBx.drew
              have HN : Hid (∀ o, wT.heap.size ≤ (wr.drew.alloc o).heap.size) := alloc_size wr.drew HBd.out.size
              have HGW : Hid (gh < wT.heap.size) := hgw
              have HC : Hid (∀ o, (wr.drew.alloc o).cell? ⟨gh, k, none⟩ = some (.int .u32 (u.at k))) := fun o => (((Below.refl wr.drew.heap.size wr.drew).alloc (Nat.le_refl _) o).cell (p := ⟨gh, k, none⟩) (by have := hBx.size; show gh < wr.heap.size; omega)).trans hc0
              clear hcu how hfl hBx
              generalize u.at k = z at hc0 HF HC
              go_wp2
              go_region_held3 (fun w' => w'.cell? ⟨gh, k, none⟩ = some (.int .u32 z)) (first | exact hS8 | exact HC.out _ | go_keep) ((refine step_appendB rfl _ _ rfl rfl (HO.out.alloc _) ⟨wr.drew.heap.size, 0, none⟩ 4 4 (by4 z) rfl rfl (by decide) (news_new wr.drew (by4 z)) hsz (HN.out _) ?_; intro g8 cap8 w8 hown8 hB8; have hS8 := (hB8.cell (p := ⟨gh, k, none⟩) HGW.out).trans (HC.out _)))
              go_wp2
              go_roundw
              case rel => exact ⟨k + 1, by omega, by go_num, by rw [HF.out]; exact hown8, (HBd.out.alloc HBd.out.size _).trans hB8⟩
              case measure => simp [intOf]; omega
            · have hk8 : k = 8 := by omega
              subst hk8
              have hnl : ¬ ((8 : Nat) : Int) < 8 := by omega
              obtain ⟨g0', cap0', rfl⟩ := how.form (by rw [u.first_len 8 (Nat.le_refl _)]; decide)
              have hcs := how.str
              generalize (u.first 8).length = nn at hcs how
              clear how hcu
              go_wp2
              go_ret
              exact ⟨ret_val (by rw [HU.out]; rfl), HBr.out.trans (hBx.mono HBr.out.size)⟩
end Go.Proofs.YtlibipbpaigmdaaGreatDoor
