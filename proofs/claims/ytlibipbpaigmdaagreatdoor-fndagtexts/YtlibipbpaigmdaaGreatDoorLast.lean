/-
  lastBlocks ends what is left behind the whole blocks.
-/
import Derived.Test.YtlibipbpaigmdaaGreatDoorOwnB
import Derived.Test.YtlibipbpaigmdaaGreatDoorShelf
namespace Go.Proofs.YtlibipbpaigmdaaGreatDoor
open Go.RowKit
set_option linter.unusedVariables false

theorem repeat0 (c : Int) (h0 : 0 ≤ c) (h1 : c ≤ 100000000) (w : World) :
    Calls Tryz.prog 241 #[.string ⟨#[0]⟩, .int .i64 c] w fun e w' => e = .returned (.string (zeros c.toNat)) ∧ Below w.heap.size w w' := by
  obtain ⟨n, rfl⟩ := Int.eq_ofNat_of_zero_le h0
  exact Tryz.strings_Repeat ⟨#[0]⟩ n w (by omega) (by show 1 * n ≤ _; omega)

set_option maxRecDepth 4000 in
theorem filled_any (s : ByteArray) (z : Nat) (hs : s.size < z) (hz : z ≤ 10000000) (w : World) :
    Calls Tryz.prog 209 #[.string s, .int .i64 z] w fun e w' => e = .returned (.string (padB s (z - s.size - 1))) ∧ Below w.heap.size w w' := by
  have ha1 := add_ok (a := s) (b := ⟨#[128]⟩) (by have : (ByteArray.mk #[128]).size = 1 := rfl; omega)
  have ha2 := add_ok (a := s ++ ⟨#[128]⟩) (b := zeros (z - s.size - 1)) (by rw [ByteArray.size_append, zeros_size, show (ByteArray.mk #[128]).size = 1 from rfl]; omega)
  go_enter Tryz.func209, Tryz.ntmps209
  go_wp2_with (go_at_call 241; refine (repeat0 _ (by omega) (by omega) _).mono ?_; rintro e w' ⟨rfl, hB⟩)
  go_ret
  exact ⟨rfl, hB⟩

/-- what lastBlocks answers: r bytes are left, of L -/
def lastS (s : ByteArray) (L : Int) : List Int := bl s ++ [128] ++ List.replicate ((119 - s.size) % 64) 0 ++ big (8 * L) 8

set_option maxRecDepth 4000 in
set_option maxHeartbeats 800000 in
theorem lastBlocks_any (s : ByteArray) (hs : s.size < 64) (L : Int) (h0 : 0 ≤ L) (h1 : L ≤ 1048576) (w : World) :
    Calls Tryz.prog 177 #[.string s, .int .u64 L] w fun e w' => e = .returned (.string (strB (lastS s L))) ∧ Below w.heap.size w w' := by
  obtain ⟨z, hz⟩ : ∃ z : Nat, z = if s.size < 56 then 56 else 120 := ⟨_, rfl⟩
  have hzl : s.size < z := by split at hz <;> omega
  have hzm : z ≤ 120 := by split at hz <;> omega
  have hzz : z - s.size - 1 = (119 - s.size) % 64 := by split at hz <;> omega
  obtain ⟨p, hp⟩ : ∃ p, p = padB s (z - s.size - 1) := ⟨_, rfl⟩
  have hps : p.size = z := by rw [hp, padB_size]; omega
  have HL : Hid (lastS s L = bl p ++ big (8 * L) 8) := by
    show _ = _
    unfold lastS
    rw [hp, bl_padB, hzz]
  by_cases h56 : s.size < 56
  · have hz56 : z = 56 := by rw [hz, if_pos h56]
    subst hz56
    have hi1 : ¬ (64 : Int) < (s.size : Int) + 1 + 8 := by omega
    go_enter Tryz.func177, Tryz.ntmps177
    go_wp2_with fail
    refine (filled_any s 56 hzl (by omega) _).mono ?_
    rintro e w1 ⟨rfl, hB1⟩
    rw [← hp]
    clear hp hzz hz hzl hi1 h56
    obtain ⟨cap, w2, hcv, hown, hB2⟩ := bytes_new p w1 (by omega)
    go_wp2
    have hown' : OwnB w2 w1.heap.size (.slice (some ⟨w1.heap.size, 0, none⟩) 56 cap) (bl p ++ big (8 * L) 0) := by rw [hps] at hown; simpa [big] using hown
    have hBw : Below w.heap.size w w2 := hB1.trans (hB2.mono hB1.size)
    clear hcv hown
    have hpl : (bl p).length = 56 := by rw [bl_len]; exact hps
    go_loopw [6, 7] (fun v i wr => ∃ (k : Nat) (x : Int), k ≤ 8 ∧ x = 56 - 8 * (k : Int) ∧ i = .int .i64 x ∧ OwnB wr w1.heap.size v (bl p ++ big (8 * L) k) ∧ Below w.heap.size w wr ∧ w1.heap.size ≤ wr.heap.size) (fun _ i _ => (intOf i + 8).toNat)
    case atStart => exact ⟨0, 56, by omega, rfl, rfl, hown', hBw, hB2.size⟩
    case round =>
      obtain ⟨k, x, hk, hx, rfl, how, hBr, hsr⟩ := hrel
      have hsz : (bl p ++ big (8 * L) k).length + 1 ≤ 100000000 := by rw [List.length_append, big_len, hpl]; omega
      have hs0 : 0 < (bl p ++ big (8 * L) k).length := by rw [List.length_append, big_len, hpl]; omega
      obtain ⟨g0, cap0, rfl⟩ := how.form hs0
      have HPL : Hid (_) := hpl
      clear hpl
      by_cases hlt : k < 8
      · obtain ⟨sh, rfl⟩ : ∃ sh : Nat, x = sh := ⟨x.toNat, by omega⟩
        have hb : bigB (8 * L) k = L * 8 / 2 ^ (56 - 8 * k) % 256 := by unfold bigB; rw [show 8 * (7 - k) = 56 - 8 * k by omega, Int.mul_comm]
        have HE : Hid (big (8 * L) (k + 1) = big (8 * L) k ++ [L * 8 / 2 ^ (56 - 8 * k) % 256]) := by show _ = _; rw [big_succ, hb]
        have HO : Hid (OwnB wr w1.heap.size _ (bl p ++ big (8 * L) k)) := how
        have HN : Hid (∀ o, w1.heap.size ≤ (wr.alloc o).heap.size) := alloc_size wr hsr
        have HX : Hid (((sh : Nat) : Int) = 56 - 8 * (k : Int)) := hx
        have hge : (0 : Int) ≤ 56 - 8 * (k : Int) := by omega
        clear how hown' hb hs0
        go_wp2_with (at_builtin; refine wpList_appendB rfl _ _ rfl rfl (HO.out.alloc _) ⟨wr.heap.size, 0, none⟩ 1 1 [L * 8 / 2 ^ (56 - 8 * k) % 256] rfl rfl (by decide) (news_new wr _) hsz (HN.out _) ?_; intro g cap' w3 hown3 hB3)
        go_roundw
        case rel =>
          refine ⟨k + 1, _, by omega, ?_, rfl, ?_, ?_, ?_⟩
          · have := HX.out
            omega
          · rw [HE.out, ← List.append_assoc]
            simpa using hown3
          · have hBa := hBr.alloc (hBr.size) (.cells #[.int .u8 (L * 8 / 2 ^ (56 - 8 * k) % 256)] 5)
            exact hBa.trans (hB3.mono (by have := hB1.size; omega))
          · have := hB3.size
            simp at this
            omega
        case measure =>
          have := HX.out
          simp [intOf]
          omega
      · have hk8 : k = 8 := by omega
        subst hk8
        have hcs := how.str
        generalize (bl p ++ big (8 * L) 8).length = n at hcs how
        have hng : x = -8 := by omega
        subst hng
        clear how hown'
        go_wp2
        go_ret
        exact ⟨ret_val (by rw [HL.out]; rfl), hBr⟩
  · have hz56 : z = 120 := by rw [hz, if_neg h56]
    subst hz56
    have hi1 : (64 : Int) < (s.size : Int) + 1 + 8 := by omega
    go_enter Tryz.func177, Tryz.ntmps177
    go_wp2_with fail
    refine (filled_any s 120 hzl (by omega) _).mono ?_
    rintro e w1 ⟨rfl, hB1⟩
    rw [← hp]
    clear hp hzz hz hzl hi1 h56
    obtain ⟨cap, w2, hcv, hown, hB2⟩ := bytes_new p w1 (by omega)
    go_wp2
    have hown' : OwnB w2 w1.heap.size (.slice (some ⟨w1.heap.size, 0, none⟩) 120 cap) (bl p ++ big (8 * L) 0) := by rw [hps] at hown; simpa [big] using hown
    have hBw : Below w.heap.size w w2 := hB1.trans (hB2.mono hB1.size)
    clear hcv hown
    have hpl : (bl p).length = 120 := by rw [bl_len]; exact hps
    go_loopw [6, 7] (fun v i wr => ∃ (k : Nat) (x : Int), k ≤ 8 ∧ x = 56 - 8 * (k : Int) ∧ i = .int .i64 x ∧ OwnB wr w1.heap.size v (bl p ++ big (8 * L) k) ∧ Below w.heap.size w wr ∧ w1.heap.size ≤ wr.heap.size) (fun _ i _ => (intOf i + 8).toNat)
    case atStart => exact ⟨0, 56, by omega, rfl, rfl, hown', hBw, hB2.size⟩
    case round =>
      obtain ⟨k, x, hk, hx, rfl, how, hBr, hsr⟩ := hrel
      have hsz : (bl p ++ big (8 * L) k).length + 1 ≤ 100000000 := by rw [List.length_append, big_len, hpl]; omega
      have hs0 : 0 < (bl p ++ big (8 * L) k).length := by rw [List.length_append, big_len, hpl]; omega
      obtain ⟨g0, cap0, rfl⟩ := how.form hs0
      have HPL : Hid (_) := hpl
      clear hpl
      by_cases hlt : k < 8
      · obtain ⟨sh, rfl⟩ : ∃ sh : Nat, x = sh := ⟨x.toNat, by omega⟩
        have hb : bigB (8 * L) k = L * 8 / 2 ^ (56 - 8 * k) % 256 := by unfold bigB; rw [show 8 * (7 - k) = 56 - 8 * k by omega, Int.mul_comm]
        have HE : Hid (big (8 * L) (k + 1) = big (8 * L) k ++ [L * 8 / 2 ^ (56 - 8 * k) % 256]) := by show _ = _; rw [big_succ, hb]
        have HO : Hid (OwnB wr w1.heap.size _ (bl p ++ big (8 * L) k)) := how
        have HN : Hid (∀ o, w1.heap.size ≤ (wr.alloc o).heap.size) := alloc_size wr hsr
        have HX : Hid (((sh : Nat) : Int) = 56 - 8 * (k : Int)) := hx
        have hge : (0 : Int) ≤ 56 - 8 * (k : Int) := by omega
        clear how hown' hb hs0
        go_wp2_with (at_builtin; refine wpList_appendB rfl _ _ rfl rfl (HO.out.alloc _) ⟨wr.heap.size, 0, none⟩ 1 1 [L * 8 / 2 ^ (56 - 8 * k) % 256] rfl rfl (by decide) (news_new wr _) hsz (HN.out _) ?_; intro g cap' w3 hown3 hB3)
        go_roundw
        case rel =>
          refine ⟨k + 1, _, by omega, ?_, rfl, ?_, ?_, ?_⟩
          · have := HX.out
            omega
          · rw [HE.out, ← List.append_assoc]
            simpa using hown3
          · have hBa := hBr.alloc (hBr.size) (.cells #[.int .u8 (L * 8 / 2 ^ (56 - 8 * k) % 256)] 5)
            exact hBa.trans (hB3.mono (by have := hB1.size; omega))
          · have := hB3.size
            simp at this
            omega
        case measure =>
          have := HX.out
          simp [intOf]
          omega
      · have hk8 : k = 8 := by omega
        subst hk8
        have hcs := how.str
        generalize (bl p ++ big (8 * L) 8).length = n at hcs how
        have hng : x = -8 := by omega
        subst hng
        clear how hown'
        go_wp2
        go_ret
        exact ⟨ret_val (by rw [HL.out]; rfl), hBr⟩
end Go.Proofs.YtlibipbpaigmdaaGreatDoor
