/-
  Both Unpadded functions answer the plain function unpadR, for texts of at most 2^20 bytes.
-/
import Derived.Test.YtgjoppllhegkoaaDoorUnp
import Derived.Test.YtgjoppllhegkoaaDoorSizes
import Derived.Lib.IndexBytes
import Derived.Lib.Bytealg
namespace Go.Proofs.YtgjoppllhegkoaaDoor
open Go.RowKit
set_option linter.unusedVariables false

theorem unpadR_no {s : ByteArray} {k : Nat} (h : ¬ (0 < k ∧ bt s (k - 1) = 128 ∧ sizeOf ((k : Int) - 1) = s.size)) : unpadR s k = .tuple #[.string ⟨#[]⟩, .bool false] := by
  unfold unpadR
  rw [if_neg h]
theorem unpadR_yes {s : ByteArray} {k : Nat} (h : 0 < k ∧ bt s (k - 1) = 128 ∧ sizeOf ((k : Int) - 1) = s.size) : unpadR s k = .tuple #[.string (s.extract 0 (k - 1)), .bool true] := by
  unfold unpadR
  rw [if_pos h]

theorem toList_ne {a b : ByteArray} (h : a ≠ b) : (a.toList == b.toList) = false := by
  rw [beq_eq_false_iff_ne, ByteArray.toList_eq, ByteArray.toList_eq]
  exact fun e => h (ba_ext e)

set_option maxRecDepth 4000 in
set_option maxHeartbeats 400000 in
theorem specUnpadded_any (s : ByteArray) (k : Nat) (ht : Trail s k) (hs : s.size ≤ 1048576) (w : World) :
    Calls Tryd.prog 13 #[.string s] w fun e w' => e = .returned (unpadR s k) ∧ Below w.heap.size w w' := by
  have hle := ht.le
  go_enter Tryd.func13, Tryd.ntmps13
  go_wp2
  go_loop [4] (fun i => ∃ n : Nat, n ≤ s.size ∧ i = .int .i64 n ∧ k ≤ n) (fun i => (intOf i).toNat)
  case atStart => exact ⟨s.size, Nat.le_refl _, rfl, hle⟩
  case round =>
    obtain ⟨n, hn, rfl, hkn⟩ := hrel
    rcases Nat.lt_or_ge k n with hlt | hge
    · have hz := ht.zero (n - 1) (by omega) (by omega)
      have hlt1 : n - 1 < s.size := by omega
      have hbt := bt_in hlt1
      have hni : (n : Int) - 1 = ((n - 1 : Nat) : Int) := by omega
      have hpos : (0 : Int) < (n : Int) := by omega
      rw [hz] at hbt
      go_wp2
      go_round
      case rel => exact ⟨n - 1, by omega, by go_num, by omega⟩
      case measure => simp [intOf]; omega
    · have hkn' : n = k := by omega
      subst hkn'
      rcases Nat.eq_zero_or_pos n with h0 | h0
      · subst h0
        have hr : Hid (unpadR s 0 = .tuple #[.string ⟨#[]⟩, .bool false]) := unpadR_no (by omega)
        clear ht hle hn hkn hge
        go_wp2
        go_ret2
        exact ⟨ret_val hr.out.symm, Below.refl _ _⟩
      · have hlt1 : n - 1 < s.size := by omega
        have hbt := bt_in hlt1
        have hni : (n : Int) - 1 = ((n - 1 : Nat) : Int) := by omega
        have hpos : (0 : Int) < (n : Int) := by omega
        have hne0 : (bt s (n - 1) == 0) = false := by simpa using ht.not h0
        have hos : (s.extract 0 (n - 1)).size = n - 1 := by rw [ByteArray.size_extract]; omega
        have hn0 : ¬ (n : Int) = 0 := by omega
        by_cases h2 : n - 1 ≤ 200
        · obtain ⟨z, hz, hz1, hz2⟩ := sizeOf_fits h2
          have hp : padR (s.extract 0 (n - 1)) = .tuple #[.string (padB (s.extract 0 (n - 1)) (z - n)), .bool true] := by
            unfold padR
            rw [hos, if_pos h2, hz, show ((z : Int).toNat - (n - 1) - 1) = z - n by omega]
          have hback := pad_back (m := z - n) ht h0
          by_cases he : padB (s.extract 0 (n - 1)) (z - n) = s
          · have hr : Hid (unpadR s n = .tuple #[.string (s.extract 0 (n - 1)), .bool true]) := by
              obtain ⟨e1, e2⟩ := hback.1 he
              exact unpadR_yes ⟨h0, e1, by rw [hni, hz]; omega⟩
            rw [he] at hp
            clear ht hle hn hkn hge he hback hz
            go_wp2_with (go_at_call 9; refine (specPadded_any (s.extract 0 (n - 1)) (by omega) _).mono ?_; rintro e w1 ⟨rfl, hB1⟩; rw [hp])
            go_ret2
            exact ⟨ret_val hr.out.symm, hB1⟩
          · have hr : Hid (unpadR s n = .tuple #[.string ⟨#[]⟩, .bool false]) := by
              refine unpadR_no (fun ⟨_, e1, e2⟩ => he (hback.2 ⟨e1, ?_⟩))
              rw [hni, hz] at e2
              omega
            generalize padB (s.extract 0 (n - 1)) (z - n) = t at hp he
            have hne : (t.toList == s.toList) = false := toList_ne he
            clear ht hle hn hkn hge hback hz he
            go_wp2_with (go_at_call 9; refine (specPadded_any (s.extract 0 (n - 1)) (by omega) _).mono ?_; rintro e w1 ⟨rfl, hB1⟩; rw [hp])
            go_ret2
            exact ⟨ret_val hr.out.symm, hB1⟩
        · have hz := sizeOf_big h2
          have hp : padR (s.extract 0 (n - 1)) = .tuple #[.string ⟨#[]⟩, .bool false] := by
            unfold padR
            rw [hos, if_neg h2]
          have hr : Hid (unpadR s n = .tuple #[.string ⟨#[]⟩, .bool false]) := by
            refine unpadR_no (fun ⟨_, e1, e2⟩ => ?_)
            rw [hni, hz] at e2
            omega
          clear ht hle hn hkn hge hz h2
          go_wp2_with (go_at_call 9; refine (specPadded_any (s.extract 0 (n - 1)) (by omega) _).mono ?_; rintro e w1 ⟨rfl, hB1⟩; rw [hp])
          go_ret2
          exact ⟨ret_val hr.out.symm, hB1⟩

theorem clone_any (s : ByteArray) (hs : s.size ≤ 1048576) (w : World) :
    Calls Tryd.prog 26 #[.string s] w fun e w' => e = .returned (.string s) ∧ Below w.heap.size w w' := by
  go_enter Tryd.func26, Tryd.ntmps26
  go_wp2_with (go_at_call 42; refine (Tryd.stringslite_Clone s _ (by omega)).mono ?_; rintro e w1 ⟨rfl, hB1⟩)
  go_ret
  exact ⟨rfl, hB1⟩

theorem mk_list (s : ByteArray) (k : Nat) : (⟨(s.data.toList.take k).toArray⟩ : ByteArray) = s.extract 0 k := ba_ext (by rw [extract_list])

theorem trimR_any (s : ByteArray) (k : Nat) (ht : Trail s k) (hs : s.size ≤ 1048576) (w : World) :
    Calls Tryd.prog 25 #[.string s, .string ⟨#[0]⟩] w fun e w' => e = .returned (.string (s.extract 0 k)) ∧ w' = w := by
  have := Tryd.strings_TrimRight_one s 0 (by decide) w (by omega)
  rw [trim_trail ht, mk_list] at this
  exact this

theorem cut_any (s : ByteArray) (k : Nat) (ht : Trail s k) (hs : s.size ≤ 1048576) (w : World) :
    Calls Tryd.prog 24 #[.string (s.extract 0 k), .string ⟨#[128]⟩] w fun e w' => e = .returned (.tuple #[.string (s.extract 0 (if 0 < k ∧ bt s (k - 1) = 128 then k - 1 else k)), .bool (decide (0 < k ∧ bt s (k - 1) = 128))]) ∧ w' = w := by
  have := Tryd.strings_CutSuffix (s.extract 0 k) ⟨#[128]⟩ w (by rw [ByteArray.size_extract]; omega)
  rw [extract_list, suffix_mark ht] at this
  by_cases h : 0 < k ∧ bt s (k - 1) = 128
  · rw [trim_mark ht h.1 h.2, mk_list] at this
    rw [if_pos h]
    exact this
  · rw [if_neg h]
    have e : Lib.trimSuffix (s.data.toList.take k) [128] = s.data.toList.take k := by
      unfold Lib.trimSuffix
      rw [suffix_mark ht, decide_eq_false h, if_neg (by simp)]
    rw [e, mk_list] at this
    exact this

set_option maxRecDepth 4000 in
set_option maxHeartbeats 400000 in
theorem implUnpadded_any (s : ByteArray) (k : Nat) (ht : Trail s k) (hs : s.size ≤ 1048576) (w : World) (hS : Sizes w) :
    Calls Tryd.prog 10 #[.string s] w fun e w' => e = .returned (unpadR s k) ∧ Below w.heap.size w w' := by
  have hle := ht.le
  by_cases hm : 0 < k ∧ bt s (k - 1) = 128
  · have hcut : ∀ w, Calls Tryd.prog 24 #[.string (s.extract 0 k), .string ⟨#[128]⟩] w fun e w' => e = .returned (.tuple #[.string (s.extract 0 (k - 1)), .bool true]) ∧ w' = w := by
      intro w
      have := cut_any s k ht hs w
      rw [if_pos hm, decide_eq_true hm] at this
      exact this
    have hos : (s.extract 0 (k - 1)).size = k - 1 := by rw [ByteArray.size_extract]; omega
    have hk1 : ((k - 1 : Nat) : Int) = (k : Int) - 1 := by omega
    by_cases hz : sizeOf ((k : Int) - 1) = s.size
    · have hr : Hid (unpadR s k = .tuple #[.string (s.extract 0 (k - 1)), .bool true]) := unpadR_yes ⟨hm.1, hm.2, hz⟩
      have hz' : sizeOf ((k - 1 : Nat) : Int) = s.size := by rw [hk1]; exact hz
      have hcl := fun w => clone_any (s.extract 0 (k - 1)) (by omega) w
      clear hm hz hk1
      go_enter Tryd.func10, Tryd.ntmps10
      go_wp2_with (first
        | (go_at_call 25; refine (trimR_any s k ht hs _).mono ?_; rintro e w1 ⟨rfl, rfl⟩)
        | (go_at_call 24; refine (hcut _).mono ?_; rintro e w1 ⟨rfl, rfl⟩)
        | (go_at_call 11; refine (implSize_any _ _ hS).mono ?_; rintro e w1 ⟨rfl, rfl⟩; rw [hz'])
        | (go_at_call 26; refine (hcl _).mono ?_; rintro e w1 ⟨rfl, hB1⟩))
      go_ret2
      exact ⟨ret_val hr.out.symm, hB1⟩
    · have hr : Hid (unpadR s k = .tuple #[.string ⟨#[]⟩, .bool false]) := unpadR_no (fun h => hz h.2.2)
      have hz' : (sizeOf ((k - 1 : Nat) : Int) == (s.size : Int)) = false := by rw [hk1]; simpa using hz
      have hsz : ∀ w, Sizes w → Calls Tryd.prog 11 #[.int .i64 ((k - 1 : Nat) : Int)] w fun e w' => e = .returned (.int .i64 (sizeOf ((k - 1 : Nat) : Int))) ∧ w' = w := fun w h => implSize_any _ w h
      generalize sizeOf ((k - 1 : Nat) : Int) = y at hz' hsz
      clear hm hz hk1
      go_enter Tryd.func10, Tryd.ntmps10
      go_wp2_with (first
        | (go_at_call 25; refine (trimR_any s k ht hs _).mono ?_; rintro e w1 ⟨rfl, rfl⟩)
        | (go_at_call 24; refine (hcut _).mono ?_; rintro e w1 ⟨rfl, rfl⟩)
        | (go_at_call 11; refine (hsz _ hS).mono ?_; rintro e w1 ⟨rfl, rfl⟩))
      go_ret2
      exact ⟨ret_val hr.out.symm, Below.refl _ _⟩
  · have hcut : ∀ w, Calls Tryd.prog 24 #[.string (s.extract 0 k), .string ⟨#[128]⟩] w fun e w' => e = .returned (.tuple #[.string (s.extract 0 k), .bool false]) ∧ w' = w := by
      intro w
      have := cut_any s k ht hs w
      rw [if_neg hm, decide_eq_false hm] at this
      exact this
    have hr : Hid (unpadR s k = .tuple #[.string ⟨#[]⟩, .bool false]) := unpadR_no (fun h => hm ⟨h.1, h.2.1⟩)
    clear hm
    go_enter Tryd.func10, Tryd.ntmps10
    go_wp2_with (first
        | (go_at_call 25; refine (trimR_any s k ht hs _).mono ?_; rintro e w1 ⟨rfl, rfl⟩)
        | (go_at_call 24; refine (hcut _).mono ?_; rintro e w1 ⟨rfl, rfl⟩))
    go_ret2
    exact ⟨ret_val hr.out.symm, Below.refl _ _⟩

end Go.Proofs.YtgjoppllhegkoaaDoor
