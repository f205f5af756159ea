/-
  The specification's l5Big and l5K.
-/
import Derived.Test.YtlibipbpaigmdaaGreatDoorOwnB
namespace Go.Proofs.YtlibipbpaigmdaaGreatDoor
open Go.RowKit
set_option linter.unusedVariables false

/-- the round words -/
def kList : List Int := [1116352408, 1899447441, 3049323471, 3921009573, 961987163, 1508970993, 2453635748, 2870763221, 3624381080, 310598401, 607225278, 1426881987, 1925078388, 2162078206, 2614888103, 3248222580, 3835390401, 4022224774, 264347078, 604807628, 770255983, 1249150122, 1555081692, 1996064986, 2554220882, 2821834349, 2952996808, 3210313671, 3336571891, 3584528711, 113926993, 338241895, 666307205, 773529912, 1294757372, 1396182291, 1695183700, 1986661051, 2177026350, 2456956037, 2730485921, 2820302411, 3259730800, 3345764771, 3516065817, 3600352804, 4094571909, 275423344, 430227734, 506948616, 659060556, 883997877, 958139571, 1322822218, 1537002063, 1747873779, 1955562222, 2024104815, 2227730452, 2361852424, 2428436474, 2756734187, 3204031479, 3329325298]
def kW (k : Nat) : Int := kList.getD k 0
/-- the start words -/
def s00 : S8 := ⟨1779033703, 3144134277, 1013904242, 2773480762, 1359893119, 2600822924, 528734635, 1541459225⟩

theorem kCells (w : World) {k : Nat} (hk : k < 64) : (w.alloc (.cells (kList.map (Value.int .u32)).toArray 172)).cell? ⟨w.heap.size, k, none⟩ = some (.int .u32 (kW k)) := by
  have hl : k < kList.length := hk
  rw [cell_of (heap_alloc_new w _), List.getElem?_toArray, List.getElem?_map, List.getElem?_eq_getElem hl, kW, List.getD, List.getElem?_eq_getElem hl]
  rfl

set_option maxRecDepth 10000 in
theorem l5K_any (w : World) : Calls Tryz.prog 193 #[] w fun e w' => e = .returned (.slice (some ⟨w.heap.size, 0, none⟩) 64 64) ∧ w' = w.alloc (.cells (kList.map (Value.int .u32)).toArray 172) := by
  go_enter Tryz.func193, Tryz.ntmps193
  go_wp2
  go_ret
  exact ⟨rfl, rfl⟩

set_option maxRecDepth 4000 in
set_option maxHeartbeats 800000 in
theorem l5Big_any (n : Int) (h0 : 0 ≤ n) (h1 : n < 18446744073709551616) (w : World) :
    Calls Tryz.prog 192 #[.int .u64 n, .int .i64 8] w fun e w' => e = .returned (.string (strB (big n 8))) ∧ Below w.heap.size w w' := by
  go_enter Tryz.func192, Tryz.ntmps192
  go_wp2
  go_loopw [5, 6] (fun v i wr => ∃ (k : Nat) (x : Int), k ≤ 8 ∧ x = 7 - (k : Int) ∧ i = .int .i64 x ∧ OwnB wr w.heap.size v (big n k) ∧ Below w.heap.size w wr) (fun _ i _ => (intOf i + 1).toNat)
  case atStart =>
    refine ⟨0, 7, by omega, rfl, rfl, ?_, (Below.refl _ _).alloc (Nat.le_refl _) _⟩
    exact .inr ⟨w.heap.size, 0, rfl, Nat.le_refl _, by simp, Nat.le_refl _, by unfold maxLen; omega, fun j z hj => by simp [big] at hj, fun j a b => absurd b (by omega)⟩
  case round =>
    obtain ⟨k, x, hk, hx, rfl, how, hBr⟩ := hrel
    have hsz : (big n k).length + 1 ≤ 100000000 := by rw [big_len]; omega
    by_cases hlt : k < 8
    · obtain ⟨sh, rfl⟩ : ∃ sh : Nat, x = sh := ⟨x.toNat, by omega⟩
      have hb : bigB n k = n / 2 ^ (8 * (7 - k)) % 256 := rfl
      have HE : Hid (big n (k + 1) = big n k ++ [bigB n k]) := big_succ n k
      have HO : Hid (OwnB wr w.heap.size _ (big n k)) := how
      have HN : Hid (∀ o, w.heap.size ≤ (wr.alloc o).heap.size) := alloc_size wr hBr.size
      have HX : Hid (((sh : Nat) : Int) = 7 - (k : Int)) := hx
      have hsh : sh = 7 - k := by omega
      clear how hx
      go_wp2_with (at_builtin; refine wpList_appendB rfl _ _ rfl rfl (HO.out.alloc _) ⟨wr.heap.size, 0, none⟩ 1 1 [bigB n k] rfl rfl (by decide) (news_new wr [bigB n k]) hsz (HN.out _) ?_; intro g cap' w4 hown4 hB4)
      go_roundw
      case rel =>
        refine ⟨k + 1, _, by omega, ?_, rfl, by rw [HE.out]; exact hown4, (hBr.alloc hBr.size _).trans hB4⟩
        omega
      case measure => simp [intOf]; omega
    · have hk8 : k = 8 := by omega
      subst hk8
      obtain ⟨g0, cap0, rfl⟩ := how.form (by rw [big_len]; decide)
      have hcs := how.str
      generalize (big n 8).length = m at hcs how
      have hng : x = -1 := by omega
      subst hng
      clear how hx
      go_wp2
      go_ret
      exact ⟨rfl, hBr⟩
end Go.Proofs.YtlibipbpaigmdaaGreatDoor
