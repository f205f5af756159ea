/-
  SumText, the program's and the specification's: the digest's bytes in hex.
-/
import Derived.Test.YtlibipbpaigmdaaGreatDoorTabs
namespace Go.Proofs.YtlibipbpaigmdaaGreatDoor
open Go.RowKit
set_option linter.unusedVariables false

def hexS : ByteArray := ⟨#[48, 49, 50, 51, 52, 53, 54, 55, 56, 57, 97, 98, 99, 100, 101, 102]⟩
/-- a byte's two digits -/
def hx2 (b : Int) : List Int := [bt hexS (b / 16).toNat, bt hexS (b % 16).toNat]
/-- bytes in hex -/
def hexL (l : List Int) : List Int := l.flatMap hx2
theorem hexL_len (l : List Int) : (hexL l).length = 2 * l.length := by
  unfold hexL
  induction l with
  | nil => rfl
  | cons a l ih =>
    rw [List.flatMap_cons, List.length_append, ih]
    show 2 + _ = _
    simp
    omega
theorem hexL_succ {l : List Int} {k : Nat} (hk : k < l.length) : hexL (l.take (k + 1)) = hexL (l.take k) ++ hx2 (l.getD k 0) := by
  unfold hexL
  rw [List.take_add_one, List.flatMap_append, List.getElem?_eq_getElem hk, List.getD, List.getElem?_eq_getElem hk]
  simp

theorem and15 : ∀ n : Fin 256, bits BinOp.and IntKind.u8 (n.val : Int) 15 = (n.val : Int) % 16 := by decide +kernel
theorem and15' {b : Int} (h0 : 0 ≤ b) (h1 : b ≤ 255) : bits BinOp.and IntKind.u8 b 15 = b % 16 := by
  have := and15 ⟨b.toNat, by omega⟩
  simpa [Int.toNat_of_nonneg h0] using this

theorem hexI0 (w : World) : (Instr.index 9 (.string ⟨#[48, 49, 50, 51, 52, 53, 54, 55, 56, 57, 97, 98, 99, 100, 101, 102]⟩) (.int .u8 0)).run Tryz.prog w = .ok (.int .u8 (bt hexS 0)) w := by kernel_rfl
theorem hexI1 (w : World) : (Instr.index 9 (.string ⟨#[48, 49, 50, 51, 52, 53, 54, 55, 56, 57, 97, 98, 99, 100, 101, 102]⟩) (.int .u8 1)).run Tryz.prog w = .ok (.int .u8 (bt hexS 1)) w := by kernel_rfl
theorem hexI2 (w : World) : (Instr.index 9 (.string ⟨#[48, 49, 50, 51, 52, 53, 54, 55, 56, 57, 97, 98, 99, 100, 101, 102]⟩) (.int .u8 2)).run Tryz.prog w = .ok (.int .u8 (bt hexS 2)) w := by kernel_rfl
theorem hexI3 (w : World) : (Instr.index 9 (.string ⟨#[48, 49, 50, 51, 52, 53, 54, 55, 56, 57, 97, 98, 99, 100, 101, 102]⟩) (.int .u8 3)).run Tryz.prog w = .ok (.int .u8 (bt hexS 3)) w := by kernel_rfl
theorem hexI4 (w : World) : (Instr.index 9 (.string ⟨#[48, 49, 50, 51, 52, 53, 54, 55, 56, 57, 97, 98, 99, 100, 101, 102]⟩) (.int .u8 4)).run Tryz.prog w = .ok (.int .u8 (bt hexS 4)) w := by kernel_rfl
theorem hexI5 (w : World) : (Instr.index 9 (.string ⟨#[48, 49, 50, 51, 52, 53, 54, 55, 56, 57, 97, 98, 99, 100, 101, 102]⟩) (.int .u8 5)).run Tryz.prog w = .ok (.int .u8 (bt hexS 5)) w := by kernel_rfl
theorem hexI6 (w : World) : (Instr.index 9 (.string ⟨#[48, 49, 50, 51, 52, 53, 54, 55, 56, 57, 97, 98, 99, 100, 101, 102]⟩) (.int .u8 6)).run Tryz.prog w = .ok (.int .u8 (bt hexS 6)) w := by kernel_rfl
theorem hexI7 (w : World) : (Instr.index 9 (.string ⟨#[48, 49, 50, 51, 52, 53, 54, 55, 56, 57, 97, 98, 99, 100, 101, 102]⟩) (.int .u8 7)).run Tryz.prog w = .ok (.int .u8 (bt hexS 7)) w := by kernel_rfl
theorem hexI8 (w : World) : (Instr.index 9 (.string ⟨#[48, 49, 50, 51, 52, 53, 54, 55, 56, 57, 97, 98, 99, 100, 101, 102]⟩) (.int .u8 8)).run Tryz.prog w = .ok (.int .u8 (bt hexS 8)) w := by kernel_rfl
theorem hexI9 (w : World) : (Instr.index 9 (.string ⟨#[48, 49, 50, 51, 52, 53, 54, 55, 56, 57, 97, 98, 99, 100, 101, 102]⟩) (.int .u8 9)).run Tryz.prog w = .ok (.int .u8 (bt hexS 9)) w := by kernel_rfl
theorem hexI10 (w : World) : (Instr.index 9 (.string ⟨#[48, 49, 50, 51, 52, 53, 54, 55, 56, 57, 97, 98, 99, 100, 101, 102]⟩) (.int .u8 10)).run Tryz.prog w = .ok (.int .u8 (bt hexS 10)) w := by kernel_rfl
theorem hexI11 (w : World) : (Instr.index 9 (.string ⟨#[48, 49, 50, 51, 52, 53, 54, 55, 56, 57, 97, 98, 99, 100, 101, 102]⟩) (.int .u8 11)).run Tryz.prog w = .ok (.int .u8 (bt hexS 11)) w := by kernel_rfl
theorem hexI12 (w : World) : (Instr.index 9 (.string ⟨#[48, 49, 50, 51, 52, 53, 54, 55, 56, 57, 97, 98, 99, 100, 101, 102]⟩) (.int .u8 12)).run Tryz.prog w = .ok (.int .u8 (bt hexS 12)) w := by kernel_rfl
theorem hexI13 (w : World) : (Instr.index 9 (.string ⟨#[48, 49, 50, 51, 52, 53, 54, 55, 56, 57, 97, 98, 99, 100, 101, 102]⟩) (.int .u8 13)).run Tryz.prog w = .ok (.int .u8 (bt hexS 13)) w := by kernel_rfl
theorem hexI14 (w : World) : (Instr.index 9 (.string ⟨#[48, 49, 50, 51, 52, 53, 54, 55, 56, 57, 97, 98, 99, 100, 101, 102]⟩) (.int .u8 14)).run Tryz.prog w = .ok (.int .u8 (bt hexS 14)) w := by kernel_rfl
theorem hexI15 (w : World) : (Instr.index 9 (.string ⟨#[48, 49, 50, 51, 52, 53, 54, 55, 56, 57, 97, 98, 99, 100, 101, 102]⟩) (.int .u8 15)).run Tryz.prog w = .ok (.int .u8 (bt hexS 15)) w := by kernel_rfl
theorem hex_index {x : Int} (h0 : 0 ≤ x) (h1 : x < 16) (w : World) : (Instr.index 9 (.string ⟨#[48, 49, 50, 51, 52, 53, 54, 55, 56, 57, 97, 98, 99, 100, 101, 102]⟩) (.int .u8 x)).run Tryz.prog w = .ok (.int .u8 (bt hexS x.toNat)) w := by
  have : x = 0 ∨ x = 1 ∨ x = 2 ∨ x = 3 ∨ x = 4 ∨ x = 5 ∨ x = 6 ∨ x = 7 ∨ x = 8 ∨ x = 9 ∨ x = 10 ∨ x = 11 ∨ x = 12 ∨ x = 13 ∨ x = 14 ∨ x = 15 := by omega
  rcases this with rfl | rfl | rfl | rfl | rfl | rfl | rfl | rfl | rfl | rfl | rfl | rfl | rfl | rfl | rfl | rfl
  · exact hexI0 w
  · exact hexI1 w
  · exact hexI2 w
  · exact hexI3 w
  · exact hexI4 w
  · exact hexI5 w
  · exact hexI6 w
  · exact hexI7 w
  · exact hexI8 w
  · exact hexI9 w
  · exact hexI10 w
  · exact hexI11 w
  · exact hexI12 w
  · exact hexI13 w
  · exact hexI14 w
  · exact hexI15 w
theorem by4_range (x : Int) : ∀ z ∈ by4 x, 0 ≤ z ∧ z ≤ 255 := by
  intro z hz
  simp only [by4, List.mem_cons, List.not_mem_nil, or_false] at hz
  rcases hz with rfl | rfl | rfl | rfl <;> omega
theorem bytes_range (s : S8) : ∀ z ∈ s.bytes, 0 ≤ z ∧ z ≤ 255 := by
  intro z hz
  unfold S8.bytes at hz
  obtain ⟨x, _, hx⟩ := List.mem_flatMap.1 hz
  exact by4_range x z hx
theorem bytes_len (s : S8) : s.bytes.length = 32 := by
  rw [← S8.first_all, S8.first_len s 8 (Nat.le_refl _)]

/-- the digest's text -/
def sumT (s : ByteArray) : ByteArray := strB (hexL (sumS kW s00 s).bytes)

theorem getD_range {l : List Int} (h : ∀ z ∈ l, 0 ≤ z ∧ z ≤ 255) {k : Nat} (hk : k < l.length) : 0 ≤ l.getD k 0 ∧ l.getD k 0 ≤ 255 := by
  rw [List.getD, List.getElem?_eq_getElem hk]
  exact h _ (List.getElem_mem hk)

set_option maxRecDepth 10000 in
set_option maxHeartbeats 800000 in
theorem implSumText_any (s : ByteArray) (hs : s.size ≤ 1048576) (w : World) (hT : Tabs w) :
    Calls Tryz.prog 61 #[.string s] w fun e w' => e = .returned (.string (sumT s)) ∧ Below w.heap.size w w' := by
  go_enter Tryz.func61, Tryz.ntmps61
  go_wp2_with fail
  refine (implSum_any s hs kW s00 _ hT.words hT.start).mono ?_
  rintro e w1 ⟨rfl, hB1⟩
  obtain ⟨l, hl⟩ : ∃ l, l = (sumS kW s00 s).bytes := ⟨_, rfl⟩
  have HL : Hid (sumT s = strB (hexL l)) := by show _ = _; rw [hl]; rfl
  have hll : l.length = 32 := by rw [hl]; exact bytes_len _
  have hlr : ∀ z ∈ l, 0 ≤ z ∧ z ≤ 255 := by rw [hl]; exact bytes_range _
  rw [← hl]
  obtain ⟨q, hq⟩ : ∃ q, q = strB l := ⟨_, rfl⟩
  have hqs : q.size = 32 := by rw [hq, strB_size, hll]
  have hqb : bl q = l := by rw [hq, bl_strB hlr]
  rw [← hq]
  obtain ⟨cap, w2, hcv, hown, hB2⟩ := bytes_new q w1 (by omega)
  rw [hqb, hqs] at hown
  rw [hqs] at hcv
  have hc : ∀ k, k < 32 → w2.cell? ⟨w1.heap.size, k, none⟩ = some (.int .u8 (l.getD k 0)) := fun k hk => by
    have := hown.news k (l.getD k 0) (by rw [List.getD, List.getElem?_eq_getElem (by omega)]; rfl)
    rwa [Addr.add_lit, Nat.zero_add] at this
  have hlt1 : w1.heap.size < w2.heap.size := cell_lt (hc 0 (by decide))
  have hBw2 : Below w.heap.size w w2 := hB1.trans (hB2.mono hB1.size)
  clear hl hq hqs hqb hown hT hB2
  go_wp2
  clear hcv
  go_loopw [3, 10] (fun v i wr => ∃ k : Nat, k ≤ 32 ∧ i = .int .i64 k ∧ OwnB wr w2.heap.size v (hexL (l.take k)) ∧ Below w2.heap.size w2 wr) (fun _ i _ => 32 - (intOf i).toNat)
  case atStart => exact ⟨0, by omega, rfl, OwnB.nil _ _, Below.refl _ _⟩
  case round =>
    obtain ⟨k, hk, rfl, how, hBr⟩ := hrel
    by_cases hlt : k < 32
    · have hltI : (k : Int) < 32 := by omega
      have hck := (hBr.cell (p := ⟨w1.heap.size, k, none⟩) hlt1).trans (hc k hlt)
      have hr := getD_range hlr (k := k) (by omega)
      have hsz : (hexL (l.take k)).length + 2 ≤ 100000000 := by rw [hexL_len, List.length_take]; omega
      have HF : Hid (hexL (l.take (k + 1)) = hexL (l.take k) ++ hx2 (l.getD k 0)) := hexL_succ (by omega)
      have HO : Hid (OwnB wr.drew w2.heap.size _ (hexL (l.take k))) := how.drew
      have HBd : Hid (Below w2.heap.size w2 wr.drew) := hBr.drew
      have HN : Hid (∀ o, w2.heap.size ≤ (wr.drew.alloc o).heap.size) := alloc_size wr.drew HBd.out.size
      clear hc how hBr hlr hll
      generalize l.getD k 0 = b at hck hr HF
      have ha := and15' hr.1 hr.2
      have hi1 := fun w => hex_index (x := b / 16) (by omega) (by omega) w
      have hi2 := fun w => hex_index (x := b % 16) (by omega) (by omega) w
      go_wp2
      go_region_held3 (fun w' => True) (trivial) ((refine step_appendB rfl _ _ rfl rfl (HO.out.alloc _) ⟨wr.drew.heap.size, 0, none⟩ 2 2 (hx2 b) rfl rfl (by decide) (news_new wr.drew (hx2 b)) hsz (HN.out _) ?_; intro g8 cap8 w8 hown8 hB8))
      all_goals
        go_wp2
        go_roundw
        case rel => exact ⟨k + 1, by omega, by go_num, by rw [HF.out]; exact hown8, (HBd.out.alloc HBd.out.size _).trans hB8⟩
        case measure => simp [intOf]; omega
    · have hk32 : k = 32 := by omega
      subst hk32
      have hnl : ¬ ((32 : Nat) : Int) < 32 := by omega
      rw [List.take_of_length_le (by omega)] at how
      obtain ⟨g0, cap0, rfl⟩ := how.form (by rw [hexL_len]; omega)
      have hcs := how.str
      generalize (hexL l).length = n at hcs how
      clear how hc
      go_wp2
      go_ret
      exact ⟨ret_val (by rw [HL.out]; rfl), hBw2.trans (hBr.mono hBw2.size)⟩

set_option maxRecDepth 10000 in
set_option maxHeartbeats 800000 in
theorem specSumText_any (s : ByteArray) (hs : s.size ≤ 1048576) (w : World) :
    Calls Tryz.prog 110 #[.string s] w fun e w' => e = .returned (.string (sumT s)) ∧ Below w.heap.size w w' := by
  go_enter Tryz.func110, Tryz.ntmps110
  go_wp2_with fail
  refine (specSum_any s hs _).mono ?_
  rintro e w1 ⟨rfl, hB1⟩
  obtain ⟨l, hl⟩ : ∃ l, l = (sumS kW s00 s).bytes := ⟨_, rfl⟩
  have HL : Hid (sumT s = strB (hexL l)) := by show _ = _; rw [hl]; rfl
  have hll : l.length = 32 := by rw [hl]; exact bytes_len _
  have hlr : ∀ z ∈ l, 0 ≤ z ∧ z ≤ 255 := by rw [hl]; exact bytes_range _
  rw [← hl]
  obtain ⟨q, hq⟩ : ∃ q, q = strB l := ⟨_, rfl⟩
  have hqs : q.size = 32 := by rw [hq, strB_size, hll]
  have hqb : ∀ k, k < 32 → bt q k = l.getD k 0 := fun k hk => by rw [hq]; exact bt_strB hlr (by omega)
  rw [← hq]
  clear hl hq
  go_wp2
  go_loopw [4, 5] (fun v i wr => ∃ k : Nat, k ≤ 32 ∧ i = .int .i64 k ∧ OwnB wr w1.heap.size v (hexL (l.take k)) ∧ Below w1.heap.size w1 wr) (fun _ i _ => 32 - (intOf i).toNat)
  case atStart => exact ⟨0, by omega, rfl, .inr ⟨w1.heap.size, 0, rfl, Nat.le_refl _, by simp, Nat.le_refl _, by unfold maxLen; omega, fun j z hj => by simp [hexL] at hj, fun j a b => absurd b (by omega)⟩, (Below.refl _ _).alloc (Nat.le_refl _) _⟩
  case round =>
    obtain ⟨k, hk, rfl, how, hBr⟩ := hrel
    by_cases hlt : k < 32
    · have hltI : (k : Int) < 32 := by omega
      have hkq : k < q.size := by omega
      have hbt := bt_in hkq
      rw [hqb k hlt] at hbt
      have hr := getD_range hlr (k := k) (by omega)
      have hsz : (hexL (l.take k)).length + 2 ≤ 100000000 := by rw [hexL_len, List.length_take]; omega
      have HF : Hid (hexL (l.take (k + 1)) = hexL (l.take k) ++ hx2 (l.getD k 0)) := hexL_succ (by omega)
      have HO : Hid (OwnB wr.drew w1.heap.size _ (hexL (l.take k))) := how.drew
      have HBd : Hid (Below w1.heap.size w1 wr.drew) := hBr.drew
      have HN : Hid (∀ o, w1.heap.size ≤ (wr.drew.alloc o).heap.size) := alloc_size wr.drew HBd.out.size
      clear how hBr hlr hll hqb
      generalize l.getD k 0 = b at hbt hr HF
      have hi1 := fun w => hex_index (x := b / 16) (by omega) (by omega) w
      have hi2 := fun w => hex_index (x := b % 16) (by omega) (by omega) w
      have t1 : b.tdiv 16 = b / 16 := Int.tdiv_eq_ediv_of_nonneg hr.1
      have t2 : b.tmod 16 = b % 16 := Int.tmod_eq_emod_of_nonneg hr.1
      have t3 : IntKind.u8.wrap (b / 16) = b / 16 := by rw [IntKind.wrap_u8]; omega
      have t4 : IntKind.u8.wrap (b % 16) = b % 16 := by rw [IntKind.wrap_u8]; omega
      go_wp2
      go_region_held3 (fun w' => True) (trivial) ((refine step_appendB rfl _ _ rfl rfl (HO.out.alloc _) ⟨wr.drew.heap.size, 0, none⟩ 2 2 (hx2 b) rfl rfl (by decide) (news_new wr.drew (hx2 b)) hsz (HN.out _) ?_; intro g8 cap8 w8 hown8 hB8))
      all_goals
        go_wp2
        go_roundw
        case rel => exact ⟨k + 1, by omega, by go_num, by rw [HF.out]; exact hown8, (HBd.out.alloc HBd.out.size _).trans hB8⟩
        case measure => simp [intOf]; omega
    · have hk32 : k = 32 := by omega
      subst hk32
      have hnl : ¬ ((32 : Nat) : Int) < 32 := by omega
      rw [List.take_of_length_le (by omega)] at how
      obtain ⟨g0, cap0, rfl⟩ := how.form (by rw [hexL_len]; omega)
      have hcs := how.str
      generalize (hexL l).length = n at hcs how
      clear how hqb
      go_wp2
      go_ret
      exact ⟨ret_val (by rw [HL.out]; rfl), hB1.trans (hBr.mono hB1.size)⟩

end Go.Proofs.YtlibipbpaigmdaaGreatDoor
