/-
  The specification's l13End: where a node's text ends. No condition but that the text is held by a machine.
  A right node's text begins with no line end, holds no two in a row, and ends with one: so the first two line ends behind it are its end. Plain data alone, no condition.
  A dag's text: its first line, then node by node its text with a line end behind it. Plain data alone, no condition.
  Dags that are alike node by node, as far as their ups go, have one text; a text is that of one right dag at most; what reading node by node keeps. Plain data alone, no condition.
  The program's reader of a dag's text: strings.Cut at two line ends, a node, the count. No condition but that the text is held by a machine and that bytealg's variable lies.
  The program's dagOfText and ReadDag: what they answer, plainly. No condition but that the text is held by a machine, that the tables lie and that bytealg's variable lies.
  The program's dagOfText and ReadDag, walked: the loop, the panic that is recovered. No condition but that the text is held by a machine, that the tables lie and that bytealg's variable lies.
  The specification's DagText. No condition but that the slice reads.
  The specification's ReadDag: what it answers, plainly. No condition but that the text is held by a machine.
  The program's ReadDag; the law of ReadDag returns true. No condition but that the tables lie and that bytealg's variable lies.
-/
import Derived.Test.YtlibipbpaigmdaaGreatDoorDgN
import Derived.Test.YtlibipbpaigmdaaGreatDoorDgP
import Derived.Deep.RegionLaw
import Derived.Defers
import Derived.Recover
import Derived.Laws.Pointers
namespace Go.Proofs.YtlibipbpaigmdaaGreatDoor
open Go.RowKit
set_option linter.unusedVariables false

/-- at place k stands the second of two line ends -/
def end2 (s : ByteArray) (k : Nat) : Bool := bt s k == 10 && bt s (k - 1) == 10
set_option maxHeartbeats 1000000 in
theorem l13End_any (s : ByteArray) (w : World) (hs : s.size ≤ 1048576) :
    Calls Tryz.prog 101 #[.string s] w fun e w' => ((∃ k : Nat, e = .returned (.int .i64 k) ∧ 1 ≤ k ∧ k < s.size ∧ end2 s k = true ∧ ∀ i, 1 ≤ i → i < k → end2 s i = false) ∨ (e = .returned (.int .i64 (-1)) ∧ ∀ i, 1 ≤ i → i < s.size → end2 s i = false)) ∧ w' = w := by
  obtain ⟨n, hn⟩ : ∃ n, n = s.size := ⟨_, rfl⟩
  have hsI : (s.size : Int) ≤ 1048576 := by omega
  go_enter Tryz.func101, Tryz.ntmps101
  go_wp2
  go_loop [3] (fun c => ∃ j : Nat, 1 ≤ j ∧ (j ≤ s.size ∨ j = 1) ∧ c = .int .i64 j ∧ Hid (∀ i, 1 ≤ i → i < j → end2 s i = false)) (fun c => s.size - (intOf c).toNat)
  case atStart => exact ⟨1, Nat.le_refl _, .inr rfl, rfl, fun i h1 h2 => absurd h2 (by omega)⟩
  case round =>
    obtain ⟨j, hj1, hj, rfl, HN⟩ := hrel
    by_cases hlt : j < s.size
    · have hltI : (j : Int) < (s.size : Int) := by omega
      have hbj := bt_in hlt
      have hrj := bt_range hlt
      have hp : j - 1 < s.size := by omega
      have hbp := bt_in hp
      have hrp := bt_range hp
      have hpI : (j : Int) - 1 = ((j - 1 : Nat) : Int) := by omega
      have hp0 : (0 : Int) ≤ (j : Int) - 1 := by omega
      cases h1 : (bt s j == 10) with
      | false =>
        have HN2 : Hid (∀ i, 1 ≤ i → i < j + 1 → end2 s i = false) := fun i h2 h3 => by
          rcases Nat.lt_succ_iff_lt_or_eq.1 h3 with h4 | rfl
          · exact HN.out i h2 h4
          · unfold end2; rw [h1]; rfl
        go_wp2
        go_round
        case rel => exact ⟨j + 1, by omega, .inl (by omega), by go_num, HN2⟩
        case measure => simp [intOf]; omega
      | true =>
        cases h2 : (bt s (j - 1) == 10) with
        | false =>
          have HN2 : Hid (∀ i, 1 ≤ i → i < j + 1 → end2 s i = false) := fun i h3 h4 => by
            rcases Nat.lt_succ_iff_lt_or_eq.1 h4 with h5 | rfl
            · exact HN.out i h3 h5
            · unfold end2; rw [h1, h2]; rfl
          go_wp2
          go_round
          case rel => exact ⟨j + 1, by omega, .inl (by omega), by go_num, HN2⟩
          case measure => simp [intOf]; omega
        | true =>
          have HE : Hid (end2 s j = true) := by show _ = _; unfold end2; rw [h1, h2]; rfl
          go_wp2
          go_ret
          exact ⟨.inl ⟨j, rfl, hj1, hlt, HE.out, HN.out⟩, rfl⟩
    · have hltI : ¬ (j : Int) < (s.size : Int) := by omega
      go_wp2
      go_ret
      exact ⟨.inr ⟨rfl, fun i h1 h2 => HN.out i h1 (by omega)⟩, rfl⟩

set_option maxHeartbeats 1000000 in
theorem l13Line_any (s : ByteArray) (w : World) (hs : s.size ≤ 1048576) :
    Calls Tryz.prog 100 #[.string s] w fun e w' => ∃ i, FirstAt s 10 i ∧ e = .returned (cutV s i) ∧ ∃ n, w' = w.drewN n := by
  go_enter Tryz.func100, Tryz.ntmps100
  go_wp2
  go_loop [5] (fun i => ∃ (k : Nat), k ≤ s.size ∧ i = .int .i64 k ∧ Hid (∀ j, j < k → bt s j ≠ 10)) (fun i => s.size - (intOf i).toNat)
  case atStart => exact ⟨0, Nat.zero_le _, rfl, fun j hj => absurd hj (Nat.not_lt_zero _)⟩
  case round =>
    obtain ⟨k, hk, rfl, HR⟩ := hrel
    by_cases hlt : k < s.size
    · have hbk := bt_in hlt
      have hltI : (k : Int) < (s.size : Int) := by omega
      by_cases hq : bt s k = 10
      · have hqb : (bt s k == 10) = true := by simpa using hq
        have hF : Hid (FirstAt s 10 k) := ⟨hk, HR.out, fun _ => hq⟩
        have hv : Hid (cutV s k = .tuple #[.string (s.extract 0 k), .string (s.extract (k + 1) s.size), .bool true]) := by show _ = _; unfold cutV; rw [if_pos hlt]
        clear hq
        have hk1 : ((k + 1 : Nat) : Int) ≤ (s.size : Int) := by omega
        go_wp2
        go_region
        all_goals
          go_wp2
          go_ret3
          exact ⟨k, hF.out, ret_val (by rw [hv.out]; rfl), 1, rfl⟩
      · have hqb : (bt s k == 10) = false := by simpa using hq
        have HR' : Hid (∀ j, j < k + 1 → bt s j ≠ 10) := by
          intro j hj
          rcases Nat.lt_succ_iff_lt_or_eq.1 hj with h1 | rfl
          · exact HR.out j h1
          · exact hq
        clear hq
        go_wp2
        go_round
        case rel => exact ⟨k + 1, by omega, by go_num, HR'⟩
        case measure => simp [intOf]; omega
    · have hke : k = s.size := by omega
      have hF : Hid (FirstAt s 10 k) := ⟨hk, HR.out, fun h => absurd h hlt⟩
      have hv : Hid (cutV s k = .tuple #[.string s, .string ⟨#[]⟩, .bool false]) := by show _ = _; unfold cutV; rw [if_neg hlt]
      go_wp2
      go_ret3
      exact ⟨k, hF.out, ret_val (by rw [hv.out]; rfl), 0, rfl⟩
end Go.Proofs.YtlibipbpaigmdaaGreatDoor

namespace Go.Proofs.YtlibipbpaigmdaaGreatDoor
open Go.RowKit
set_option linter.unusedVariables false

theorem bt_right {a b : ByteArray} {i : Nat} (h : a.size ≤ i) : bt (a ++ b) i = bt b (i - a.size) := by
  by_cases hb : i - a.size < b.size
  · have h2 : i < (a ++ b).size := by rw [ByteArray.size_append]; omega
    rw [← bt_in h2, ← bt_in hb]
    congr 2
    exact ByteArray.getElem_append_right h
  · unfold bt
    rw [dif_neg (by rw [ByteArray.size_append]; omega), dif_neg hb]
theorem bt_clean {s : ByteArray} (h : (10 : UInt8) ∉ s.data.toList) (i : Nat) : bt s i ≠ 10 := by
  by_cases hi : i < s.size
  · intro e
    apply h
    rw [← bt_in hi] at e
    have e2 : s[i] = 10 := by
      apply UInt8.toNat_inj.1
      have : (s[i].toNat : Int) = ((10 : UInt8).toNat : Int) := e
      omega
    rw [← e2]
    have hi' : i < s.data.toList.length := by simpa using hi
    have : s.data.toList[i] = s[i] := by simp; rfl
    rw [← this]
    exact List.getElem_mem hi'
  · unfold bt
    rw [dif_neg hi]
    decide
/-- each line end stands behind a sign that is none -/
def NBt (t : ByteArray) : Prop := ∀ i, i < t.size → bt t i = 10 → 1 ≤ i ∧ bt t (i - 1) ≠ 10
theorem NBt.app {a b : ByteArray} (ha : NBt a) (hb : NBt b) : NBt (a ++ b) := fun i hi he => by
  rw [ByteArray.size_append] at hi
  by_cases h : i < a.size
  · rw [bt_left h] at he
    obtain ⟨h1, h2⟩ := ha i h he
    exact ⟨h1, by rw [bt_left (by omega)]; exact h2⟩
  · rw [bt_right (by omega)] at he
    obtain ⟨h1, h2⟩ := hb (i - a.size) (by omega) he
    refine ⟨by omega, ?_⟩
    rw [bt_right (by omega), show i - 1 - a.size = i - a.size - 1 by omega]
    exact h2
theorem nbt_line {w v : ByteArray} (hw : (10 : UInt8) ∉ w.data.toList) (hv : (10 : UInt8) ∉ v.data.toList) : NBt (lineB w v) := fun i hi he => by
  have hc : (10 : UInt8) ∉ ((w ++ ⟨#[32]⟩) ++ v).data.toList := by
    simp only [ByteArray.data_append, Array.toList_append, List.mem_append]
    rintro ((h | h) | h)
    · exact hw h
    · simp at h
    · exact hv h
  have hz : ((w ++ ⟨#[32]⟩) ++ v).size = w.size + v.size + 1 := by
    rw [ByteArray.size_append, ByteArray.size_append, show (ByteArray.mk #[32]).size = 1 from rfl]
    omega
  rw [lineB_size] at hi
  unfold lineB at he ⊢
  by_cases h : i < ((w ++ ⟨#[32]⟩) ++ v).size
  · rw [bt_left h] at he
    exact absurd he (bt_clean hc i)
  · refine ⟨by omega, ?_⟩
    rw [bt_left (by omega)]
    exact bt_clean hc _
theorem line_last {w v : ByteArray} : bt (lineB w v) ((lineB w v).size - 1) = 10 := by
  rw [lineB_size]
  unfold lineB
  rw [bt_right (by rw [ByteArray.size_append, ByteArray.size_append, show (ByteArray.mk #[32]).size = 1 from rfl]; omega), ByteArray.size_append, ByteArray.size_append, show (ByteArray.mk #[32]).size = 1 from rfl, show w.size + v.size + 2 - 1 - (w.size + 1 + v.size) = 0 by omega]
  rfl
theorem app_last {a b : ByteArray} (hb : 0 < b.size) : bt (a ++ b) ((a ++ b).size - 1) = bt b (b.size - 1) := by
  rw [ByteArray.size_append, bt_right (by omega), show a.size + b.size - 1 - a.size = b.size - 1 by omega]
theorem nbt_head {a s k : Nat} {key text : ByteArray} (h1 : (10 : UInt8) ∉ key.data.toList) (h2 : (10 : UInt8) ∉ text.data.toList) : NBt (headB a s k key text) := by
  unfold headB
  exact ((((nbt_line (by decide) (decB_clean a)).app (nbt_line (by decide) (decB_clean s))).app (nbt_line (by decide) (decB_clean k))).app ((nbt_line (by decide) h1).app (nbt_line (by decide) h2)))
theorem nbt_ups {H : ByteArray} {S : Nat → ByteArray} (hH : NBt H) : ∀ j, (∀ i, i < j → (10 : UInt8) ∉ (S i).data.toList) → NBt (upsB H S j)
  | 0, _ => hH
  | j + 1, h => (nbt_ups hH j fun i hi => h i (by omega)).app (nbt_line (by decide) (h j (by omega)))
theorem last_head {a s k : Nat} {key text : ByteArray} : bt (headB a s k key text) ((headB a s k key text).size - 1) = 10 := by
  unfold headB
  rw [app_last (by rw [ByteArray.size_append, lineB_size, lineB_size]; omega), app_last (by rw [lineB_size]; omega)]
  exact line_last
theorem last_ups {H : ByteArray} {S : Nat → ByteArray} (hH : bt H (H.size - 1) = 10) : ∀ j, bt (upsB H S j) ((upsB H S j).size - 1) = 10
  | 0 => hH
  | j + 1 => by
    show bt (upsB H S j ++ lineB ⟨#[117, 112]⟩ (S j)) ((upsB H S j ++ lineB ⟨#[117, 112]⟩ (S j)).size - 1) = 10
    rw [app_last (by rw [lineB_size]; omega)]
    exact line_last
/-- a right node's text -/
theorem text_ends {a s k : Int} {key text : ByteArray} {S : Nat → ByteArray} {len : Nat} (hn : nodeB a s k key text S len = true) :
    NBt (textR a s k key text S len) ∧ bt (textR a s k key text S len) ((textR a s k key text S len).size - 1) = 10 ∧ 1 ≤ (textR a s k key text S len).size := by
  obtain ⟨c1, c2, c3⟩ := node_clean hn
  obtain ⟨_, _, _, _, _, _, h4⟩ := node_right hn
  have e : textR a s k key text S len = upsB (headB a.toNat s.toNat k.toNat key text) S len := by unfold textR; rw [if_pos hn]
  rw [e]
  refine ⟨nbt_ups (nbt_head c1 c2) len c3, last_ups last_head len, ?_⟩
  rw [upsB_size _ _ _ h4, headB_size]
  omega
/-- where it ends, in a text that goes on with a line end -/
theorem end_at {t r : ByteArray} (h : NBt t) (hl : bt t (t.size - 1) = 10) (h0 : 1 ≤ t.size) : end2 (t ++ (⟨#[10]⟩ ++ r)) t.size = true ∧ ∀ i, 1 ≤ i → i < t.size → end2 (t ++ (⟨#[10]⟩ ++ r)) i = false := by
  constructor
  · unfold end2
    have e1 : bt (t ++ (⟨#[10]⟩ ++ r)) t.size = 10 := by
      rw [bt_right (Nat.le_refl _), Nat.sub_self, bt_left (show 0 < (ByteArray.mk #[10]).size from Nat.zero_lt_one)]
      rfl
    have e2 : bt (t ++ (⟨#[10]⟩ ++ r)) (t.size - 1) = 10 := by
      rw [bt_left (by omega)]
      exact hl
    rw [e1, e2]
    rfl
  · intro i h1 h2
    unfold end2
    rw [bt_left h2, bt_left (by omega)]
    by_cases he : bt t i = 10
    · have := (h i h2 he).2
      have hb : (bt t (i - 1) == 10) = false := by simpa using this
      rw [hb]
      simp
    · have hb : (bt t i == 10) = false := by simpa using he
      rw [hb]
      rfl
end Go.Proofs.YtlibipbpaigmdaaGreatDoor

namespace Go.Proofs.YtlibipbpaigmdaaGreatDoor
open Go.RowKit
set_option linter.unusedVariables false

theorem ba_nil (a : ByteArray) : a ++ (⟨#[]⟩ : ByteArray) = a := by
  apply ByteArray.ext
  simp
/-- the texts of k nodes from the i-th on -/
def bodyT (D : Nat → Nd) : Nat → Nat → ByteArray
  | _, 0 => ⟨#[]⟩
  | i, k + 1 => (D i).txt ++ (⟨#[10]⟩ ++ bodyT D (i + 1) k)
theorem bodyT_snoc (D : Nat → Nd) : ∀ k i, bodyT D i (k + 1) = bodyT D i k ++ ((D (i + k)).txt ++ ⟨#[10]⟩)
  | 0, i => by
    show (D i).txt ++ (⟨#[10]⟩ ++ (⟨#[]⟩ : ByteArray)) = (⟨#[]⟩ : ByteArray) ++ ((D (i + 0)).txt ++ ⟨#[10]⟩)
    rw [ba_nil, Nat.add_zero]
    apply ByteArray.ext
    simp
  | k + 1, i => by
    show (D i).txt ++ (⟨#[10]⟩ ++ bodyT D (i + 1) (k + 1)) = ((D i).txt ++ (⟨#[10]⟩ ++ bodyT D (i + 1) k)) ++ ((D (i + (k + 1))).txt ++ ⟨#[10]⟩)
    rw [bodyT_snoc D k (i + 1), show i + 1 + k = i + (k + 1) by omega]
    simp only [ByteArray.append_assoc]
theorem dagT_body (D : Nat → Nd) (len : Nat) : ∀ k, dagT D len k = lineB ⟨#[100, 97, 103]⟩ (decB len) ++ bodyT D 0 k
  | 0 => (ba_nil _).symm
  | k + 1 => by
    show dagT D len k ++ ((D k).txt ++ ⟨#[10]⟩) = _
    rw [dagT_body D len k, bodyT_snoc, Nat.zero_add, ByteArray.append_assoc]
/-- a right node's text, with what follows it, ends where l13End says -/
theorem body_end {D : Nat → Nd} {i k : Nat} (h : (D i).ok = true) : end2 (bodyT D i (k + 1)) (D i).txt.size = true ∧ ∀ j, 1 ≤ j → j < (D i).txt.size → end2 (bodyT D i (k + 1)) j = false := by
  obtain ⟨h1, h2, h3⟩ := text_ends (show nodeB (D i).a (D i).s (D i).k (D i).key (D i).text (D i).S (D i).n = true from h)
  exact end_at h1 h2 h3
theorem ext_left (a b : ByteArray) : (a ++ b).extract 0 a.size = a := by
  have h : a.size = a.data.toList.length := by simp
  apply ByteArray.ext
  apply Array.ext'
  rw [ByteArray.data_extract, Array.toList_extract, ByteArray.data_append, Array.toList_append, h, List.extract_eq_take_drop, List.drop_zero, Nat.sub_zero, List.take_left]
theorem ext_right (a r : ByteArray) : (a ++ (⟨#[10]⟩ ++ r)).extract (a.size + 1) (a ++ (⟨#[10]⟩ ++ r)).size = r := by
  have h : a.size = a.data.toList.length := by simp
  have h2 : (a ++ ((⟨#[10]⟩ : ByteArray) ++ r)).size = a.data.toList.length + 1 + r.data.toList.length := by
    rw [ByteArray.size_append, ByteArray.size_append, show (ByteArray.mk #[10]).size = 1 from rfl, h, show r.size = r.data.toList.length by simp]
    omega
  have hd : ∀ (l m : List UInt8), List.take (l.length + 1 + m.length - (l.length + 1)) (List.drop (l.length + 1) (l ++ ([10] ++ m))) = m := fun l m => by
    have e : l ++ ([10] ++ m) = (l ++ [10]) ++ m := by simp
    have e2 : l.length + 1 = (l ++ [(10 : UInt8)]).length := by simp
    rw [e, e2, List.drop_left, Nat.add_sub_cancel_left, List.take_length]
  apply ByteArray.ext
  apply Array.ext'
  rw [ByteArray.data_extract, Array.toList_extract, ByteArray.data_append, ByteArray.data_append, Array.toList_append, Array.toList_append, h2, h, List.extract_eq_take_drop]
  exact hd _ _
/-- the place that l13End answers, where a right node's text comes first -/
theorem body_at {D : Nat → Nd} {i k e : Nat} (h : (D i).ok = true) (h1 : 1 ≤ e) (h2 : end2 (bodyT D i (k + 1)) e = true) (h3 : ∀ j, 1 ≤ j → j < e → end2 (bodyT D i (k + 1)) j = false) : e = (D i).txt.size := by
  obtain ⟨g1, g2⟩ := body_end (k := k) h
  obtain ⟨_, _, g3⟩ := text_ends (show nodeB (D i).a (D i).s (D i).k (D i).key (D i).text (D i).S (D i).n = true from h)
  have g3 : 1 ≤ (D i).txt.size := g3
  rcases Nat.lt_trichotomy e (D i).txt.size with hl | he | hl
  · rw [g2 e h1 hl] at h2; cases h2
  · exact he
  · rw [h3 _ g3 hl] at g1; cases g1
/-- what is left of a right dag's text behind its first line -/
theorem first_line {D : Nat → Nd} {n i : Nat} {s : ByteArray} (hq : dagB D n = true) (hs : dagTR D n = s) (hF : FirstAt s 10 i) : i < s.size ∧ s.extract (i + 1) s.size = bodyT D 0 n := by
  have hc : (10 : UInt8) ∉ (((⟨#[100, 97, 103]⟩ : ByteArray) ++ ⟨#[32]⟩) ++ decB n).data.toList := by
    simp only [ByteArray.data_append, Array.toList_append, List.mem_append]
    rintro ((h | h) | h)
    · simp at h
    · simp at h
    · exact decB_clean n h
  obtain ⟨H, hH⟩ : ∃ H, H = (((⟨#[100, 97, 103]⟩ : ByteArray) ++ ⟨#[32]⟩) ++ decB n) := ⟨_, rfl⟩
  rw [← hH] at hc
  have e : s = H ++ (⟨#[10]⟩ ++ bodyT D 0 n) := by
    rw [← hs]
    unfold dagTR
    rw [if_pos hq, dagT_body]
    unfold lineB
    rw [← hH, ByteArray.append_assoc]
  have e1 : bt s H.size = 10 := by
    rw [e, bt_right (Nat.le_refl _), Nat.sub_self, bt_left (show 0 < (ByteArray.mk #[10]).size from Nat.zero_lt_one)]
    rfl
  have hz : H.size < s.size := by
    rw [e, ByteArray.size_append, ByteArray.size_append, show (ByteArray.mk #[10]).size = 1 from rfl]
    omega
  have hi : i = H.size := by
    rcases Nat.lt_trichotomy i H.size with hl | he | hl
    · have h1 := hF.yes (by omega)
      rw [e, bt_left hl] at h1
      exact absurd h1 (bt_clean hc i)
    · exact he
    · exact absurd e1 (hF.no _ hl)
  subst hi
  refine ⟨hz, ?_⟩
  rw [e]
  exact ext_right H (bodyT D 0 n)
end Go.Proofs.YtlibipbpaigmdaaGreatDoor

namespace Go.Proofs.YtlibipbpaigmdaaGreatDoor
open Go.RowKit
set_option linter.unusedVariables false

/-- the same node, as far as the ups go -/
structure LikeW (d e : Nd) : Prop where
  a : d.a = e.a
  s : d.s = e.s
  k : d.k = e.k
  key : d.key = e.key
  text : d.text = e.text
  n : d.n = e.n
  S : ∀ i, i < d.n → d.S i = e.S i
theorem LikeW.refl (d : Nd) : LikeW d d := ⟨rfl, rfl, rfl, rfl, rfl, rfl, fun _ _ => rfl⟩
theorem LikeW.symm {d e : Nd} (h : LikeW d e) : LikeW e d := ⟨h.a.symm, h.s.symm, h.k.symm, h.key.symm, h.text.symm, h.n.symm, fun i hi => (h.S i (by rw [h.n]; exact hi)).symm⟩
theorem LikeW.trans {d e f : Nd} (h : LikeW d e) (g : LikeW e f) : LikeW d f := ⟨h.a.trans g.a, h.s.trans g.s, h.k.trans g.k, h.key.trans g.key, h.text.trans g.text, h.n.trans g.n, fun i hi => (h.S i hi).trans (g.S i (by rw [← h.n]; exact hi))⟩
theorem LikeW.of {d e : Nd} (h : d.Like e) : LikeW d e := ⟨h.1, h.2, h.3, h.4, h.5, h.6, fun i _ => by rw [h.7]⟩
/-- behind its ups a node has nothing -/
def Neat (d : Nd) : Prop := ∀ i, d.n ≤ i → d.S i = ⟨#[]⟩
theorem LikeW.like {d e : Nd} (h : LikeW d e) (hd : Neat d) (he : Neat e) : d.Like e := ⟨h.a, h.s, h.k, h.key, h.text, h.n, funext fun i => by
  by_cases hi : i < d.n
  · exact h.S i hi
  · rw [hd i (by omega), he i (by rw [← h.n]; omega)]⟩
/-- the node with nothing behind its ups -/
def neat (d : Nd) : Nd := { d with S := fun i => if i < d.n then d.S i else ⟨#[]⟩ }
theorem neat_neat (d : Nd) : Neat (neat d) := fun i hi => if_neg (show ¬ i < d.n from Nat.not_lt.2 hi)
theorem neat_like (d : Nd) : LikeW d (neat d) := ⟨rfl, rfl, rfl, rfl, rfl, rfl, fun i hi => (if_pos hi).symm⟩

theorem upsB_cg {H : ByteArray} {S T : Nat → ByteArray} : ∀ {n : Nat}, (∀ i, i < n → S i = T i) → upsB H S n = upsB H T n
  | 0, _ => rfl
  | n + 1, h => by
    show upsB H S n ++ lineB _ (S n) = upsB H T n ++ lineB _ (T n)
    rw [upsB_cg (n := n) (fun i hi => h i (by omega)), h n (by omega)]
theorem idLike {d e : Nd} (h : LikeW d e) : d.id = e.id := by
  obtain ⟨h1, h2, h3, h4, h5, h6, h7⟩ := h
  unfold Nd.id idR
  rw [← h1, ← h2, ← h3, ← h4, ← h5, ← h6, node_congr h7, upsB_cg h7]
theorem okLike {d e : Nd} (h : LikeW d e) : d.ok = e.ok := by
  obtain ⟨h1, h2, h3, h4, h5, h6, h7⟩ := h
  unfold Nd.ok
  rw [← h1, ← h2, ← h3, ← h4, ← h5, ← h6, node_congr h7]
theorem txtLike {d e : Nd} (h : LikeW d e) : d.txt = e.txt := by
  obtain ⟨h1, h2, h3, h4, h5, h6, h7⟩ := h
  unfold Nd.txt textR
  rw [← h1, ← h2, ← h3, ← h4, ← h5, ← h6, node_congr h7, upsB_cg h7]
theorem allB_eq {p q : Nat → Bool} : ∀ {n : Nat}, (∀ i, i < n → p i = q i) → allB p n = allB q n
  | 0, _ => rfl
  | n + 1, h => by rw [allB_succ, allB_succ, allB_eq (n := n) (fun i hi => h i (by omega)), h n (by omega)]
theorem riseLike {S T : Nat → ByteArray} : ∀ {n : Nat}, (∀ i, i < n → S i = T i) → riseB S n = riseB T n
  | 0, _ => rfl
  | n + 1, h => by
    rw [riseB_succ, riseB_succ, riseLike (n := n) (fun i hi => h i (by omega))]
    congr 2
    unfold upB
    rw [h n (by omega), h (n - 1) (by omega)]
theorem outLike {S T : Nat → ByteArray} {n : Nat} (h : ∀ i, i < n → S i = T i) (x : ByteArray) : outB S n x = outB T n x := by
  unfold outB
  exact allB_eq fun i hi => by rw [h i hi]
theorem dagLike {D E : Nat → Nd} {n : Nat} (h : ∀ i, i < n → LikeW (D i) (E i)) : dagB D n = dagB E n := by
  have hid : ∀ i, i < n → ids D i = ids E i := fun i hi => idLike (h i hi)
  unfold dagB upsB'
  rw [allB_eq (p := fun i => (D i).ok) (q := fun i => (E i).ok) (fun i hi => okLike (h i hi)), riseLike hid, allB_eq (p := fun i => hasB (ids D) n (D i).S (D i).n) (q := fun i => hasB (ids E) n (E i).S (E i).n) (fun i hi => by
    have hL := h i hi
    rw [← hL.n]
    unfold hasB
    exact allB_eq fun j hj => by rw [outLike hid, hL.S j hj])]
theorem dagTLike {D E : Nat → Nd} {len : Nat} : ∀ {k : Nat}, (∀ i, i < k → LikeW (D i) (E i)) → dagT D len k = dagT E len k
  | 0, _ => rfl
  | k + 1, h => by
    show dagT D len k ++ ((D k).txt ++ ⟨#[10]⟩) = dagT E len k ++ ((E k).txt ++ ⟨#[10]⟩)
    rw [dagTLike (k := k) (fun i hi => h i (by omega)), txtLike (h k (by omega))]
theorem dagTRLike {D E : Nat → Nd} {n : Nat} (h : ∀ i, i < n → LikeW (D i) (E i)) : dagTR D n = dagTR E n := by
  unfold dagTR
  rw [dagLike h, dagTLike h]
theorem body_pos {D : Nat → Nd} {i k : Nat} (h : (bodyT D i k).toList = []) : k = 0 := by
  cases k with
  | zero => rfl
  | succ k =>
    exfalso
    have h1 : (bodyT D i (k + 1)).size = 0 := by
      rw [ByteArray.toList_eq] at h
      have := congrArg List.length h
      simpa using this
    rw [show bodyT D i (k + 1) = (D i).txt ++ (⟨#[10]⟩ ++ bodyT D (i + 1) k) from rfl, ByteArray.size_append, ByteArray.size_append, show (ByteArray.mk #[10]).size = 1 from rfl] at h1
    omega

/-- a node that is read, its ups at a -/
def ndR (p : PN) (a : Option Addr) (c : Nat) : Nd := ⟨p.a, p.s, p.k, p.key, p.text, a, p.ups.length, c, p.S⟩
theorem ndR_neat (p : PN) (a : Option Addr) (c : Nat) : Neat (ndR p a c) := fun i hi => by
  show p.ups.getD i ⟨#[]⟩ = _
  have h : p.ups.length ≤ i := hi
  rw [List.getD_eq_getElem?_getD, List.getElem?_eq_none h]
  rfl
theorem ndR_up {w : World} {base : Nat} {p : PN} {a : Option Addr} {c : Nat} (h : w.ownsRow base 9 1 (.slice a p.ups.length c) p.ups.length (p.ups.map Value.string)) : UpO w base (ndR p a c) := ⟨_, h, fun i hi => by
  have hi : i < p.ups.length := hi
  show (p.ups.map Value.string)[i]? = some (.string (p.S i))
  rw [List.getElem?_map, List.getElem?_eq_getElem hi, S_at p i hi]
  rfl⟩
theorem ndR_txt {t : ByteArray} {p : PN} {a : Option Addr} {c : Nat} (h : Reads t p true) : (ndR p a c).txt = t := reads_text h
/-- the node that is read is the one whose text it is -/
theorem read_like {d : Nd} {p : PN} {b : Bool} {a : Option Addr} {c : Nat} (hd : d.ok = true) (h : Reads d.txt p b) : b = true ∧ LikeW d (ndR p a c) := by
  obtain ⟨h1, h2⟩ := reads_node h
  have hb : b = true := h1.trans hd
  obtain rfl := h2 hb
  refine ⟨hb, rfl, rfl, rfl, rfl, rfl, ?_, fun i hi => ?_⟩
  · show d.n = ((List.range d.n).map d.S).length
    simp
  · show d.S i = PN.S ⟨d.a, d.s, d.k, d.key, d.text, (List.range d.n).map d.S⟩ i
    rw [S_at _ i (by simpa using hi)]
    simp
theorem txt_like {d e : Nd} (hd : d.ok = true) (he : e.ok = true) (h : d.txt = e.txt) : LikeW d e := by
  have g : ∀ x : Nd, x.ok = true → Reads x.txt ⟨x.a, x.s, x.k, x.key, x.text, (List.range x.n).map x.S⟩ true := fun x hx => .inl ⟨rfl, textR_1000 _ _ _ _ _ _ _, good_node hx⟩
  have h1 := (read_like (a := none) (c := 0) hd (g d hd)).2
  have h2 := (read_like (a := none) (c := 0) he (h ▸ g d hd)).2
  exact h1.trans h2.symm
theorem body_like {D E : Nat → Nd} : ∀ (k k' i : Nat), (∀ j, i ≤ j → j < i + k → (D j).ok = true) → (∀ j, i ≤ j → j < i + k' → (E j).ok = true) → bodyT D i k = bodyT E i k' → k = k' ∧ ∀ j, i ≤ j → j < i + k → LikeW (D j) (E j)
  | 0, k', i, _, _, h => by
    have h0 : k' = 0 := body_pos (D := E) (i := i) (by rw [← h, ByteArray.toList_eq]; rfl)
    exact ⟨h0.symm, fun j h1 h2 => by omega⟩
  | k + 1, 0, i, _, _, h => by
    have h0 : k + 1 = 0 := body_pos (D := D) (i := i) (by rw [h, ByteArray.toList_eq]; rfl)
    omega
  | k + 1, k' + 1, i, hD, hE, h => by
    have d0 := hD i (Nat.le_refl _) (by omega)
    have e0 := hE i (Nat.le_refl _) (by omega)
    obtain ⟨g1, g2⟩ := body_end (k := k') e0
    obtain ⟨_, _, g3⟩ := text_ends (show nodeB (E i).a (E i).s (E i).k (E i).key (E i).text (E i).S (E i).n = true from e0)
    have hz : (E i).txt.size = (D i).txt.size := body_at (k := k) d0 g3 (by rw [h]; exact g1) (fun j h1 h2 => by rw [h]; exact g2 j h1 h2)
    have ht : (D i).txt = (E i).txt := by
      have e1 := ext_left (D i).txt (⟨#[10]⟩ ++ bodyT D (i + 1) k)
      have e2 := ext_left (E i).txt (⟨#[10]⟩ ++ bodyT E (i + 1) k')
      rw [show (D i).txt ++ (⟨#[10]⟩ ++ bodyT D (i + 1) k) = (E i).txt ++ (⟨#[10]⟩ ++ bodyT E (i + 1) k') from h, ← hz] at e1
      exact e1.symm.trans e2
    have hb : bodyT D (i + 1) k = bodyT E (i + 1) k' := by
      have e1 := ext_right (D i).txt (bodyT D (i + 1) k)
      have e2 := ext_right (E i).txt (bodyT E (i + 1) k')
      rw [show (D i).txt ++ (⟨#[10]⟩ ++ bodyT D (i + 1) k) = (E i).txt ++ (⟨#[10]⟩ ++ bodyT E (i + 1) k') from h, ← hz] at e1
      exact e1.symm.trans e2
    obtain ⟨hk, hL⟩ := body_like k k' (i + 1) (fun j h1 h2 => hD j (by omega) (by omega)) (fun j h1 h2 => hE j (by omega) (by omega)) hb
    refine ⟨by omega, fun j h1 h2 => ?_⟩
    by_cases hj : j = i
    · subst hj
      exact txt_like d0 e0 ht
    · exact hL j (by omega) (by omega)
theorem first_ex (s : ByteArray) (c : Int) : ∃ i, FirstAt s c i := by
  have h : ∀ k, k ≤ s.size → (∃ i, FirstAt s c i) ∨ ∀ j, j < k → bt s j ≠ c := by
    intro k
    induction k with
    | zero => exact fun _ => .inr fun j hj => absurd hj (Nat.not_lt_zero _)
    | succ k ih =>
      intro hk
      rcases ih (by omega) with h1 | h1
      · exact .inl h1
      · by_cases hq : bt s k = c
        · exact .inl ⟨k, by omega, h1, fun _ => hq⟩
        · exact .inr fun j hj => by
            rcases Nat.lt_succ_iff_lt_or_eq.1 hj with h2 | rfl
            · exact h1 j h2
            · exact hq
  rcases h s.size (Nat.le_refl _) with h1 | h1
  · exact h1
  · exact ⟨s.size, Nat.le_refl _, h1, fun h => absurd h (Nat.lt_irrefl _)⟩
/-- a text is that of one right dag at most -/
theorem dag_unique {D E : Nat → Nd} {n m : Nat} {s : ByteArray} (hq : dagB D n = true) (hs : dagTR D n = s) (hq' : dagB E m = true) (hs' : dagTR E m = s) : n = m ∧ ∀ i, i < n → LikeW (D i) (E i) := by
  obtain ⟨i, hF⟩ := first_ex s 10
  have h1 := (first_line hq hs hF).2
  have h2 := (first_line hq' hs' hF).2
  obtain ⟨hn, hL⟩ := body_like n m 0 (fun j _ hj => ok_at hq (by omega)) (fun j _ hj => ok_at hq' (by omega)) (h1.symm.trans h2)
  exact ⟨hn, fun i hi => hL i (Nat.zero_le _) (by omega)⟩

/-- what holds of each right dag whose text s is, behind the nodes A -/
def RdK (s r : ByteArray) (A : List Nd) : Prop := ∀ (D : Nat → Nd) (n : Nat), dagB D n = true → dagTR D n = s → A.length ≤ n ∧ r = bodyT D A.length (n - A.length) ∧ ∀ i, i < A.length → LikeW (D i) (gN A i)
theorem rdk_node {s r : ByteArray} {A : List Nd} {k : Nat} (h : RdK s r A) (hr : r.toList ≠ []) (h1 : 1 ≤ k) (h2 : end2 r k = true) (h3 : ∀ i, 1 ≤ i → i < k → end2 r i = false) {D : Nat → Nd} {n : Nat} (hq : dagB D n = true) (hs : dagTR D n = s) :
    ∃ j, n = A.length + (j + 1) ∧ (D A.length).ok = true ∧ r.extract 0 k = (D A.length).txt ∧ r.extract (k + 1) r.size = bodyT D (A.length + 1) j := by
  obtain ⟨g1, g2, g3⟩ := h D n hq hs
  rcases Nat.eq_zero_or_pos (n - A.length) with h0 | h0
  · rw [h0] at g2
    exact absurd (by rw [g2, ByteArray.toList_eq]; rfl) hr
  · obtain ⟨j, hj⟩ : ∃ j, n - A.length = j + 1 := ⟨n - A.length - 1, by omega⟩
    rw [hj] at g2
    have hok : (D A.length).ok = true := ok_at hq (by omega)
    have hz : k = (D A.length).txt.size := body_at (k := j) hok h1 (by rw [← g2]; exact h2) (fun i a b => by rw [← g2]; exact h3 i a b)
    have hr2 : r = (D A.length).txt ++ (⟨#[10]⟩ ++ bodyT D (A.length + 1) j) := g2
    refine ⟨j, by omega, hok, ?_, ?_⟩
    · rw [hz, hr2]; exact ext_left _ _
    · rw [hz, hr2]; exact ext_right _ _
theorem rdk_next {s r : ByteArray} {A : List Nd} {k : Nat} {p : PN} (a : Option Addr) (c : Nat) (h : RdK s r A) (hr : r.toList ≠ []) (h1 : 1 ≤ k) (h2 : end2 r k = true) (h3 : ∀ i, 1 ≤ i → i < k → end2 r i = false) (hp : Reads (r.extract 0 k) p true) :
    RdK s (r.extract (k + 1) r.size) (A ++ [ndR p a c]) := fun D n hq hs => by
  obtain ⟨j, hn, hok, e1, e2⟩ := rdk_node h hr h1 h2 h3 hq hs
  rw [e1] at hp
  have hL := (read_like (a := a) (c := c) hok hp).2
  have hl : (A ++ [ndR p a c]).length = A.length + 1 := by simp
  rw [hl]
  refine ⟨by omega, by rw [e2, show n - (A.length + 1) = j by omega], fun i hi => ?_⟩
  rcases Nat.lt_succ_iff_lt_or_eq.1 hi with h4 | rfl
  · rw [gN_app1 h4]
    exact (h D n hq hs).2.2 i h4
  · rw [gN_app2]
    exact hL
theorem rdk_bad {s r : ByteArray} {A : List Nd} {k : Nat} {p : PN} (h : RdK s r A) (hr : r.toList ≠ []) (h1 : 1 ≤ k) (h2 : end2 r k = true) (h3 : ∀ i, 1 ≤ i → i < k → end2 r i = false) (hp : Reads (r.extract 0 k) p false) :
    ∀ (D : Nat → Nd) (n : Nat), dagB D n = true → dagTR D n ≠ s := fun D n hq hs => by
  obtain ⟨j, hn, hok, e1, e2⟩ := rdk_node h hr h1 h2 h3 hq hs
  rw [e1] at hp
  have h4 := (read_like (a := none) (c := 0) hok hp).1
  cases h4
/-- no place with two line ends: no right dag goes on so -/
theorem rdk_end {s r : ByteArray} {A : List Nd} (h : RdK s r A) (hr : r.toList ≠ []) (h4 : ∀ i, 1 ≤ i → i < r.size → end2 r i = false) : ∀ (D : Nat → Nd) (n : Nat), dagB D n = true → dagTR D n ≠ s := fun D n hq hs => by
  obtain ⟨g1, g2, g3⟩ := h D n hq hs
  rcases Nat.eq_zero_or_pos (n - A.length) with h0 | h0
  · rw [h0] at g2
    exact hr (by rw [g2, ByteArray.toList_eq]; rfl)
  · obtain ⟨j, hj⟩ : ∃ j, n - A.length = j + 1 := ⟨n - A.length - 1, by omega⟩
    rw [hj] at g2
    have hok : (D A.length).ok = true := ok_at hq (by omega)
    obtain ⟨e1, _⟩ := body_end (k := j) hok
    obtain ⟨_, _, e3⟩ := text_ends (show nodeB (D A.length).a (D A.length).s (D A.length).k (D A.length).key (D A.length).text (D A.length).S (D A.length).n = true from hok)
    have e3 : 1 ≤ (D A.length).txt.size := e3
    have e4 : (D A.length).txt.size < r.size := by
      rw [g2, show bodyT D A.length (j + 1) = (D A.length).txt ++ (⟨#[10]⟩ ++ bodyT D (A.length + 1) j) from rfl, ByteArray.size_append, ByteArray.size_append, show (ByteArray.mk #[10]).size = 1 from rfl]
      omega
    have e5 := h4 (D A.length).txt.size e3 e4
    rw [← g2, e5] at e1
    cases e1
/-- all is read: the nodes are those of each right dag with this text -/
theorem rdk_all {s r : ByteArray} {A : List Nd} (h : RdK s r A) (hr : r.toList = []) {D : Nat → Nd} {n : Nat} (hq : dagB D n = true) (hs : dagTR D n = s) : n = A.length ∧ dagTR (gN A) A.length = s ∧ dagB (gN A) A.length = true := by
  obtain ⟨h1, h2, h3⟩ := h D n hq hs
  rw [h2] at hr
  have h4 := body_pos hr
  obtain rfl : n = A.length := by omega
  exact ⟨rfl, (dagTRLike h3).symm.trans hs, (dagLike h3).symm.trans hq⟩
/-- what is kept of the nodes that are read -/
def FineL (A : List Nd) : Prop := ∀ d ∈ A, FineN d ∧ Neat d
theorem FineL.add {A : List Nd} {d : Nd} (h : FineL A) (hd : FineN d ∧ Neat d) : FineL (A ++ [d]) := fun x hx => by
  rcases List.mem_append.1 hx with h1 | h1
  · exact h x h1
  · rw [List.mem_singleton.1 h1]; exact hd
theorem FineL.fine {A : List Nd} (h : FineL A) : Fine (gN A) A.length := fun i hi => (h _ (gN_mem hi)).1
/-- the answer -/
def RdA (s : ByteArray) (b : Bool) (A : List Nd) : Prop := (b = true → dagB (gN A) A.length = true ∧ dagTR (gN A) A.length = s ∧ s.size ≤ 30000 ∧ FineL A) ∧ (b = false → A = [] ∧ (s.size ≤ 30000 → ∀ (D : Nat → Nd) (n : Nat), dagB D n = true → dagTR D n ≠ s))
theorem RdA.no {s : ByteArray} (h : s.size ≤ 30000 → ∀ (D : Nat → Nd) (n : Nat), dagB D n = true → dagTR D n ≠ s) : RdA s false [] := ⟨fun h => (by cases h), fun _ => ⟨rfl, h⟩⟩
theorem RdA.unique {s : ByteArray} {b b' : Bool} {A A' : List Nd} (h : RdA s b A) (h' : RdA s b' A') : b' = b ∧ A'.length = A.length ∧ ∀ i, i < A.length → (gN A i).Like (gN A' i) := by
  cases b with
  | true =>
    obtain ⟨q1, q2, q3, q4⟩ := h.1 rfl
    cases b' with
    | true =>
      obtain ⟨r1, r2, r3, r4⟩ := h'.1 rfl
      obtain ⟨hn, hL⟩ := dag_unique q1 q2 r1 r2
      exact ⟨rfl, hn.symm, fun i hi => (hL i hi).like (q4 _ (gN_mem hi)).2 (r4 _ (gN_mem (by omega))).2⟩
    | false => exact absurd q2 ((h'.2 rfl).2 q3 _ _ q1)
  | false =>
    obtain ⟨rfl, q2⟩ := h.2 rfl
    cases b' with
    | true =>
      obtain ⟨r1, r2, r3, r4⟩ := h'.1 rfl
      exact absurd r2 (q2 r3 _ _ r1)
    | false =>
      obtain ⟨rfl, _⟩ := h'.2 rfl
      exact ⟨rfl, rfl, fun i hi => absurd hi (Nat.not_lt_zero _)⟩
end Go.Proofs.YtlibipbpaigmdaaGreatDoor

namespace Go.Proofs.YtlibipbpaigmdaaGreatDoor
open Go.RowKit
set_option linter.unusedVariables false

theorem bt_none {s : ByteArray} {i : Nat} (h : s.size ≤ i) : bt s i = -1 := by unfold bt; rw [dif_neg (by omega)]
theorem bt_ten {s : ByteArray} {i : Nat} : bt s i = 10 ↔ s.data.toList[i]? = some 10 := by
  constructor
  · intro h
    by_cases hi : i < s.size
    · exact byte_of_bt hi h
    · rw [bt_none (by omega)] at h; cases h
  · intro h
    exact (bt_of_byte h).2
theorem occ2 (l : List UInt8) (i : Nat) : Lib.occAt l [10, 10] i = true ↔ l[i]? = some 10 ∧ l[i + 1]? = some 10 := by
  unfold Lib.occAt
  have e0 : l[i]? = (l.drop i)[0]? := by rw [List.getElem?_drop, Nat.add_zero]
  have e1 : l[i + 1]? = (l.drop i)[1]? := by rw [List.getElem?_drop]
  rw [e0, e1]
  cases l.drop i with
  | nil => simp
  | cons a t =>
    cases t with
    | nil => simp
    | cons b t =>
      simp only [List.isPrefixOf, Bool.and_true, Bool.and_eq_true, beq_iff_eq, List.getElem?_cons_zero, List.getElem?_cons_succ, Option.some.injEq]
      exact ⟨fun h => ⟨h.1.symm, h.2.symm⟩, fun h => ⟨h.1.symm, h.2.symm⟩⟩
theorem end2_iff (s : ByteArray) (k : Nat) : end2 s (k + 1) = true ↔ Lib.occAt s.data.toList [10, 10] k = true := by
  rw [occ2, ← bt_ten, ← bt_ten]
  unfold end2
  rw [Nat.add_sub_cancel, Bool.and_eq_true, beq_iff_eq, beq_iff_eq]
  exact ⟨fun h => ⟨h.2, h.1⟩, fun h => ⟨h.2, h.1⟩⟩
theorem end2_occ (s : ByteArray) (k : Nat) : Lib.occAt s.data.toList [10, 10] k = end2 s (k + 1) := by
  cases h : end2 s (k + 1) with
  | true => exact (end2_iff s k).1 h
  | false =>
    cases h2 : Lib.occAt s.data.toList [10, 10] k with
    | true => rw [(end2_iff s k).2 h2] at h; cases h
    | false => rfl
/-- what strings.Cut answers at two line ends -/
def cutE (r : ByteArray) : List UInt8 × List UInt8 × Bool := Lib.cut r.data.toList [10, 10]
theorem cutE_yes {r : ByteArray} {k : Nat} (h1 : 1 ≤ k) (h0 : k < r.size) (h2 : end2 r k = true) (h3 : ∀ i, 1 ≤ i → i < k → end2 r i = false) : cutE r = (r.data.toList.take (k - 1), r.data.toList.drop (k + 1), true) := by
  obtain ⟨j, rfl⟩ : ∃ j, k = j + 1 := ⟨k - 1, by omega⟩
  have hi : Lib.index r.data.toList [10, 10] = (j : Int) := Lib.index_first (by rw [← Lib.size_eq]; omega) ((end2_iff r j).1 h2) (fun i hi => by rw [end2_occ]; exact h3 (i + 1) (by omega) (by omega))
  unfold cutE Lib.cut
  rw [hi, if_pos (by omega)]
  simp
theorem cutE_no {r : ByteArray} (h : ∀ i, 1 ≤ i → i < r.size → end2 r i = false) : cutE r = (r.data.toList, [], false) := by
  have hi : Lib.index r.data.toList [10, 10] = -1 := Lib.index_none fun j hj => by
    rw [end2_occ]
    by_cases hj2 : j + 1 < r.size
    · exact h (j + 1) (by omega) hj2
    · unfold end2
      rw [bt_none (by omega)]
      rfl
  unfold cutE Lib.cut
  rw [hi, if_neg (by decide)]
theorem end2_ex (r : ByteArray) : (∃ k, 1 ≤ k ∧ k < r.size ∧ end2 r k = true ∧ ∀ i, 1 ≤ i → i < k → end2 r i = false) ∨ ∀ i, 1 ≤ i → i < r.size → end2 r i = false := by
  have h : ∀ k, k ≤ r.size → (∃ k, 1 ≤ k ∧ k < r.size ∧ end2 r k = true ∧ ∀ i, 1 ≤ i → i < k → end2 r i = false) ∨ ∀ i, 1 ≤ i → i < k → end2 r i = false := by
    intro k
    induction k with
    | zero => exact fun _ => .inr fun i _ hi => absurd hi (Nat.not_lt_zero _)
    | succ k ih =>
      intro hk
      rcases ih (by omega) with h1 | h1
      · exact .inl h1
      · by_cases hq : 1 ≤ k ∧ end2 r k = true
        · exact .inl ⟨k, hq.1, by omega, hq.2, h1⟩
        · exact .inr fun i hi1 hi2 => by
            rcases Nat.lt_succ_iff_lt_or_eq.1 hi2 with h2 | rfl
            · exact h1 i hi1 h2
            · cases he : end2 r i with
              | true => exact absurd ⟨hi1, he⟩ hq
              | false => rfl
  exact h r.size (Nat.le_refl _)
theorem ext_list (r : ByteArray) (a b : Nat) : (r.extract a b).data.toList = (r.data.toList.drop a).take (b - a) := by
  rw [ByteArray.data_extract, Array.toList_extract, List.extract_eq_take_drop]
theorem head_back {r : ByteArray} {k : Nat} (h1 : 1 ≤ k) (h0 : k < r.size) (h2 : end2 r k = true) : bs (r.data.toList.take (k - 1)) ++ ⟨#[10]⟩ = r.extract 0 k := by
  obtain ⟨j, rfl⟩ : ∃ j, k = j + 1 := ⟨k - 1, by omega⟩
  have hj : r.data.toList[j]? = some 10 := ((occ2 _ _).1 ((end2_iff r j).1 h2)).1
  apply ByteArray.ext
  apply Array.ext'
  rw [ByteArray.data_append, Array.toList_append, bs_list, ext_list, List.drop_zero, Nat.sub_zero, Nat.add_sub_cancel, List.take_add_one, hj]
  rfl
theorem rest_back {r : ByteArray} {k : Nat} : bs (r.data.toList.drop (k + 1)) = r.extract (k + 1) r.size := by
  apply ByteArray.ext
  apply Array.ext'
  rw [bs_list, ext_list, List.take_of_length_le]
  rw [List.length_drop, Lib.size_eq]
  omega
theorem cut_back {r : ByteArray} {k : Nat} (h1 : 1 ≤ k) (h0 : k < r.size) (h2 : end2 r k = true) : r = r.extract 0 k ++ (⟨#[10]⟩ ++ r.extract (k + 1) r.size) := by
  obtain ⟨j, rfl⟩ : ∃ j, k = j + 1 := ⟨k - 1, by omega⟩
  have hj : r.data.toList[j + 1]? = some 10 := ((occ2 _ _).1 ((end2_iff r j).1 h2)).2
  apply ByteArray.ext
  apply Array.ext'
  rw [← rest_back, ByteArray.data_append, ByteArray.data_append, Array.toList_append, Array.toList_append, ext_list, List.drop_zero, Nat.sub_zero, bs_list]
  have e : r.data.toList = r.data.toList.take (j + 1 + 1) ++ r.data.toList.drop (j + 1 + 1) := (List.take_append_drop _ _).symm
  rw [List.take_add_one, hj] at e
  conv => lhs; rw [e]
  simp

/-- the reader lies at block R, with r left -/
structure Rg (w : World) (R : Nat) (r : ByteArray) : Prop where
  c0 : w.cell? ⟨R, 0, none⟩ = some (.string r)
  z0 : w.frozen? ⟨R, 0, none⟩ = false
def noDag : List PanicEntry := [{ v := .iface 9 (.string { data := #[110, 111, 32, 100, 97, 103] }), recovered := false }]
/-- a place where a node's text ends -/
structure EndAt (r : ByteArray) (k : Nat) : Prop where
  pos : 1 ≤ k
  lt : k < r.size
  yes : end2 r k = true
  no : ∀ i, 1 ≤ i → i < k → end2 r i = false
/-- what a node answers -/
def NodeA (R : Nat) (y : ByteArray) (p : PN) (w : World) (g : Bool) (e : Ending) (w' : World) : Prop :=
  (g = true → ∃ a c, e = .returned (.agg (nodeQ p (.slice a p.ups.length c))) ∧ w'.ownsRow w.heap.size 9 1 (.slice a p.ups.length c) p.ups.length (p.ups.map Value.string) ∧ Rg w' R y) ∧ (g = false → e = .panicked noDag) ∧ w.grownBy w' (some R)

set_option maxRecDepth 20000 in
set_option maxHeartbeats 4000000 in
theorem node_core (R : Nat) (r t x y : ByteArray) (en b : Bool) (m : Int) (p : PN) (w : World) (hr : r.size ≤ 1048000) (hR : Rg w R r) (hm : w.cell? ⟨3, 0, none⟩ = some (.int .i64 m))
    (hc : cutE r = (x.data.toList, y.data.toList, en)) (ht : x ++ ⟨#[10]⟩ = t) (ht2 : t.size ≤ 1048576) (hp : Reads t p b) :
    Calls Tryz.prog 157 #[.pointer (some ⟨R, 0, none⟩)] w fun e w' => NodeA R y p w (en && b) e w' := by
  have hxs : x.size + (ByteArray.mk #[10]).size ≤ 1048576 := by rw [← ByteArray.size_append, ht]; exact ht2
  have a1 : ∀ v : World, (Op.stringOp .add x ⟨#[10]⟩).run Tryz.prog v = .ok (.string t) v := fun v => by
    have := addT (a := x) (b := ⟨#[10]⟩) (by omega) v
    rw [ht] at this
    exact this
  have HC : Hid (∀ v : World, v.cell? ⟨3, 0, none⟩ = some (.int .i64 m) → Calls Tryz.prog 171 #[.string r, .string ⟨#[10, 10]⟩] v fun e w' => e = .returned (.tuple #[.string x, .string y, .bool en]) ∧ ∃ n, w' = v.drewN n) := fun v hv => by
    have h1 := Tryz.strings_Cut r ⟨#[10, 10]⟩ m v (by omega) hv
    have h2 : Lib.cut r.data.toList (ByteArray.mk #[10, 10]).data.toList = (x.data.toList, y.data.toList, en) := hc
    rw [h2] at h1
    exact h1
  obtain ⟨W0, hW0⟩ : ∃ W0, W0 = w.alloc (.cells nzQ 50) := ⟨_, rfl⟩
  have HW0 : Hid (W0 = w.alloc (.cells nzQ 50)) := hW0
  have hb0 : Below w.heap.size w W0 := by rw [hW0]; exact (Below.refl _ _).alloc (Nat.le_refl _) _
  have HG0 : Hid (W0.heap[w.heap.size]? = some (.cells nzQ 50 (0, 0))) := by show _ = _; rw [hW0]; exact heap_alloc_new _ _
  have HB0 : Hid (Below w.heap.size w W0) := hb0
  have HM : Hid (w.cell? ⟨3, 0, none⟩ = some (.int .i64 m)) := hm
  have HM0 : Hid (W0.cell? ⟨3, 0, none⟩ = some (.int .i64 m)) := (hb0.cell (cell_lt hm)).trans hm
  have HRl : Hid (R < w.heap.size) := cell_lt hR.c0
  have c0 : (w.alloc (.cells nzQ 50)).cell? ⟨R, 0, none⟩ = some (.string r) := by rw [← hW0]; exact (hb0.cell (p := ⟨R, 0, none⟩) (cell_lt hR.c0)).trans hR.c0
  have HR : Hid (Rg w R r) := hR
  clear hW0 hb0 hm hR hc ht hxs
  have HT2 : Hid (t.size ≤ 1048576) := ht2
  have HP : Hid (Reads t p b) := hp
  clear ht2 hp
  go_enter Tryz.func157, Tryz.ntmps157
  go_wp2_with fail
  refine (HC.out _ (by rw [← HW0.out]; exact HM0.out)).mono ?_
  rintro e w1 ⟨rfl, n1, hw1⟩
  have HB1 : Hid (Below w.heap.size w w1) := by show Below _ _ _; rw [hw1, ← HW0.out]; exact below_drewN HB0.out n1
  have HG1 : Hid (w1.heap[w.heap.size]? = some (.cells nzQ 50 (0, 0))) := by show _ = _; rw [hw1, ← HW0.out]; exact HG0.out
  clear hw1 c0
  go_wp2_with fail
  refine (implRead t m w1 HT2.out ((HB1.out.cell (cell_lt HM.out)).trans HM.out)).mono ?_
  rintro e w2 ⟨p2, b2, a2, k2, rfl, hr2, ho2, hB2⟩
  obtain ⟨rfl, rfl⟩ := Reads.unique HP.out hr2
  have HB2 : Hid (Below w.heap.size w w2) := HB1.out.trans (hB2.mono HB1.out.size)
  have HG2 : Hid (w2.heap[w.heap.size]? = some (.cells nzQ 50 (0, 0))) := (hB2.block _ (lt_of_block HG1.out)).trans HG1.out
  have HO2 : Hid (w2.ownsRow w1.heap.size 9 1 (.slice a2 p2.ups.length k2) p2.ups.length (p2.ups.map Value.string)) := ho2
  have HS1 : Hid (w.heap.size < w1.heap.size) := lt_of_block HG1.out
  obtain ⟨q5, hq5⟩ : ∃ q5, q5 = nodeQ p2 (.slice a2 p2.ups.length k2) := ⟨_, rfl⟩
  rw [← hq5]
  obtain ⟨hi6, ho6, h16⟩ := nodeQ_ok p2 a2 k2 q5 hq5
  obtain ⟨w3, hw3⟩ : ∃ w3, w3 = (w2.alloc (.cells nzQ 50)).setRow w2.heap.size q5 := ⟨_, rfl⟩
  obtain ⟨hg3, hb3⟩ := box_at hw3
  have HG3 : Hid (w3.heap[w2.heap.size]? = some (.cells q5 50 (0, 0))) := hg3
  have HB23 : Hid (Below w2.heap.size w2 w3) := hb3
  have HB3 : Hid (Below w.heap.size w w3) := HB2.out.trans (hb3.mono HB2.out.size)
  have HG3b : Hid (w3.heap[w.heap.size]? = some (.cells nzQ 50 (0, 0))) := (hb3.block _ (lt_of_block HG2.out)).trans HG2.out
  have HZ2 : Hid ((w2.alloc (.cells nzQ 50)).heap[w2.heap.size]? = some (.cells nzQ 50 (0, 0))) := heap_alloc_new w2 _
  have HW3 := (show Hid _ from hw3)
  have HQ5 : Hid (q5 = nodeQ p2 (.slice a2 p2.ups.length k2)) := hq5
  have d0 : w3.cell? ⟨R, 0, none⟩ = some (.string r) := (HB3.out.cell (p := ⟨R, 0, none⟩) HRl.out).trans HR.out.c0
  have d1 : w3.frozen? ⟨R, 0, none⟩ = false := (World.frozen?_of_block (HB3.out.block _ HRl.out)).trans HR.out.z0
  have HGr : Hid (w.grownBy w3 (some R)) := ⟨HB3.out.os, HB3.out.tape, HB3.out.output, HB3.out.size, fun k hk _ => HB3.out.block k hk⟩
  clear hr2 ho2 hB2 hq5 hw3 hg3 hb3
  cases en with
  | false =>
    go_wp2_with (refine wpList_store_row rfl 50 _ _ rfl w2.heap.size q5 rfl rfl 50 _ HZ2.out hi6 ho6 h16 ?_; rw [← HW3.out])
    exact ⟨rfl, fun h => (by cases h), fun _ => rfl, HGr.out⟩
  | true =>
    cases b2 with
    | false =>
      go_wp2_with (refine wpList_store_row rfl 50 _ _ rfl w2.heap.size q5 rfl rfl 50 _ HZ2.out hi6 ho6 h16 ?_; rw [← HW3.out])
      exact ⟨rfl, fun h => (by cases h), fun _ => rfl, HGr.out⟩
    | true =>
      obtain ⟨w4, hw4⟩ : ∃ w4, w4 = w3.setCell ⟨R, 0, none⟩ (.string y) := ⟨_, rfl⟩
      have HW4 := (show Hid _ from hw4)
      have e4 : ∀ k, k ≠ R → w4.heap[k]? = w3.heap[k]? := fun k hk => by rw [hw4]; exact Below.heap_setCell _ _ _ _ (fun e => hk e)
      have HG4 : Hid ((w3.setCell ⟨R, 0, none⟩ (.string y)).heap[w2.heap.size]? = some (.cells q5 50 (0, 0))) := by
        show _ = _
        rw [← hw4, e4 _ (by have h1 := HRl.out; have h2 := HB2.out.size; omega)]
        exact HG3.out
      have HG4b : Hid ((w3.setCell ⟨R, 0, none⟩ (.string y)).heap[w.heap.size]? = some (.cells nzQ 50 (0, 0))) := by
        show _ = _
        rw [← hw4, e4 _ (by have h1 := HRl.out; omega)]
        exact HG3b.out
      have HR4 : Hid (Rg w4 R y) := by rw [hw4]; exact ⟨World.cell?_setCell_same _ _ _ d0, by rw [World.frozen?_setCell]; exact d1⟩
      have HG4r : Hid (w.grownBy w4 (some R)) := by rw [hw4]; exact grown_set HGr.out 0 _
      have HO4 : Hid (w4.ownsRow w1.heap.size 9 1 (.slice a2 p2.ups.length k2) p2.ups.length (p2.ups.map Value.string)) := own_keep HO2.out (fun k hk => by
        have h1 := World.ownsRow.lt HO2.out k hk
        have h2 := HS1.out
        have h3 := HRl.out
        rw [e4 k (by omega)]
        exact HB23.out.block k h1.2)
      clear hw4 e4
      go_wp2_with (first
        | (refine wpList_store_row rfl 50 _ _ rfl w2.heap.size q5 rfl rfl 50 _ HZ2.out hi6 ho6 h16 ?_; rw [← HW3.out])
        | (refine wpList_load_row rfl 50 _ rfl w2.heap.size rfl 50 q5 (0, 0) _ HG4.out Tryz.underlying50 rfl hi6 ?_)
        | (refine wpList_store_row rfl 50 _ _ rfl w.heap.size q5 rfl rfl 50 _ HG4b.out hi6 ho6 h16 ?_))
      refine bodyPost_ret (v := .agg q5) (results_cell_row rfl _ _ w.heap.size 50 _ _ _ rfl (setRow_heap _ _ _ _ _ _ HG4b.out) Tryz.underlying50 rfl hi6) rfl ⟨fun _ => ⟨a2, k2, ret_val (by rw [HQ5.out]), ?_, ?_⟩, fun h => (by cases h), ?_⟩
      · rw [← HW4.out]
        refine mono_base (own_keep HO4.out (fun k hk => setRow_other _ _ _ _ (by
          have h1 := World.ownsRow.lt HO4.out k hk
          have h2 := HS1.out
          omega))) (Nat.le_of_lt HS1.out)
      · rw [← HW4.out]
        have h1 := HRl.out
        have k0 : (w4.setRow w.heap.size q5).heap[R]? = w4.heap[R]? := setRow_other _ _ _ _ (by omega)
        exact ⟨(World.cell?_of_block k0).trans HR4.out.c0, (World.frozen?_of_block k0).trans HR4.out.z0⟩
      · rw [← HW4.out]
        exact ⟨HG4r.out.os, HG4r.out.tape, HG4r.out.output, by have := HG4r.out.size; simpa [World.setRow] using this, fun k hk hne => (setRow_other _ _ _ _ (by omega)).trans (HG4r.out.block k hk hne)⟩
end Go.Proofs.YtlibipbpaigmdaaGreatDoor

namespace Go.Proofs.YtlibipbpaigmdaaGreatDoor
open Go.RowKit
set_option linter.unusedVariables false

abbrev wDag : ByteArray := ⟨#[100, 97, 103]⟩
/-- is the first line a count of nodes -/
def cntB (r : ByteArray) : Bool := !numF r wDag false && decide ((rdec (valV r wDag)).1 ≤ 30)
theorem rdec_pos (t : ByteArray) : 0 ≤ (rdec t).1 := by
  unfold rdec
  split
  · exact Int.le_refl _
  · split
    · rename_i h1 h2
      exact (numOf_bound t.size h2).1
    · exact Int.le_refl _
theorem cnt_dag {D : Nat → Nd} {n : Nat} {s : ByteArray} (hq : dagB D n = true) (hs : dagTR D n = s) : cntB s = true ∧ (rdec (valV s wDag)).1 = (n : Int) ∧ restN s = bodyT D 0 n := by
  have h30 := (dagB_parts hq).1
  have e : s.data.toList = lineL wDag.data.toList (decB n).data.toList ++ (bodyT D 0 n).data.toList := by
    rw [← hs]
    unfold dagTR
    rw [if_pos hq, dagT_body, ByteArray.data_append, Array.toList_append, lineB_list]
  obtain ⟨h1, h2, h3⟩ := val_line e (by decide) (decB_clean n)
  rw [bs_data] at h1 h3
  have h4 : rdec (valV s wDag) = ((n : Int), true) := by rw [h1]; exact rdec_back (by omega)
  refine ⟨?_, by rw [h4], h3⟩
  unfold cntB numF
  rw [h2 false, h4]
  simp
  omega
theorem cnt_back {s : ByteArray} (h : cntB s = true) : ∃ c : Nat, c ≤ 30 ∧ (rdec (valV s wDag)).1 = (c : Int) ∧ s = lineB wDag (decB c) ++ restN s := by
  unfold cntB numF at h
  rw [Bool.and_eq_true, Bool.not_eq_true', Bool.or_eq_false_iff, decide_eq_true_eq, Bool.not_eq_false'] at h
  obtain ⟨⟨h1, h2⟩, h3⟩ := h
  have h0 := rdec_pos (valV s wDag)
  have hd := rdec_dec h2
  refine ⟨(rdec (valV s wDag)).1.toNat, by omega, by omega, ?_⟩
  apply ByteArray.ext
  apply Array.ext'
  rw [hd, ByteArray.data_append, Array.toList_append, lineB_list]
  exact (val_back h1).2

set_option maxRecDepth 20000 in
set_option maxHeartbeats 4000000 in
theorem count_any (R : Nat) (r : ByteArray) (m : Int) (w : World) (hr : r.size ≤ 1048000) (hR : Rg w R r) (hm : w.cell? ⟨3, 0, none⟩ = some (.int .i64 m)) :
    Calls Tryz.prog 156 #[.pointer (some ⟨R, 0, none⟩)] w fun e w' => (cntB r = true → e = .returned (.int .i64 (rdec (valV r wDag)).1) ∧ Rg w' R (restN r)) ∧ (cntB r = false → e = .panicked noDag) ∧ w.grownBy w' (some R) := by
  obtain ⟨W0, hW0⟩ : ∃ W0, W0 = w.alloc (.cells #[.string r, .bool false] 123) := ⟨_, rfl⟩
  have HW0 : Hid (W0 = w.alloc (.cells #[.string r, .bool false] 123)) := hW0
  have HB0 : Hid (Below w.heap.size w W0) := by show Below _ _ _; rw [hW0]; exact (Below.refl _ _).alloc (Nat.le_refl _) _
  have hg0 : W0.heap[w.heap.size]? = some (.cells #[.string r, .bool false] 123 (0, 0)) := by rw [hW0]; exact heap_alloc_new _ _
  have HN : Hid (Calls Tryz.prog 123 #[.pointer (some ⟨w.heap.size, 0, none⟩), .string wDag] W0 fun e w' => e = .returned (.int .i64 (rdec (valV r wDag)).1) ∧ Rd w' w.heap.size (bs (cutN r).2.1) (numF r wDag false) ∧ W0.grownBy w' (some w.heap.size)) :=
    number_any w.heap.size r wDag false m W0 (by omega) (by decide) ⟨cellN hg0, cellN hg0, frozN hg0, frozN hg0⟩ ((HB0.out.cell (cell_lt hm)).trans hm)
  have HC : Hid (cntB r = (!numF r wDag false && decide ((rdec (valV r wDag)).1 ≤ 30))) := rfl
  have HRl : Hid (R < w.heap.size) := cell_lt hR.c0
  have HR : Hid (Rg w R r) := hR
  have c0 := hR.c0
  obtain ⟨N, hN⟩ : ∃ N, N = (rdec (valV r wDag)).1 := ⟨_, rfl⟩
  obtain ⟨ff, hff⟩ : ∃ ff, ff = numF r wDag false := ⟨_, rfl⟩
  rw [← hN, ← hff] at HN HC
  rw [← hN]
  clear hW0 hg0 hm hR hN hff
  go_enter Tryz.func156, Tryz.ntmps156
  go_wp2_with fail
  rw [← HW0.out]
  refine HN.out.mono ?_
  rintro e w1 ⟨rfl, hR1, hg1⟩
  have HG1 : Hid (W0.grownBy w1 (some w.heap.size)) := hg1
  have HB1 : Hid (Below w.heap.size w w1) := HB0.out.grown hg1 HB0.out.size (fun k hk => by cases hk; exact Nat.le_refl _)
  obtain ⟨d0, d1, _, _⟩ := hR1
  have e0 : w1.cell? ⟨R, 0, none⟩ = some (.string r) := (HB1.out.cell (p := ⟨R, 0, none⟩) HRl.out).trans HR.out.c0
  have e1 : w1.frozen? ⟨R, 0, none⟩ = false := (World.frozen?_of_block (HB1.out.block _ HRl.out)).trans HR.out.z0
  have HGr : Hid (w.grownBy w1 (some R)) := ⟨HB1.out.os, HB1.out.tape, HB1.out.output, HB1.out.size, fun k hk _ => HB1.out.block k hk⟩
  clear hg1 HN c0
  cases ff with
  | true =>
    have HX : Hid (cntB r = false) := by show _ = _; rw [HC.out]; rfl
    go_wp2
    exact ⟨rfl, fun h => (by rw [HX.out] at h; cases h), fun _ => rfl, HGr.out⟩
  | false =>
    by_cases h30 : N ≤ 30
    · have HX : Hid (cntB r = true) := by show _ = _; rw [HC.out]; simp [h30]
      have hn1 : ¬ (30 : Int) < N := by omega
      have HR2 : Hid (Rg (w1.setCell ⟨R, 0, none⟩ (.string (bs (cutN r).2.1))) R (restN r)) := ⟨World.cell?_setCell_same _ _ _ e0, by rw [World.frozen?_setCell]; exact e1⟩
      have HG2 : Hid (w.grownBy (w1.setCell ⟨R, 0, none⟩ (.string (bs (cutN r).2.1))) (some R)) := grown_set HGr.out 0 _
      go_wp2
      go_ret
      exact ⟨fun _ => ⟨rfl, HR2.out⟩, fun h => (by rw [HX.out] at h; cases h), HG2.out⟩
    · have HX : Hid (cntB r = false) := by show _ = _; rw [HC.out]; simp [h30]
      have hn1 : (30 : Int) < N := by omega
      go_wp2
      exact ⟨rfl, fun h => (by rw [HX.out] at h; cases h), fun _ => rfl, HGr.out⟩

theorem catchD_panicking (T O : Nat) (vt vo : Value) (w : World) (hc : w.cell? ⟨T, 0, none⟩ = some vt) (hz : w.frozen? ⟨T, 0, none⟩ = false) (hc2 : w.cell? ⟨O, 0, none⟩ = some vo) (hz2 : w.frozen? ⟨O, 0, none⟩ = false) (hne : T ≠ O) :
    CallsD Tryz.prog 155 #[.pointer (some ⟨T, 0, none⟩), .pointer (some ⟨O, 0, none⟩)] (.panicking noDag) w fun e u' w' =>
      e = .returned (.tuple #[]) ∧ u' = .panicking [{ v := .iface 9 (.string { data := #[110, 111, 32, 100, 97, 103] }), recovered := true }] ∧ w' = (w.setCell ⟨T, 0, none⟩ (.slice none 0 0)).setCell ⟨O, 0, none⟩ (.bool false) := by
  unfold noDag
  refine callsD_of_wpS Tryz.func155 rfl fun c₀ cs hu => ?_
  apply wpS_seq
  apply wpS_region
  simp [wpOpsS, go_sem, recoverD, hu, Tryz.ntmps155, Exit.thenS]
  refine wpS_cond (t := true) (by simp [Act.eval, Array.replicate]) ?_
  simp only [if_true]
  apply wpS_region
  simp [wpOpsS, go_sem, hc, hz, hc2, hz2, bodyPostS, results, Tryz.results155]

theorem catchD_idle (T O : Nat) (w : World) :
    CallsD Tryz.prog 155 #[.pointer (some ⟨T, 0, none⟩), .pointer (some ⟨O, 0, none⟩)] .returning w fun e u' w' => e = .returned (.tuple #[]) ∧ u' = .returning ∧ w' = w := by
  refine callsD_of_wpS Tryz.func155 rfl fun c₀ cs hu => ?_
  apply wpS_seq
  apply wpS_region
  simp [wpOpsS, go_sem, recoverD, hu, Tryz.ntmps155, Exit.thenS]
  refine wpS_cond (t := false) (by simp [Act.eval, Array.replicate]) ?_
  simp only [Bool.false_eq_true, if_false]
  refine wpS_of_wp (wp_skip ?_)
  cases c₀
  simp_all [bodyPostS, results, Tryz.results155]

/-- what holds of the nodes that are read, j of c -/
structure DtK (s r : ByteArray) (c j : Nat) (A : List Nd) : Prop where
  len : A.length = j
  le : j ≤ c
  cnt : cntB s = true
  num : (rdec (valV s wDag)).1 = (c : Int)
  small : c ≤ 30
  rd : RdK s r A
  txt : s = dagT (gN A) c j ++ r
  fine : FineL A
  ap : ApU A
theorem DtK.start {s : ByteArray} {c : Nat} (hc : c ≤ 30) (hn : (rdec (valV s wDag)).1 = (c : Int)) (h : cntB s = true) (hs : s = lineB wDag (decB c) ++ restN s) : DtK s (restN s) c 0 [] :=
  ⟨rfl, Nat.zero_le _, h, hn, hc, fun D n hq he => ⟨Nat.zero_le _, (cnt_dag hq he).2.2, fun i hi => absurd hi (Nat.not_lt_zero _)⟩, hs, fun d hd => (by cases hd), apU_nil⟩
theorem DtK.size {s r : ByteArray} {c j : Nat} {A : List Nd} (h : DtK s r c j A) : r.size ≤ s.size := by
  have h1 := congrArg ByteArray.size h.txt
  rw [ByteArray.size_append] at h1
  omega
theorem DtK.next {s r : ByteArray} {c j k : Nat} {A : List Nd} {p : PN} {a : Option Addr} {q : Nat} {w w5 : World} {base : Nat} {v : Value} (h : DtK s r c j A) (hj : j < c) (he : EndAt r k) (hp : Reads (r.extract 0 k) p true) (hO : OwnD w base v A) (hd : UpO w5 w.heap.size (ndR p a q)) :
    DtK s (r.extract (k + 1) r.size) c (j + 1) (A ++ [ndR p a q]) := by
  have hr : r.toList ≠ [] := fun e => by
    have h1 := he.lt
    rw [ByteArray.toList_eq] at e
    have h2 : r.data.toList.length = 0 := by rw [e]; rfl
    rw [← Lib.size_eq] at h2
    omega
  refine ⟨by rw [List.length_append, h.len]; rfl, hj, h.cnt, h.num, h.small, rdk_next a q h.rd hr he.pos he.yes he.no hp, ?_, h.fine.add ⟨reads_fine hp, ndR_neat _ _ _⟩, h.ap.add hO hd⟩
  have e1 : dagT (gN (A ++ [ndR p a q])) c j = dagT (gN A) c j := dagTLike fun i hi => by rw [gN_app1 (by rw [h.len]; exact hi)]; exact LikeW.refl _
  have e2 : gN (A ++ [ndR p a q]) j = ndR p a q := by rw [← h.len]; exact gN_app2
  show s = (dagT (gN (A ++ [ndR p a q])) c j ++ ((gN (A ++ [ndR p a q]) j).txt ++ ⟨#[10]⟩)) ++ r.extract (k + 1) r.size
  rw [e1, e2, ndR_txt hp]
  conv => lhs; rw [h.txt, cut_back he.pos he.lt he.yes]
  simp only [ByteArray.append_assoc]
/-- a right dag has as many nodes as the count says -/
theorem DtK.many {s r : ByteArray} {c j : Nat} {A : List Nd} (h : DtK s r c j A) {D : Nat → Nd} {n : Nat} (hq : dagB D n = true) (hs : dagTR D n = s) : n = c := by
  have h1 := (cnt_dag hq hs).2.1
  have h2 := h.num
  omega
theorem DtK.stop {s r : ByteArray} {c j : Nat} {A : List Nd} (h : DtK s r c j A) (hj : j < c) (hb : (∀ i, 1 ≤ i → i < r.size → end2 r i = false) ∨ ∃ k p, EndAt r k ∧ Reads (r.extract 0 k) p false) : ∀ (D : Nat → Nd) (n : Nat), dagB D n = true → dagTR D n ≠ s := fun D n hq hs => by
  have hn := h.many hq hs
  obtain ⟨g1, g2, g3⟩ := h.rd D n hq hs
  have hr : r.toList ≠ [] := fun e => by
    rw [g2] at e
    have := body_pos e
    have h1 := h.len
    omega
  rcases hb with hb | ⟨k, p, he, hp⟩
  · exact rdk_end h.rd hr hb D n hq hs
  · exact rdk_bad h.rd hr he.pos he.yes he.no hp D n hq hs
theorem DtK.more {s r : ByteArray} {c : Nat} {A : List Nd} (h : DtK s r c c A) (hr : r.toList ≠ []) : ∀ (D : Nat → Nd) (n : Nat), dagB D n = true → dagTR D n ≠ s := fun D n hq hs => by
  have hn := h.many hq hs
  obtain ⟨g1, g2, g3⟩ := h.rd D n hq hs
  have h1 := h.len
  rw [show n - A.length = 0 by omega] at g2
  exact hr (by rw [g2, ByteArray.toList_eq]; rfl)
theorem DtK.wrong {s r : ByteArray} {c : Nat} {A : List Nd} (h : DtK s r c c A) (hr : r.toList = []) (hd : dagB (gN A) c = false) : ∀ (D : Nat → Nd) (n : Nat), dagB D n = true → dagTR D n ≠ s := fun D n hq hs => by
  obtain ⟨_, _, h3⟩ := rdk_all h.rd hr hq hs
  rw [h.len, hd] at h3
  cases h3
theorem DtK.right {s r : ByteArray} {c : Nat} {A : List Nd} (h : DtK s r c c A) (hr : r.toList = []) (hd : dagB (gN A) c = true) (hs : s.size ≤ 30000) : RdA s true A := by
  refine ⟨fun _ => ⟨by rw [h.len]; exact hd, ?_, hs, h.fine⟩, fun h => by cases h⟩
  rw [h.len]
  unfold dagTR
  rw [if_pos hd]
  have e := h.txt
  have e2 : r = ⟨#[]⟩ := by
    apply ByteArray.ext
    apply Array.ext'
    rw [ByteArray.toList_eq] at hr
    simpa using hr
  rw [e2, ba_nil] at e
  exact e.symm
theorem no_count {s : ByteArray} (h : cntB s = false) : ∀ (D : Nat → Nd) (n : Nat), dagB D n = true → dagTR D n ≠ s := fun D n hq hs => by
  rw [(cnt_dag hq hs).1] at h
  cases h

/-- an append of nodes in a region that draws its order -/
theorem step_appD {ops : Array Oper} {o : Oper} {a : Act} {w : World} {K : Act → World → Prop} {Q : Exit → Act → World → Prop} {E : Prop} (hgd : o.guard = none) (x y : Operand)
    (h : o.op = .call { callee := .builtin .append, args := #[x, y], argTypes := #[28, 28] }) (base : Nat) (v : Value) (A C : List Nd) (u : Option Addr) (uc : Nat) (hx : a.eval x = v) (hy : a.eval y = .slice u C.length uc)
    (hv : OwnD w base v A) (hu : C ≠ [] → ∃ g o, u = some ⟨g, o, none⟩ ∧ ∀ j z, (flat6 C)[j]? = some z → w.cell? ⟨g, o + j, none⟩ = some z) (hC : ∀ d ∈ C, UpO w base d) (h0 : u = none → uc = 0) (hl : A.length + C.length ≤ 1000) (hb : base ≤ w.heap.size)
    (hK : ∀ v' w', OwnD w' base v' (A ++ C) → w.grownBy w' v.ownBlock → K (a.put o.dst v') w') : if Region.wanted o (yielded ops a.tmps) = true then Oper.wp Tryz.prog o a w K Q else E := by
  have hw : Region.wanted o (yielded ops a.tmps) = true := by simp [Region.wanted, hgd]
  rw [if_pos hw]
  obtain ⟨v', w', hr, h1, h2⟩ := appD_run w base o.type v A C u uc hv hu hC h0 hl hb
  unfold Oper.wp execOp
  simp only [h, resolve, invoke, builtin, Sem.run_bind, Sem.run_pure, Result.andThen_ok, List.map_toArray, List.map_cons, List.map_nil, hx, hy, hr]
  exact hK v' w' h1 h2
end Go.Proofs.YtlibipbpaigmdaaGreatDoor

namespace Go.Proofs.YtlibipbpaigmdaaGreatDoor
open Go.RowKit
set_option linter.unusedVariables false

/-- dagOfText under way: the boxes of its results at H and H + 1, its reader at H + 2 -/
structure DtW (W w : World) (v : Value) (r : ByteArray) : Prop where
  d0 : w.cell? ⟨W.heap.size, 0, none⟩ = some v
  d1 : w.frozen? ⟨W.heap.size, 0, none⟩ = false
  o0 : w.cell? ⟨W.heap.size + 1, 0, none⟩ = some (.bool false)
  o1 : w.frozen? ⟨W.heap.size + 1, 0, none⟩ = false
  rg : Rg w (W.heap.size + 2) r
  b : Below W.heap.size W w
  big : W.heap.size + 3 ≤ w.heap.size
theorem DtW.step {W w w' : World} {v : Value} {r r' : ByteArray} (h : DtW W w v r) (hg : w.grownBy w' (some (W.heap.size + 2))) (hr : Rg w' (W.heap.size + 2) r') : DtW W w' v r' := by
  have h3 := h.big
  have k0 : w'.heap[W.heap.size]? = w.heap[W.heap.size]? := hg.block _ (by omega) (by simp)
  have k1 : w'.heap[W.heap.size + 1]? = w.heap[W.heap.size + 1]? := hg.block _ (by omega) (by simp)
  exact ⟨(World.cell?_of_block k0).trans h.d0, (World.frozen?_of_block k0).trans h.d1, (World.cell?_of_block k1).trans h.o0, (World.frozen?_of_block k1).trans h.o1, hr, h.b.grown hg h.b.size (fun k hk => by cases hk; omega), by have := hg.size; omega⟩
theorem DtW.bad {W w w' : World} {v : Value} {r : ByteArray} (h : DtW W w v r) (hg : w.grownBy w' (some (W.heap.size + 2))) : w'.cell? ⟨W.heap.size, 0, none⟩ = some v ∧ w'.frozen? ⟨W.heap.size, 0, none⟩ = false ∧ w'.cell? ⟨W.heap.size + 1, 0, none⟩ = some (.bool false) ∧ w'.frozen? ⟨W.heap.size + 1, 0, none⟩ = false ∧ Below W.heap.size W w' := by
  have h3 := h.big
  have k0 : w'.heap[W.heap.size]? = w.heap[W.heap.size]? := hg.block _ (by omega) (by simp)
  have k1 : w'.heap[W.heap.size + 1]? = w.heap[W.heap.size + 1]? := hg.block _ (by omega) (by simp)
  exact ⟨(World.cell?_of_block k0).trans h.d0, (World.frozen?_of_block k0).trans h.d1, (World.cell?_of_block k1).trans h.o0, (World.frozen?_of_block k1).trans h.o1, h.b.grown hg h.b.size (fun k hk => by cases hk; omega)⟩

/-- the answer where the reader gives up -/
theorem gave_up (s : ByteArray) (W w1 : World) (v vo : Value) (hT : w1.cell? ⟨W.heap.size, 0, none⟩ = some v) (hO : w1.cell? ⟨W.heap.size + 1, 0, none⟩ = some vo) (hB : Below W.heap.size W w1) (hno : s.size ≤ 30000 → ∀ (D : Nat → Nd) (n : Nat), dagB D n = true → dagTR D n ≠ s) :
    ∃ x A b, Ending.returned (.tuple #[.slice none 0 0, .bool false]) = .returned (.tuple #[x, .bool b]) ∧ OwnD ((w1.setCell ⟨W.heap.size, 0, none⟩ (.slice none 0 0)).setCell ⟨W.heap.size + 1, 0, none⟩ (.bool false)) W.heap.size x A ∧ ApU A ∧ RdA s b A ∧ Below W.heap.size W ((w1.setCell ⟨W.heap.size, 0, none⟩ (.slice none 0 0)).setCell ⟨W.heap.size + 1, 0, none⟩ (.bool false)) :=
  ⟨.slice none 0 0, [], false, rfl, ownD_nil _ _, apU_nil, RdA.no hno, (hB.setCell (p := ⟨W.heap.size, 0, none⟩) (Nat.le_refl _) _).setCell (p := ⟨W.heap.size + 1, 0, none⟩) (by simp) _⟩

theorem reads_ex (t : ByteArray) : ∃ p b, Reads t p b := by
  by_cases h : t.size ≤ 1000 ∧ ∃ p, Good t p
  · obtain ⟨h1, p, h2⟩ := h
    exact ⟨p, true, .inl ⟨rfl, h1, h2⟩⟩
  · exact ⟨pnZ, false, .inr ⟨rfl, rfl, fun h1 h2 => h ⟨h1, h2⟩⟩⟩
theorem node_yes (R : Nat) (r : ByteArray) (k : Nat) (m : Int) (p : PN) (w : World) (hr : r.size ≤ 1040000) (hR : Rg w R r) (hm : w.cell? ⟨3, 0, none⟩ = some (.int .i64 m)) (he : EndAt r k) (hp : Reads (r.extract 0 k) p true) :
    Calls Tryz.prog 157 #[.pointer (some ⟨R, 0, none⟩)] w fun e w' => (∃ a c, e = .returned (.agg #[.int .i64 p.a, .int .i64 p.s, .int .i64 p.k, .string p.key, .string p.text, .slice a p.ups.length c]) ∧ w'.ownsRow w.heap.size 9 1 (.slice a p.ups.length c) p.ups.length (p.ups.map Value.string) ∧ Rg w' R (r.extract (k + 1) r.size)) ∧ w.grownBy w' (some R) := by
  refine (node_core R r (r.extract 0 k) (bs (r.data.toList.take (k - 1))) (r.extract (k + 1) r.size) true true m p w (by omega) hR hm ?_ (head_back he.pos he.lt he.yes) (by rw [ByteArray.size_extract]; omega) hp).mono ?_
  · rw [cutE_yes he.pos he.lt he.yes he.no, bs_list, ← rest_back, bs_list]
  · rintro e w' ⟨h1, _, hg⟩
    exact ⟨h1 rfl, hg⟩
theorem node_no (R : Nat) (r : ByteArray) (m : Int) (w : World) (hr : r.size ≤ 1040000) (hR : Rg w R r) (hm : w.cell? ⟨3, 0, none⟩ = some (.int .i64 m)) (hb : (∀ i, 1 ≤ i → i < r.size → end2 r i = false) ∨ ∃ k p, EndAt r k ∧ Reads (r.extract 0 k) p false) :
    Calls Tryz.prog 157 #[.pointer (some ⟨R, 0, none⟩)] w fun e w' => e = .panicked noDag ∧ w.grownBy w' (some R) := by
  rcases hb with hb | ⟨k, p, he, hp⟩
  · obtain ⟨p, b, hp⟩ := reads_ex (r ++ ⟨#[10]⟩)
    refine (node_core R r (r ++ ⟨#[10]⟩) r ⟨#[]⟩ false b m p w (by omega) hR hm (cutE_no hb) rfl (by rw [ByteArray.size_append]; have : (ByteArray.mk #[10]).size = 1 := rfl; omega) hp).mono ?_
    rintro e w' ⟨_, h2, hg⟩
    exact ⟨h2 rfl, hg⟩
  · refine (node_core R r (r.extract 0 k) (bs (r.data.toList.take (k - 1))) (r.extract (k + 1) r.size) true false m p w (by omega) hR hm ?_ (head_back he.pos he.lt he.yes) (by rw [ByteArray.size_extract]; omega) hp).mono ?_
    · rw [cutE_yes he.pos he.lt he.yes he.no, bs_list, ← rest_back, bs_list]
    · rintro e w' ⟨_, h2, hg⟩
      exact ⟨h2 rfl, hg⟩
/-- the next node is there, or the text is none -/
theorem node_cases (r : ByteArray) : (∃ k p, EndAt r k ∧ Reads (r.extract 0 k) p true) ∨ ((∀ i, 1 ≤ i → i < r.size → end2 r i = false) ∨ ∃ k p, EndAt r k ∧ Reads (r.extract 0 k) p false) := by
  rcases end2_ex r with ⟨k, h1, h2, h3, h4⟩ | h
  · obtain ⟨p, b, hp⟩ := reads_ex (r.extract 0 k)
    cases b with
    | true => exact .inl ⟨k, p, ⟨h1, h2, h3, h4⟩, hp⟩
    | false => exact .inr (.inr ⟨k, p, ⟨h1, h2, h3, h4⟩, hp⟩)
  · exact .inr (.inl h)

theorem dtw_own {W wr wv : World} {v : Value} {r : ByteArray} {A : List Nd} (hO : OwnD wr (W.heap.size + 3) v A) (hD : DtW W wr v r) (hg : wr.drew.grownBy wv (some (W.heap.size + 2))) (o : Obj) : OwnD (wv.alloc o) (W.heap.size + 3) v A :=
  hO.keep fun k hk hl => (Below.heap_alloc _ _ _ (by have := hg.size; have h9 : wr.drew.heap.size = wr.heap.size := rfl; omega)).trans ((hg.block k (by have h9 : wr.drew.heap.size = wr.heap.size := rfl; omega) (by simp; omega)).trans rfl)
theorem dtw_up {W wr wv : World} {p : PN} {a : Option Addr} {c : Nat} (h : wv.ownsRow wr.drew.heap.size 9 1 (.slice a p.ups.length c) p.ups.length (p.ups.map Value.string)) (h3 : W.heap.size + 3 ≤ wr.heap.size) (o : Obj) : UpO (wv.alloc o) (W.heap.size + 3) (ndR p a c) :=
  ((ndR_up h).keep (fun j _ hj => by obtain ⟨cs, hj⟩ := hj; exact Below.heap_alloc _ _ _ (lt_of_block hj))).base (by have h9 : wr.drew.heap.size = wr.heap.size := rfl; omega)
theorem dtw_cell {W wr wv w9 : World} {v : Value} {r : ByteArray} {A : List Nd} {o : Obj} (hD : DtW W wr v r) (hO : OwnD wr (W.heap.size + 3) v A) (hg : wr.drew.grownBy wv (some (W.heap.size + 2))) (h9 : (wv.alloc o).grownBy w9 v.ownBlock) : w9.cell? ⟨W.heap.size, 0, none⟩ = some v ∧ w9.frozen? ⟨W.heap.size, 0, none⟩ = false := by
  have h3 := hD.big
  have hs : wr.drew.heap.size = wr.heap.size := rfl
  have hz := hg.size
  have k0 : wv.heap[W.heap.size]? = wr.heap[W.heap.size]? := (hg.block _ (by omega) (by simp)).trans rfl
  have k1 : (wv.alloc o).heap[W.heap.size]? = wv.heap[W.heap.size]? := Below.heap_alloc _ _ _ (by omega)
  have k2 : w9.heap[W.heap.size]? = (wv.alloc o).heap[W.heap.size]? := h9.block _ (by simp; omega) (fun e => by have := (World.ownsRow.lt hO.1 _ e.symm).1; omega)
  have k : w9.heap[W.heap.size]? = wr.heap[W.heap.size]? := k2.trans (k1.trans k0)
  exact ⟨(World.cell?_of_block k).trans hD.d0, (World.frozen?_of_block k).trans hD.d1⟩
theorem dtw_set {W wr wv w9 : World} {v v9 : Value} {r r' : ByteArray} {A : List Nd} {o : Obj} (hD : DtW W wr v r) (hO : OwnD wr (W.heap.size + 3) v A) (hg : wr.drew.grownBy wv (some (W.heap.size + 2))) (hr : Rg wv (W.heap.size + 2) r') (h9 : (wv.alloc o).grownBy w9 v.ownBlock) : DtW W (w9.setCell ⟨W.heap.size, 0, none⟩ v9) v9 r' := by
  have h3 := hD.big
  have hs : wr.drew.heap.size = wr.heap.size := rfl
  have hz := hg.size
  have hz9 := h9.size
  rw [World.size_alloc] at hz9
  have far : ∀ k, k < W.heap.size + 3 → w9.heap[k]? = wv.heap[k]? := fun k hk => (h9.block k (by simp; omega) (fun e => by have := (World.ownsRow.lt hO.1 _ e.symm).1; omega)).trans (Below.heap_alloc _ _ _ (by omega))
  obtain ⟨c0, c1⟩ := dtw_cell hD hO hg h9
  have e1 : (w9.setCell ⟨W.heap.size, 0, none⟩ v9).heap[W.heap.size + 1]? = wr.heap[W.heap.size + 1]? := (Below.heap_setCell _ _ _ _ (by show W.heap.size + 1 ≠ W.heap.size; omega)).trans ((far _ (by omega)).trans ((hg.block _ (by omega) (by simp)).trans rfl))
  have e2 : (w9.setCell ⟨W.heap.size, 0, none⟩ v9).heap[W.heap.size + 2]? = wv.heap[W.heap.size + 2]? := (Below.heap_setCell _ _ _ _ (by show W.heap.size + 2 ≠ W.heap.size; omega)).trans (far _ (by omega))
  have hBv : Below W.heap.size W wv := (show Below W.heap.size W wr.drew from hD.b.drew).grown hg (by omega) (fun k hk => by cases hk; omega)
  have hB9 : Below W.heap.size W w9 := (hBv.alloc (by omega) o).grown h9 (by simp; omega) (fun k hk => by have := (World.ownsRow.lt hO.1 _ hk).1; omega)
  exact ⟨World.cell?_setCell_same _ _ _ c0, by rw [World.frozen?_setCell]; exact c1, (World.cell?_of_block e1).trans hD.o0, (World.frozen?_of_block e1).trans hD.o1, ⟨(World.cell?_of_block e2).trans hr.c0, (World.frozen?_of_block e2).trans hr.z0⟩, hB9.setCell (p := ⟨W.heap.size, 0, none⟩) (Nat.le_refl _) _, by rw [show (w9.setCell ⟨W.heap.size, 0, none⟩ v9).heap.size = w9.heap.size by simp [World.setCell]]; omega⟩
theorem DtW.drew {W w : World} {v : Value} {r : ByteArray} (h : DtW W w v r) : DtW W w.drew v r := ⟨h.d0, h.d1, h.o0, h.o1, ⟨h.rg.c0, h.rg.z0⟩, h.b.drew, h.big⟩

set_option maxRecDepth 20000 in
set_option maxHeartbeats 8000000 in
theorem dagOfText_any (s : ByteArray) (m : Int) (w : World) (hs : s.size ≤ 30000) (hP : AllT w) (hm : w.cell? ⟨3, 0, none⟩ = some (.int .i64 m)) :
    Calls Tryz.prog 102 #[.string s] w fun e w' => ∃ v A b, e = .returned (.tuple #[v, .bool b]) ∧ OwnD w' w.heap.size v A ∧ ApU A ∧ RdA s b A ∧ Below w.heap.size w w' := by
  obtain ⟨Q, hQ⟩ : ∃ Q : Ending → World → Prop, Q = fun e w' => ∃ v A b, e = .returned (.tuple #[v, .bool b]) ∧ OwnD w' w.heap.size v A ∧ ApU A ∧ RdA s b A ∧ Below w.heap.size w w' := ⟨_, rfl⟩
  rw [← hQ]
  have HQ : Hid (Q = fun e w' => ∃ v A b, e = .returned (.tuple #[v, .bool b]) ∧ OwnD w' w.heap.size v A ∧ ApU A ∧ RdA s b A ∧ Below w.heap.size w w') := hQ
  clear hQ
  have hmf : ∀ (fn : Fn) (first cap : Array Value) (w : World), (Instr.makeFunc fn first cap).run Tryz.prog w = .ok (.func fn first cap) w := fun _ _ _ _ => rfl
  have HS : Hid (s.size ≤ 30000) := hs
  have HP : Hid (AllT w) := hP
  have HM : Hid (w.cell? ⟨3, 0, none⟩ = some (.int .i64 m)) := hm
  obtain ⟨W0, hW0⟩ : ∃ W0, W0 = ((w.alloc (.cells #[.slice none 0 0] 28)).alloc (.cells #[.bool false] 4)).alloc (.cells #[.string s] 156) := ⟨_, rfl⟩
  have HW0 : Hid (W0 = ((w.alloc (.cells #[.slice none 0 0] 28)).alloc (.cells #[.bool false] 4)).alloc (.cells #[.string s] 156)) := hW0
  have HD0 : Hid (DtW w W0 (.slice none 0 0) s) := by
    have s1 : (w.alloc (.cells #[.slice none 0 0] 28)).heap.size = w.heap.size + 1 := by simp
    have s2 : ((w.alloc (.cells #[.slice none 0 0] 28)).alloc (.cells #[.bool false] 4)).heap.size = w.heap.size + 2 := by simp
    have g2 : W0.heap[w.heap.size + 2]? = some (.cells #[.string s] 156 (0, 0)) := by rw [hW0, ← s2]; exact heap_alloc_new _ _
    have g1 : W0.heap[w.heap.size + 1]? = some (.cells #[.bool false] 4 (0, 0)) := by rw [hW0, Below.heap_alloc _ _ _ (by rw [s2]; omega), ← s1]; exact heap_alloc_new _ _
    have g0 : W0.heap[w.heap.size]? = some (.cells #[.slice none 0 0] 28 (0, 0)) := by rw [hW0, Below.heap_alloc _ _ _ (by rw [s2]; omega), Below.heap_alloc _ _ _ (by rw [s1]; omega)]; exact heap_alloc_new _ _
    refine ⟨cellN g0, frozN g0, cellN g1, frozN g1, ⟨cellN g2, frozN g2⟩, ?_, ?_⟩
    · rw [hW0]; exact (((Below.refl _ _).alloc (Nat.le_refl _) _).alloc (by rw [s1]; omega) _).alloc (by rw [s2]; omega) _
    · rw [hW0]; simp
  have HC : Hid (Calls Tryz.prog 156 #[.pointer (some ⟨w.heap.size + 1 + 1, 0, none⟩)] W0 fun e w' => (cntB s = true → e = .returned (.int .i64 (rdec (valV s wDag)).1) ∧ Rg w' (w.heap.size + 2) (restN s)) ∧ (cntB s = false → e = .panicked noDag) ∧ W0.grownBy w' (some (w.heap.size + 2))) :=
    count_any (w.heap.size + 2) s m W0 (by omega) HD0.out.rg ((HD0.out.b.cell (cell_lt hm)).trans hm)
  clear hW0 hP hm hs
  go_enter_defers Tryz.func102, Tryz.ntmps102
  go_wp2_with fail
  rw [← HW0.out]
  refine HC.out.mono ?_
  rintro e w1 ⟨hyes, hno, hg1⟩
  cases hc : cntB s with
  | false =>
    obtain rfl := hno hc
    obtain ⟨t0, t1, o0, o1, hB1⟩ := HD0.out.bad hg1
    have HX : Hid (∀ (D : Nat → Nd) (n : Nat), dagB D n = true → dagTR D n ≠ s) := no_count hc
    clear hyes hno hg1 HC hc
    go_wp2
    refine leaves_cons (f := 155) (args := #[.pointer (some ⟨w.heap.size, 0, none⟩), .pointer (some ⟨w.heap.size + 1, 0, none⟩)]) (by simp) (by simp [go_sem]) ?_
    refine (catchD_panicking w.heap.size (w.heap.size + 1) _ _ w1 t0 t1 o0 o1 (by omega)).mono ?_
    rintro e u' w2 ⟨rfl, rfl, rfl⟩
    have HE : Hid (Q (.returned (.tuple #[.slice none 0 0, .bool false])) ((w1.setCell ⟨w.heap.size, 0, none⟩ (.slice none 0 0)).setCell ⟨w.heap.size + 1, 0, none⟩ (.bool false))) := by
      show Q _ _
      rw [HQ.out]
      exact gave_up s w w1 _ _ t0 o0 hB1 (fun _ => HX.out)
    simp [Leaves, settle, results, Tryz.results102, go_sem, t0, o0]
    exact HE.out
  | true =>
    obtain ⟨rfl, hR1⟩ := hyes hc
    obtain ⟨c, hc30, hnum, htx⟩ := cnt_back hc
    have HD1 : Hid (DtW w w1 (.slice none 0 0) (restN s)) := HD0.out.step hg1 hR1
    have HK1 : Hid (DtK s (restN s) c 0 []) := DtK.start hc30 hnum hc htx
    rw [hnum]
    clear hyes hno hg1 hR1 HC hc hnum htx
    go_wp2
    go_loopw [9] (fun i wr => ∃ (j : Nat) (r : ByteArray) (A : List Nd) (v : Value), i = .int .i64 j ∧ Hid (DtW w wr v r) ∧ Hid (DtK s r c j A) ∧ OwnD wr (w.heap.size + 3) v A) (fun i _ => c - (Go.RowKit.intOf i).toNat)
    case atStart => exact ⟨0, restN s, [], .slice none 0 0, rfl, HD1, HK1, ownD_nil _ _⟩
    case round =>
      obtain ⟨j, r, A, v, rfl, HD, HK, hO⟩ := hrel
      have HO : Hid (OwnD wr (w.heap.size + 3) v A) := hO
      clear hO HD1 HK1 HD0
      obtain ⟨d0, d1, o0, o1, rg0, hB, h3⟩ := HD.out
      have HB : Hid (Below w.heap.size w wr) := hB
      have HM2 : Hid (wr.cell? ⟨3, 0, none⟩ = some (.int .i64 m)) := (hB.cell (cell_lt HM.out)).trans HM.out
      have HRS : Hid (r.size ≤ 30000) := Nat.le_trans HK.out.size HS.out
      have HRG : Hid (Rg wr (w.heap.size + 2) r) := rg0
      clear rg0 hB
      by_cases hlt : j < c
      · have hltI : (j : Int) < (c : Int) := by omega
        rcases node_cases r with ⟨k, p, he, hp⟩ | hb
        · have HEP : Hid (EndAt r k ∧ Reads (r.extract 0 k) p true) := ⟨he, hp⟩
          have HN : Hid (Calls Tryz.prog 157 #[.pointer (some ⟨w.heap.size + 1 + 1, 0, none⟩)] wr.drew fun e w' => (∃ a c, e = .returned (.agg #[.int .i64 p.a, .int .i64 p.s, .int .i64 p.k, .string p.key, .string p.text, .slice a p.ups.length c]) ∧ w'.ownsRow wr.drew.heap.size 9 1 (.slice a p.ups.length c) p.ups.length (p.ups.map Value.string) ∧ Rg w' (w.heap.size + 2) (r.extract (k + 1) r.size)) ∧ wr.drew.grownBy w' (some (w.heap.size + 2))) :=
            node_yes (w.heap.size + 2) r k m p wr.drew (by have := HRS.out; omega) ⟨HRG.out.c0, HRG.out.z0⟩ HM2.out he hp
          have HL : Hid (A.length ≤ 30) := by have h1 := HK.out.len; have h2 := HK.out.small; show _ ≤ _; omega
          clear he hp
          go_wp2
          go_region_law (first
            | (go_simp; go_at_call 157; refine HN.out.mono ?_; rintro e wv ⟨⟨a5, c5, rfl, ho5, hr5⟩, hg5⟩; have h7 : wv.cell? ⟨w.heap.size, 0, none⟩ = some v := hg5.cell (show wr.drew.cell? ⟨w.heap.size, 0, none⟩ = some v from d0) (by simp); have h7a : (wv.alloc (.cells #[.int .i64 p.a, .int .i64 p.s, .int .i64 p.k, .string p.key, .string p.text, .slice a5 p.ups.length c5] 50)).cell? ⟨w.heap.size, 0, none⟩ = some v := (World.grownBy_alloc wv _ none).cell h7 (by simp))
            | (refine step_appD rfl _ _ rfl (w.heap.size + 3) v A [ndR p a5 c5] (some ⟨wv.heap.size, 0, none⟩) 1 rfl rfl (dtw_own HO.out HD.out hg5 _) (fun _ => ⟨wv.heap.size, 0, rfl, news_lit rfl⟩) (fun d hd => by rw [List.mem_singleton.1 hd]; exact dtw_up ho5 h3 _) (fun h => by cases h) (by have := HL.out; simp; omega) (by have := hg5.size; have h9 : wr.drew.heap.size = wr.heap.size := rfl; simp; omega) ?_; intro v9 w9 ho9 hg9; obtain ⟨h8, h8f⟩ := dtw_cell HD.out HO.out hg5 hg9; obtain ⟨a9, k9, e9, _, _⟩ := ho9.nds; obtain ⟨n9, hn9⟩ : ∃ n, n = (A ++ [ndR p a5 c5]).length := ⟨_, rfl⟩; rw [← hn9] at e9; subst e9; clear hn9))
          all_goals
            have HD9 : Hid (DtW w (w9.setCell ⟨w.heap.size, 0, none⟩ (.slice a9 n9 k9)) (.slice a9 n9 k9) (r.extract (k + 1) r.size)) := dtw_set HD.out HO.out hg5 hr5 hg9
            have HO9 : Hid (OwnD (w9.setCell ⟨w.heap.size, 0, none⟩ (.slice a9 n9 k9)) (w.heap.size + 3) (.slice a9 n9 k9) (A ++ [ndR p a5 c5])) := ho9.keep (fun k hk _ => Below.heap_setCell _ _ _ _ (by show k ≠ w.heap.size; omega))
            have HK9 : Hid (DtK s (r.extract (k + 1) r.size) c (j + 1) (A ++ [ndR p a5 c5])) := HK.out.next hlt HEP.out.1 HEP.out.2 HO.out (ndR_up ho5)
            clear ho9 hg9 h8 h8f h7 h7a ho5 hr5 hg5
            go_wp2
            go_roundw
            case rel => exact ⟨j + 1, _, _, _, by go_num, HD9, HK9, HO9.out⟩
            case measure => simp [Go.RowKit.intOf]; omega
        · have HBD : Hid ((∀ i, 1 ≤ i → i < r.size → end2 r i = false) ∨ ∃ k p, EndAt r k ∧ Reads (r.extract 0 k) p false) := hb
          have HX : Hid (∀ (D : Nat → Nd) (n : Nat), dagB D n = true → dagTR D n ≠ s) := HK.out.stop hlt hb
          have HN : Hid (Calls Tryz.prog 157 #[.pointer (some ⟨w.heap.size + 1 + 1, 0, none⟩)] wr.drew fun e w' => e = .panicked noDag ∧ wr.drew.grownBy w' (some (w.heap.size + 2))) :=
            node_no (w.heap.size + 2) r m wr.drew (by have := HRS.out; omega) ⟨HRG.out.c0, HRG.out.z0⟩ HM2.out hb
          clear hb
          go_wp2
          refine wp_region_any (by kernel_rfl) ?_
          change wpAny _ _ _ _ _ _ _ (World.drew _)
          refine wpAny_ready (rs := [0, 1]) (by kernel_rfl) (by simp) (AllReady.cons rfl (fun K hK => ?_) (AllReady.cons rfl (fun K hK => ?_) AllReady.nil))
          · go_simp
            refine hK _ _ ?_
            clear hK K
            refine wpAny_ready (rs := [1]) (by kernel_rfl) (by simp) (AllReady.cons rfl (fun K hK => ?_) AllReady.nil)
            go_simp
            go_at_call 157
            refine HN.out.mono ?_
            rintro e wv ⟨rfl, hg5⟩
            obtain ⟨t0, t1, q0, q1, hB1⟩ := HD.out.drew.bad hg5
            clear hg5
            go_wp2
            refine leaves_cons (f := 155) (args := #[.pointer (some ⟨w.heap.size, 0, none⟩), .pointer (some ⟨w.heap.size + 1, 0, none⟩)]) (by simp) (by simp [go_sem]) ?_
            refine (catchD_panicking w.heap.size (w.heap.size + 1) _ _ wv t0 t1 q0 q1 (by omega)).mono ?_
            rintro e u' w2 ⟨rfl, rfl, rfl⟩
            have HE : Hid (Q (.returned (.tuple #[.slice none 0 0, .bool false])) ((wv.setCell ⟨w.heap.size, 0, none⟩ (.slice none 0 0)).setCell ⟨w.heap.size + 1, 0, none⟩ (.bool false))) := by
              show Q _ _
              rw [HQ.out]
              exact gave_up s w wv _ _ t0 q0 hB1 (fun _ => HX.out)
            simp [Leaves, settle, results, Tryz.results102, go_sem, t0, q0]
            exact HE.out
          · go_simp
            go_at_call 157
            refine HN.out.mono ?_
            rintro e wv ⟨rfl, hg5⟩
            obtain ⟨t0, t1, q0, q1, hB1⟩ := HD.out.drew.bad hg5
            clear hg5
            go_wp2
            refine leaves_cons (f := 155) (args := #[.pointer (some ⟨w.heap.size, 0, none⟩), .pointer (some ⟨w.heap.size + 1, 0, none⟩)]) (by simp) (by simp [go_sem]) ?_
            refine (catchD_panicking w.heap.size (w.heap.size + 1) _ _ wv t0 t1 q0 q1 (by omega)).mono ?_
            rintro e u' w2 ⟨rfl, rfl, rfl⟩
            have HE : Hid (Q (.returned (.tuple #[.slice none 0 0, .bool false])) ((wv.setCell ⟨w.heap.size, 0, none⟩ (.slice none 0 0)).setCell ⟨w.heap.size + 1, 0, none⟩ (.bool false))) := by
              show Q _ _
              rw [HQ.out]
              exact gave_up s w wv _ _ t0 q0 hB1 (fun _ => HX.out)
            simp [Leaves, settle, results, Tryz.results102, go_sem, t0, q0]
            exact HE.out
      · obtain rfl : j = c := by have := HK.out.le; omega
        obtain ⟨a, k, rfl, hI, _⟩ := HO.out.nds
        have HI : Hid (IsNds wr a A.length k (gN A)) := hI
        have HDG : Hid (Calls Tryz.prog 71 #[.slice a A.length k] wr fun e w' => e = .returned (.bool (dagB (gN A) A.length)) ∧ Below wr.heap.size wr w') :=
          implDagOk_any a A.length k (gN A) wr hI HK.out.fine.fine (HP.out.below HB.out)
        have HLJ : Hid (A.length = j) := HK.out.len
        obtain ⟨l, hl⟩ : ∃ l, l = A.length := ⟨_, rfl⟩
        rw [← hl] at HO HDG HLJ d0
        have HD : Hid (DtW w wr (.slice a l k) r) := by rw [hl]; exact HD
        have r0 := HRG.out.c0
        clear hl hI HI
        by_cases hre : r.toList = []
        · have hr1 : (r.toList != []) = false := by rw [hre]; rfl
          have hr2 : (r.toList == []) = true := by rw [hre]; rfl
          have HRE : Hid (r.toList = []) := hre
          clear hre
          cases hdg : dagB (gN A) l with
          | true =>
            have HDB : Hid (dagB (gN A) j = true) := by show _ = _; rw [← HLJ.out]; exact hdg
            rw [hdg] at HDG
            clear hdg
            go_wp2_with fail
            refine HDG.out.mono ?_
            rintro e w5 ⟨rfl, hB5⟩
            have t0 : w5.cell? ⟨w.heap.size, 0, none⟩ = some (.slice a l k) := (hB5.cell (p := ⟨w.heap.size, 0, none⟩) (by show w.heap.size < _; omega)).trans HD.out.d0
            have t1 : w5.frozen? ⟨w.heap.size, 0, none⟩ = false := (World.frozen?_of_block (hB5.block _ (by show w.heap.size < _; omega))).trans HD.out.d1
            have q0 : w5.cell? ⟨w.heap.size + 1, 0, none⟩ = some (.bool false) := (hB5.cell (p := ⟨w.heap.size + 1, 0, none⟩) (by show w.heap.size + 1 < _; omega)).trans HD.out.o0
            have q1 : w5.frozen? ⟨w.heap.size + 1, 0, none⟩ = false := (World.frozen?_of_block (hB5.block _ (by show w.heap.size + 1 < _; omega))).trans HD.out.o1
            have HE : Hid (Q (.returned (.tuple #[.slice a l k, .bool true])) ((w5.setCell ⟨w.heap.size, 0, none⟩ (.slice a l k)).setCell ⟨w.heap.size + 1, 0, none⟩ (.bool true))) := by
              show Q _ _
              rw [HQ.out]
              refine ⟨.slice a l k, A, true, rfl, ((HO.out.below hB5).keep (fun i hi _ => ?_)).base (by omega), HK.out.ap, HK.out.right HRE.out HDB.out HS.out, ((HB.out.trans (hB5.mono HB.out.size)).setCell (p := ⟨w.heap.size, 0, none⟩) (Nat.le_refl _) _).setCell (p := ⟨w.heap.size + 1, 0, none⟩) (by simp) _⟩
              exact (Below.heap_setCell _ _ _ _ (by show i ≠ w.heap.size + 1; omega)).trans (Below.heap_setCell _ _ _ _ (by show i ≠ w.heap.size; omega))
            clear hB5
            go_wp2
            refine leaves_cons (f := 155) (args := #[.pointer (some ⟨w.heap.size, 0, none⟩), .pointer (some ⟨w.heap.size + 1, 0, none⟩)]) (by simp) (by simp [go_sem]) ?_
            refine (catchD_idle w.heap.size (w.heap.size + 1) _).mono ?_
            rintro e u' w2 ⟨rfl, rfl, rfl⟩
            simp [Leaves, settle, results, Tryz.results102, go_sem, t0, q0]
            exact HE.out
          | false =>
            have HX : Hid (∀ (D : Nat → Nd) (n : Nat), dagB D n = true → dagTR D n ≠ s) := HK.out.wrong HRE.out (by rw [← HLJ.out]; exact hdg)
            rw [hdg] at HDG
            clear hdg
            go_wp2_with fail
            refine HDG.out.mono ?_
            rintro e w5 ⟨rfl, hB5⟩
            have t0 : w5.cell? ⟨w.heap.size, 0, none⟩ = some (.slice a l k) := (hB5.cell (p := ⟨w.heap.size, 0, none⟩) (by show w.heap.size < _; omega)).trans HD.out.d0
            have t1 : w5.frozen? ⟨w.heap.size, 0, none⟩ = false := (World.frozen?_of_block (hB5.block _ (by show w.heap.size < _; omega))).trans HD.out.d1
            have q0 : w5.cell? ⟨w.heap.size + 1, 0, none⟩ = some (.bool false) := (hB5.cell (p := ⟨w.heap.size + 1, 0, none⟩) (by show w.heap.size + 1 < _; omega)).trans HD.out.o0
            have q1 : w5.frozen? ⟨w.heap.size + 1, 0, none⟩ = false := (World.frozen?_of_block (hB5.block _ (by show w.heap.size + 1 < _; omega))).trans HD.out.o1
            have hB1 : Below w.heap.size w w5 := HB.out.trans (hB5.mono HB.out.size)
            clear hB5
            go_wp2
            refine leaves_cons (f := 155) (args := #[.pointer (some ⟨w.heap.size, 0, none⟩), .pointer (some ⟨w.heap.size + 1, 0, none⟩)]) (by simp) (by simp [go_sem]) ?_
            refine (catchD_panicking w.heap.size (w.heap.size + 1) _ _ w5 t0 t1 q0 q1 (by omega)).mono ?_
            rintro e u' w2 ⟨rfl, rfl, rfl⟩
            have HE : Hid (Q (.returned (.tuple #[.slice none 0 0, .bool false])) ((w5.setCell ⟨w.heap.size, 0, none⟩ (.slice none 0 0)).setCell ⟨w.heap.size + 1, 0, none⟩ (.bool false))) := by
              show Q _ _
              rw [HQ.out]
              exact gave_up s w w5 _ _ t0 q0 hB1 (fun _ => HX.out)
            simp [Leaves, settle, results, Tryz.results102, go_sem, t0, q0]
            exact HE.out
        · have hr1 : (r.toList != []) = true := by simpa using hre
          have hr2 : (r.toList == []) = false := by simpa using hre
          have HX : Hid (∀ (D : Nat → Nd) (n : Nat), dagB D n = true → dagTR D n ≠ s) := HK.out.more hre
          have t0 := HD.out.d0
          have t1 := HD.out.d1
          have q0 := HD.out.o0
          have q1 := HD.out.o1
          have hB1 := HB.out
          clear hre
          go_wp2
          refine leaves_cons (f := 155) (args := #[.pointer (some ⟨w.heap.size, 0, none⟩), .pointer (some ⟨w.heap.size + 1, 0, none⟩)]) (by simp) (by simp [go_sem]) ?_
          refine (catchD_panicking w.heap.size (w.heap.size + 1) _ _ wr t0 t1 q0 q1 (by omega)).mono ?_
          rintro e u' w2 ⟨rfl, rfl, rfl⟩
          have HE : Hid (Q (.returned (.tuple #[.slice none 0 0, .bool false])) ((wr.setCell ⟨w.heap.size, 0, none⟩ (.slice none 0 0)).setCell ⟨w.heap.size + 1, 0, none⟩ (.bool false))) := by
            show Q _ _
            rw [HQ.out]
            exact gave_up s w wr _ _ t0 q0 hB1 (fun _ => HX.out)
          simp [Leaves, settle, results, Tryz.results102, go_sem, t0, q0]
          exact HE.out
end Go.Proofs.YtlibipbpaigmdaaGreatDoor

namespace Go.Proofs.YtlibipbpaigmdaaGreatDoor
open Go.RowKit
set_option linter.unusedVariables false

theorem head_is (len : Nat) : lineB ⟨#[100, 97, 103]⟩ (decB len) = ((⟨#[100, 97, 103, 32]⟩ : ByteArray) ++ decB len) ++ ⟨#[10]⟩ := rfl

set_option maxRecDepth 10000 in
set_option maxHeartbeats 4000000 in
theorem l13Text_any (a : Option Addr) (len cap : Nat) (D : Nat → Nd) (w : World) (h : IsNds w a len cap D) (hf : Fine D len) (hl : len ≤ 30) :
    Calls Tryz.prog 137 #[.slice a len cap] w fun e w' => e = .returned (.string (dagT D len len)) ∧ Below w.heap.size w w' := by
  have HF := (show Hid _ from hf)
  have HE : Hid (∀ w', Below w.heap.size w w' → IsNds w' a len cap D) := fun w' hB => h.below hB
  obtain ⟨dc, hdc⟩ : ∃ dc, dc = decB len := ⟨_, rfl⟩
  have hds : dc.size ≤ 31 := by rw [hdc]; have := decB_size len; omega
  have e4 : (ByteArray.mk #[100, 97, 103, 32]).size = 4 := rfl
  have e1 : (ByteArray.mk #[10]).size = 1 := rfl
  have a1 := fun v => addT (a := (ByteArray.mk #[100, 97, 103, 32])) (b := dc) (by omega) v
  have a2 := fun v => addT (a := (ByteArray.mk #[100, 97, 103, 32]) ++ dc) (b := ⟨#[10]⟩) (by rw [ByteArray.size_append]; omega) v
  have H0 : Hid (dagT D len 0 = ((ByteArray.mk #[100, 97, 103, 32]) ++ dc) ++ ⟨#[10]⟩) := by rw [hdc]; exact head_is len
  have HDC := (show Hid _ from hdc)
  have HSZ := dagT_size D len hl
  clear h hf e4 e1 hdc
  go_enter Tryz.func137, Tryz.ntmps137
  go_wp2_with fail
  refine (l1Dec_any len (by omega) w).mono ?_
  rintro e w1 ⟨rfl, hB1⟩
  rw [← HDC.out]
  have HB1 : Hid (Below w.heap.size w w1) := hB1
  clear hB1
  have HC : Hid (∀ w', Below w.heap.size w w' → ∀ k, k < len → ∃ b off, a = some ⟨b, off, none⟩ ∧ NdAt w' b (off + k * 6) (D k)) := fun w' hB k hk => by
    obtain ⟨_, _, hc⟩ := HE.out w' hB
    obtain ⟨b, off, rfl, _, hcell⟩ := hc (by omega)
    exact ⟨b, off, rfl, hcell k hk⟩
  obtain ⟨t0, ht0⟩ : ∃ t0, t0 = ((ByteArray.mk #[100, 97, 103, 32]) ++ dc) ++ ⟨#[10]⟩ := ⟨_, rfl⟩
  go_wp2
  rw [← ht0]
  rw [← ht0] at H0
  clear a1 a2 ht0 HDC hds
  go_loopw [3, 4] (fun u i wr => ∃ (k : Nat) (t : ByteArray), k ≤ len ∧ u = .string t ∧ i = .int .i64 k ∧ Hid (t = dagT D len k) ∧ Hid (Below w.heap.size w wr)) (fun _ i _ => len - (Go.RowKit.intOf i).toNat)
  case atStart => exact ⟨0, t0, Nat.zero_le _, rfl, rfl, H0.out.symm, HB1.out⟩
  case round =>
    obtain ⟨k, t, hk, rfl, rfl, HT, HB⟩ := hrel
    by_cases hlt : k < len
    · have hltI : (k : Int) < (len : Int) := by omega
      obtain ⟨b, off, rfl, nd⟩ := HC.out wr HB.out k hlt
      have HSt := nd.i
      obtain ⟨c0, c1, c2, c3, c4, c5, _⟩ := nd
      obtain ⟨x, hx⟩ : ∃ x, x = (D k).txt := ⟨_, rfl⟩
      have e1 : (ByteArray.mk #[10]).size = 1 := rfl
      have hzt : t.size ≤ 40000000 := by rw [HT.out]; have := HSZ k; omega
      have hzx : x.size ≤ 1048576 := by rw [hx]; exact txt_size _
      have a3 := fun v => addT (a := t) (b := x) (by omega) v
      have a4 := fun v => addT (a := t ++ x) (b := ⟨#[10]⟩) (by rw [ByteArray.size_append]; omega) v
      have HN : Hid (t ++ x ++ ⟨#[10]⟩ = dagT D len (k + 1)) := by
        show _ = dagT D len k ++ ((D k).txt ++ ⟨#[10]⟩)
        rw [HT.out, hx, ByteArray.append_assoc]
      have HX := (show Hid _ from hx)
      have HSI := (show Hid _ from HSt)
      clear e1 hx HSt
      go_wp2_with fail
      refine (specNodeTextD_any _ _ _ _ _ _ _ _ (D k).S wr HSI.out (HF.out k hlt).2.2 (HF.out k hlt).1 (HF.out k hlt).2.1).mono ?_
      rintro e w2 ⟨rfl, hB2⟩
      have e2 : textR (D k).a (D k).s (D k).k (D k).key (D k).text (D k).S (D k).n = x := HX.out.symm
      rw [e2]
      have HB2 : Hid (Below w.heap.size w w2) := HB.out.trans (hB2.mono HB.out.size)
      clear hB2 e2 HX
      go_wp2
      go_roundw
      case rel => exact ⟨k + 1, _, by omega, rfl, by go_num, HN.out, HB2.out⟩
      case measure => simp [Go.RowKit.intOf]; omega
    · have hke : k = len := by omega
      subst hke
      go_wp2
      go_ret
      exact ⟨by rw [← HT.out]; rfl, HB.out⟩

theorem specDagText_any (a : Option Addr) (len cap : Nat) (D : Nat → Nd) (w : World) (h : IsNds w a len cap D) (hf : Fine D len) :
    Calls Tryz.prog 66 #[.slice a len cap] w fun e w' => e = .returned (.string (dagTR D len)) ∧ Below w.heap.size w w' := by
  have HE : Hid (∀ w', Below w.heap.size w w' → IsNds w' a len cap D) := fun w' hB => h.below hB
  have HF := (show Hid _ from hf)
  go_enter Tryz.func66, Tryz.ntmps66
  go_wp2_with fail
  refine (specDagOk_any a len cap D w (HE.out w (Below.refl _ _)) HF.out).mono ?_
  rintro e w1 ⟨rfl, hB1⟩
  cases hd : dagB D len with
  | false =>
    have HR : Hid (dagTR D len = ⟨#[]⟩ ∧ Below w.heap.size w w1) := ⟨by unfold dagTR; rw [hd]; rfl, hB1⟩
    clear h hf hB1
    go_wp2
    go_ret
    exact ⟨by rw [HR.out.1]; rfl, HR.out.2⟩
  | true =>
    have hl30 : len ≤ 30 := by
      unfold dagB at hd
      simp only [Bool.and_eq_true, decide_eq_true_eq] at hd
      exact hd.1
    have HD : Hid (dagTR D len = dagT D len len) := by show _ = _; unfold dagTR; rw [if_pos hd]
    have HB1 := (show Hid _ from hB1)
    clear h hf hB1
    go_wp2_with fail
    refine (l13Text_any a len cap D w1 (HE.out w1 HB1.out) HF.out hl30).mono ?_
    rintro e w2 ⟨rfl, hB2⟩
    have HB2 : Hid (Below w.heap.size w w2) := HB1.out.trans (hB2.mono HB1.out.size)
    rw [← HD.out]
    clear hB2
    go_wp2
    go_ret
    exact ⟨rfl, HB2.out⟩
end Go.Proofs.YtlibipbpaigmdaaGreatDoor

namespace Go.Proofs.YtlibipbpaigmdaaGreatDoor
open Go.RowKit
set_option linter.unusedVariables false

theorem cut_two {s : ByteArray} {i : Nat} (hF : FirstAt s 10 i) : ∃ (h r : ByteArray) (en : Bool), cutV s i = .tuple #[.string h, .string r, .bool en] ∧ r.size ≤ s.size ∧ RdK s r [] ∧ (∀ (D : Nat → Nd) (n : Nat), dagB D n = true → dagTR D n = s → en = true) ∧ (en = true → 0 < s.size) := by
  unfold cutV
  by_cases hi : i < s.size
  · refine ⟨_, _, _, by rw [if_pos hi], ?_, fun D n hq hs => ⟨Nat.zero_le _, (first_line hq hs hF).2, fun j hj => absurd hj (Nat.not_lt_zero _)⟩, fun _ _ _ _ => rfl, fun _ => by omega⟩
    rw [ByteArray.size_extract]
    omega
  · exact ⟨_, _, _, by rw [if_neg hi], Nat.zero_le _, fun D n hq hs => absurd (first_line hq hs hF).1 hi, fun D n hq hs => absurd (first_line hq hs hF).1 hi, fun h => by cases h⟩

set_option maxRecDepth 20000 in
set_option maxHeartbeats 4000000 in
theorem specReadDag_any (s : ByteArray) (w : World) (hs : s.size ≤ 1048576) :
    Calls Tryz.prog 32 #[.string s] w fun e w' => ∃ (v : Value) (A : List Nd) (b : Bool), e = .returned (.tuple #[v, .bool b]) ∧ OwnD w' w.heap.size v A ∧ RdA s b A ∧ Below w.heap.size w w' := by
  by_cases hbig : 30000 < s.size
  · have hbI : (30000 : Int) < (s.size : Int) := by omega
    go_enter Tryz.func32, Tryz.ntmps32
    go_wp2
    go_ret2
    exact ⟨.slice none 0 0, [], false, rfl, ownD_nil _ _, ⟨fun h => (by cases h), fun _ => ⟨rfl, fun h => absurd h (by omega)⟩⟩, Below.refl _ _⟩
  have hbI : ¬ (30000 : Int) < (s.size : Int) := by omega
  have HS : Hid (s.size ≤ 30000) := by show _ ≤ _; omega
  go_enter Tryz.func32, Tryz.ntmps32
  go_wp2_with fail
  refine (l13Line_any s w hs).mono ?_
  rintro e w1 ⟨i, hF, rfl, nd, rfl⟩
  obtain ⟨h0, r0, en, hcut, hr0, hK0, hen, hpos⟩ := cut_two hF
  have HPOS : Hid (en = true → 0 < s.size) := hpos
  rw [hcut]
  have HK0 : Hid (RdK s r0 [] ∧ r0.size ≤ s.size) := ⟨hK0, hr0⟩
  have HEN : Hid (∀ (D : Nat → Nd) (n : Nat), dagB D n = true → dagTR D n = s → en = true) := hen
  have HO0 : Hid (OwnD ((w.drewN nd).alloc (.cells #[] 50)) w.heap.size (.slice (some ⟨w.heap.size, 0, none⟩) 0 0) []) := ⟨World.ownsRow_made (w.drewN nd) #[] 0 (Nat.le_refl _) (by decide) rfl, fun d hd => by cases hd⟩
  have HB0 : Hid (Below w.heap.size w ((w.drewN nd).alloc (.cells #[] 50))) := (below_drewN (Below.refl _ _) nd).alloc (Nat.le_refl _) _
  clear hF hcut hr0 hK0 hen hpos
  go_wp2
  go_loopw [5, 7] (fun r v wr => ∃ (r' : ByteArray) (A : List Nd) (v' : Value), r = .string r' ∧ v' = v ∧ OwnD wr w.heap.size v' A ∧ Hid (RdK s r' A ∧ r'.size ≤ s.size ∧ A.length ≤ 31 ∧ FineL A) ∧ Below w.heap.size w wr) (fun r _ _ => strLen r)
  case atStart => exact ⟨r0, [], _, rfl, rfl, HO0.out, ⟨HK0.out.1, HK0.out.2, by simp, fun d hd => by cases hd⟩, HB0.out⟩
  case round =>
    clear HO0 HB0 HK0
    obtain ⟨r, A, v, rfl, rfl, hO, HR, hB⟩ := hrel
    have HO : Hid (OwnD wr w.heap.size v A) := hO
    have HB : Hid (Below w.heap.size w wr) := hB
    clear hO hB
    obtain ⟨a, c, rfl, hI, _⟩ := HO.out.nds
    have hlc := hI.1
    have hcm := hI.2.1
    have HFL : Hid (Fine (gN A) A.length) := HR.out.2.2.2.fine
    obtain ⟨t, ht⟩ : ∃ t, t = dagTR (gN A) A.length := ⟨_, rfl⟩
    have HTT : Hid (t = dagTR (gN A) A.length) := ht
    have HDT : Hid (Calls Tryz.prog 66 #[.slice a A.length c] wr fun e w' => e = .returned (.string t) ∧ Below wr.heap.size wr w') := by
      rw [ht]
      exact specDagText_any a A.length c (gN A) wr hI HFL.out
    obtain ⟨m, hm⟩ : ∃ m, m = A.length := ⟨_, rfl⟩
    have HMA : Hid (m = A.length) := hm
    rw [← hm] at hlc HDT HO ⊢
    clear hI ht hm
    by_cases hre : r.toList = []
    · have hr1 : (r.toList != []) = false := by rw [hre]; rfl
      have hr2 : (r.toList == []) = true := by rw [hre]; rfl
      have HFIN : Hid (∀ (D : Nat → Nd) (n : Nat), dagB D n = true → dagTR D n = s → dagTR (gN A) A.length = s) := fun D n hq hs => (rdk_all HR.out.1 hre hq hs).2.1
      clear hre
      cases en with
      | false =>
        go_wp2
        go_ret2
        have HX : OwnD wr w.heap.size (.slice none 0 0) [] ∧ RdA s false [] ∧ Below w.heap.size w wr := ⟨ownD_nil _ _, ⟨fun h => (by cases h), fun _ => ⟨rfl, fun _ D n hq hs => by have := HEN.out D n hq hs; cases this⟩⟩, HB.out⟩
        first
          | exact ⟨.slice none 0 0, [], false, rfl, HX.1, HX.2.1, HX.2.2⟩
          | exact ⟨.slice none 0 0, [], .inl ⟨rfl, HX.1, HX.2.1, HX.2.2⟩⟩
      | true =>
        cases hts : (t.toList == s.toList) with
        | false =>
          have hts2 : (t.toList != s.toList) = true := by simp [bne, hts]
          have HTS : Hid ((t.toList != s.toList) = true) := hts2
          go_wp2_with fail
          refine HDT.out.mono ?_
          rintro e w9 ⟨rfl, hB9⟩
          have HB9 : Hid (Below w.heap.size w w9) := HB.out.trans (hB9.mono HB.out.size)
          clear hB9
          go_wp2
          go_ret2
          exact ⟨.slice none 0 0, [], false, rfl, ownD_nil _ _, ⟨fun h => (by cases h), fun _ => ⟨rfl, fun _ D n hq hs => by
            have h1 := HFIN.out D n hq hs
            rw [← HTT.out] at h1
            have h2 := HTS.out
            rw [h1] at h2
            simp at h2⟩⟩, HB9.out⟩
        | true =>
          have hts2 : (t.toList != s.toList) = false := by simp [bne, hts]
          have HTS : Hid (t = s) := by
            have h1 : t.toList = s.toList := by simpa using hts
            rw [ByteArray.toList_eq, ByteArray.toList_eq] at h1
            apply ByteArray.ext
            apply Array.ext'
            exact h1
          go_wp2_with fail
          refine HDT.out.mono ?_
          rintro e w9 ⟨rfl, hB9⟩
          have HB9 : Hid (Below w.heap.size w w9) := HB.out.trans (hB9.mono HB.out.size)
          have HO9 : Hid (OwnD w9 w.heap.size (.slice a m c) A) := HO.out.below hB9
          clear hB9
          go_wp2
          go_ret2
          have h1 : dagTR (gN A) A.length = s := HTT.out.symm.trans HTS.out
          refine ⟨.slice a m c, A, true, rfl, HO9.out, ⟨fun _ => ⟨?_, h1, HS.out, HR.out.2.2.2⟩, fun h => by cases h⟩, HB9.out⟩
          cases hd : dagB (gN A) A.length with
          | true => rfl
          | false =>
            exfalso
            unfold dagTR at h1
            rw [hd, if_neg (by decide)] at h1
            have h2 := HPOS.out (by first | rfl | trivial)
            rw [← h1] at h2
            exact absurd h2 (by decide)
    · have hr1 : (r.toList != []) = true := by simpa using hre
      have hr2 : (r.toList == []) = false := by simpa using hre
      by_cases hm30 : m ≤ 30
      · have hmI : (m : Int) ≤ 30 := by omega
        have hrs : r.size ≤ 1048576 := by have h1 := HR.out.2.1; have h2 := HS.out; omega
        have HRE : Hid (¬ r.toList = []) := hre
        have HM30 : Hid (m ≤ 30) := hm30
        clear hre hm30
        go_wp2_with fail
        refine (l13End_any r wr hrs).mono ?_
        rintro e w2 ⟨hk, hw2⟩
        rw [hw2]
        clear hw2 w2
        rcases hk with ⟨k, rfl, h1, h2, h3, h4⟩ | ⟨rfl, h4⟩
        · have HKP : Hid (1 ≤ k ∧ k < r.size ∧ end2 r k = true ∧ ∀ i, 1 ≤ i → i < k → end2 r i = false) := ⟨h1, h2, h3, h4⟩
          have hkI : ¬ (k : Int) < 0 := by omega
          have hk2 : (k : Int) ≤ (r.size : Int) := by omega
          have hk3 : ((k + 1 : Nat) : Int) ≤ (r.size : Int) := by omega
          clear h3 h4
          go_wp2_with fail
          refine (specRead (r.extract 0 k) _ ?_).mono ?_
          · rw [ByteArray.size_extract]; omega
          rintro e w3 ⟨p, b, a3, c3, rfl, hrd, ho3, hB3⟩
          have HRD : Hid (Reads (r.extract 0 k) p b) := hrd
          have HB3 : Hid (Below w.heap.size w w3) := HB.out.trans (hB3.mono HB.out.size)
          obtain ⟨q5, hq5⟩ : ∃ q5, q5 = nodeQ p (.slice a3 p.ups.length c3) := ⟨_, rfl⟩
          rw [← hq5]
          obtain ⟨hi6, ho6, h16⟩ := nodeQ_ok p a3 c3 q5 hq5
          obtain ⟨w5, hw5⟩ : ∃ w5, w5 = (w3.alloc (.cells nzQ 50)).setRow w3.heap.size q5 := ⟨_, rfl⟩
          obtain ⟨hg5, hb5⟩ := box_at hw5
          have HG5 : Hid (w5.heap[w3.heap.size]? = some (.cells #[.int .i64 p.a, .int .i64 p.s, .int .i64 p.k, .string p.key, .string p.text, .slice a3 p.ups.length c3] 50 (0, 0))) := by show _ = _; rw [hg5, hq5]; rfl
          have HZ3 : Hid ((w3.alloc (.cells nzQ 50)).heap[w3.heap.size]? = some (.cells nzQ 50 (0, 0))) := heap_alloc_new w3 _
          have HW5 := (show Hid _ from hw5)
          have HB5 : Hid (Below w.heap.size w w5) := HB3.out.trans (hb5.mono HB3.out.size)
          have HO5 : Hid (OwnD w5 w.heap.size (.slice a m c) A) := (HO.out.below hB3).below hb5
          have HU5 : Hid (UpO w5 w.heap.size (ndR p a3 c3)) := ((ndR_up ho3).base HB.out.size).keep (fun j _ hj => by obtain ⟨cs, hj⟩ := hj; exact hb5.block _ (lt_of_block hj))
          have hi7 : (Tryz.prog.info? 50).map (·.size) = some (#[.int .i64 p.a, .int .i64 p.s, .int .i64 p.k, .string p.key, .string p.text, .slice a3 p.ups.length c3] : Array Value).size := by kernel_rfl
          clear hrd hB3 ho3 hq5 hw5 hg5 hb5
          cases b with
          | false =>
            have HX : OwnD w5 w.heap.size (.slice none 0 0) [] ∧ RdA s false [] ∧ Below w.heap.size w w5 := ⟨ownD_nil _ _, RdA.no fun _ => rdk_bad HR.out.1 HRE.out HKP.out.1 HKP.out.2.2.1 HKP.out.2.2.2 HRD.out, HB5.out⟩
            go_wp2_with (refine wpList_store_row rfl 50 _ _ rfl w3.heap.size q5 rfl rfl 50 _ HZ3.out hi6 ho6 h16 ?_; rw [← HW5.out])
            go_ret2
            first
              | exact ⟨.slice none 0 0, [], false, rfl, HX.1, HX.2.1, HX.2.2⟩
              | exact ⟨.slice none 0 0, [], .inl ⟨rfl, HX.1, HX.2.1, HX.2.2⟩⟩
          | true =>
            have HM : Hid (A.length ≤ 30) := by show _ ≤ _; rw [← HMA.out]; exact HM30.out
            go_wp2_with (first
              | (refine wpList_store_row rfl 50 _ _ rfl w3.heap.size q5 rfl rfl 50 _ HZ3.out hi6 ho6 h16 ?_
                 rw [← HW5.out])
              | (refine wpList_load_row rfl 50 _ rfl w3.heap.size rfl 50 #[.int .i64 p.a, .int .i64 p.s, .int .i64 p.k, .string p.key, .string p.text, .slice a3 p.ups.length c3] (0, 0) _ HG5.out Tryz.underlying50 rfl hi7 ?_)
              | (at_builtin
                 go_loud (refine wpList_appD rfl _ _ rfl w.heap.size (.slice a m c) A [ndR p a3 c3] (some ⟨w5.heap.size, 0, none⟩) 1 rfl rfl (HO5.out.below ((Below.refl _ _).alloc (Nat.le_refl _) _)) (fun _ => ⟨w5.heap.size, 0, rfl, news_lit rfl⟩) (fun d hd => by rw [List.mem_singleton.1 hd]; exact HU5.out.keep (fun j _ hj => by obtain ⟨cs, hj⟩ := hj; exact Below.heap_alloc _ _ _ (lt_of_block hj))) (fun h => by cases h) (by have := HM.out; simp; omega) (by have := HB5.out.size; simp; omega) ?_)
                 intro v6 w6 hO6 hG6))
            have HB6 : Hid (Below w.heap.size w w6) := (HB5.out.alloc HB5.out.size _).grown hG6 (by have := HB5.out.size; simp; omega) (fun x hx => (World.ownsRow.lt HO5.out.1 x hx).1)
            have HO6 : Hid (OwnD w6 w.heap.size v6 (A ++ [ndR p a3 c3])) := hO6
            have HR6 : Hid (RdK s (r.extract (k + 1) r.size) (A ++ [ndR p a3 c3]) ∧ (r.extract (k + 1) r.size).size ≤ s.size ∧ (A ++ [ndR p a3 c3]).length ≤ 31 ∧ FineL (A ++ [ndR p a3 c3])) :=
              ⟨rdk_next a3 c3 HR.out.1 HRE.out HKP.out.1 HKP.out.2.2.1 HKP.out.2.2.2 HRD.out, by
                have h5 := HR.out.2.1
                rw [ByteArray.size_extract]
                omega, by have h5 := HM.out; simp; omega, HR.out.2.2.2.add ⟨reads_fine HRD.out, ndR_neat _ _ _⟩⟩
            clear hO6 hG6
            go_wp2
            go_roundw
            case rel => exact ⟨_, _, _, rfl, rfl, HO6.out, HR6.out, HB6.out⟩
            case measure =>
              have h5 := HKP.out.2.1
              have h6 : (r.extract (k + 1) r.size).size < r.size := by rw [ByteArray.size_extract]; omega
              exact h6
        · have HX : OwnD wr w.heap.size (.slice none 0 0) [] ∧ RdA s false [] ∧ Below w.heap.size w wr := ⟨ownD_nil _ _, RdA.no fun _ => rdk_end HR.out.1 HRE.out h4, HB.out⟩
          clear h4
          go_wp2
          go_ret2
          first
            | exact ⟨.slice none 0 0, [], false, rfl, HX.1, HX.2.1, HX.2.2⟩
            | exact ⟨.slice none 0 0, [], .inl ⟨rfl, HX.1, HX.2.1, HX.2.2⟩⟩
      · have hmI : ¬ (m : Int) ≤ 30 := by omega
        have HFIN : Hid (∀ (D : Nat → Nd) (n : Nat), dagB D n = true → dagTR D n = s → dagTR (gN A) A.length = s) := fun D n hq hs => by
          obtain ⟨h1, h2, h3⟩ := HR.out.1 D n hq hs
          have h4 := (dagB_parts hq).1
          have h5 := HMA.out
          omega
        clear hre
        cases en with
        | false =>
          go_wp2
          go_ret2
          have HX : OwnD wr w.heap.size (.slice none 0 0) [] ∧ RdA s false [] ∧ Below w.heap.size w wr := ⟨ownD_nil _ _, ⟨fun h => (by cases h), fun _ => ⟨rfl, fun _ D n hq hs => by have := HEN.out D n hq hs; cases this⟩⟩, HB.out⟩
          first
            | exact ⟨.slice none 0 0, [], false, rfl, HX.1, HX.2.1, HX.2.2⟩
            | exact ⟨.slice none 0 0, [], .inl ⟨rfl, HX.1, HX.2.1, HX.2.2⟩⟩
        | true =>
          cases hts : (t.toList == s.toList) with
          | false =>
            have hts2 : (t.toList != s.toList) = true := by simp [bne, hts]
            have HTS : Hid ((t.toList != s.toList) = true) := hts2
            go_wp2_with fail
            refine HDT.out.mono ?_
            rintro e w9 ⟨rfl, hB9⟩
            have HB9 : Hid (Below w.heap.size w w9) := HB.out.trans (hB9.mono HB.out.size)
            clear hB9
            go_wp2
            go_ret2
            exact ⟨.slice none 0 0, [], false, rfl, ownD_nil _ _, ⟨fun h => (by cases h), fun _ => ⟨rfl, fun _ D n hq hs => by
              have h1 := HFIN.out D n hq hs
              rw [← HTT.out] at h1
              have h2 := HTS.out
              rw [h1] at h2
              simp at h2⟩⟩, HB9.out⟩
          | true =>
            have hts2 : (t.toList != s.toList) = false := by simp [bne, hts]
            have HTS : Hid (t = s) := by
              have h1 : t.toList = s.toList := by simpa using hts
              rw [ByteArray.toList_eq, ByteArray.toList_eq] at h1
              apply ByteArray.ext
              apply Array.ext'
              exact h1
            go_wp2_with fail
            refine HDT.out.mono ?_
            rintro e w9 ⟨rfl, hB9⟩
            have HB9 : Hid (Below w.heap.size w w9) := HB.out.trans (hB9.mono HB.out.size)
            have HO9 : Hid (OwnD w9 w.heap.size (.slice a m c) A) := HO.out.below hB9
            clear hB9
            go_wp2
            go_ret2
            have h1 : dagTR (gN A) A.length = s := HTT.out.symm.trans HTS.out
            refine ⟨.slice a m c, A, true, rfl, HO9.out, ⟨fun _ => ⟨?_, h1, HS.out, HR.out.2.2.2⟩, fun h => by cases h⟩, HB9.out⟩
            cases hd : dagB (gN A) A.length with
            | true => rfl
            | false =>
              exfalso
              unfold dagTR at h1
              rw [hd, if_neg (by decide)] at h1
              have h2 := HPOS.out (by first | rfl | trivial)
              rw [← h1] at h2
              exact absurd h2 (by decide)
end Go.Proofs.YtlibipbpaigmdaaGreatDoor

namespace Go.Proofs.YtlibipbpaigmdaaGreatDoor
open Go.RowKit
set_option linter.unusedVariables false

set_option maxHeartbeats 1000000 in
theorem implReadDag_any (s : ByteArray) (m : Int) (w : World) (hs : s.size ≤ 1048576) (hP : AllT w) (hm : w.cell? ⟨3, 0, none⟩ = some (.int .i64 m)) :
    Calls Tryz.prog 33 #[.string s] w fun e w' => ∃ v A b, e = .returned (.tuple #[v, .bool b]) ∧ OwnD w' w.heap.size v A ∧ ApU A ∧ RdA s b A ∧ Below w.heap.size w w' := by
  by_cases hbig : 30000 < s.size
  · have hbI : (30000 : Int) < (s.size : Int) := by omega
    have HX : Hid (OwnD w w.heap.size (.slice none 0 0) [] ∧ ApU [] ∧ RdA s false []) := ⟨ownD_nil _ _, apU_nil, RdA.no fun h => absurd h (by omega)⟩
    go_enter Tryz.func33, Tryz.ntmps33
    go_wp2
    go_ret2
    exact ⟨.slice none 0 0, [], false, rfl, HX.out.1, HX.out.2.1, HX.out.2.2, Below.refl _ _⟩
  · have hbI : ¬ (30000 : Int) < (s.size : Int) := by omega
    have HC : Hid (Calls Tryz.prog 102 #[.string s] w fun e w' => ∃ v A b, e = .returned (.tuple #[v, .bool b]) ∧ OwnD w' w.heap.size v A ∧ ApU A ∧ RdA s b A ∧ Below w.heap.size w w') := dagOfText_any s m w (by omega) hP hm
    go_enter Tryz.func33, Tryz.ntmps33
    go_wp2_with fail
    refine HC.out.mono ?_
    rintro e w1 ⟨v, A, b, rfl, h1, h2, h3, h4⟩
    have HX : Hid (OwnD w1 w.heap.size v A ∧ ApU A ∧ RdA s b A ∧ Below w.heap.size w w1) := ⟨h1, h2, h3, h4⟩
    clear h1 h2 h3 h4
    go_wp2
    go_ret2
    exact ⟨v, A, b, rfl, HX.out.1, HX.out.2.1, HX.out.2.2.1, HX.out.2.2.2⟩
theorem RdA.few {s : ByteArray} {b : Bool} {A : List Nd} (h : RdA s b A) : A.length ≤ 30 ∧ ∀ j, j < A.length → cN A j ≤ 5 := by
  cases b with
  | false =>
    obtain ⟨rfl, _⟩ := h.2 rfl
    exact ⟨by simp, fun j hj => absurd hj (Nat.not_lt_zero _)⟩
  | true =>
    obtain ⟨hq, _⟩ := h.1 rfl
    exact ⟨(dagB_parts hq).1, fun j hj => (node_right (ok_at hq hj)).2.2.2.2.2.1⟩

set_option maxHeartbeats 4000000 in
theorem lawRd_walk (s : ByteArray) (w : World) (m : Int) (hs : s.size ≤ 9223372036854775807) (hP : AllT w) (hm : w.cell? ⟨3, 0, none⟩ = some (.int .i64 m)) :
    Calls Tryz.prog 5 #[.string s] w fun e w' => e = .returned (.bool true) ∧ Below w.heap.size w w' := by
  by_cases hbig : 1048576 < s.size
  · have hbI : (1048576 : Int) < (s.size : Int) := by omega
    go_enter Tryz.func5, Tryz.ntmps5
    go_wp2
    go_ret
    exact ⟨rfl, Below.refl _ _⟩
  have hbI : ¬ (1048576 : Int) < (s.size : Int) := by omega
  have HI : Hid (∀ v, Below w.heap.size w v → Calls Tryz.prog 33 #[.string s] v fun e w' => ∃ x A b, e = .returned (.tuple #[x, .bool b]) ∧ OwnD w' v.heap.size x A ∧ ApU A ∧ RdA s b A ∧ Below v.heap.size v w') :=
    fun v hv => implReadDag_any s m v (by omega) (hP.below hv) ((hv.cell (cell_lt hm)).trans hm)
  have HS0 : Hid (Calls Tryz.prog 32 #[.string s] w fun e w' => ∃ (v : Value) (A : List Nd) (b : Bool), e = .returned (.tuple #[v, .bool b]) ∧ OwnD w' w.heap.size v A ∧ RdA s b A ∧ Below w.heap.size w w') := specReadDag_any s w (by omega)
  clear hP hm
  go_enter Tryz.func5, Tryz.ntmps5
  go_wp2_with fail
  refine HS0.out.mono ?_
  rintro e w1 ⟨v0, A0, b0, rfl, o0, r0, b1⟩
  have HR0 : Hid (RdA s b0 A0) := r0
  obtain ⟨a0, c0, rfl, i0, _⟩ := o0.nds
  clear o0 r0 HS0
  go_wp2_with fail
  refine (HI.out w1 b1).mono ?_
  rintro e w2 ⟨v2, A2, b2', rfl, o2, ap2, r2, hB2⟩
  obtain ⟨rfl, hl, hL⟩ := r2.unique HR0.out
  have b2 := b1.trans (hB2.mono b1.size)
  have HL : Hid (∀ i, i < A2.length → (gN A2 i).Like (gN A0 i)) := hL
  have HA : Hid (ApU A2 ∧ RdA s b0 A2) := ⟨ap2, r2⟩
  obtain ⟨a2, c2, rfl, i2, _⟩ := o2.nds
  rw [hl] at i0 ⊢
  obtain ⟨n, hn⟩ : ∃ n, n = A2.length := ⟨_, rfl⟩
  have HN : Hid (n = A2.length) := hn
  rw [← hn] at i0 i2 o2 HL ⊢
  have I0 := i0.below hB2
  have hbb : (b0 != b0) = false := by simp
  clear hl hL ap2 r2 hn
  go_wp2_with fail
  refine (eqNodeS_like _ _ n c2 c0 _ _ _ i2 I0 HL.out).mono ?_
  rintro e w3 ⟨rfl, hB3⟩
  have b3 := b2.trans (hB3.mono b2.size)
  have o3 := o2.below hB3
  have I3 := I0.below hB3
  have S12 : w1.heap.size ≤ w3.heap.size := Nat.le_trans hB2.size hB3.size
  have hfew := HA.out.2.few
  obtain ⟨K, hK⟩ : ∃ K, K = kAt (cN A2) n := ⟨_, rfl⟩
  have HKK : Hid (K = kAt (cN A2) n) := hK
  have hKb : 1 ≤ K ∧ K ≤ 1 + n * 10 := by rw [hK]; exact kAt_le (fun i hi => hfew.2 i (by rw [← HN.out]; exact hi))
  have hn30 : n ≤ 30 := by have := hfew.1; rw [← HN.out] at this; exact this
  have HM : Hid (Calls Tryz.prog 23 #[.slice a2 n c2, .int .i64 1] w3 fun e w' => e = .returned (.int .i64 (K : Nat)) ∧ (∃ D', IsNds w' a2 n c2 D' ∧ ∀ i, i < n → MkN D' (cN A2) i) ∧ Kept (fun b => b < w1.heap.size) w3 w') := by
    refine (markR_any A2 w1.heap.size _ w3 o3 HA.out.1 hfew.1 hfew.2).mono ?_
    rintro e w' ⟨rfl, ⟨a', c', D', e', hI', hM'⟩, hK'⟩
    rw [← HN.out] at e' hI' hM' ⊢
    simp only [Value.slice.injEq, true_and] at e'
    obtain ⟨rfl, rfl⟩ := e'
    exact ⟨by rw [HKK.out], ⟨D', hI', hM'⟩, hK'⟩
  have I1 := i0
  clear hK o2 o3 i2 I0 I3
  go_wp2_with fail
  refine HM.out.mono ?_
  rintro e w4 ⟨rfl, ⟨D4, i4, m4⟩, hK4⟩
  have b4 : Below w.heap.size w w4 := b3.trans ((hK4.mono (fun k hk => by have := b1.size; omega)).below b3.size)
  have B14 : Below w1.heap.size w1 w4 := (hB2.trans (hB3.mono hB2.size)).trans (hK4.below S12)
  have HH : Hid (∀ w', Below w4.heap.size w4 w' → Calls Tryz.prog 31 #[.slice a2 n c2, .int .i64 1] w' fun e w'' => e = .returned (.int .i64 (K : Nat)) ∧ Below w'.heap.size w' w'') := fun w' hB => by
    rw [HKK.out]
    exact heldNodeS_any a2 n c2 D4 (cN A2) w' (i4.below hB) m4 (by omega) (fun i hi => Nat.le_trans (hfew.2 i (by rw [← HN.out]; exact hi)) (by decide))
  have hq1 : decide (((K : Nat) : Int) < 0) = false := decide_eq_false (by omega)
  have hq1I : ¬ ((K : Nat) : Int) < 0 := by omega
  have hq2 : ((((K : Nat) : Int)) != ((K : Nat) : Int)) = false := by simp
  clear hK4 i4 m4 HM hfew
  go_wp2_with fail
  refine (HH.out w4 (Below.refl _ _)).mono ?_
  rintro e w5 ⟨rfl, hB5⟩
  have b5 := b4.trans (hB5.mono b4.size)
  have B15 := B14.trans (hB5.mono B14.size)
  go_wp2_with fail
  refine (HI.out w5 b5).mono ?_
  rintro e w6 ⟨v6, A6, b6', rfl, o6, _, r6, hB6⟩
  obtain ⟨rfl, hl, hL⟩ := r6.unique HR0.out
  have b6 := b5.trans (hB6.mono b5.size)
  have B16 := B15.trans (hB6.mono B15.size)
  have H46 := hB5.trans (hB6.mono hB5.size)
  obtain ⟨rfl', hl2, _⟩ := HA.out.2.unique HR0.out
  have hl6 : A6.length = n := by rw [HN.out, ← hl2, hl]
  obtain ⟨a6, c6, rfl, i6, _⟩ := o6.nds
  rw [hl6] at i6 hL ⊢
  have HL6 : Hid (∀ i, i < n → (gN A6 i).Like (gN A0 i)) := hL
  have I6 := I1.below B16
  clear hl hL hl2 hl6 r6 o6 rfl'
  go_wp2_with fail
  refine (eqNodeS_like _ _ n c6 c0 _ _ _ i6 I6 HL6.out).mono ?_
  rintro e w7 ⟨rfl, hB7⟩
  have b7 := b6.trans (hB7.mono b6.size)
  have H47 := H46.trans (hB7.mono H46.size)
  clear i6 I6
  go_wp2_with fail
  refine (HH.out w7 H47).mono ?_
  rintro e w8 ⟨rfl, hB8⟩
  have b8 := b7.trans (hB8.mono b7.size)
  go_wp2
  go_ret
  exact ⟨rfl, b8⟩
end Go.Proofs.YtlibipbpaigmdaaGreatDoor
