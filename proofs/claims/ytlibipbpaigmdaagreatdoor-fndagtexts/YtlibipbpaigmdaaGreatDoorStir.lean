/-
  stirred makes the rounds of one block.
-/
import Derived.Test.YtlibipbpaigmdaaGreatDoorIx
namespace Go.Proofs.YtlibipbpaigmdaaGreatDoor
open Go.RowKit
set_option linter.unusedVariables false

/-- the program's table 'roundWords' (block 1) -/
def Words (K : Nat → Int) (w : World) : Prop := ∀ k, k < 64 → w.cell? ⟨1, k, none⟩ = some (.int .u32 (K k))

theorem info173 : (Tryz.prog.info? 173).map (·.size) = some 8 := by kernel_rfl

def st8 (a b c d e f g h : Int) : Array Value := #[.int .u32 a, .int .u32 b, .int .u32 c, .int .u32 d, .int .u32 e, .int .u32 f, .int .u32 g, .int .u32 h]

structure S8 where
  a : Int
  b : Int
  c : Int
  d : Int
  e : Int
  f : Int
  g : Int
  h : Int

def an (a b : Int) : Int := bits BinOp.and IntKind.u32 a b
def nt (a : Int) : Int := bits BinOp.xor IntKind.u32 (if IntKind.u32.signed = true then -1 else IntKind.u32.max) a
def low (kk ww : Int) (s : S8) : Int := (s.h + xo (xo (tn 6 s.e) (tn 11 s.e)) (tn 25 s.e) + xo (an s.e s.f) (an (nt s.e) s.g) + kk + ww) % 4294967296
def upp (s : S8) : Int := (xo (xo (tn 2 s.a) (tn 13 s.a)) (tn 22 s.a) + xo (xo (an s.a s.b) (an s.a s.c)) (an s.b s.c)) % 4294967296
def rnd (kk ww : Int) (s : S8) : S8 := ⟨(low kk ww s + upp s) % 4294967296, s.a, s.b, s.c, (s.d + low kk ww s) % 4294967296, s.e, s.f, s.g⟩
def plus (s t : S8) : S8 := ⟨(s.a + t.a) % 4294967296, (s.b + t.b) % 4294967296, (s.c + t.c) % 4294967296, (s.d + t.d) % 4294967296, (s.e + t.e) % 4294967296, (s.f + t.f) % 4294967296, (s.g + t.g) % 4294967296, (s.h + t.h) % 4294967296⟩
def S8.cells (s : S8) : Array Value := st8 s.a s.b s.c s.d s.e s.f s.g s.h
/-- k rounds -/
def rds (K W : Nat → Int) (s : S8) : Nat → S8
  | 0 => s
  | k + 1 => rnd (K k) (W k) (rds K W s k)

/-- the state behind a block whose bytes are B -/
def stir (K : Nat → Int) (s : S8) (B : Nat → Int) : S8 := plus s (rds K (sch B) s 64)

set_option maxRecDepth 10000 in
set_option maxHeartbeats 3200000 in
theorem stirred_any (s0 : S8) (s : ByteArray) (hs : s.size = 64) (K : Nat → Int) (w : World) (hK : Words K w) :
    Calls Tryz.prog 208 #[.agg s0.cells, .string s] w fun e w' => e = .returned (.agg (stir K s0 (bt s)).cells) ∧ Below w.heap.size w w' := by
  obtain ⟨a, b, c, d, e, f, g, h⟩ := s0
  unfold S8.cells st8
  have hi : (Tryz.prog.info? 228).map (·.size) = some (wc (sch (bt s)) 64).size := by rw [wc_size]; exact info228
  have h1 := wc_one (sch (bt s)) 64
  have hcs := wc_size (sch (bt s)) 64
  have hix : ∀ k : Nat, k < 64 → ∀ w, (Instr.index 228 (.agg (wc (sch (bt s)) 64)) (.int .i64 k)).run Tryz.prog w = .ok (.int .u32 (sch (bt s) k)) w := fun k hk w => index_agg hk (wc_at _ hk hk) w
  have HW := fun w => wordsOf_any s hs w
  generalize wc (sch (bt s)) 64 = cw at hi h1 hcs hix HW
  go_enter Tryz.func208, Tryz.ntmps208
  go_wp2_with (first
    | (go_at_call 239; refine (HW _).mono ?_; rintro e w1 ⟨rfl, hB1⟩)
    | (refine wpList_store_row rfl 228 _ _ rfl w1.heap.size cw rfl rfl 228 _ (heap_alloc_new w1 _) hi (by rw [hcs]; rfl) h1 ?_; rw [World.setRow_alloc_new]))
  obtain ⟨wv, hwv⟩ : ∃ v, v = w1.alloc (.cells cw 228) := ⟨_, rfl⟩
  rw [← hwv]
  have hB0 : Below w.heap.size w wv := by
    rw [hwv]
    exact ((((Below.refl _ _).alloc (Nat.le_refl _) _).alloc (by simp) _).trans (hB1.mono (by simp; omega))).alloc (by have := hB1.size; simp at this; omega) _
  have hA0 : wv.heap[w.heap.size]? = some (.cells #[.int .u32 a, .int .u32 b, .int .u32 c, .int .u32 d, .int .u32 e, .int .u32 f, .int .u32 g, .int .u32 h] 173 (0, 0)) := by
    have h2 := two_new w (.cells #[.int .u32 a, .int .u32 b, .int .u32 c, .int .u32 d, .int .u32 e, .int .u32 f, .int .u32 g, .int .u32 h] 173) (.cells #[.int .u32 0, .int .u32 0, .int .u32 0, .int .u32 0, .int .u32 0, .int .u32 0, .int .u32 0, .int .u32 0] 173)
    have h3 := (hB1.block w.heap.size (by simp; omega)).trans h2.1
    rw [hwv, Below.heap_alloc _ _ _ (lt_of_block h3)]
    exact h3
  have hA1 : wv.heap[w.heap.size + 1]? = some (.cells #[.int .u32 0, .int .u32 0, .int .u32 0, .int .u32 0, .int .u32 0, .int .u32 0, .int .u32 0, .int .u32 0] 173 (0, 0)) := by
    have h2 := two_new w (.cells #[.int .u32 a, .int .u32 b, .int .u32 c, .int .u32 d, .int .u32 e, .int .u32 f, .int .u32 g, .int .u32 h] 173) (.cells #[.int .u32 0, .int .u32 0, .int .u32 0, .int .u32 0, .int .u32 0, .int .u32 0, .int .u32 0, .int .u32 0] 173)
    have h3 := (hB1.block (w.heap.size + 1) (by simp)).trans h2.2
    rw [hwv, Below.heap_alloc _ _ _ (lt_of_block h3)]
    exact h3
  have hA2 : wv.heap[w1.heap.size]? = some (.cells cw 228 (0, 0)) := by
    rw [hwv]
    exact heap_alloc_new w1 _
  have hKv : ∀ k, k < 64 → wv.cell? ⟨1, k, none⟩ = some (.int .u32 (K k)) := fun k hk => (hB0.cell (p := ⟨1, k, none⟩) (cell_lt (hK k hk))).trans (hK k hk)
  have c0 : wv.cell? ⟨w.heap.size, 0, none⟩ = some (.int .u32 a) := (cell_of hA0)
  have c1 : wv.cell? ⟨w.heap.size, 1, none⟩ = some (.int .u32 b) := (cell_of hA0)
  have c2 : wv.cell? ⟨w.heap.size, 2, none⟩ = some (.int .u32 c) := (cell_of hA0)
  have c3 : wv.cell? ⟨w.heap.size, 3, none⟩ = some (.int .u32 d) := (cell_of hA0)
  have c4 : wv.cell? ⟨w.heap.size, 4, none⟩ = some (.int .u32 e) := (cell_of hA0)
  have c5 : wv.cell? ⟨w.heap.size, 5, none⟩ = some (.int .u32 f) := (cell_of hA0)
  have c6 : wv.cell? ⟨w.heap.size, 6, none⟩ = some (.int .u32 g) := (cell_of hA0)
  have c7 : wv.cell? ⟨w.heap.size, 7, none⟩ = some (.int .u32 h) := (cell_of hA0)
  generalize w1.heap.size = B at hA2
  have HB0 : Hid (Below w.heap.size w wv) := hB0
  have HA1 : Hid (_) := hA1
  have HA0 : Hid (_) := hA0
  clear hB1 hwv hK hB0 hA1 hA0 HW
  go_quiet (fail)
  go_wp2
  go_quiet (fail)
  go_wp2_with (refine wpList_load_row rfl 228 _ rfl B rfl 228 _ _ _ hA2 Tryz.underlying228 rfl hi ?_)
  go_loopw [6, 7, 8, 9, 10, 11, 12, 13, 37] (fun x6 x7 x8 x9 x10 x11 x12 x13 i wr => ∃ (k m : Nat) (t : S8), k ≤ 64 ∧ i = .int .i64 k ∧ Hid (t = rds K (sch (bt s)) ⟨a, b, c, d, e, f, g, h⟩ k) ∧ wr = wv.drewN m ∧ x6 = .int .u32 t.a ∧ x7 = .int .u32 t.b ∧ x8 = .int .u32 t.c ∧ x9 = .int .u32 t.d ∧ x10 = .int .u32 t.e ∧ x11 = .int .u32 t.f ∧ x12 = .int .u32 t.g ∧ x13 = .int .u32 t.h)
    (fun _ _ _ _ _ _ _ _ i _ => 64 - (intOf i).toNat)
  case atStart => exact ⟨0, _, ⟨a, b, c, d, e, f, g, h⟩, by omega, rfl, (by show _ = _; rfl), rfl, rfl, rfl, rfl, rfl, rfl, rfl, rfl, rfl⟩
  case round =>
    obtain ⟨k, m, ⟨ta, tb, tc, td, te, tf, tg, th⟩, hk, rfl, ht, rfl, rfl, rfl, rfl, rfl, rfl, rfl, rfl, rfl⟩ := hrel
    by_cases hlt : k < 64
    · have hltI : (k : Int) < 64 := by omega
      have hx := hix k hlt
      have hkc := hKv k hlt
      clear hix hKv
      have HR : Hid (rds K (sch (bt s)) ⟨a, b, c, d, e, f, g, h⟩ (k + 1) = rnd (K k) (sch (bt s) k) (rds K (sch (bt s)) ⟨a, b, c, d, e, f, g, h⟩ k)) := rfl
      rw [← ht.out] at HR
      generalize sch (bt s) k = W at hx HR
      generalize K k = kk at hkc HR
      go_wp2
      go_quiet ((go_at_call 240; refine (mixed_all _ _ _ _ (by unfold Place; omega) (by unfold Place; omega) (by unfold Place; omega) _).mono ?_; rintro e w1 ⟨rfl, rfl⟩; exact ⟨rfl, _, rfl⟩))
      go_wp2_with (go_at_call 240; refine (mixed_all _ _ _ _ (by unfold Place; omega) (by unfold Place; omega) (by unfold Place; omega) _).mono ?_; rintro e w1 ⟨rfl, rfl⟩)
      refine ⟨⟨k + 1, m + nq, rnd kk W ⟨ta, tb, tc, td, te, tf, tg, th⟩, by omega, by go_num, HR.out.symm, rfl, ?_, rfl, rfl, rfl, ?_, rfl, rfl, rfl⟩, by simp [intOf]; omega⟩
      · refine congrArg (Value.int .u32) ?_
        simp only [rnd, low, upp, xo, an, nt]
        omega
      · refine congrArg (Value.int .u32) ?_
        simp only [rnd, low, upp, xo, an, nt]
    · have hk64 : k = 64 := by omega
      subst hk64
      have HF : Hid ((stir K ⟨a, b, c, d, e, f, g, h⟩ (bt s)) = plus ⟨a, b, c, d, e, f, g, h⟩ ⟨ta, tb, tc, td, te, tf, tg, th⟩) := by
        show _ = _
        unfold stir
        rw [← ht.out]
      have HM : (wv.drewN m).heap[w.heap.size + 1]? = some (.cells #[.int .u32 0, .int .u32 0, .int .u32 0, .int .u32 0, .int .u32 0, .int .u32 0, .int .u32 0, .int .u32 0] 173 (0, 0)) := HA1.out
      clear hix hKv
      obtain ⟨q, hq⟩ : ∃ q, q = #[Value.int .u32 ((a + ta) % 4294967296), .int .u32 ((b + tb) % 4294967296), .int .u32 ((c + tc) % 4294967296), .int .u32 ((d + td) % 4294967296), .int .u32 ((e + te) % 4294967296), .int .u32 ((f + tf) % 4294967296), .int .u32 ((g + tg) % 4294967296), .int .u32 ((h + th) % 4294967296)] := ⟨_, rfl⟩
      have hi8 : (Tryz.prog.info? 173).map (·.size) = some q.size := by rw [hq]; exact info173
      have ho8 : (#[.int .u32 0, .int .u32 0, .int .u32 0, .int .u32 0, .int .u32 0, .int .u32 0, .int .u32 0, .int .u32 0] : Array Value).size = q.size := by rw [hq]; rfl
      have h18 : q.all (·.oneCell') = true := by rw [hq]; simp [Value.oneCell']
      have HQ : Hid (q = (plus ⟨a, b, c, d, e, f, g, h⟩ ⟨ta, tb, tc, td, te, tf, tg, th⟩).cells) := hq
      go_wp2_with (refine wpList_store_row rfl 173 _ _ rfl (w.heap.size + 1) q rfl (congrArg Value.agg hq.symm) 173 _ HM hi8 ho8 h18 ?_)
      refine bodyPost_ret (v := .agg q) (results_cell_row rfl _ _ (w.heap.size + 1) 173 _ _ _ rfl (setRow_heap _ _ _ _ _ _ HM) Tryz.underlying173 rfl hi8) rfl ⟨ret_val (by rw [HQ.out, HF.out]; rfl), ?_⟩
      exact below_setRow (below_drewN HB0.out m) (by omega) _
end Go.Proofs.YtlibipbpaigmdaaGreatDoor
