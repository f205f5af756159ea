/-
  What opens a box that comes in; what the laid variables errNoBox and errorType give; a world where they lie. No condition.
-/
import Derived.Test.YtcolcnkjcagbaaaDoorBxV
import Derived.Test.YtcolcnkjcagbaaaDoorOqEpsB
import Derived.Test.YtcolcnkjcagbaaaDoorCards
import Derived.Test.YtcolcnkjcagbaaaDoorTie
import Derived.ProofKit
import Derived.OpenShut
import Derived.Deep.DeepHandedRow
import Derived.Lay
import Derived.ShutString
import Derived.ChangeOld
import Derived.Stop.LaidErr
import Derived.LaidHandle
import Derived.LaidSub
import Derived.MakeChecks
namespace Go.Proofs.YtcolcnkjcagbaaaDoor
open Go.ChangeShapes Go.WideShapes Go.ChangeAt Go.RowKit Go.Deep
set_option linter.unusedVariables false

theorem cells9B : Tryd.prog.cellsOf 9 = 1 := by kernel_rfl
theorem cells2B : Tryd.prog.cellsOf 2 = 1 := by kernel_rfl
theorem cellsBoxL : Tryd.prog.cellsOf 23 = 2 := by kernel_rfl
theorem cellsErr : Tryd.prog.cellsOf 173 = 1 := by kernel_rfl
theorem gE : Tryd.prog.globalNamed "loop.example/g00318/impl.errNoBox" = some 0 := by kernel_rfl
theorem gEType : (Tryd.prog.globals[0]?).map (·.type) = some 48 := by kernel_rfl
theorem bStar : "*" ++ "errors.errorString" = "*errors.errorString" := by decide
theorem bRowE (u : TypeId) (h : Tryd.prog.typeName? 3 u = some "*errors.errorString") : u = 133 :=
  typeName_ptr_named (nm := "errors.errorString") (by rw [bStar]; kernel_rfl) (by kernel_rfl) (by decide) u (by rw [bStar]; exact h)
theorem two_of {α : Type} {l : List α} (h : l.length = 2) : ∃ a b, l = [a, b] := by
  match l, h with
  | [a, b], _ => exact ⟨a, b, rfl⟩
theorem open_box {H : Type} {enc : TypeId × Value → H} {W : World} {n : Nat} {cs : Array Value} {x : DataW H × List MemPlace} (h : DataW.trod enc Tryd.prog W 0 (fun _ => true) true n 23 cs.toList = some x) :
    ∃ key s, cs = #[.int .i64 key, .string s] ∧ -9223372036854775808 ≤ key ∧ key ≤ 9223372036854775807 ∧ s.size ≤ 9223372036854775807 := by
  obtain ⟨xs, m, _, _, hl, hxl, hf⟩ := DataW.trod_struct Tryd.underlying23 h
  rw [cellsBoxL] at hl
  obtain ⟨u0, u1, hcs⟩ := two_of hl
  obtain ⟨y0, y1, rfl⟩ := two_of (show xs.length = 2 from hxl)
  have g0 := hf 0 _ rfl
  have g1 := hf 1 _ rfl
  rw [hcs] at g0 g1
  simp [cells2B, cells9B] at g0 g1
  obtain ⟨z0, q0, _, w0⟩ := DataW.trod_int Tryd.underlying2 g0
  obtain ⟨s1, q1, _, l1⟩ := DataW.trod_string Tryd.underlying9 g1
  simp at q0 q1
  subst q0 q1
  have hr : -9223372036854775808 ≤ z0 ∧ z0 ≤ 9223372036854775807 := by
    simp [Lit.wf] at w0
    exact ⟨w0.1, w0.2⟩
  exact ⟨z0, s1, Array.ext' (by rw [hcs]), hr.1, hr.2, by unfold maxLen at l1; omega⟩
theorem errVar_below {W W' : World} {x : Value} (h : W.var? Tryd.prog "loop.example/g00318/impl.errNoBox" = some #[x]) (h0 : 0 < W.heap.size) (hB : Go.RowKit.Below W.heap.size W W') : W'.var? Tryd.prog "loop.example/g00318/impl.errNoBox" = some #[x] := by
  unfold World.var? at h ⊢
  rw [gE] at h ⊢
  simp only [Option.bind_some] at h ⊢
  rw [hB.block 0 h0]
  exact h


theorem gET : Tryd.prog.globalNamed "errors.errorType" = some 1 := by kernel_rfl
theorem etRt : (Tryd.prog.cutTypes.find? (·.1 == "internal/reflectlite.rtype")).map (·.2) = some 115 := by kernel_rfl
theorem etRow : ((List.range 186).filter fun t => Tryd.prog.rowNamed t [101, 114, 114, 111, 114]) = [48] := by kernel_rfl
theorem etSize : Tryd.prog.types.size = 186 := by kernel_rfl
theorem errorType_of {W : World} (h : laidMetH Tryd.prog [("errors.errorType", Rows.laid_errors_errorType)] W) : W.cell? ⟨1, 0, none⟩ = some (.iface 115 (.agg #[.pointer (some ⟨6, 48, none⟩)])) := by
  have h' : laidMet Tryd.prog [] W ∧ handlesMet Tryd.prog [("errors.errorType", Rows.laid_errors_errorType)] W := h
  obtain ⟨name, u, ty, e1, e2, e3, e4, e5⟩ := h'.2 _ (List.mem_singleton.2 rfl)
  have en : name = [101, 114, 114, 111, 114] := (Option.some.inj e1).symm
  subst en
  obtain rfl := Option.some.inj (etRt.symm.trans e2)
  have hm : ty ∈ (List.range 186).filter fun t => Tryd.prog.rowNamed t [101, 114, 114, 111, 114] := List.mem_filter.2 ⟨List.mem_range.2 (by rw [← etSize]; exact e3), e4⟩
  rw [etRow] at hm
  obtain rfl := List.mem_singleton.1 hm
  have hh : typeHandle Tryd.prog 48 = .pointer (some ⟨6, 48, none⟩) := by kernel_rfl
  rw [hh] at e5
  simpa using World.var?_cell gET e5 0
theorem errNoBox_of {W : World} (h : laidMetH Tryd.prog [("loop.example/g00318/impl.errNoBox", Rows.laid_loop_example_g00318_impl_errNoBox)] W) : ∃ (a : Addr), W.var? Tryd.prog "loop.example/g00318/impl.errNoBox" = some #[.iface 133 (.pointer (some a))] := by
  rw [MakeChecks.laidMetH_plain _ _ _ rfl] at h
  obtain ⟨a, _, h1, _⟩ := laid_sentinel h gE gEType Tryd.underlying48 bRowE Tryd.underlying133 Tryd.underlying173 rfl rfl Tryd.underlying9 cellsErr cells9B
  exact ⟨a, h1⟩

/-- the variables that are plain data -/
def laidP : List (String × DataW Unit) := [("loop.example/g00318/impl.errNoBox", Rows.laid_loop_example_g00318_impl_errNoBox)]
def laidF : List (String × DataW Unit) := [("errors.errorType", Rows.laid_errors_errorType), ("loop.example/g00318/impl.errNoBox", Rows.laid_loop_example_g00318_impl_errNoBox)]
theorem laidW_os (os : Os) : ((({ World.holding Tryd.prog os ⟨#[], #[], []⟩ with heap := (World.holding Tryd.prog os ⟨#[], #[], []⟩).heap.modify 1 fun | .cells _ t frozen => .cells #[.iface 115 (.agg #[.pointer (some ⟨6, 48, none⟩)])] t frozen | o => o } : World)).layVars Tryd.prog laidP).os = os := World.layVars_os _ _ _
theorem laid_plain (os : Os) (args : Array Value) : laidMet Tryd.prog laidP (((({ World.holding Tryd.prog os ⟨#[], #[], []⟩ with heap := (World.holding Tryd.prog os ⟨#[], #[], []⟩).heap.modify 1 fun | .cells _ t frozen => .cells #[.iface 115 (.agg #[.pointer (some ⟨6, 48, none⟩)])] t frozen | o => o } : World)).layVars Tryd.prog laidP).forCall (fun _ _ => 0) ⟨#[], args, []⟩).memory := by
  have e1 : (laidP.filter fun x => (laidP.map (·.1)).contains x.1) = laidP := List.filter_eq_self.2 fun x hx => List.contains_iff_mem.2 (List.mem_map.2 ⟨x, hx, rfl⟩)
  have e2 : (laidP.filter fun x => !(laidP.map (·.1)).contains x.1) = [] := List.filter_eq_nil_iff.2 fun x hx => by rw [List.contains_iff_mem.2 (List.mem_map.2 ⟨x, hx, rfl⟩)]; simp
  have h : laidMet Tryd.prog laidP ((({ World.holding Tryd.prog os ⟨#[], #[], []⟩ with heap := (World.holding Tryd.prog os ⟨#[], #[], []⟩).heap.modify 1 fun | .cells _ t frozen => .cells #[.iface 115 (.agg #[.pointer (some ⟨6, 48, none⟩)])] t frozen | o => o } : World)).layVars Tryd.prog laidP) := laidMet_layVars (w0 := ({ World.holding Tryd.prog os ⟨#[], #[], []⟩ with heap := (World.holding Tryd.prog os ⟨#[], #[], []⟩).heap.modify 1 fun | .cells _ t frozen => .cells #[.iface 115 (.agg #[.pointer (some ⟨6, 48, none⟩)])] t frozen | o => o } : World)) (laidP.map (·.1)) [] (by rw [e1]) (by rw [e1]; kernel_rfl) (by rw [e1]; kernel_rfl) (by rw [e2]; exact LaidIn.none)
  exact h.of_heap (by simp [World.memory, World.forCall, Input.heap])
theorem laid_full (os : Os) (args : Array Value) (hh : (laidF.filter fun x => x.2.handleName?.isSome).all (handleAtB Tryd.prog (((({ World.holding Tryd.prog os ⟨#[], #[], []⟩ with heap := (World.holding Tryd.prog os ⟨#[], #[], []⟩).heap.modify 1 fun | .cells _ t frozen => .cells #[.iface 115 (.agg #[.pointer (some ⟨6, 48, none⟩)])] t frozen | o => o } : World)).layVars Tryd.prog laidP).forCall (fun _ _ => 0) ⟨#[], args, []⟩).memory) = true) : laidMetH Tryd.prog laidF (((({ World.holding Tryd.prog os ⟨#[], #[], []⟩ with heap := (World.holding Tryd.prog os ⟨#[], #[], []⟩).heap.modify 1 fun | .cells _ t frozen => .cells #[.iface 115 (.agg #[.pointer (some ⟨6, 48, none⟩)])] t frozen | o => o } : World)).layVars Tryd.prog laidP).forCall (fun _ _ => 0) ⟨#[], args, []⟩).memory :=
  laidMetH_of_parts (show laidMet Tryd.prog (laidF.filter fun x => x.2.handleName?.isNone) _ from (show (laidF.filter fun x => x.2.handleName?.isNone) = laidP by kernel_rfl) ▸ laid_plain os args) hh
end Go.Proofs.YtcolcnkjcagbaaaDoor
