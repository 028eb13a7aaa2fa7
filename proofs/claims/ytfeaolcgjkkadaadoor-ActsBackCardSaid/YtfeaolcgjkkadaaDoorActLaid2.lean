/- What the rows list of the library's variables gives the walks. -/
import Derived.Test.YtfeaolcgjkkadaaDoorActLaid
namespace Go.Proofs.YtfeaolcgjkkadaaDoor
set_option maxRecDepth 100000
open Go.ChangeShapes Go.WideShapes Go.ChangeAt Go.RowKit

theorem errStar : "*" ++ "errors.errorString" = "*errors.errorString" := by decide
set_option maxRecDepth 100000 in
theorem errRow (u : TypeId) (h : Tryd.prog.typeName? 3 u = some "*errors.errorString") : u = 109 :=
  typeName_ptr_named (nm := "errors.errorString") (by rw [errStar]; kernel_rfl) (by kernel_rfl) (by decide) u (by rw [errStar]; exact h)
theorem tabs_of_laid {W : World} (hL : laidMetH Tryd.prog Rows.actsBackRow.laid W) (hS : W.ShapedOpen Tryd.prog) : Tabs W := by
  rw [Go.MakeChecks.laidMetH_plain _ _ _ (by kernel_rfl)] at hL
  obtain ⟨a0, s0, hv0, -, -, -⟩ := laid_sentinel hL.tail.tail.tail (g := 2) (by kernel_rfl) (by kernel_rfl) Tryd.underlying76 errRow Tryd.underlying109 Tryd.underlying111 rfl rfl Tryd.underlying9 (by kernel_rfl) (by kernel_rfl)
  obtain ⟨a1, s1, hv1, -, -, -⟩ := laid_sentinel hL.tail.tail.tail.tail (g := 1) (by kernel_rfl) (by kernel_rfl) Tryd.underlying76 errRow Tryd.underlying109 Tryd.underlying111 rfl rfl Tryd.underlying9 (by kernel_rfl) (by kernel_rfl)
  obtain ⟨m, hm⟩ := Go.Proofs.cell_of_shapedOpen_int (P := Tryd.prog) (g := 0) (zero := #[.int .i64 0]) (t := 3) hS (of_decide_eq_true (by kernel_rfl)) (by kernel_rfl) rfl (by kernel_rfl) (by kernel_rfl) Tryd.underlying3
  have h0 := World.var?_cell (P := Tryd.prog) (g := 2) (by kernel_rfl) hv0 0
  have h1 := World.var?_cell (P := Tryd.prog) (g := 1) (by kernel_rfl) hv1 0
  exact ⟨Lib.tabIs_of_head (g := 3) (by kernel_rfl) (by kernel_rfl) Tryd.underlying114 Tryd.underlying86 (by kernel_rfl) (by kernel_rfl) hL.tail.tail, ⟨m, hm⟩, ⟨_, _, by simpa using h1⟩, ⟨_, _, by simpa using h0⟩⟩
end Go.Proofs.YtfeaolcgjkkadaaDoor
