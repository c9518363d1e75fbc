/-
  What the listed variables of the sign laws' rows give.
-/
import Derived.Test.YthoonpjgecempaaDoorSText
import Derived.Test.YthoonpjgecempaaDoorRows
import Derived.ProofKit
import Derived.Lib.LaidTab
import Derived.Lay
import Derived.Stop.LaidErr
import Derived.Shelf.Vars
import Derived.Carry
namespace Go.Proofs.YthoonpjgecempaaDoor.S5
open Go.RowKit SH G4
theorem cells32 : Tryd.prog.cellsOf 67 = 1 := by kernel_rfl
theorem cells64 : Tryd.prog.cellsOf 69 = 1 := by kernel_rfl
theorem star : "*" ++ "errors.errorString" = "*errors.errorString" := by decide
/-- the one type of that name -/
theorem rowES (u : TypeId) (h : Tryd.prog.typeName? 3 u = some "*errors.errorString") : u = 98 :=
  typeName_ptr_named (nm := "errors.errorString") (by rw [star]; kernel_rfl) (by kernel_rfl) (by decide) u (by rw [star]; exact h)
def zs8 : List Int := square.l.map fun (n : Nat) => (n : Int)
def zs64 : List Int := cube.map fun (n : Nat) => (n : Int)
theorem data10 : (Rows.laid_internal_strconv_uint64pow10 : DataW Unit) = Lib.tabData .u64 Lib.pow10Tab := by kernel_rfl
theorem data8 : (Rows.laid_sortes_digest_squareRoots : DataW Unit) = Lib.tabData .u32 zs8 := by kernel_rfl
theorem data64 : (Rows.laid_sortes_digest_cubeRoots : DataW Unit) = Lib.tabData .u32 zs64 := by kernel_rfl
theorem sq_of {W : World} {r : List (String × DataW Unit)} (h1 : laidMet Tryd.prog (("sortes/digest.squareRoots", Rows.laid_sortes_digest_squareRoots) :: r) W) : SQ W := by
  rw [data8] at h1
  have hT := Lib.tabIs_of_head (P := Tryd.prog) (W := W) (name := "sortes/digest.squareRoots") (k := .u32) (zs := zs8) (g := 4) (t := 101) (e := 67) (n := 8) (by kernel_rfl) (by kernel_rfl) Tryd.underlying101 Tryd.underlying67 cells32 (by kernel_rfl) h1
  unfold Lib.TabIs World.var? at hT
  rw [show Tryd.prog.globalNamed "sortes/digest.squareRoots" = some 4 by kernel_rfl] at hT
  simp only [Option.bind_some] at hT
  split at hT
  · rename_i cs t fr hh
    refine ⟨t, fr, ?_⟩
    rw [hh]
    have : cs = cw square.l := by rw [Option.some.inj hT]; rfl
    rw [this]
  · cases hT
theorem cb_of {W : World} {r : List (String × DataW Unit)} (h1 : laidMet Tryd.prog (("sortes/digest.cubeRoots", Rows.laid_sortes_digest_cubeRoots) :: r) W) : CB W := by
  rw [data64] at h1
  have hT := Lib.tabIs_of_head (P := Tryd.prog) (W := W) (name := "sortes/digest.cubeRoots") (k := .u32) (zs := zs64) (g := 7) (t := 112) (e := 67) (n := 64) (by kernel_rfl) (by kernel_rfl) Tryd.underlying112 Tryd.underlying67 cells32 (by kernel_rfl) h1
  intro j hj
  have := hT.cell (g := 7) (by kernel_rfl) j (by rw [show zs64.length = 64 from rfl]; exact hj)
  rw [this]
  have h2 : zs64.getD j 0 = ((gw cube j : Nat) : Int) := by
    have : ∀ j, j < 64 → zs64.getD j 0 = ((gw cube j : Nat) : Int) := by decide +kernel
    exact this j hj
  rw [h2]
theorem ts_of {W : World} {a b : String × DataW Unit} (h : laidMet Tryd.prog (a :: b :: ("internal/strconv.uint64pow10", Rows.laid_internal_strconv_uint64pow10) :: ("strconv.ErrRange", Rows.laid_strconv_ErrRange) :: ("strconv.ErrSyntax", Rows.laid_strconv_ErrSyntax) :: ("sortes/digest.squareRoots", Rows.laid_sortes_digest_squareRoots) :: [("sortes/digest.cubeRoots", Rows.laid_sortes_digest_cubeRoots)]) W) (hsh : W.ShapedOpen Tryd.prog) : TS W := by
  have h2 := laidMet.tail (laidMet.tail h)
  have h3 := laidMet.tail h2
  have h4 := laidMet.tail h3
  have h5 := laidMet.tail h4
  have h6 := laidMet.tail h5
  rw [data10] at h2
  have p10 := Lib.tabIs_of_head (P := Tryd.prog) (W := W) (name := "internal/strconv.uint64pow10") (k := .u64) (zs := Lib.pow10Tab) (g := 3) (t := 91) (e := 69) (n := 20) (by kernel_rfl) (by kernel_rfl) Tryd.underlying91 Tryd.underlying69 cells64 (by kernel_rfl) h2
  obtain ⟨a0, s0, hv0, -, -, -⟩ := laid_sentinel (g := 2) h3 (by kernel_rfl) (by kernel_rfl) Tryd.underlying41 rowES Tryd.underlying98 Tryd.underlying100 rfl rfl Tryd.underlying9 (by kernel_rfl) (by kernel_rfl)
  obtain ⟨a1, s1, hv1, -, -, -⟩ := laid_sentinel (g := 1) h4 (by kernel_rfl) (by kernel_rfl) Tryd.underlying41 rowES Tryd.underlying98 Tryd.underlying100 rfl rfl Tryd.underlying9 (by kernel_rfl) (by kernel_rfl)
  have c0 := World.var?_cell (P := Tryd.prog) (show Tryd.prog.globalNamed "strconv.ErrRange" = some 2 by kernel_rfl) hv0 0
  have c1 := World.var?_cell (P := Tryd.prog) (show Tryd.prog.globalNamed "strconv.ErrSyntax" = some 1 by kernel_rfl) hv1 0
  exact ⟨⟨sq_of h5, cb_of h6⟩, p10, Go.Proofs.cell_of_shapedOpen_int (zero := #[.int .i64 0]) (t := 3) hsh (of_decide_eq_true (by kernel_rfl)) (by kernel_rfl) rfl (by kernel_rfl) (by kernel_rfl) Tryd.underlying3,
    ⟨_, by simpa using c1, Or.inr ⟨_, _, rfl⟩⟩, ⟨_, by simpa using c0, Or.inr ⟨_, _, rfl⟩⟩⟩
end Go.Proofs.YthoonpjgecempaaDoor.S5
