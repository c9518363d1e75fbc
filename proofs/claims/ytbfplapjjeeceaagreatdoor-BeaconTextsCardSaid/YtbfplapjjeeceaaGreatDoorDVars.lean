/-
  What the listed variables of the laws' rows give.
-/
import Derived.Test.YtbfplapjjeeceaaGreatDoorEBase
import Derived.Test.YtbfplapjjeeceaaGreatDoorRows
import Derived.ProofKit
import Derived.Lib.LaidTab
import Derived.Lay
import Derived.Stop.LaidErr
import Derived.Shelf.Vars
import Derived.Carry
namespace Go.Proofs.YtbfplapjjeeceaaGreatDoor.E6
open Go.RowKit SH G4
theorem cells32 : Tryz.prog.cellsOf 58 = 1 := by kernel_rfl
theorem cells64 : Tryz.prog.cellsOf 124 = 1 := by kernel_rfl
def zs8 : List Int := square.l.map fun (n : Nat) => (n : Int)
def zs64 : List Int := cube.map fun (n : Nat) => (n : Int)
theorem data10 : (Rows.laid_internal_strconv_uint64pow10 : DataW Unit) = Lib.tabData .u64 Lib.pow10Tab := by kernel_rfl
theorem data8 : (Rows.laid_sortes_digest_squareRoots : DataW Unit) = Lib.tabData .u32 zs8 := by kernel_rfl
theorem data64 : (Rows.laid_sortes_digest_cubeRoots : DataW Unit) = Lib.tabData .u32 zs64 := by kernel_rfl
theorem sq_of {W : World} {r : List (String × DataW Unit)} (h1 : laidMet Tryz.prog (("sortes/digest.squareRoots", Rows.laid_sortes_digest_squareRoots) :: r) W) : SQ W := by
  rw [data8] at h1
  have hT := Lib.tabIs_of_head (P := Tryz.prog) (W := W) (name := "sortes/digest.squareRoots") (k := .u32) (zs := zs8) (g := 0) (t := 133) (e := 58) (n := 8) (by kernel_rfl) (by kernel_rfl) Tryz.underlying133 Tryz.underlying58 cells32 (by kernel_rfl) h1
  unfold Lib.TabIs World.var? at hT
  rw [show Tryz.prog.globalNamed "sortes/digest.squareRoots" = some 0 by kernel_rfl] at hT
  simp only [Option.bind_some] at hT
  split at hT
  · rename_i cs t fr hh
    refine ⟨t, fr, ?_⟩
    rw [hh]
    have : cs = cw square.l := by rw [Option.some.inj hT]; rfl
    rw [this]
  · cases hT
theorem cb_of {W : World} {r : List (String × DataW Unit)} (h1 : laidMet Tryz.prog (("sortes/digest.cubeRoots", Rows.laid_sortes_digest_cubeRoots) :: r) W) : CB W := by
  rw [data64] at h1
  have hT := Lib.tabIs_of_head (P := Tryz.prog) (W := W) (name := "sortes/digest.cubeRoots") (k := .u32) (zs := zs64) (g := 4) (t := 160) (e := 58) (n := 64) (by kernel_rfl) (by kernel_rfl) Tryz.underlying160 Tryz.underlying58 cells32 (by kernel_rfl) h1
  intro j hj
  have := hT.cell (g := 4) (by kernel_rfl) j (by rw [show zs64.length = 64 from rfl]; exact hj)
  rw [this]
  have h2 : zs64.getD j 0 = ((gw cube j : Nat) : Int) := by
    have : ∀ j, j < 64 → zs64.getD j 0 = ((gw cube j : Nat) : Int) := by decide +kernel
    exact this j hj
  rw [h2]
theorem ts_of {W : World} {a b : String × DataW Unit} (h : laidMet Tryz.prog (a :: b :: ("internal/strconv.uint64pow10", Rows.laid_internal_strconv_uint64pow10) :: ("sortes/digest.squareRoots", Rows.laid_sortes_digest_squareRoots) :: [("sortes/digest.cubeRoots", Rows.laid_sortes_digest_cubeRoots)]) W) : TS W := by
  have h2 := laidMet.tail (laidMet.tail h)
  have h3 := laidMet.tail h2
  have h4 := laidMet.tail h3
  rw [data10] at h2
  have p10 := Lib.tabIs_of_head (P := Tryz.prog) (W := W) (name := "internal/strconv.uint64pow10") (k := .u64) (zs := Lib.pow10Tab) (g := 5) (t := 176) (e := 124) (n := 20) (by kernel_rfl) (by kernel_rfl) Tryz.underlying176 Tryz.underlying124 cells64 (by kernel_rfl) h2
  exact ⟨⟨sq_of h3, cb_of h4⟩, p10⟩
end Go.Proofs.YtbfplapjjeeceaaGreatDoor.E6
