/-
  The walks of sign.Text and Read.
-/
import Derived.Test.YthoonpjgecempaaDoorSVerify
import Derived.Lib.ItoaLen
import Derived.Lib.SmallJoins
import Derived.Lib.AtoiErrMem
import Derived.Lib.AppendIntMem
namespace Go.Proofs.YthoonpjgecempaaDoor.S5
open Go.RowKit GM SH G4
/-- what the listed variables hold -/
structure TS (w : World) : Prop where
  tb : TB w
  p10 : Lib.TabIs Tryd.prog w "internal/strconv.uint64pow10" .u64 Lib.pow10Tab
  ml : ∃ m : Int, w.cell? ⟨0, 0, none⟩ = some (.int .i64 m)
  es : ∃ v, w.cell? ⟨1, 0, none⟩ = some v ∧ (v = .nilIface ∨ ∃ te pe, v = .iface te pe)
  er : ∃ v, w.cell? ⟨2, 0, none⟩ = some v ∧ (v = .nilIface ∨ ∃ te pe, v = .iface te pe)
theorem TS.below {u w : World} (h : TS u) (b : Below u.heap.size u w) : TS w := by
  obtain ⟨t, p, ⟨m, hm⟩, ⟨v, hv, hv2⟩, ⟨r, hr, hr2⟩⟩ := h
  exact ⟨t.below b, Joins.tab_stays (g := 3) (by kernel_rfl) p b (Nat.le_refl _),
    ⟨m, (b.cell (p := ⟨0, 0, none⟩) (World.block_lt_of_cell? _ _ hm)).trans hm⟩,
    ⟨v, (b.cell (p := ⟨1, 0, none⟩) (World.block_lt_of_cell? _ _ hv)).trans hv, hv2⟩,
    ⟨r, (b.cell (p := ⟨2, 0, none⟩) (World.block_lt_of_cell? _ _ hr)).trans hr, hr2⟩⟩
/-- a number in decimal -/
def dcm (n : Int) : ByteArray := ⟨(Lib.itoa n).toArray⟩
theorem dcm_size (n : Int) (h : -9223372036854775808 ≤ n ∧ n ≤ 9223372036854775807) : (dcm n).size ≤ 21 := Lib.itoa_length_le n h.1 h.2
/-- the text of a signature -/
def txt (R S : Int) : ByteArray := dcm R ++ (⟨#[46]⟩ : ByteArray) ++ dcm S
theorem itoa_any (W : World) (n : Int) (h : -9223372036854775808 ≤ n ∧ n ≤ 9223372036854775807) (hT : TS W) :
    Calls Tryd.prog 12 #[.int .i64 n] W fun e w' => e = .returned (.string (dcm n)) ∧ Below W.heap.size W w' :=
  (Tryd.strconv_Itoa n h.1 h.2 W hT.p10).mono fun e w' ⟨he, k, os, hw⟩ => ⟨he, by rw [hw]; exact Lib.below_grow _ _ (Nat.le_refl _) k os⟩
theorem tx_next {w u v : World} {p : Nat} {R S : Int} (h : TS u ∧ Below w.heap.size w u ∧ u.cell? ⟨p, 0, none⟩ = some (.int .i64 R) ∧ u.cell? ⟨p, 1, none⟩ = some (.int .i64 S)) (b : Below u.heap.size u v) :
    TS v ∧ Below w.heap.size w v ∧ v.cell? ⟨p, 0, none⟩ = some (.int .i64 R) ∧ v.cell? ⟨p, 1, none⟩ = some (.int .i64 S) := ⟨h.1.below b, vk_next h.2 b⟩
set_option maxRecDepth 100000 in
set_option maxHeartbeats 2000000 in
theorem Text_any (w : World) (R S : Int) (hR : -9223372036854775808 ≤ R ∧ R ≤ 9223372036854775807) (hS : -9223372036854775808 ≤ S ∧ S ≤ 9223372036854775807) (hT : TS w) :
    Calls Tryd.prog 5 #[sgv R S] w fun e w' => e = .returned (.string (txt R S)) ∧ Below w.heap.size w w' := by
  obtain ⟨W, hW⟩ : ∃ W, w.alloc (.cells #[.int .i64 R, .int .i64 S] 26) = W := ⟨_, rfl⟩
  have h1 : SM W w.heap.size R S := by rw [← hW]; exact SM.new _ _ _
  have hb : Below w.heap.size w W := by rw [← hW]; exact (Below.refl w.heap.size w).alloc (Nat.le_refl _) _
  have hTW : TS W := hT.below hb
  have c0 := h1.c0
  have c1 := h1.c1
  have I1 := Lib.hid fun W (h : TS W) => itoa_any W R hR h
  have I2 := Lib.hid fun W (h : TS W) => itoa_any W S hS h
  have E := Lib.hid (show txt R S = dcm R ++ (⟨#[46]⟩ : ByteArray) ++ dcm S from rfl)
  have z1 := dcm_size R hR
  have z2 := dcm_size S hS
  generalize txt R S = T at *
  generalize dcm R = X at *
  generalize dcm S = Y at *
  have b1 : (9223372036854775807 < X.size + 1) = False := eq_false (by omega)
  have b2 : (9223372036854775807 < X.size + 1 + Y.size) = False := eq_false (by omega)
  clear h1 hT z1 z2
  have HR := Lib.hid (And.intro hR hS); clear hR hS
  go_enter Tryd.func5, Tryd.ntmps5
  go_upto_region 1 with fail
  clear hW
  go_region_held3 (fun w' => TS w' ∧ Below w.heap.size w w' ∧ w'.cell? ⟨w.heap.size, 0, none⟩ = some (.int .i64 R) ∧ w'.cell? ⟨w.heap.size, 1, none⟩ = some (.int .i64 S))
    (first | assumption | exact ⟨hTW.below (Below.drew (Below.refl _ _)), hb.drew, c0, c1⟩ | exact ⟨hTW, hb, c0, c1⟩ | exact tx_next (by assumption) b)
    (first
      | (go_at_call_of 12 (Value.int .i64 R); refine (I1.out _ (And.left (by assumption))).mono ?_; rintro e w' ⟨rfl, b⟩)
      | (go_at_call_of 12 (Value.int .i64 S); refine (I2.out _ (And.left (by assumption))).mono ?_; rintro e w' ⟨rfl, b⟩))
  all_goals go_wp2
  all_goals go_ret
  all_goals exact ⟨by rw [E.out]; rfl, (And.left (And.right (by assumption)) : Below w.heap.size w _)⟩
end Go.Proofs.YthoonpjgecempaaDoor.S5
