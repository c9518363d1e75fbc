/-
  What a law's arguments are: slices of numbers.
  What a plan and a complaint that came in hold.
-/
import Derived.Test.YtjfbpmpdcmealaaGreatDoorDBase
import Derived.ChangeSlices
import Derived.OpenShut
import Derived.Lib.SmallJoins
import Derived.WideKeyPair
import Derived.SizedLaws
import Derived.WideShapes
import Derived.Deep.Strs
namespace Go.Proofs.YtjfbpmpdcmealaaGreatDoor.D7
open Go.ChangeShapes Go.WideShapes Go.ChangeAt Go.RowKit GM SH G4 E6 D7P
theorem cellsI : Tryz.prog.cellsOf 3 = 1 := by kernel_rfl
theorem lit_i64 {n : Int} (h : (Lit.int .i64 n).wf = true) : i64 n := bounds_i64 h
/-- a slice of numbers that came in -/
def AL (W : World) (v : Value) (l : List Int) : Prop := ∃ (p : Option Addr) (n c : Nat), v = .slice p n c ∧ l.length = n ∧ n ≤ c ∧ c ≤ maxLen ∧ SL W (.slice p n c) l ∧ (∀ x ∈ l, i64 x) ∧ (p = none → n = 0 ∧ c = 0)
theorem al_trod {H : Type} {enc : TypeId × Value → H} {W : World} {fuel : Nat} {v : Value} {y : DataW H × List MemPlace} (h : DataW.trod enc Tryz.prog W 0 (fun _ => true) true fuel 22 [v] = some y) : ∃ l, AL W v l := by
  rcases open_ints Tryz.underlying22 Tryz.underlying3 cellsI h with ⟨hcs, _⟩ | ⟨a, len, cap, zs, hcs, _, hl, hm, hz, _, hcell, hwf⟩
  · obtain rfl : v = .slice none 0 0 := by simpa using hcs
    exact ⟨[], none, 0, 0, rfl, rfl, Nat.le_refl _, by decide, VL.nil _ _ _, fun x hx => (by cases hx), fun _ => ⟨rfl, rfl⟩⟩
  · obtain rfl : v = .slice (some a) len cap := by simpa using hcs
    simp only [if_true] at hz
    have hlen : (zs.take len).length = len := by rw [List.length_take]; omega
    refine ⟨zs.take len, some a, len, cap, rfl, hlen, hl, hm, ⟨some a, cap, by rw [List.length_map, hlen], fun j x hj => ?_⟩, fun x hx => lit_i64 (hwf x (List.mem_of_mem_take hx)), fun e => by cases e⟩
    rw [List.getElem?_map] at hj
    cases hk : (zs.take len)[j]? with
    | none => rw [hk] at hj; simp at hj
    | some z =>
      rw [hk] at hj
      simp at hj
      subst hj
      have hjl : j < len := by have := (List.getElem?_eq_some_iff.1 hk).1; omega
      rw [List.getElem?_take_of_lt hjl] at hk
      have hc := hcell j (by omega)
      obtain ⟨b, off, spot⟩ := a
      have hspot : spot = none := by simpa [Addr.add] using World.cell?_spot (hcell 0 (by omega))
      subst hspot
      refine ⟨b, off, rfl, ?_⟩
      rw [← Lib.add_plain, hc]
      simp [List.getD_eq_getElem?_getD, hk]
theorem AL.cut {W : World} {p : Option Addr} {n c : Nat} {l : List Int} (h : AL W (.slice p n c) l) (m : Nat) (hm : m ≤ n) (V : World) : (Instr.sliceAt 22 (.slice p n c) none (some (.int .i64 (m : Int))) none).run Tryz.prog V = .ok (.slice p m c) V := by
  obtain ⟨p', n', c', e, h1, h2, h3, h4, h5, h6⟩ := h
  cases e
  have hmc : m ≤ c := by omega
  cases p with
  | none =>
    obtain ⟨rfl, rfl⟩ := h6 rfl
    obtain rfl : m = 0 := by omega
    simp [Instr.sliceAt, run_underlying Tryz.underlying22, go_sem]
  | some a =>
    simp [Instr.sliceAt, run_underlying Tryz.underlying22, go_sem]
    intro hlt
    omega
end Go.Proofs.YtjfbpmpdcmealaaGreatDoor.D7
namespace Go.Proofs.YtjfbpmpdcmealaaGreatDoor.D7
open Go.ChangeShapes Go.WideShapes Go.ChangeAt Go.RowKit GM SH G4 E6 D7P
theorem sized_third {H : Type} {P : Program} {ts : List TypeId} {ds : List (DataW H)} (h : (DataW.weightsEach P ts ds).all (· ≤ reachBytes) = true) {j : Nat} {t : TypeId} {f0 f1 f2 : Field} {x y : DataW H} {bytes : List UInt8} (ht : ts[j]? = some t)
    (hd : ds[j]? = some (.agg [x, y, .lit (.string bytes)])) (hu : P.underlying t = some (.struct #[f0, f1, f2])) : bytes.length ≤ reachBytes := by
  refine of_decide_eq_true (List.all_eq_true.1 h _ (DataW.weights_mem_each ht hd bytes.length ?_))
  simp [DataW.weights, hu, DataW.weightsEach]
set_option maxRecDepth 100000 in
theorem open_co {H : Type} {enc : TypeId × Value → H} {W : World} {b0 : Nat} {v : Value} {d : DataW H} {p : List MemPlace} (hv : Value.okWide Tryz.prog W .any b0 28 v) (h : DataW.Trod enc Tryz.prog W 0 (fun _ => true) true 28 v d p) :
    ∃ a b c e : Int, v = .agg #[.int .i64 a, .int .i64 b, .int .i64 c, .int .i64 e] ∧ i64 a ∧ i64 b ∧ i64 c ∧ i64 e := by
  obtain ⟨cs, rfl, hsz⟩ := okWide_struct Tryz.underlying28 hv
  have k4 : Tryz.prog.cellsOf 28 = 4 := by kernel_rfl
  rw [k4] at hsz
  obtain ⟨c0, c1, c2, c3, rfl⟩ := Go.Joins.array4 hsz
  obtain ⟨fuel, hf⟩ := h
  obtain ⟨y0, y1, y2, n, _, _, h0, h1, h2⟩ := Go.Deep.trod_struct3 Tryz.underlying28 hf
  have k1 : Tryz.prog.cellsOf 3 = 1 := by kernel_rfl
  have k2 : Tryz.prog.cellsOf 26 = 2 := by kernel_rfl
  obtain ⟨z0, z1, m, _, _, g0, g1⟩ := trod_struct2 Tryz.underlying26 h2
  obtain ⟨a, ea, _, wa⟩ := DataW.trod_int Tryz.underlying3 h0
  obtain ⟨b, eb, _, wb⟩ := DataW.trod_int Tryz.underlying3 h1
  obtain ⟨c, ec, _, wc⟩ := DataW.trod_int Tryz.underlying3 g0
  obtain ⟨e, ee, _, we⟩ := DataW.trod_int Tryz.underlying3 g1
  simp only [k1, k2, Value.cells] at ea eb ec ee
  simp at ea eb ec ee
  subst ea eb ec ee
  exact ⟨a, b, c, e, rfl, lit_i64 wa, lit_i64 wb, lit_i64 wc, lit_i64 we⟩
end Go.Proofs.YtjfbpmpdcmealaaGreatDoor.D7
