/-
  An array of six ints among a call's arguments, opened.
-/
import Derived.Test.YtbfplapjjeeceaaGreatDoorBIn
import Derived.WideKeyPair
import Derived.WideKeyArr2
namespace Go.Proofs.YtbfplapjjeeceaaGreatDoor.B9
open Go.WideMaps Go.ChangeShapes Go.WideShapes Go.RowKit GM SH G4 E6
theorem arr6 : ArrKey Tryz.prog 38 3 6 := ⟨Tryz.underlying38, by kernel_rfl, by kernel_rfl, by kernel_rfl⟩
set_option maxRecDepth 100000 in
theorem open_six {H : Type} {enc : TypeId × Value → H} {W : World} {b0 : Nat} {v : Value} {d : DataW H} {p : List MemPlace} (hval : Value.okWide Tryz.prog W .any b0 38 v) (hd : DataW.Trod enc Tryz.prog W 0 (fun _ => true) true 38 v d p) :
    ∃ Z : Fin 6 → Int, v = .agg #[.int .i64 (Z 0), .int .i64 (Z 1), .int .i64 (Z 2), .int .i64 (Z 3), .int .i64 (Z 4), .int .i64 (Z 5)] ∧ ∀ i, i64 (Z i) := by
  obtain ⟨⟨l⟩, rfl, hs⟩ := okWide_arr arr6 hval
  match l, hs with
  | [x0, x1, x2, x3, x4, x5], _ =>
  obtain ⟨_ | n, hf⟩ := hd
  · simp [DataW.trod] at hf
  · rw [DataW.trod_step] at hf
    unfold DataW.trodStep at hf
    simp only [arr6.hu, Value.cells] at hf
    rw [if_pos (by rw [arr6.size]; rfl)] at hf
    simp only [Option.map_eq_some_iff] at hf
    obtain ⟨xs, hx, e1⟩ := hf
    rw [show List.range 6 = [0, 1, 2, 3, 4, 5] from rfl] at hx
    simp only [List.mapM_cons, List.mapM_nil, bind, Option.bind_eq_some_iff, pure, Option.some.injEq, arr6.one] at hx
    obtain ⟨u0, h0, _, ⟨u1, h1, _, ⟨u2, h2, _, ⟨u3, h3, _, ⟨u4, h4, _, ⟨u5, h5, _, rfl, rfl⟩, rfl⟩, rfl⟩, rfl⟩, rfl⟩, rfl⟩ := hx
    obtain ⟨a0, e0, _, w0⟩ := DataW.trod_int Tryz.underlying3 h0
    obtain ⟨a1, e1, _, w1⟩ := DataW.trod_int Tryz.underlying3 h1
    obtain ⟨a2, e2, _, w2⟩ := DataW.trod_int Tryz.underlying3 h2
    obtain ⟨a3, e3, _, w3⟩ := DataW.trod_int Tryz.underlying3 h3
    obtain ⟨a4, e4, _, w4⟩ := DataW.trod_int Tryz.underlying3 h4
    obtain ⟨a5, e5, _, w5⟩ := DataW.trod_int Tryz.underlying3 h5
    simp at e0 e1 e2 e3 e4 e5
    subst e0 e1 e2 e3 e4 e5
    refine ⟨fun i => match i with | 0 => a0 | 1 => a1 | 2 => a2 | 3 => a3 | 4 => a4 | 5 => a5, rfl, fun i => ?_⟩
    match i with
    | 0 => exact int_lit w0
    | 1 => exact int_lit w1
    | 2 => exact int_lit w2
    | 3 => exact int_lit w3
    | 4 => exact int_lit w4
    | 5 => exact int_lit w5
end Go.Proofs.YtbfplapjjeeceaaGreatDoor.B9
