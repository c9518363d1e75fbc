/-
  An argument of type api.Rat opened and shut: a bool and two strings.
-/
import Derived.Test.YteccbedmpjeamaaGreatDoorQB
import Derived.Deep.Strs
import Derived.OpenShut
import Derived.Lib.SmallJoins
namespace Go.Proofs.YteccbedmpjeamaaGreatDoor
open Go.ChangeShapes Go.WideShapes Go.ChangeAt Go.RowKit Go.WideMaps
set_option maxRecDepth 100000 in
theorem open_rat {H : Type} {enc : TypeId × Value → H} {W : World} {base : Nat} {sp : Bool} {held : Nat → Bool} {r : Reach} {b0 : Nat} {v : Value} {d : DataW H} {p : List MemPlace} (hv : Value.okWide Tryz.prog W r b0 26 v) (h : DataW.Trod enc Tryz.prog W base held sp 26 v d p) :
    ∃ (b : Bool) (s1 s2 : ByteArray), v = .agg #[.bool b, .string s1, .string s2] ∧ d = .agg [.lit (.bool b), .lit (.string s1.data.toList), .lit (.string s2.data.toList)] ∧ p = [] ∧ s1.size ≤ maxLen ∧ s2.size ≤ maxLen := by
  obtain ⟨v0, v1, v2, y0, y1, y2, n, rfl, rfl, rfl, e0, e1, e2⟩ := Go.Joins.open_agg3 Tryz.underlying26 (by kernel_rfl) (by kernel_rfl) hv h
  obtain ⟨b, hb, rfl⟩ := DataW.trod_bool Tryz.underlying4 e0
  obtain ⟨s1, hs1, rfl, w1⟩ := DataW.trod_string Tryz.underlying24 e1
  obtain ⟨s2, hs2, rfl, w2⟩ := DataW.trod_string Tryz.underlying24 e2
  obtain rfl : v0 = .bool b := by simpa using hb
  obtain rfl : v1 = .string s1 := by simpa using hs1
  obtain rfl : v2 = .string s2 := by simpa using hs2
  exact ⟨b, s1, s2, rfl, rfl, rfl, w1, w2⟩
set_option maxRecDepth 100000 in
theorem shut_rat {H : Type} {enc : TypeId × Value → H} {W : World} {base : Nat} {sp : Bool} {held : Nat → Bool} (b : Bool) {s1 s2 : ByteArray} (w1 : s1.size ≤ maxLen) (w2 : s2.size ≤ maxLen) :
    DataW.Trod enc Tryz.prog W base held sp 26 (.agg #[.bool b, .string s1, .string s2]) (.agg [.lit (.bool b), .lit (.string s1.data.toList), .lit (.string s2.data.toList)]) [] :=
  Go.Joins.shut_agg3 (y0 := (.lit (.bool b), [])) (y1 := (.lit (.string s1.data.toList), [])) (y2 := (.lit (.string s2.data.toList), [])) Tryz.underlying26 (by kernel_rfl) (by kernel_rfl)
    ⟨1, by simp [DataW.trod, Tryz.underlying4]⟩ ⟨1, by simp [DataW.trod, Tryz.underlying24, w1]⟩ ⟨1, by simp [DataW.trod, Tryz.underlying24, w2]⟩
end Go.Proofs.YteccbedmpjeamaaGreatDoor
