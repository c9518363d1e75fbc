/-
  An array of two strings among a call's arguments: opened, and shut again.
-/
import Derived.WideKeyPair
import Derived.WideKeyArr2
import Derived.ChangeMaps5
namespace Go.Proofs.YteccbedmpjeamaaGreatDoor.G4
open Go.WideMaps Go.ChangeShapes Go.WideShapes
section
variable {H : Type} {enc : TypeId × Value → H} {P : Program} {k e : TypeId} {W : World} {base : Nat} {sp : Nat → Bool} {held : Bool}
theorem okWide_two (A : ArrKey P k e 2) {r : Reach} {b0 : Nat} {v : Value} (h : Value.okWide P W r b0 k v) : ∃ x y, v = .agg #[x, y] := by
  obtain ⟨⟨l⟩, rfl, hs⟩ := okWide_arr A h
  match l, hs with
  | [x, y], _ => exact ⟨x, y, rfl⟩
theorem open_twos (A : ArrKey P k e 2) (he : P.underlying e = some .string) {r : Reach} {b0 : Nat} {v : Value} {d : DataW H} {ps : List MemPlace} (hval : Value.okWide P W r b0 k v) (hd : DataW.Trod enc P W base sp held k v d ps) :
    ∃ x y : ByteArray, v = .agg #[.string x, .string y] ∧ d = .agg [.lit (.string x.data.toList), .lit (.string y.data.toList)] ∧ ps = [] ∧ x.size ≤ maxLen ∧ y.size ≤ maxLen := by
  obtain ⟨x, y, rfl⟩ := okWide_two A hval
  obtain ⟨_ | n, hf⟩ := hd
  · simp [DataW.trod] at hf
  · rw [DataW.trod_step] at hf
    unfold DataW.trodStep at hf
    simp only [A.hu, Value.cells] at hf
    rw [if_pos (by rw [A.size]; rfl)] at hf
    simp only [Option.map_eq_some_iff] at hf
    obtain ⟨xs, hx, e1⟩ := hf
    rw [show List.range 2 = [0, 1] from rfl] at hx
    simp only [List.mapM_cons, List.mapM_nil, bind, Option.bind_eq_some_iff, pure, Option.some.injEq, A.one] at hx
    obtain ⟨u, hu, _, ⟨v, hv, _, rfl, rfl⟩, rfl⟩ := hx
    obtain ⟨a, ea, rfl, wa⟩ := DataW.trod_string he hu
    obtain ⟨b, eb, rfl, wb⟩ := DataW.trod_string he hv
    simp at ea eb
    subst ea; subst eb
    simp only [Prod.mk.injEq] at e1
    exact ⟨a, b, rfl, by rw [← e1.1]; rfl, by rw [← e1.2]; rfl, wa, wb⟩
theorem shut_twos (A : ArrKey P k e 2) (he : P.underlying e = some .string) {x y : ByteArray} (wx : x.size ≤ maxLen) (wy : y.size ≤ maxLen) :
    DataW.Trod enc P W base sp held k (.agg #[.string x, .string y]) (.agg [.lit (.string x.data.toList), .lit (.string y.data.toList)]) [] :=
  ⟨2, by
    show DataW.trod enc P W base sp held (1 + 1) k [.string x, .string y] = _
    rw [DataW.trod_step]
    unfold DataW.trodStep
    simp only [A.hu]
    rw [if_pos (by rw [A.size]; rfl), show List.range 2 = [0, 1] from rfl]
    simp [List.mapM_cons, List.mapM_nil, A.one, DataW.trod, he, wx, wy]⟩
end
end Go.Proofs.YteccbedmpjeamaaGreatDoor.G4
