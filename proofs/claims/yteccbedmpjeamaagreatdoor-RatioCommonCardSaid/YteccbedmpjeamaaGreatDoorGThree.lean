/-
  An array of three ints among a call's arguments: opened, and shut again.
-/
import Derived.WideKeyPair
import Derived.WideKeyArr2
namespace Go.Proofs.YteccbedmpjeamaaGreatDoor.G4
open Go.WideMaps Go.ChangeShapes Go.WideShapes
section
variable {H : Type} {enc : TypeId × Value → H} {P : Program} {k e : TypeId} {q : IntKind} {W : World} {base : Nat} {sp : Nat → Bool} {held : Bool}
theorem okWide_three (A : ArrKey P k e 3) {r : Reach} {b0 : Nat} {v : Value} (h : Value.okWide P W r b0 k v) : ∃ x y z, v = .agg #[x, y, z] := by
  obtain ⟨⟨l⟩, rfl, hs⟩ := okWide_arr A h
  match l, hs with
  | [x, y, z], _ => exact ⟨x, y, z, rfl⟩
theorem open_three (A : ArrKey P k e 3) (he : P.underlying e = some (.int q)) {r : Reach} {b0 : Nat} {v : Value} {d : DataW H} {ps : List MemPlace} (hval : Value.okWide P W r b0 k v) (hd : DataW.Trod enc P W base sp held k v d ps) :
    ∃ x y z : Int, v = .agg #[.int q x, .int q y, .int q z] ∧ d = .agg [.lit (.int q x), .lit (.int q y), .lit (.int q z)] ∧ ps = [] ∧ (Lit.int q x).wf = true ∧ (Lit.int q y).wf = true ∧ (Lit.int q z).wf = true := by
  obtain ⟨x, y, z, rfl⟩ := okWide_three A hval
  obtain ⟨_ | n, hf⟩ := hd
  · simp [DataW.trod] at hf
  · rw [DataW.trod_step] at hf
    unfold DataW.trodStep at hf
    simp only [A.hu, Value.cells] at hf
    rw [if_pos (by rw [A.size]; rfl)] at hf
    simp only [Option.map_eq_some_iff] at hf
    obtain ⟨xs, hx, e1⟩ := hf
    rw [show List.range 3 = [0, 1, 2] from rfl] at hx
    simp only [List.mapM_cons, List.mapM_nil, bind, Option.bind_eq_some_iff, pure, Option.some.injEq, A.one] at hx
    obtain ⟨u, hu, _, ⟨v, hv, _, ⟨t, ht, _, rfl, rfl⟩, rfl⟩, rfl⟩ := hx
    obtain ⟨a, ea, rfl, wa⟩ := DataW.trod_int he hu
    obtain ⟨b, eb, rfl, wb⟩ := DataW.trod_int he hv
    obtain ⟨c, ec, rfl, wc⟩ := DataW.trod_int he ht
    simp at ea eb ec
    subst ea; subst eb; subst ec
    simp only [Prod.mk.injEq] at e1
    exact ⟨a, b, c, rfl, by rw [← e1.1]; rfl, by rw [← e1.2]; rfl, wa, wb, wc⟩
theorem shut_three (A : ArrKey P k e 3) (he : P.underlying e = some (.int q)) {x y z : Int} (wx : (Lit.int q x).wf = true) (wy : (Lit.int q y).wf = true) (wz : (Lit.int q z).wf = true) :
    DataW.Trod enc P W base sp held k (.agg #[.int q x, .int q y, .int q z]) (.agg [.lit (.int q x), .lit (.int q y), .lit (.int q z)]) [] :=
  ⟨2, by
    show DataW.trod enc P W base sp held (1 + 1) k [.int q x, .int q y, .int q z] = _
    rw [DataW.trod_step]
    unfold DataW.trodStep
    simp only [A.hu]
    rw [if_pos (by rw [A.size]; rfl), show List.range 3 = [0, 1, 2] from rfl]
    simp [List.mapM_cons, List.mapM_nil, A.one, DataW.trod, he, wx, wy, wz]⟩
end
end Go.Proofs.YteccbedmpjeamaaGreatDoor.G4
