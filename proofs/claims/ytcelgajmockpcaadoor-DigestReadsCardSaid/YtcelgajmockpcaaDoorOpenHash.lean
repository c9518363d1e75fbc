/-
  An argument that is a hash: its 32 bytes.
-/
import Derived.Test.YtcelgajmockpcaaDoorLawReads
import Derived.WideKeyArr2
import Derived.ProofKit
import Derived.OpenShut
namespace Go.Proofs.YtcelgajmockpcaaDoor
open Go.RowKit Go.WideMaps Go.ChangeShapes Go.WideShapes SH
theorem mapM_each {α β : Type} {f : α → Option β} : ∀ (L : List α) (xs : List β), L.mapM f = some xs → ∀ i ∈ L, ∃ y, f i = some y
  | [], _, _, i, hi => by cases hi
  | a :: L, xs, h, i, hi => by
    rw [List.mapM_cons] at h
    simp only [bind, Option.bind_eq_some_iff, pure, Option.some.injEq] at h
    obtain ⟨y, hy, ys, hys, rfl⟩ := h
    rcases List.mem_cons.1 hi with rfl | hi
    · exact ⟨y, hy⟩
    · exact mapM_each L ys hys i hi
theorem open_hash {H : Type} {enc : TypeId × Value → H} {P : Program} {W : World} {base : Nat} {sp : Nat → Bool} {held : Bool} {k e : TypeId} (A : ArrKey P k e 32) (he : P.underlying e = some (.int .u8)) (hc : P.cellsOf e = 1)
    {r : Reach} {b0 : Nat} {v : Value} {d : DataW H} {ps : List MemPlace} (hv : Value.okWide P W r b0 k v) (hd : DataW.Trod enc P W base sp held k v d ps) :
    ∃ l : List UInt8, l.length = 32 ∧ v = hval l := by
  obtain ⟨xs, rfl, hn⟩ := okWide_arr A hv
  obtain ⟨fuel, hf⟩ := hd
  have key : ∀ j, ∃ b : UInt8, j < 32 → xs[j]? = some (.int .u8 (b.toNat : Nat)) := by
    intro j
    by_cases hj : j < 32
    · cases fuel with
      | zero => simp [DataW.trod] at hf
      | succ m =>
        rw [DataW.trod_step] at hf
        unfold DataW.trodStep at hf
        simp only [A.hu, Value.cells] at hf
        rw [if_pos (by rw [A.size]; simpa using hn)] at hf
        simp only [Option.map_eq_some_iff] at hf
        obtain ⟨ys, hy, e1⟩ := hf
        obtain ⟨y, hyj⟩ := mapM_each _ ys hy j (List.mem_range.2 hj)
        obtain ⟨a, ea, rfl, wa⟩ := DataW.trod_int he hyj
        have ba := bounds_u8 wa
        rw [hc, Nat.mul_one] at ea
        refine ⟨UInt8.ofNat a.toNat, fun _ => ?_⟩
        have h1 : (xs.toList.drop j)[0]? = some (.int .u8 a) := by
          have := congrArg (fun l : List Value => l[0]?) ea
          simpa [List.getElem?_take] using this
        rw [List.getElem?_drop, Nat.add_zero, Array.getElem?_toList] at h1
        rw [h1, show (UInt8.ofNat a.toNat).toNat = a.toNat % 256 from rfl]
        congr 2
        omega
    · exact ⟨0, fun h => absurd h hj⟩
  obtain ⟨f, hff⟩ := Classical.axiomOfChoice key
  refine ⟨(List.range 32).map f, by simp, ?_⟩
  congr 1
  apply Array.ext
  · rw [hn, hcells_size]; simp
  · intro j a b
    have hj : j < 32 := by omega
    have h1 := hff j hj
    rw [Array.getElem?_eq_getElem a] at h1
    rw [Option.some.inj h1]
    simp [hcells]
end Go.Proofs.YtcelgajmockpcaaDoor
