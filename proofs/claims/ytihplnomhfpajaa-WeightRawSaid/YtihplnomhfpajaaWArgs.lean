/-
  What came in: slices of structs and of arrays of numbers.
-/
import Derived.Test.YtihplnomhfpajaaWSanW
import Derived.ChangeSlices
import Derived.OpenShut
import Derived.Deep.Slices
import Derived.Lib.SmallJoins
namespace Go.Proofs.Ytihplnomhfpajaa.W8
open Go.ChangeShapes Go.WideShapes Go.ChangeAt Go.RowKit GM G4 D7P
theorem lit_i64 {n : Int} (h : (Lit.int .i64 n).wf = true) : i64 n := bounds_i64 h
/-- a slice whose elements are sz numbers each -/
def FlA (W : World) (sz : Nat) (v : Value) (p : Option Addr) (n c : Nat) (Z : Nat → Nat → Int) : Prop :=
  v = .slice p n c ∧ n ≤ c ∧ c ≤ maxLen ∧ (p = none → n = 0 ∧ c = 0) ∧ ∀ j i, j < n → i < sz → i64 (Z j i) ∧ ∃ b o, p = some ⟨b, o, none⟩ ∧ W.cell? ⟨b, o + j * sz + i, none⟩ = some (.int .i64 (Z j i))
theorem open_flat {H : Type} {enc : TypeId × Value → H} {W : World} {t e : TypeId} {sz fuel : Nat} {v : Value} {y : DataW H × List MemPlace} (ht : Try.prog.underlying t = some (.slice e)) (hce : Try.prog.cellsOf e = sz) (hsz : 0 < sz)
    (hel : ∀ (fuel : Nat) (cs : List Value) (x : DataW H × List MemPlace), DataW.trod enc Try.prog W 0 (fun _ => true) true fuel e cs = some x → ∀ i, i < sz → ∃ z, cs[i]? = some (.int .i64 z) ∧ i64 z)
    (h : DataW.trod enc Try.prog W 0 (fun _ => true) true fuel t [v] = some y) : ∃ p n c Z, FlA W sz v p n c Z := by
  rcases Go.Deep.open_slice ht h with ⟨hcs, _⟩ | ⟨a, len, cap, m, k, D, Pl, hcs, _, hl, hm, hmm, _, hx⟩
  · obtain rfl : v = .slice none 0 0 := by simpa using hcs
    exact ⟨none, 0, 0, fun _ _ => 0, rfl, Nat.le_refl _, by decide, fun _ => ⟨rfl, rfl⟩, fun j i hj => absurd hj (by omega)⟩
  · obtain rfl : v = .slice (some a) len cap := by simpa using hcs
    simp only [if_true] at hmm
    have key : ∀ j i, ∃ z, j < len → i < sz → W.cell? (a.add (j * sz + i)) = some (.int .i64 z) ∧ i64 z := fun j i => by
      by_cases hj : j < len
      · by_cases hi : i < sz
        · obtain ⟨cs', h1, h2⟩ := hx j (by omega)
          rw [hce] at h1
          obtain ⟨_, hlen, hcell⟩ := World.cells?_some h1
          obtain ⟨z, hz, hiz⟩ := hel _ _ _ h2 i hi
          refine ⟨z, fun _ _ => ⟨?_, hiz⟩⟩
          have := hcell i hi
          rw [Go.Deep.add_add] at this
          rw [this, hz]
        · exact ⟨0, fun _ h => absurd h hi⟩
      · exact ⟨0, fun h => absurd h hj⟩
    refine ⟨some a, len, cap, fun j i => Classical.choose (key j i), rfl, hl, hm, fun e => (by cases e), fun j i hj hi => ?_⟩
    obtain ⟨h1, h2⟩ := Classical.choose_spec (key j i) hj hi
    refine ⟨h2, ?_⟩
    obtain ⟨b, off, spot⟩ := a
    have hspot : spot = none := by have h0 := (Classical.choose_spec (key 0 0) (by omega) hsz).1; simpa [Addr.add] using World.cell?_spot h0
    subst hspot
    refine ⟨b, off, rfl, ?_⟩
    rw [Nat.add_assoc, ← add_plain]
    exact h1
theorem one_int {H : Type} {enc : TypeId × Value → H} {W : World} {fuel : Nat} {cs : List Value} {x : DataW H × List MemPlace} (h : DataW.trod enc Try.prog W 0 (fun _ => true) true fuel 3 cs = some x) : ∃ z, cs = [.int .i64 z] ∧ i64 z := by
  obtain ⟨n, hn, _, hw⟩ := DataW.trod_int Try.underlying3 h
  exact ⟨n, hn, lit_i64 hw⟩
theorem take_one {cs : List Value} {i : Nat} {v : Value} (h : (cs.drop i).take 1 = [v]) : cs[i]? = some v := by
  have := congrArg (fun l => l[0]?) h
  simpa using this
theorem pair_ints {H : Type} {enc : TypeId × Value → H} {W : World} (fuel : Nat) (cs : List Value) (x : DataW H × List MemPlace) (h : DataW.trod enc Try.prog W 0 (fun _ => true) true fuel 25 cs = some x) : ∀ i, i < 2 → ∃ z, cs[i]? = some (.int .i64 z) ∧ i64 z := by
  obtain ⟨xs, m, _, _, _, hl, hx⟩ := DataW.trod_array Try.underlying25 h
  have c1 : Try.prog.cellsOf 3 = 1 := by kernel_rfl
  intro i hi
  have h1 := hx i hi
  rw [c1, Nat.mul_one, List.getElem?_eq_getElem (by omega)] at h1
  obtain ⟨z, hz, hiz⟩ := one_int h1
  exact ⟨z, take_one hz, hiz⟩
theorem member_ints {H : Type} {enc : TypeId × Value → H} {W : World} (fuel : Nat) (cs : List Value) (x : DataW H × List MemPlace) (h : DataW.trod enc Try.prog W 0 (fun _ => true) true fuel 27 cs = some x) : ∀ i, i < 3 → ∃ z, cs[i]? = some (.int .i64 z) ∧ i64 z := by
  obtain ⟨xs, m, _, _, _, hl, hx⟩ := DataW.trod_struct Try.underlying27 h
  have c1 : Try.prog.cellsOf 3 = 1 := by kernel_rfl
  have go : ∀ (i : Nat) (f : Field), i < 3 → f.type = 3 → f.offset = i → DataW.trod enc Try.prog W 0 (fun _ => true) true m f.type ((cs.drop f.offset).take (Try.prog.cellsOf f.type)) = xs[i]? → ∃ z, cs[i]? = some (.int .i64 z) ∧ i64 z := fun i f hi ht ho h1 => by
    rw [ht, ho, c1, List.getElem?_eq_getElem (by rw [hl]; exact hi)] at h1
    obtain ⟨z, hz, hiz⟩ := one_int h1
    exact ⟨z, take_one hz, hiz⟩
  intro i hi
  match i, hi with
  | 0, hi => exact go 0 _ hi rfl rfl (hx 0 _ rfl)
  | 1, hi => exact go 1 _ hi rfl rfl (hx 1 _ rfl)
  | 2, hi => exact go 2 _ hi rfl rfl (hx 2 _ rfl)
theorem share_ints {H : Type} {enc : TypeId × Value → H} {W : World} (fuel : Nat) (cs : List Value) (x : DataW H × List MemPlace) (h : DataW.trod enc Try.prog W 0 (fun _ => true) true fuel 40 cs = some x) : ∀ i, i < 2 → ∃ z, cs[i]? = some (.int .i64 z) ∧ i64 z := by
  obtain ⟨xs, m, _, _, _, hl, hx⟩ := DataW.trod_struct Try.underlying40 h
  have c1 : Try.prog.cellsOf 3 = 1 := by kernel_rfl
  have go : ∀ (i : Nat) (f : Field), i < 2 → f.type = 3 → f.offset = i → DataW.trod enc Try.prog W 0 (fun _ => true) true m f.type ((cs.drop f.offset).take (Try.prog.cellsOf f.type)) = xs[i]? → ∃ z, cs[i]? = some (.int .i64 z) ∧ i64 z := fun i f hi ht ho h1 => by
    rw [ht, ho, c1, List.getElem?_eq_getElem (by rw [hl]; exact hi)] at h1
    obtain ⟨z, hz, hiz⟩ := one_int h1
    exact ⟨z, take_one hz, hiz⟩
  intro i hi
  match i, hi with
  | 0, hi => exact go 0 _ hi rfl rfl (hx 0 _ rfl)
  | 1, hi => exact go 1 _ hi rfl rfl (hx 1 _ rfl)
theorem single_ints {H : Type} {enc : TypeId × Value → H} {W : World} (fuel : Nat) (cs : List Value) (x : DataW H × List MemPlace) (h : DataW.trod enc Try.prog W 0 (fun _ => true) true fuel 3 cs = some x) : ∀ i, i < 1 → ∃ z, cs[i]? = some (.int .i64 z) ∧ i64 z := by
  obtain ⟨z, rfl, hz⟩ := one_int h
  intro i hi
  obtain rfl : i = 0 := by omega
  exact ⟨z, rfl, hz⟩
/-- the first elements, as lists -/
theorem FlA.shares {W : World} {v : Value} {p : Option Addr} {n c : Nat} {Z : Nat → Nat → Int} (h : FlA W 2 v p n c Z) (m : Nat) (hm : m ≤ n) (hm2 : m ≤ 1000000) : ShL W (.slice p m c) ((List.range m).map fun j => (Z j 0, Z j 1)) := by
  have hl : ((List.range m).map fun j => (Z j 0, Z j 1)).length = m := by simp
  refine ⟨⟨p, c, by rw [hl], fun j s hj => ?_⟩, fun s hs => ?_, by rw [hl]; omega⟩
  · have hjm : j < m := by have := (List.getElem?_eq_some_iff.1 hj).1; rw [hl] at this; exact this
    have e : (Z j 0, Z j 1) = s := by simpa [hjm] using hj
    subst e
    obtain ⟨_, b, o, e1, h1⟩ := h.2.2.2.2 j 0 (by omega) (by decide)
    obtain ⟨_, b2, o2, e2, h2⟩ := h.2.2.2.2 j 1 (by omega) (by decide)
    rw [e1] at e2
    cases e2
    exact ⟨b, o, e1, h1, h2⟩
  · obtain ⟨j, hj, rfl⟩ := List.mem_map.1 hs
    have := List.mem_range.1 hj
    exact ⟨(h.2.2.2.2 j 0 (by omega) (by decide)).1, (h.2.2.2.2 j 1 (by omega) (by decide)).1⟩
theorem FlA.members {W : World} {v : Value} {p : Option Addr} {n c : Nat} {Z : Nat → Nat → Int} (h : FlA W 3 v p n c Z) (m : Nat) (hm : m ≤ n) (hm2 : m ≤ 1000000) : MbL W (.slice p m c) ((List.range m).map fun j => (Z j 0, Z j 1, Z j 2)) := by
  have hl : ((List.range m).map fun j => (Z j 0, Z j 1, Z j 2)).length = m := by simp
  refine ⟨⟨p, c, by rw [hl], fun j s hj => ?_⟩, fun s hs => ?_, by rw [hl]; omega⟩
  · have hjm : j < m := by have := (List.getElem?_eq_some_iff.1 hj).1; rw [hl] at this; exact this
    have e : (Z j 0, Z j 1, Z j 2) = s := by simpa [hjm] using hj
    subst e
    obtain ⟨_, b, o, e1, h1⟩ := h.2.2.2.2 j 0 (by omega) (by decide)
    obtain ⟨_, b2, o2, e2, h2⟩ := h.2.2.2.2 j 1 (by omega) (by decide)
    obtain ⟨_, b3, o3, e3, h3⟩ := h.2.2.2.2 j 2 (by omega) (by decide)
    rw [e1] at e2 e3
    cases e2
    cases e3
    exact ⟨b, o, e1, h1, h2, h3⟩
  · obtain ⟨j, hj, rfl⟩ := List.mem_map.1 hs
    have := List.mem_range.1 hj
    exact ⟨(h.2.2.2.2 j 0 (by omega) (by decide)).1, (h.2.2.2.2 j 1 (by omega) (by decide)).1, (h.2.2.2.2 j 2 (by omega) (by decide)).1⟩
theorem FlA.numbers {W : World} {v : Value} {p : Option Addr} {n c : Nat} {Z : Nat → Nat → Int} (h : FlA W 1 v p n c Z) (m : Nat) (hm : m ≤ n) (hm2 : m ≤ 1000000) : SLi W (.slice p m c) ((List.range m).map fun j => Z j 0) := by
  have hl : ((List.range m).map fun j => Z j 0).length = m := by simp
  refine ⟨⟨p, c, by rw [hl], fun j s hj => ?_⟩, fun s hs => ?_, by rw [hl]; omega⟩
  · have hjm : j < m := by have := (List.getElem?_eq_some_iff.1 hj).1; rw [hl] at this; exact this
    have e : Z j 0 = s := by simpa [hjm] using hj
    subst e
    obtain ⟨_, b, o, e1, h1⟩ := h.2.2.2.2 j 0 (by omega) (by decide)
    rw [Nat.mul_one, Nat.add_zero] at h1
    exact ⟨b, o, e1, h1⟩
  · obtain ⟨j, hj, rfl⟩ := List.mem_map.1 hs
    have := List.mem_range.1 hj
    exact (h.2.2.2.2 j 0 (by omega) (by decide)).1
end Go.Proofs.Ytihplnomhfpajaa.W8
