/-
  What came in: a slice of arrays of three numbers.
  An argument of type api.Rat opened and shut: a bool and two strings.
-/
import Derived.Test.YteccbedmpjeamaaGreatDoorQL
import Derived.ChangeSlices
import Derived.OpenShut
import Derived.Deep.Slices
import Derived.Lib.SmallJoins
import Derived.Test.YteccbedmpjeamaaGreatDoorQB
import Derived.Deep.Strs
namespace Go.Proofs.YteccbedmpjeamaaGreatDoor
open Go.ChangeShapes Go.WideShapes Go.ChangeAt Go.RowKit
theorem open_ints {H : Type} {enc : TypeId × Value → H} {W : World} {t e : TypeId} {sz fuel : Nat} {v : Value} {y : DataW H × List MemPlace} (ht : Tryz.prog.underlying t = some (.slice e)) (hce : Tryz.prog.cellsOf e = sz) (hsz : 0 < sz)
    (hel : ∀ (fuel : Nat) (cs : List Value) (x : DataW H × List MemPlace), DataW.trod enc Tryz.prog W 0 (fun _ => true) true fuel e cs = some x → ∀ i, i < sz → ∃ z, cs[i]? = some (.int .i64 z) ∧ (Lit.int .i64 z).wf = true)
    (h : DataW.trod enc Tryz.prog W 0 (fun _ => true) true fuel t [v] = some y) : ∃ (p : Option Addr) (n c : Nat) (Z : Nat → Nat → Int), v = .slice p n c ∧ n ≤ maxLen ∧ ∀ j i, j < n → i < sz → (Lit.int .i64 (Z j i)).wf = true ∧ ∃ b o, p = some ⟨b, o, none⟩ ∧ W.cell? ⟨b, o + j * sz + i, none⟩ = some (.int .i64 (Z j i)) := by
  rcases Go.Deep.open_slice ht h with ⟨hcs, _⟩ | ⟨a, len, cap, m, k, D, Pl, hcs, _, hl, hm, hmm, _, hx⟩
  · obtain rfl : v = .slice none 0 0 := by simpa using hcs
    exact ⟨none, 0, 0, fun _ _ => 0, rfl, Nat.zero_le _, fun j i hj => absurd hj (by omega)⟩
  · obtain rfl : v = .slice (some a) len cap := by simpa using hcs
    simp only [if_true] at hmm
    have key : ∀ j i, ∃ z, j < len → i < sz → W.cell? (a.add (j * sz + i)) = some (.int .i64 z) ∧ (Lit.int .i64 z).wf = true := fun j i => by
      by_cases hj : j < len
      · by_cases hi : i < sz
        · obtain ⟨cs', h1, h2⟩ := hx j (by omega)
          rw [hce] at h1
          obtain ⟨_, hlen, hcell⟩ := World.cells?_some h1
          obtain ⟨z, hz, hiz⟩ := hel _ _ _ h2 i hi
          refine ⟨z, fun _ _ => ⟨?_, hiz⟩⟩
          have := hcell i hi
          rw [Go.Deep.add_add] at this
          rw [this, hz]
        · exact ⟨0, fun _ h => absurd h hi⟩
      · exact ⟨0, fun h => absurd h hj⟩
    refine ⟨some a, len, cap, fun j i => Classical.choose (key j i), rfl, by omega, fun j i hj hi => ?_⟩
    obtain ⟨h1, h2⟩ := Classical.choose_spec (key j i) hj hi
    refine ⟨h2, ?_⟩
    obtain ⟨b, off, spot⟩ := a
    have hspot : spot = none := by have h0 := (Classical.choose_spec (key 0 0) (by omega) hsz).1; simpa [Addr.add] using World.cell?_spot h0
    subst hspot
    refine ⟨b, off, rfl, ?_⟩
    rw [Nat.add_assoc, ← Lib.add_plain]
    exact h1
theorem three_ints {H : Type} {enc : TypeId × Value → H} {W : World} (fuel : Nat) (cs : List Value) (x : DataW H × List MemPlace) (h : DataW.trod enc Tryz.prog W 0 (fun _ => true) true fuel 22 cs = some x) : ∀ i, i < 3 → ∃ z, cs[i]? = some (.int .i64 z) ∧ (Lit.int .i64 z).wf = true := by
  obtain ⟨xs, m, _, _, _, hl, hx⟩ := DataW.trod_array Tryz.underlying22 h
  have c1 : Tryz.prog.cellsOf 3 = 1 := by kernel_rfl
  intro i hi
  have h1 := hx i hi
  rw [c1, Nat.mul_one, List.getElem?_eq_getElem (by omega)] at h1
  obtain ⟨n, hn, _, hw⟩ := DataW.trod_int Tryz.underlying3 h1
  refine ⟨n, ?_, hw⟩
  have := congrArg (fun l => l[0]?) hn
  simpa using this
theorem la_trod {H : Type} {enc : TypeId × Value → H} {W : World} {fuel : Nat} {v : Value} {y : DataW H × List MemPlace} (h : DataW.trod enc Tryz.prog W 0 (fun _ => true) true fuel 47 [v] = some y) : ∃ l, LA W v l := by
  have k3 : Tryz.prog.cellsOf 22 = 3 := by kernel_rfl
  obtain ⟨p, n, c, Z, rfl, hn, hz⟩ := open_ints (sz := 3) Tryz.underlying47 k3 (by decide) three_ints h
  refine ⟨(List.range n).map fun j => (Z j 0, Z j 1, Z j 2), p, c, by simp, by simpa using hn, fun j x hj => ?_⟩
  rw [List.getElem?_map] at hj
  obtain ⟨i, hi, rfl⟩ := Option.map_eq_some_iff.1 hj
  obtain ⟨hjn, rfl⟩ := List.getElem?_eq_some_iff.1 hi
  simp only [List.length_range] at hjn
  rw [List.getElem_range]
  obtain ⟨w0, b, o, e, h0⟩ := hz j 0 hjn (by decide)
  obtain ⟨w1, b1, o1, e1, h1⟩ := hz j 1 hjn (by decide)
  obtain ⟨w2, b2, o2, e2, h2⟩ := hz j 2 hjn (by decide)
  rw [e] at e1 e2
  cases e1
  cases e2
  exact ⟨⟨b, o, e, h0, h1, h2⟩, bounds_i64 w0, bounds_i64 w1, bounds_i64 w2⟩
end Go.Proofs.YteccbedmpjeamaaGreatDoor
namespace Go.Proofs.YteccbedmpjeamaaGreatDoor
open Go.ChangeShapes Go.WideShapes Go.ChangeAt Go.RowKit Go.WideMaps
set_option maxRecDepth 100000 in
theorem open_rat {H : Type} {enc : TypeId × Value → H} {W : World} {base : Nat} {sp : Bool} {held : Nat → Bool} {r : Reach} {b0 : Nat} {v : Value} {d : DataW H} {p : List MemPlace} (hv : Value.okWide Tryz.prog W r b0 26 v) (h : DataW.Trod enc Tryz.prog W base held sp 26 v d p) :
    ∃ (b : Bool) (s1 s2 : ByteArray), v = .agg #[.bool b, .string s1, .string s2] ∧ d = .agg [.lit (.bool b), .lit (.string s1.data.toList), .lit (.string s2.data.toList)] ∧ p = [] ∧ s1.size ≤ maxLen ∧ s2.size ≤ maxLen := by
  obtain ⟨v0, v1, v2, y0, y1, y2, n, rfl, rfl, rfl, e0, e1, e2⟩ := Go.Joins.open_agg3 Tryz.underlying26 (by kernel_rfl) (by kernel_rfl) hv h
  obtain ⟨b, hb, rfl⟩ := DataW.trod_bool Tryz.underlying4 e0
  obtain ⟨s1, hs1, rfl, w1⟩ := DataW.trod_string Tryz.underlying24 e1
  obtain ⟨s2, hs2, rfl, w2⟩ := DataW.trod_string Tryz.underlying24 e2
  obtain rfl : v0 = .bool b := by simpa using hb
  obtain rfl : v1 = .string s1 := by simpa using hs1
  obtain rfl : v2 = .string s2 := by simpa using hs2
  exact ⟨b, s1, s2, rfl, rfl, rfl, w1, w2⟩
set_option maxRecDepth 100000 in
theorem shut_rat {H : Type} {enc : TypeId × Value → H} {W : World} {base : Nat} {sp : Bool} {held : Nat → Bool} (b : Bool) {s1 s2 : ByteArray} (w1 : s1.size ≤ maxLen) (w2 : s2.size ≤ maxLen) :
    DataW.Trod enc Tryz.prog W base held sp 26 (.agg #[.bool b, .string s1, .string s2]) (.agg [.lit (.bool b), .lit (.string s1.data.toList), .lit (.string s2.data.toList)]) [] :=
  Go.Joins.shut_agg3 (y0 := (.lit (.bool b), [])) (y1 := (.lit (.string s1.data.toList), [])) (y2 := (.lit (.string s2.data.toList), [])) Tryz.underlying26 (by kernel_rfl) (by kernel_rfl)
    ⟨1, by simp [DataW.trod, Tryz.underlying4]⟩ ⟨1, by simp [DataW.trod, Tryz.underlying24, w1]⟩ ⟨1, by simp [DataW.trod, Tryz.underlying24, w2]⟩
end Go.Proofs.YteccbedmpjeamaaGreatDoor
