/-
  What a law's arguments are: slices of numbers.
  What came in: shares, partials, polls, picks.
-/
import Derived.Test.YtbfplapjjeeceaaGreatDoorDValue
import Derived.ChangeSlices
import Derived.OpenShut
import Derived.Lib.SmallJoins
import Derived.WideKeyPair
import Derived.Test.YtbfplapjjeeceaaGreatDoorBSanW
import Derived.SizedLaws
import Derived.WideShapes
import Derived.Deep.Slices
import Derived.Deep.Strs
namespace Go.Proofs.YtbfplapjjeeceaaGreatDoor.D7
open Go.ChangeShapes Go.WideShapes Go.ChangeAt Go.RowKit GM SH G4 E6 D7P
theorem cellsI : Tryz.prog.cellsOf 3 = 1 := by kernel_rfl
theorem lit_i64 {n : Int} (h : (Lit.int .i64 n).wf = true) : i64 n := bounds_i64 h
/-- a slice of numbers that came in -/
def AL (W : World) (v : Value) (l : List Int) : Prop := ∃ (p : Option Addr) (n c : Nat), v = .slice p n c ∧ l.length = n ∧ n ≤ c ∧ c ≤ maxLen ∧ SL W (.slice p n c) l ∧ (∀ x ∈ l, i64 x) ∧ (p = none → n = 0 ∧ c = 0)
theorem al_trod {H : Type} {enc : TypeId × Value → H} {W : World} {fuel : Nat} {v : Value} {y : DataW H × List MemPlace} (h : DataW.trod enc Tryz.prog W 0 (fun _ => true) true fuel 34 [v] = some y) : ∃ l, AL W v l := by
  rcases open_ints Tryz.underlying34 Tryz.underlying3 cellsI h with ⟨hcs, _⟩ | ⟨a, len, cap, zs, hcs, _, hl, hm, hz, _, hcell, hwf⟩
  · obtain rfl : v = .slice none 0 0 := by simpa using hcs
    exact ⟨[], none, 0, 0, rfl, rfl, Nat.le_refl _, by decide, VL.nil _ _ _, fun x hx => (by cases hx), fun _ => ⟨rfl, rfl⟩⟩
  · obtain rfl : v = .slice (some a) len cap := by simpa using hcs
    simp only [if_true] at hz
    have hlen : (zs.take len).length = len := by rw [List.length_take]; omega
    refine ⟨zs.take len, some a, len, cap, rfl, hlen, hl, hm, ⟨some a, cap, by rw [List.length_map, hlen], fun j x hj => ?_⟩, fun x hx => lit_i64 (hwf x (List.mem_of_mem_take hx)), fun e => by cases e⟩
    rw [List.getElem?_map] at hj
    cases hk : (zs.take len)[j]? with
    | none => rw [hk] at hj; simp at hj
    | some z =>
      rw [hk] at hj
      simp at hj
      subst hj
      have hjl : j < len := by have := (List.getElem?_eq_some_iff.1 hk).1; omega
      rw [List.getElem?_take_of_lt hjl] at hk
      have hc := hcell j (by omega)
      obtain ⟨b, off, spot⟩ := a
      have hspot : spot = none := by simpa [Addr.add] using World.cell?_spot (hcell 0 (by omega))
      subst hspot
      refine ⟨b, off, rfl, ?_⟩
      rw [← Lib.add_plain, hc]
      simp [List.getD_eq_getElem?_getD, hk]
theorem AL.cut {W : World} {p : Option Addr} {n c : Nat} {l : List Int} (h : AL W (.slice p n c) l) (m : Nat) (hm : m ≤ n) (V : World) : (Instr.sliceAt 34 (.slice p n c) none (some (.int .i64 (m : Int))) none).run Tryz.prog V = .ok (.slice p m c) V := by
  obtain ⟨p', n', c', e, h1, h2, h3, h4, h5, h6⟩ := h
  cases e
  have hmc : m ≤ c := by omega
  cases p with
  | none =>
    obtain ⟨rfl, rfl⟩ := h6 rfl
    obtain rfl : m = 0 := by omega
    simp [Instr.sliceAt, run_underlying Tryz.underlying34, go_sem]
  | some a =>
    simp [Instr.sliceAt, run_underlying Tryz.underlying34, go_sem]
    intro hlt
    omega
end Go.Proofs.YtbfplapjjeeceaaGreatDoor.D7
namespace Go.Proofs.YtbfplapjjeeceaaGreatDoor.B9
open Go.ChangeShapes Go.WideShapes Go.ChangeAt Go.RowKit GM SH G4 E6 D7P
/-- a slice whose elements are sz numbers each -/
def FlK (W : World) (k : IntKind) (sz : Nat) (v : Value) (p : Option Addr) (n c : Nat) (Z : Nat → Nat → Int) : Prop :=
  v = .slice p n c ∧ n ≤ c ∧ c ≤ maxLen ∧ (p = none → n = 0 ∧ c = 0) ∧ ∀ j i, j < n → i < sz → (Lit.int k (Z j i)).wf = true ∧ ∃ b o, p = some ⟨b, o, none⟩ ∧ W.cell? ⟨b, o + j * sz + i, none⟩ = some (.int k (Z j i))
theorem open_flatK {H : Type} {enc : TypeId × Value → H} {W : World} {k : IntKind} {t e : TypeId} {sz fuel : Nat} {v : Value} {y : DataW H × List MemPlace} (ht : Tryz.prog.underlying t = some (.slice e)) (hce : Tryz.prog.cellsOf e = sz) (hsz : 0 < sz)
    (hel : ∀ (fuel : Nat) (cs : List Value) (x : DataW H × List MemPlace), DataW.trod enc Tryz.prog W 0 (fun _ => true) true fuel e cs = some x → ∀ i, i < sz → ∃ z, cs[i]? = some (.int k z) ∧ (Lit.int k z).wf = true)
    (h : DataW.trod enc Tryz.prog W 0 (fun _ => true) true fuel t [v] = some y) : ∃ p n c Z, FlK W k sz v p n c Z := by
  rcases Go.Deep.open_slice ht h with ⟨hcs, _⟩ | ⟨a, len, cap, m, k', D, Pl, hcs, _, hl, hm, hmm, _, hx⟩
  · obtain rfl : v = .slice none 0 0 := by simpa using hcs
    exact ⟨none, 0, 0, fun _ _ => 0, rfl, Nat.le_refl _, by decide, fun _ => ⟨rfl, rfl⟩, fun j i hj => absurd hj (by omega)⟩
  · obtain rfl : v = .slice (some a) len cap := by simpa using hcs
    simp only [if_true] at hmm
    have key : ∀ j i, ∃ z, j < len → i < sz → W.cell? (a.add (j * sz + i)) = some (.int k z) ∧ (Lit.int k z).wf = true := fun j i => by
      by_cases hj : j < len
      · by_cases hi : i < sz
        · obtain ⟨cs', h1, h2⟩ := hx j (by omega)
          rw [hce] at h1
          obtain ⟨_, hlen, hcell⟩ := World.cells?_some h1
          obtain ⟨z, hz, hiz⟩ := hel _ _ _ h2 i hi
          refine ⟨z, fun _ _ => ⟨?_, hiz⟩⟩
          have := hcell i hi
          rw [Go.Deep.add_add] at this
          rw [this, hz]
        · exact ⟨0, fun _ h => absurd h hi⟩
      · exact ⟨0, fun h => absurd h hj⟩
    refine ⟨some a, len, cap, fun j i => Classical.choose (key j i), rfl, hl, hm, fun e => (by cases e), fun j i hj hi => ?_⟩
    obtain ⟨h1, h2⟩ := Classical.choose_spec (key j i) hj hi
    refine ⟨h2, ?_⟩
    obtain ⟨b, off, spot⟩ := a
    have hspot : spot = none := by have h0 := (Classical.choose_spec (key 0 0) (by omega) hsz).1; simpa [Addr.add] using World.cell?_spot h0
    subst hspot
    refine ⟨b, off, rfl, ?_⟩
    rw [Nat.add_assoc, ← add_plain]
    exact h1
theorem kC : Tryz.prog.cellsOf 3 = 1 := by kernel_rfl
theorem kU : Tryz.prog.cellsOf 5 = 1 := by kernel_rfl
theorem int_lit {n : Int} (h : (Lit.int .i64 n).wf = true) : i64 n := bounds_i64 h
set_option maxRecDepth 100000 in
theorem open_pa {H : Type} {enc : TypeId × Value → H} {W : World} {b0 : Nat} {v : Value} {d : DataW H} {p : List MemPlace} (hv : Value.okWide Tryz.prog W .any b0 30 v) (h : DataW.Trod enc Tryz.prog W 0 (fun _ => true) true 30 v d p) :
    ∃ a b c e : Int, v = .agg #[.int .i64 a, .int .i64 b, .int .i64 c, .int .i64 e] ∧ i64 a ∧ i64 b ∧ i64 c ∧ i64 e := by
  obtain ⟨cs, rfl, hsz⟩ := okWide_struct Tryz.underlying30 hv
  have k4 : Tryz.prog.cellsOf 30 = 4 := by kernel_rfl
  rw [k4] at hsz
  obtain ⟨c0, c1, c2, c3, rfl⟩ := Go.Joins.array4 hsz
  obtain ⟨fuel, hf⟩ := h
  obtain ⟨y0, y1, y2, n, _, _, h0, h1, h2⟩ := Go.Deep.trod_struct3 Tryz.underlying30 hf
  have k2 : Tryz.prog.cellsOf 28 = 2 := by kernel_rfl
  obtain ⟨z0, z1, m, _, _, g0, g1⟩ := trod_struct2 Tryz.underlying28 h2
  obtain ⟨a, ea, _, wa⟩ := DataW.trod_int Tryz.underlying3 h0
  obtain ⟨b, eb, _, wb⟩ := DataW.trod_int Tryz.underlying3 h1
  obtain ⟨c, ec, _, wc⟩ := DataW.trod_int Tryz.underlying3 g0
  obtain ⟨e, ee, _, we⟩ := DataW.trod_int Tryz.underlying3 g1
  simp only [kC, k2, Value.cells] at ea eb ec ee
  simp at ea eb ec ee
  subst ea eb ec ee
  exact ⟨a, b, c, e, rfl, int_lit wa, int_lit wb, int_lit wc, int_lit we⟩
theorem one_u8 {H : Type} {enc : TypeId × Value → H} {W : World} (fuel : Nat) (cs : List Value) (x : DataW H × List MemPlace) (h : DataW.trod enc Tryz.prog W 0 (fun _ => true) true fuel 5 cs = some x) : ∀ i, i < 1 → ∃ z, cs[i]? = some (.int .u8 z) ∧ (Lit.int .u8 z).wf = true := by
  obtain ⟨n, hn, _, hw⟩ := DataW.trod_int Tryz.underlying5 h
  intro i hi
  obtain rfl : i = 0 := by omega
  exact ⟨n, by rw [hn]; rfl, hw⟩
theorem pick_u8 {H : Type} {enc : TypeId × Value → H} {W : World} (fuel : Nat) (cs : List Value) (x : DataW H × List MemPlace) (h : DataW.trod enc Tryz.prog W 0 (fun _ => true) true fuel 82 cs = some x) : ∀ i, i < 2 → ∃ z, cs[i]? = some (.int .u8 z) ∧ (Lit.int .u8 z).wf = true := by
  obtain ⟨z0, z1, m, _, _, g0, g1⟩ := trod_struct2 Tryz.underlying82 h
  obtain ⟨a, ea, _, wa⟩ := DataW.trod_int Tryz.underlying5 g0
  obtain ⟨b, eb, _, wb⟩ := DataW.trod_int Tryz.underlying5 g1
  simp only [kU] at ea eb
  intro i hi
  match i, hi with
  | 0, _ =>
    refine ⟨a, ?_, wa⟩
    have := congrArg (fun l => l[0]?) ea
    simpa using this
  | 1, _ =>
    refine ⟨b, ?_, wb⟩
    have := congrArg (fun l => l[0]?) eb
    simpa using this
/-- a slice of bytes that came in -/
def BL (W : World) (v : Value) (l : List Int) : Prop := ∃ (p : Option Addr) (c : Nat), v = .slice p l.length c ∧ l.length ≤ maxLen ∧ (∀ x ∈ l, 0 ≤ x ∧ x ≤ 255) ∧ ∀ (j : Nat) (x : Int), l[j]? = some x → ∃ b o, p = some ⟨b, o, none⟩ ∧ W.cell? ⟨b, o + j, none⟩ = some (.int .u8 x)
theorem bl_trod {H : Type} {enc : TypeId × Value → H} {W : World} {fuel : Nat} {v : Value} {y : DataW H × List MemPlace} (h : DataW.trod enc Tryz.prog W 0 (fun _ => true) true fuel 33 [v] = some y) : ∃ l, BL W v l := by
  obtain ⟨p, n, c, Z, rfl, hn, hc, _, hz⟩ := open_flatK (k := .u8) (e := 5) (sz := 1) Tryz.underlying33 kU (by decide) one_u8 h
  refine ⟨(List.range n).map fun j => Z j 0, p, c, by simp, by simp; omega, ?_, ?_⟩
  · intro x hx
    obtain ⟨j, hj, rfl⟩ := List.mem_map.1 hx
    exact bounds_u8 (hz j 0 (List.mem_range.1 hj) (by decide)).1
  · intro j x hj
    rw [List.getElem?_map] at hj
    obtain ⟨i, hi, rfl⟩ := Option.map_eq_some_iff.1 hj
    obtain ⟨hjn, rfl⟩ := List.getElem?_eq_some_iff.1 hi
    simp only [List.length_range] at hjn
    obtain ⟨_, b, o, e, hc⟩ := hz j 0 hjn (by decide)
    refine ⟨b, o, e, ?_⟩
    rw [List.getElem_range]
    simpa using hc
/-- picks that came in -/
def PkL (W : World) (v : Value) (l : List (Int × Int)) : Prop := ∃ (p : Option Addr) (c : Nat), v = .slice p l.length c ∧ l.length ≤ maxLen ∧ (∀ x ∈ l, (0 ≤ x.1 ∧ x.1 ≤ 255) ∧ 0 ≤ x.2 ∧ x.2 ≤ 255) ∧ ∀ (j : Nat) (x : Int × Int), l[j]? = some x → ∃ b o, p = some ⟨b, o, none⟩ ∧ W.cell? ⟨b, o + j * 2, none⟩ = some (.int .u8 x.1) ∧ W.cell? ⟨b, o + j * 2 + 1, none⟩ = some (.int .u8 x.2)
theorem pk_trod {H : Type} {enc : TypeId × Value → H} {W : World} {fuel : Nat} {v : Value} {y : DataW H × List MemPlace} (h : DataW.trod enc Tryz.prog W 0 (fun _ => true) true fuel 37 [v] = some y) : ∃ l, PkL W v l := by
  have k2 : Tryz.prog.cellsOf 82 = 2 := by kernel_rfl
  obtain ⟨p, n, c, Z, rfl, hn, hc, _, hz⟩ := open_flatK (k := .u8) (e := 82) (sz := 2) Tryz.underlying37 k2 (by decide) pick_u8 h
  refine ⟨(List.range n).map fun j => (Z j 0, Z j 1), p, c, by simp, by simp; omega, ?_, ?_⟩
  · intro x hx
    obtain ⟨j, hj, rfl⟩ := List.mem_map.1 hx
    exact ⟨bounds_u8 (hz j 0 (List.mem_range.1 hj) (by decide)).1, bounds_u8 (hz j 1 (List.mem_range.1 hj) (by decide)).1⟩
  · intro j x hj
    rw [List.getElem?_map] at hj
    obtain ⟨i, hi, rfl⟩ := Option.map_eq_some_iff.1 hj
    obtain ⟨hjn, rfl⟩ := List.getElem?_eq_some_iff.1 hi
    simp only [List.length_range] at hjn
    obtain ⟨_, b, o, e, hc0⟩ := hz j 0 hjn (by decide)
    obtain ⟨_, b', o', e', hc1⟩ := hz j 1 hjn (by decide)
    rw [e] at e'
    injection e' with e'
    injection e' with e1 e2
    subst e1 e2
    refine ⟨b, o, e, ?_, ?_⟩
    · rw [List.getElem_range]; simpa using hc0
    · rw [List.getElem_range]; exact hc1
set_option maxRecDepth 100000 in
theorem open_poll {H : Type} {enc : TypeId × Value → H} {W : World} {b0 : Nat} {v : Value} {d : DataW H} {p : List MemPlace} (hv : Value.okWide Tryz.prog W .any b0 36 v) (h : DataW.Trod enc Tryz.prog W 0 (fun _ => true) true 36 v d p) :
    ∃ wv cv lw lc, v = .agg #[wv, cv] ∧ BL W wv lw ∧ D7.AL W cv lc := by
  obtain ⟨cs, rfl, hsz⟩ := okWide_struct Tryz.underlying36 hv
  have k2 : Tryz.prog.cellsOf 36 = 2 := by kernel_rfl
  rw [k2] at hsz
  obtain ⟨c0, c1, rfl⟩ : ∃ c0 c1, cs = #[c0, c1] := by
    obtain ⟨l⟩ := cs
    match l, hsz with
    | [a, b], _ => exact ⟨a, b, rfl⟩
  obtain ⟨fuel, hf⟩ := h
  obtain ⟨z0, z1, m, _, _, g0, g1⟩ := trod_struct2 Tryz.underlying36 hf
  have q0 : Tryz.prog.cellsOf 33 = 1 := by kernel_rfl
  have q1 : Tryz.prog.cellsOf 34 = 1 := by kernel_rfl
  simp only [q0, Value.cells] at g0
  simp only [q1, Value.cells] at g1
  obtain ⟨lw, hw⟩ := bl_trod (v := c0) (by simpa using g0)
  obtain ⟨lc, hc⟩ := D7.al_trod (v := c1) (by simpa using g1)
  exact ⟨c0, c1, lw, lc, rfl, hw, hc⟩
end Go.Proofs.YtbfplapjjeeceaaGreatDoor.B9
