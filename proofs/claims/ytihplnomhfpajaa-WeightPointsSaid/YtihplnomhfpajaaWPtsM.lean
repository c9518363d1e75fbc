/-
  Members by numbers, as the law WeightPoints makes them; slices that are cut; points compared.
-/
import Derived.Test.YtihplnomhfpajaaWRefPts
namespace Go.Proofs.Ytihplnomhfpajaa.W8
open Go.RowKit GM G4 D7P Go.Maps
theorem ptl_ok : ∀ (l : List Mb) (n : Int), (∀ s ∈ l, 1 ≤ s.2.1 ∧ s.2.1 ≤ 20) → 0 ≤ n → n + 20 * (l.length : Int) ≤ 10000 → ∀ q ∈ ptl n l, (∀ y ∈ q, i64 y) ∧ q.length ≤ 1000000000
  | [], _, _, _, _, q, h => by simp [ptl] at h
  | s :: l, n, hs, h0, h1, q, h => by
    have h2 := hs s (by simp)
    have h3 : n + 20 * ((l.length + 1 : Nat) : Int) ≤ 10000 := h1
    rcases List.mem_cons.1 h with rfl | h
    · refine ⟨fun y hy => ?_, by rw [rng_len]; omega⟩
      obtain ⟨i, hi, rfl⟩ := List.mem_map.1 hy
      have := List.mem_range.1 hi
      exact ⟨by omega, by omega⟩
    · exact ptl_ok l (n + s.2.1) (fun t ht => hs t (by simp [ht])) (by omega) (by omega) q h
theorem rgt_ok {l : List Mb} (h : Rgt l) : ∀ q ∈ ptl 1 l, (∀ y ∈ q, i64 y) ∧ q.length ≤ 1000000000 :=
  ptl_ok l 1 h.2.2.1.1 (by omega) (by have := h.2.1; omega)
theorem nil_LLi (w : World) : LLi w (.slice none 0 0) [] := ⟨none, 0, rfl, fun j l h => by simp at h⟩
/-- one element -/
def mk1 (i : Nat) (s : Int × Int) : Mb := (if Int.tmod s.2 20 = 19 then 4 + (i : Int) else 5 + (i : Int), Int.tmod s.1 24 - 1, 0)
def mks : Nat → List (Int × Int) → List Mb
  | _, [] => []
  | k, s :: l => mk1 k s :: mks (k + 1) l
theorem mks_len : ∀ (l : List (Int × Int)) (k : Nat), (mks k l).length = l.length
  | [], _ => rfl
  | x :: l, k => by show (mks (k+1) l).length + 1 = l.length + 1; rw [mks_len l]
theorem mks_append : ∀ (a b : List (Int × Int)) (k : Nat), mks k (a ++ b) = mks k a ++ mks (k + a.length) b
  | [], b, k => rfl
  | x :: a, b, k => by
    show mk1 k x :: mks (k+1) (a ++ b) = mk1 k x :: (mks (k+1) a ++ mks (k + (a.length + 1)) b)
    rw [mks_append a b, show k + 1 + a.length = k + (a.length + 1) by omega]
theorem mks_snoc (l : List (Int × Int)) (k : Nat) (s : Int × Int) (h : l[k]? = some s) : mks 0 (l.take (k+1)) = mks 0 (l.take k) ++ [mk1 k s] := by
  have hk := (List.getElem?_eq_some_iff.1 h).1
  rw [List.take_add_one, h, mks_append, List.length_take, Nat.min_eq_left (by omega), Nat.zero_add]; rfl
theorem tmod_b (a m : Int) (hm : 0 < m) : -m < Int.tmod a m ∧ Int.tmod a m < m := by
  constructor
  · exact Int.lt_tmod_of_pos a hm
  · exact Int.tmod_lt_of_pos a hm
theorem mks_rng : ∀ (l : List (Int × Int)) (k : Nat), k + l.length ≤ 1000000 → ∀ s ∈ mks k l, i64 s.1 ∧ i64 s.2.1 ∧ i64 s.2.2
  | [], _, _, s, h => by simp [mks] at h
  | x :: l, k, hl, s, h => by
    have h1 : k + (l.length + 1) ≤ 1000000 := hl
    rcases List.mem_cons.1 h with rfl | h
    · have hb := tmod_b x.1 24 (by decide)
      refine ⟨?_, ⟨by show _ ≤ Int.tmod x.1 24 - 1; omega, by show Int.tmod x.1 24 - 1 ≤ _; omega⟩, by show _ ≤ (0 : Int); decide, by show (0 : Int) ≤ _; decide⟩
      show i64 (if Int.tmod x.2 20 = 19 then 4 + (k : Int) else 5 + (k : Int))
      split <;> exact ⟨by omega, by omega⟩
    · exact mks_rng l (k+1) (by omega) s h
/-- a slice of members that came in -/
def MbA (W : World) (v : Value) (l : List Mb) : Prop := ∃ (p : Option Addr) (n c : Nat), v = .slice p n c ∧ l.length = n ∧ n ≤ c ∧ c ≤ maxLen ∧ (∀ (m : Nat), m ≤ n → MbL W (.slice p (l.take m).length c) (l.take m)) ∧ (p = none → n = 0 ∧ c = 0)
theorem cut_members {p : Option Addr} {n c : Nat} (h3 : n ≤ c) (h6 : p = none → n = 0 ∧ c = 0) (m : Nat) (hm : m ≤ n) (V : World) : (Instr.sliceAt 23 (.slice p n c) none (some (.int .i64 (m : Int))) none).run Try.prog V = .ok (.slice p m c) V := by
  have hmc : m ≤ c := by omega
  cases p with
  | none =>
    obtain ⟨rfl, rfl⟩ := h6 rfl
    obtain rfl : m = 0 := by omega
    simp [Instr.sliceAt, run_underlying Try.underlying23, go_sem]
  | some a =>
    simp [Instr.sliceAt, run_underlying Try.underlying23, go_sem]
    intro hlt
    omega
/-- both answers, and that they are alike -/
theorem pts_same {w w1 w2 : World} {l : List Mb} {e1 e2 : Ending} (h1 : PQ w l e1 w1) (h2 : PQ w1 l e2 w2) : ∃ p q c d n u, e1 = .returned (.tuple #[.slice p n c, .bool u]) ∧ e2 = .returned (.tuple #[.slice q n d, .bool u]) ∧ Below w.heap.size w w1 ∧ Below w1.heap.size w1 w2 ∧
    ∃ L, L.length ≤ 1000000000 ∧ LLi w2 (.slice p n c) L ∧ LLi w2 (.slice q n d) L := by
  rcases h1 with ⟨b1, (⟨hR, av, rfl, hA⟩ | ⟨hR, rfl⟩)⟩
  · rcases h2 with ⟨b2, (⟨_, bv, rfl, hB⟩ | ⟨hN, _⟩)⟩
    · have k1 := (hA.next b2).LLi (rgt_ok hR)
      have k2 := hB.LLi (rgt_ok hR)
      obtain ⟨p, c, rfl, _⟩ := id k1
      obtain ⟨q, d, rfl, _⟩ := id k2
      exact ⟨p, q, c, d, _, true, rfl, rfl, b1, b2, _, by rw [ptl_len]; have := hR.2.1; omega, k1, k2⟩
    · exact absurd hR hN
  · rcases h2 with ⟨b2, (⟨hN, _⟩ | ⟨_, rfl⟩)⟩
    · exact absurd hN hR
    · exact ⟨none, none, 0, 0, 0, false, rfl, rfl, b1, b2, [], by simp, nil_LLi _, nil_LLi _⟩
theorem pq_form {w w1 : World} {l : List Mb} {e : Ending} (h : PQ w l e w1) : ∃ p n c u, e = .returned (.tuple #[.slice p n c, .bool u]) ∧ Below w.heap.size w w1 := by
  rcases h with ⟨b1, (⟨hR, av, rfl, hA⟩ | ⟨hR, rfl⟩)⟩
  · obtain ⟨p, c, rfl, _⟩ := id (hA.LLi (rgt_ok hR))
    exact ⟨p, _, c, true, rfl, b1⟩
  · exact ⟨none, 0, 0, false, rfl, b1⟩
theorem pts_same' {w w1 w2 : World} {l : List Mb} {p q : Option Addr} {n m c d : Nat} {u u2 : Bool} (h1 : PQ w l (.returned (.tuple #[.slice p n c, .bool u])) w1) (h2 : PQ w1 l (.returned (.tuple #[.slice q m d, .bool u2])) w2) :
    u2 = u ∧ ∃ L, L.length ≤ 1000000000 ∧ LLi w2 (.slice p n c) L ∧ LLi w2 (.slice q m d) L := by
  obtain ⟨p', q', c', d', n', u', e1, e2, _, _, L, hL, k1, k2⟩ := pts_same h1 h2
  simp only [Ending.returned.injEq, Value.tuple.injEq, Array.mk.injEq, List.cons.injEq, Value.slice.injEq, Value.bool.injEq, and_true] at e1 e2
  obtain ⟨⟨rfl, rfl, rfl⟩, rfl⟩ := e1
  obtain ⟨⟨rfl, rfl, rfl⟩, rfl⟩ := e2
  exact ⟨rfl, L, hL, k1, k2⟩
end Go.Proofs.Ytihplnomhfpajaa.W8
