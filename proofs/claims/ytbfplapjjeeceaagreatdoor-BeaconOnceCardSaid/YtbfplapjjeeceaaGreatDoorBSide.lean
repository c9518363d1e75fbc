/-
  What is shared by the laws over polls: sizes, sides of a proof, calls of powers.
-/
import Derived.Test.YtbfplapjjeeceaaGreatDoorBMake
namespace Go.Proofs.YtbfplapjjeeceaaGreatDoor.B9
open Go.RowKit GM SH G4 E6 D7P
open W8 hiding i64 jn pX pY
theorem M_rg (lw : List Int) : 1 ≤ many (LP lw) ∧ many (LP lw) ≤ 60 := by
  have h := mbl_tot lw
  have h2 := LP_many lw
  omega
theorem pow9 (W : World) (a n r : Int) (h : pp a n = r) (ha : i64 a) (hn : i64 n) : Calls Tryz.prog 21 #[.int .i64 a, .int .i64 n, .int .i64 2305843009213691579] W fun e w' => e = .returned (.int .i64 r) ∧ Below W.heap.size W w' :=
  pow_k W a n 2305843009213691579 r ((pp_def a n).trans h) ha.1 ha.2 hn.2 (by decide)
theorem bs_i64 (r : Int) : i64 (bs r) := ⟨by have := bs_rng r; omega, by have := bs_rng r; omega⟩
theorem take_map_zip {α : Type} (f g : α → Int) : ∀ (l : List α) (n : Nat), ((l.map fun x => (f x, g x)).take n |>.map Prod.fst) = (l.take n).map f ∧ ((l.map fun x => (f x, g x)).take n |>.map Prod.snd) = (l.take n).map g := fun l n => by
  rw [← List.map_take]
  simp only [List.map_map]
  exact ⟨rfl, rfl⟩
theorem zip_self (g : Int → Int) : ∀ l : List Int, (l.map fun x => x).zip (l.map g) = l.map fun x => (x, g x)
  | [] => rfl
  | x :: l => by
    show (x, g x) :: (l.map fun x => x).zip (l.map g) = _
    rw [zip_self g l]; rfl
/-- right partials of enough points lead to the power with the first coefficient -/
theorem lf_const (N xs : List Int) (r : Int) (hx : ∀ x ∈ xs, 1 ≤ x ∧ x ≤ 60) (hnd : xs.Nodup) (h1 : 1 ≤ N.length) (hl : N.length ≤ xs.length) (h0 : 0 ≤ N.headD 0 ∧ N.headD 0 < 1152921504606845789) :
    lf (N.length : Int) (prs (xs.map (pt N r))) = pp (bs r) (N.headD 0) := by
  have e : prs (xs.map (pt N r)) = xs.map fun x => (x, pp (bs r) (D7.vl N x)) := by
    unfold prs; rw [List.map_map]; rfl
  rw [e]
  have hc : cnt mem (xs.map fun x => (x, pp (bs r) (D7.vl N x))) = xs.map fun x => (x, pp (bs r) (D7.vl N x)) := cnt_self _ (fun s hs => by
    obtain ⟨x, hm, rfl⟩ := List.mem_map.1 hs
    have := hx x hm
    exact ⟨this.1, by show x < _; omega, pp_mem (bs_mem r) _ (D7.vl_rng _ _).1⟩) (by
    rw [List.map_map, show (Prod.fst ∘ fun x => (x, pp (bs r) (D7.vl N x))) = id from rfl, List.map_id]; exact hnd)
  have he : enough mem (N.length : Int) (xs.map fun x => (x, pp (bs r) (D7.vl N x))) = true := enough_yes (by omega) (by rw [hc, List.length_map]; omega)
  unfold lf
  rw [he, if_pos rfl]
  unfold W8.pX W8.pY
  rw [hc]
  have ht := take_map_zip (fun x => x) (fun x => pp (bs r) (D7.vl N x)) xs N.length
  rw [show (N.length : Int).toNat = N.length from Int.toNat_natCast _, ht.1, ht.2, zip_self, List.map_id']
  exact jl_const (bs_mem r) N (xs.take N.length) ⟨fun x hm => by have := hx x (List.mem_of_mem_take hm); omega, hnd.sublist (List.take_sublist _ _)⟩ (by rw [List.length_take]; omega) h0
end Go.Proofs.YtbfplapjjeeceaaGreatDoor.B9
