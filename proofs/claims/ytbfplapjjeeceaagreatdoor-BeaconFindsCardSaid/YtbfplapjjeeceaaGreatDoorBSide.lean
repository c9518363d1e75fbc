/-
  What is shared by the laws over polls: sizes, sides of a proof, calls of powers.
-/
import Derived.Test.YtbfplapjjeeceaaGreatDoorBMake
namespace Go.Proofs.YtbfplapjjeeceaaGreatDoor.B9
open Go.RowKit GM SH G4 E6 D7P
open W8 hiding i64 jn pX pY
theorem M_rg (lw : List Int) : 1 ≤ many (LP lw) ∧ many (LP lw) ≤ 60 := by
  have h := mbl_tot lw
  have h2 := LP_many lw
  omega
theorem acc_same {C : List Int} {n r s : Int} (h : bs r = bs s) (p : Pa) : acc C n r p = acc C n s p := by unfold acc; rw [h]
/-- whether a partial with a proof's numbers in range is accepted -/
theorem vf_is {g a h b C Z : Int} (hC : 0 ≤ C ∧ C < 1152921504606845789) (hZ : 0 ≤ Z ∧ Z < 1152921504606845789) (hg : mem g = true) (ha : mem a = true) (hh : mem h = true) (hb : mem b = true) :
    vf g a h b C Z = (ch [g, a, h, b, sd g a C Z, sd h b C Z] == C) := by
  unfold vf
  rw [inQ_t hC, inQ_t hZ, hg, ha, hh, hb]
  simp only [Bool.and_true, Bool.true_and]
  exact Bool.eq_iff_iff.2 (by simp only [beq_iff_eq]; exact eq_comm)
theorem chal_six (W : World) (a b c d e f v : Int) (h : ch [a, b, c, d, e, f] = v) (ha : i64 a) (hb : i64 b) (hc : i64 c) (hd : i64 d) (he : i64 e) (hf : i64 f) :
    Calls Tryz.prog 26 #[.slice (some ⟨W.heap.size, 0, none⟩) 6 6] (W.alloc (.cells #[.int .i64 a, .int .i64 b, .int .i64 c, .int .i64 d, .int .i64 e, .int .i64 f] 3)) fun e w' => e = .returned (.int .i64 v) ∧ Below W.heap.size W w' :=
  refChallenge_new W 6 a [b, c, d, e, f] v rfl h (by simp only [List.mem_cons, List.not_mem_nil, or_false, forall_eq_or_imp, forall_eq]; exact ⟨ha, hb, hc, hd, he, hf⟩) (by decide)
theorem pow9 (W : World) (a n r : Int) (h : pp a n = r) (ha : i64 a) (hn : i64 n) : Calls Tryz.prog 21 #[.int .i64 a, .int .i64 n, .int .i64 2305843009213691579] W fun e w' => e = .returned (.int .i64 r) ∧ Below W.heap.size W w' :=
  pow_k W a n 2305843009213691579 r ((pp_def a n).trans h) ha.1 ha.2 hn.2 (by decide)
theorem mul9 (W : World) (a b r : Int) (h : gm a b 2305843009213691579 = r) (ha : i64 a) (hb : i64 b) : Calls Tryz.prog 24 #[.int .i64 a, .int .i64 b, .int .i64 2305843009213691579] W fun e w' => e = .returned (.int .i64 r) ∧ Below W.heap.size W w' :=
  (mul_k W a b 2305843009213691579 r h ha.1 ha.2 hb.1 hb.2 (by decide)).mono fun _ _ h => ⟨h.1, by rw [h.2]; exact Below.refl _ _⟩
theorem member9 (W : World) (a : Int) (h : mem a = true) (ha : i64 a) : Calls Tryz.prog 32 #[.int .i64 a] W fun e w' => e = .returned (.bool true) ∧ Below W.heap.size W w' :=
  (Member_any W a ha.1 ha.2).mono fun _ _ k => ⟨by rw [k.1, h], k.2⟩
theorem wrap_sub (c : Int) (h : 0 ≤ c ∧ c < 1152921504606845789) : IntKind.i64.wrap (1152921504606845789 - c) = 1152921504606845789 - c := by rw [IntKind.wrap_i64]; omega
theorem sd_is (g a C Z d u v : Int) (hd : 1152921504606845789 - C = d) (hu : pp g Z = u) (hv : pp a d = v) : gm u v 2305843009213691579 = sd g a C Z := by unfold sd; rw [hd, hu, hv]
theorem bs_i64 (r : Int) : i64 (bs r) := ⟨by have := bs_rng r; omega, by have := bs_rng r; omega⟩
theorem sub_i64 (c d : Int) (h : 0 ≤ c ∧ c < 1152921504606845789) (e : 1152921504606845789 - c = d) : i64 d := ⟨by omega, by omega⟩
theorem memG_mul {p q : Nat} (hq : q ≠ 0) {a b : Int} (ha : memG p q a) (hb : memG p q b) (hp : 2 ≤ (p : Int)) : memG p q (a * b % (p : Int)) := by
  have e : (a * b % (p : Int))^q % (p : Int) = 1 := by
    rw [pow_emod, Int.mul_pow, Int.mul_emod, ha.2.2, hb.2.2]
    exact Int.emod_eq_of_lt (by omega) (by omega)
  have r := rng (f := a * b) (m := (p : Int)) (by omega)
  refine ⟨?_, r.2, e⟩
  rcases Int.lt_or_le 0 (a * b % (p : Int)) with h2 | h2
  · exact h2
  · exfalso
    rw [show a * b % (p : Int) = 0 by omega, Int.zero_pow hq] at e
    simp at e
/-- the product of members is a member -/
theorem mem_mul {a b : Int} (ha : mem a = true) (hb : mem b = true) : mem (gm a b 2305843009213691579) = true := by
  rw [gmP]
  exact (mem_iff _).2 (memG_mul (by decide) ((mem_iff a).1 ha) ((mem_iff b).1 hb) (by decide))
theorem take_map_zip {α : Type} (f g : α → Int) : ∀ (l : List α) (n : Nat), ((l.map fun x => (f x, g x)).take n |>.map Prod.fst) = (l.take n).map f ∧ ((l.map fun x => (f x, g x)).take n |>.map Prod.snd) = (l.take n).map g := fun l n => by
  rw [← List.map_take]
  simp only [List.map_map]
  exact ⟨rfl, rfl⟩
theorem zip_self (g : Int → Int) : ∀ l : List Int, (l.map fun x => x).zip (l.map g) = l.map fun x => (x, g x)
  | [] => rfl
  | x :: l => by
    show (x, g x) :: (l.map fun x => x).zip (l.map g) = _
    rw [zip_self g l]; rfl
/-- right partials of enough points lead to the power with the first coefficient -/
theorem lf_const (N xs : List Int) (r : Int) (hx : ∀ x ∈ xs, 1 ≤ x ∧ x ≤ 60) (hnd : xs.Nodup) (h1 : 1 ≤ N.length) (hl : N.length ≤ xs.length) (h0 : 0 ≤ N.headD 0 ∧ N.headD 0 < 1152921504606845789) :
    lf (N.length : Int) (prs (xs.map (pt N r))) = pp (bs r) (N.headD 0) := by
  have e : prs (xs.map (pt N r)) = xs.map fun x => (x, pp (bs r) (D7.vl N x)) := by
    unfold prs; rw [List.map_map]; rfl
  rw [e]
  have hc : cnt mem (xs.map fun x => (x, pp (bs r) (D7.vl N x))) = xs.map fun x => (x, pp (bs r) (D7.vl N x)) := cnt_self _ (fun s hs => by
    obtain ⟨x, hm, rfl⟩ := List.mem_map.1 hs
    have := hx x hm
    exact ⟨this.1, by show x < _; omega, pp_mem (bs_mem r) _ (D7.vl_rng _ _).1⟩) (by
    rw [List.map_map, show (Prod.fst ∘ fun x => (x, pp (bs r) (D7.vl N x))) = id from rfl, List.map_id]; exact hnd)
  have he : enough mem (N.length : Int) (xs.map fun x => (x, pp (bs r) (D7.vl N x))) = true := enough_yes (by omega) (by rw [hc, List.length_map]; omega)
  unfold lf
  rw [he, if_pos rfl]
  unfold W8.pX W8.pY
  rw [hc]
  have ht := take_map_zip (fun x => x) (fun x => pp (bs r) (D7.vl N x)) xs N.length
  rw [show (N.length : Int).toNat = N.length from Int.toNat_natCast _, ht.1, ht.2, zip_self, List.map_id']
  exact jl_const (bs_mem r) N (xs.take N.length) ⟨fun x hm => by have := hx x (List.mem_of_mem_take hm); omega, hnd.sublist (List.take_sublist _ _)⟩ (by rw [List.length_take]; omega) h0
theorem filt_split {α : Type} (p : α → Bool) (l : List α) : (l.filter (fun x => !p x)).length + (l.filter p).length = l.length := by
  induction l with
  | nil => rfl
  | cons x l ih => cases h : p x <;> simp [h] <;> omega
end Go.Proofs.YtbfplapjjeeceaaGreatDoor.B9
