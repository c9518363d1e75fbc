/-
  The walks of equal.members, exponents, challenge, and the two closures.
-/
import Derived.Test.YtbfplapjjeeceaaGreatDoorEBase
import Derived.Deep.RegionHeld3
namespace Go.Proofs.YtbfplapjjeeceaaGreatDoor.E6
open Go.RowKit GM SH G4
theorem all_yes (p : Int → Bool) (l : List Int) (k : Nat) (x : Int) (hx : l[k]? = some x) (h : (l.take k).all p = true) (hp : p x = true) : (l.take (k+1)).all p = true := by
  rw [List.take_add_one, hx, List.all_append, h]; simp [hp]
theorem all_no (p : Int → Bool) (l : List Int) (k : Nat) (x : Int) (hx : l[k]? = some x) (hp : p x = false) : l.all p = false := by
  rw [List.all_eq_false]
  exact ⟨x, List.mem_of_getElem? hx, by simp [hp]⟩
set_option maxRecDepth 100000 in
set_option maxHeartbeats 2000000 in
theorem members_any (w : World) (bk c n : Nat) (l : List Int) (hn : l.length = n) (hI : IL w bk l) (hr : ∀ x ∈ l, i64 x) (hN : n ≤ 1000) :
    Calls Tryz.prog 71 #[.slice (some ⟨bk, 0, none⟩) n c] w fun e w' => e = .returned (.bool (l.all mem)) ∧ Below w.heap.size w w' := by
  subst hn
  have HI := Lib.hid (And.intro hI hr); clear hI hr
  go_enter Tryz.func71, Tryz.ntmps71
  go_wp2_with fail
  go_loopw [7] (fun i wr => ∃ (k : Nat), k ≤ l.length ∧ i = .int .i64 (k : Int) ∧ Hid ((l.take k).all mem = true) ∧ Hid (Below w.heap.size w wr)) (fun i _ => l.length - (match i with | .int _ i => i.toNat | _ => 0))
  case atStart => exact ⟨0, Nat.zero_le _, rfl, Lib.hid (by simp), Lib.hid (Below.refl _ _)⟩
  case round =>
    obtain ⟨k, hk, rfl, ht, hb⟩ := hrel
    by_cases hlt : k < l.length
    · obtain ⟨x, hx⟩ : ∃ x, l[k]? = some x := ⟨l[k], List.getElem?_eq_getElem hlt⟩
      have hc := (HI.out.1.below hb.out) k x hx
      have hix := Lib.hid (HI.out.2 x (List.mem_of_getElem? hx))
      have HX := Lib.hid hx; clear hx
      by_cases hm : mem x = true
      · have M := Lib.hid fun W => member_k W x true hm hix.out.1 hix.out.2
        have ht2 := Lib.hid (all_yes mem l k x HX.out ht.out hm)
        clear hm
        go_wp2_with fail
        refine (M.out _).mono ?_
        rintro e w1 ⟨rfl, b⟩
        have hb1 := Lib.hid (hb.out.trans (b.mono hb.out.size)); clear b hc
        go_wp2
        exact ⟨⟨k + 1, by omega, by simp, ht2, hb1⟩, by simp; omega⟩
      · have hm2 : mem x = false := by simpa using hm
        have M := Lib.hid fun W => member_k W x false hm2 hix.out.1 hix.out.2
        have E := Lib.hid (all_no mem l k x HX.out hm2)
        clear hm hm2
        go_wp2_with fail
        refine (M.out _).mono ?_
        rintro e w1 ⟨rfl, b⟩
        have hb1 := Lib.hid (hb.out.trans (b.mono hb.out.size)); clear b hc
        go_wp2
        go_ret
        exact ⟨by rw [E.out]; rfl, hb1.out⟩
    · obtain rfl : k = l.length := by omega
      have E := Lib.hid (show l.all mem = true by have := ht.out; rwa [List.take_length] at this)
      go_wp2
      go_ret
      exact ⟨by rw [E.out]; rfl, hb.out⟩
set_option maxRecDepth 100000 in
set_option maxHeartbeats 2000000 in
theorem exponents_any (w : World) (bk c n : Nat) (l : List Int) (hn : l.length = n) (hI : IL w bk l) (hr : ∀ x ∈ l, i64 x) (hN : n ≤ 1000) :
    Calls Tryz.prog 113 #[.slice (some ⟨bk, 0, none⟩) n c] w fun e w' => e = .returned (.bool (l.all inQ)) ∧ w' = w := by
  subst hn
  have HI := Lib.hid (And.intro hI hr); clear hI hr
  go_enter Tryz.func113, Tryz.ntmps113
  go_wp2_with fail
  go_loop [7] (fun i => ∃ (k : Nat), k ≤ l.length ∧ i = .int .i64 (k : Int) ∧ Hid ((l.take k).all inQ = true)) (fun i => l.length - (match i with | .int _ i => i.toNat | _ => 0))
  case atStart => exact ⟨0, Nat.zero_le _, rfl, Lib.hid (by simp)⟩
  case round =>
    obtain ⟨k, hk, rfl, ht⟩ := hrel
    by_cases hlt : k < l.length
    · obtain ⟨x, hx⟩ : ∃ x, l[k]? = some x := ⟨l[k], List.getElem?_eq_getElem hlt⟩
      have hc := HI.out.1 k x hx
      have hix := Lib.hid (HI.out.2 x (List.mem_of_getElem? hx))
      have HX := Lib.hid hx; clear hx
      by_cases h0 : x < 0
      · have E := Lib.hid (all_no inQ l k x HX.out (by unfold inQ; rw [decide_eq_true h0]; rfl))
        go_wp2
        go_ret
        exact ⟨by rw [E.out]; rfl, rfl⟩
      · by_cases h1 : 1152921504606845789 ≤ x
        · have E := Lib.hid (all_no inQ l k x HX.out (by unfold inQ; rw [decide_eq_true h1]; simp))
          go_wp2
          go_ret
          exact ⟨by rw [E.out]; rfl, rfl⟩
        · have ht2 := Lib.hid (all_yes inQ l k x HX.out ht.out (inQ_t (by omega)))
          go_wp2
          exact ⟨⟨k + 1, by omega, by simp, ht2⟩, by simp; omega⟩
    · obtain rfl : k = l.length := by omega
      have E := Lib.hid (show l.all inQ = true by have := ht.out; rwa [List.take_length] at this)
      go_wp2
      go_ret
      exact ⟨by rw [E.out]; rfl, rfl⟩
theorem challenge_any (w : World) (bk c n : Nat) (l : List Int) (hn : l.length = n) (hI : IL w bk l) (hr : ∀ x ∈ l, i64 x) (hN : n ≤ 1000) (hT : TS w) :
    Calls Tryz.prog 75 #[.slice (some ⟨bk, 0, none⟩) n c] w fun e w' => e = .returned (.int .i64 (ch l)) ∧ Below w.heap.size w w' := by
  have R := Lib.hid (show Calls Tryz.prog 73 #[.string ⟨#[101, 113, 117, 97, 108]⟩, .slice (some ⟨bk, 0, none⟩) n c] w fun e w' => e = .returned (.int .i64 (ch l)) ∧ Below w.heap.size w w' from scalar_any w wE bk c n l hn hI hr hN (by decide) hT)
  generalize ch l = v at *
  clear hn hI hr hN hT
  go_enter Tryz.func75, Tryz.ntmps75
  go_wp2_with fail
  refine R.out.mono ?_
  rintro e w1 ⟨rfl, b1⟩
  have hb := Lib.hid b1; clear b1
  go_wp2
  go_ret
  exact ⟨rfl, hb.out⟩
theorem two_next {w u v : World} {p q : Addr} {x y : Value} (h : Below w.heap.size w u ∧ u.cell? p = some x ∧ u.cell? q = some y) (b : Below u.heap.size u v) : Below w.heap.size w v ∧ v.cell? p = some x ∧ v.cell? q = some y :=
  ⟨h.1.trans (b.mono h.1.size), (b.cell (p := p) (World.block_lt_of_cell? _ _ h.2.1)).trans h.2.1, (b.cell (p := q) (World.block_lt_of_cell? _ _ h.2.2)).trans h.2.2⟩
set_option maxRecDepth 100000 in
set_option maxHeartbeats 2000000 in
theorem powers_core (w : World) (p q : Nat) (g h n x y : Int)
    (P1 : Hid (∀ W, Calls Tryz.prog 21 #[.int .i64 g, .int .i64 n, .int .i64 2305843009213691579] W fun e w' => e = .returned (.int .i64 x) ∧ Below W.heap.size W w'))
    (P2 : Hid (∀ W, Calls Tryz.prog 21 #[.int .i64 h, .int .i64 n, .int .i64 2305843009213691579] W fun e w' => e = .returned (.int .i64 y) ∧ Below W.heap.size W w'))
    (c0 : w.cell? ⟨p, 0, none⟩ = some (.int .i64 g)) (c1 : w.cell? ⟨q, 0, none⟩ = some (.int .i64 h)) :
    Calls Tryz.prog 74 #[.int .i64 n, .pointer (some ⟨p, 0, none⟩), .pointer (some ⟨q, 0, none⟩)] w fun e w' => e = .returned (.tuple #[.int .i64 x, .int .i64 y]) ∧ Below w.heap.size w w' := by
  have B0 := Below.refl w.heap.size w
  go_enter Tryz.func74, Tryz.ntmps74
  go_wp2_with fail
  go_region_held3 (fun w' => Below w.heap.size w w' ∧ w'.cell? ⟨p, 0, none⟩ = some (.int .i64 g) ∧ w'.cell? ⟨q, 0, none⟩ = some (.int .i64 h))
    (first | assumption | exact ⟨B0.drew, c0, c1⟩ | exact ⟨B0, c0, c1⟩ | exact two_next (by assumption) b)
    (first
      | (go_at_call_of 21 (Value.int .i64 g); refine (P1.out _).mono ?_; rintro e w' ⟨rfl, b⟩)
      | (go_at_call_of 21 (Value.int .i64 h); refine (P2.out _).mono ?_; rintro e w' ⟨rfl, b⟩))
  all_goals go_wp2
  all_goals go_ret2
  all_goals exact ⟨rfl, (And.left (by assumption) : Below w.heap.size w _)⟩
theorem powers_any (w : World) (p q : Nat) (g h n : Int) (hg : i64 g) (hh : i64 h) (hn : i64 n) (c0 : w.cell? ⟨p, 0, none⟩ = some (.int .i64 g)) (c1 : w.cell? ⟨q, 0, none⟩ = some (.int .i64 h)) :
    Calls Tryz.prog 74 #[.int .i64 n, .pointer (some ⟨p, 0, none⟩), .pointer (some ⟨q, 0, none⟩)] w fun e w' => e = .returned (.tuple #[.int .i64 (pp g n), .int .i64 (pp h n)]) ∧ Below w.heap.size w w' :=
  powers_core w p q g h n (pp g n) (pp h n) (Lib.hid fun W => pow_k W g n 2305843009213691579 (pp g n) (pp_def g n) hg.1 hg.2 hn.2 (by decide))
    (Lib.hid fun W => pow_k W h n 2305843009213691579 (pp h n) (pp_def h n) hh.1 hh.2 hn.2 (by decide)) c0 c1
set_option maxRecDepth 100000 in
set_option maxHeartbeats 2000000 in
theorem side_core (w : World) (p : Nat) (g a C Z x y v : Int) (hC : 0 ≤ C ∧ C < 1152921504606845789)
    (P1 : Hid (∀ W, Calls Tryz.prog 21 #[.int .i64 g, .int .i64 Z, .int .i64 2305843009213691579] W fun e w' => e = .returned (.int .i64 x) ∧ Below W.heap.size W w'))
    (P2 : Hid (∀ W, Calls Tryz.prog 21 #[.int .i64 a, .int .i64 (1152921504606845789 - C), .int .i64 2305843009213691579] W fun e w' => e = .returned (.int .i64 y) ∧ Below W.heap.size W w'))
    (X1 : Hid (∀ W, Calls Tryz.prog 24 #[.int .i64 x, .int .i64 y, .int .i64 2305843009213691579] W fun e w' => e = .returned (.int .i64 v) ∧ w' = W))
    (c0 : w.cell? ⟨p, 0, none⟩ = some (.int .i64 C)) (c1 : w.cell? ⟨p, 1, none⟩ = some (.int .i64 Z)) :
    Calls Tryz.prog 114 #[.int .i64 g, .int .i64 a, .pointer (some ⟨p, 0, none⟩)] w fun e w' => e = .returned (.int .i64 v) ∧ Below w.heap.size w w' := by
  have B0 := Below.refl w.heap.size w
  obtain ⟨hC0, hC1⟩ := hC
  have x1 : IntKind.i64.wrap (1152921504606845789 - C) = 1152921504606845789 - C := IntWalk.i64_in _ ⟨by omega, by omega⟩
  have x2 : wrap64 (1152921504606845789 - C) = 1152921504606845789 - C := by unfold wrap64; omega
  obtain ⟨D, hD⟩ : ∃ D, 1152921504606845789 - C = D := ⟨_, rfl⟩
  rw [hD] at x1 x2 P2
  go_enter Tryz.func114, Tryz.ntmps114
  go_wp2_with fail
  go_region_held3 (fun w' => Below w.heap.size w w' ∧ w'.cell? ⟨p, 0, none⟩ = some (.int .i64 C) ∧ w'.cell? ⟨p, 1, none⟩ = some (.int .i64 Z))
    (first | assumption | exact ⟨B0.drew, c0, c1⟩ | exact ⟨B0, c0, c1⟩ | exact two_next (by assumption) b)
    (first
      | (go_at_call_of 21 (Value.int .i64 g); refine (P1.out _).mono ?_; rintro e w' ⟨rfl, b⟩)
      | (go_at_call_of 21 (Value.int .i64 a); refine (P2.out _).mono ?_; rintro e w' ⟨rfl, b⟩)
      | (go_at_call 24; refine (X1.out _).mono ?_; rintro e w' ⟨rfl, rfl⟩))
  all_goals go_wp2
  all_goals go_ret
  all_goals exact ⟨rfl, (And.left (by assumption) : Below w.heap.size w _)⟩
theorem i64_of {m n : Int} (h : 0 ≤ n ∧ n < m) (hm : m ≤ 9223372036854775807) : i64 n := ⟨by omega, by omega⟩
theorem pp_i64 (a n : Int) : i64 (pp a n) := i64_of (pp_rng a n) (by decide)
theorem side_any (w : World) (p : Nat) (g a C Z : Int) (hg : i64 g) (ha : i64 a) (hC : 0 ≤ C ∧ C < 1152921504606845789) (hZ : i64 Z) (c0 : w.cell? ⟨p, 0, none⟩ = some (.int .i64 C)) (c1 : w.cell? ⟨p, 1, none⟩ = some (.int .i64 Z)) :
    Calls Tryz.prog 114 #[.int .i64 g, .int .i64 a, .pointer (some ⟨p, 0, none⟩)] w fun e w' => e = .returned (.int .i64 (sd g a C Z)) ∧ Below w.heap.size w w' :=
  side_core w p g a C Z (pp g Z) (pp a (1152921504606845789 - C)) (sd g a C Z) hC
    (Lib.hid fun W => pow_k W g Z 2305843009213691579 _ (pp_def g Z) hg.1 hg.2 hZ.2 (by decide))
    (Lib.hid fun W => pow_k W a (1152921504606845789 - C) 2305843009213691579 _ (pp_def _ _) ha.1 ha.2 (by omega) (by decide))
    (Lib.hid fun W => mul_k W _ _ 2305843009213691579 _ (sd_eq g a C Z) (pp_i64 _ _).1 (pp_i64 _ _).2 (pp_i64 _ _).1 (pp_i64 _ _).2 (by decide)) c0 c1
end Go.Proofs.YtbfplapjjeeceaaGreatDoor.E6
