/-
  The zeros behind a word, nat.twos of one word, nat.gcdWord, nat.shiftRight of one word.
-/
import Derived.Test.YtkpkifhjedlieaaDoorPow3
import Derived.Shelf.Spec.TrailingZeros
namespace Go.Proofs.YtkpkifhjedlieaaDoor
open Go.RowKit NM
abbrev DB (w : World) : Prop := TabAt 2 Lib.deBruijn64tab w
theorem DB.below {B : Nat} {u w : World} (h : DB u) (hb : Below B u w) (hB : 2 < B) : DB w := fun j hj => (hb.cell (p := ⟨2, j, none⟩) hB).trans (h j hj)
theorem DB.quiet {u w : World} (h : DB u) (q : Quiet u w) : DB w := fun j hj => (World.cell?_of_block (by rw [q.heap])).trans (h j hj)
set_option maxHeartbeats 1000000 in
theorem tz_core (x k idx : Nat) (w : World) (hx0 : ((x : Int) == 0) = false)
    (key : IntKind.u64.wrap (bits BinOp.and IntKind.u64 (x : Int) (IntKind.u64.wrap (-(x : Int))) * 285870213051353865) / 288230376151711744 = (idx : Int))
    (hi : idx < 64) (hk : k < 64) (hcell : w.cell? ⟨2, idx, none⟩ = some (.int .u8 k)) :
    Calls Tryd.prog 78 #[.int .u64 x] w fun e w' => e = .returned (.int .i64 k) ∧ w' = w := by
  go_enter Tryd.func78, Tryd.ntmps78
  go_wp2_with (simp only [key])
  go_ret
  exact ⟨rfl, rfl⟩
theorem TrailingZeros64_any (x : Nat) (hx : x < 18446744073709551616) (h0 : x ≠ 0) (w : World) (hT : DB w) :
    Calls Tryd.prog 78 #[.int .u64 x] w fun e w' => e = .returned (.int .i64 (Lib.ctz 64 x)) ∧ w' = w := by
  obtain ⟨hlow, hk⟩ := Lib.lowest_bit 64 x h0 hx
  obtain ⟨hi, htab⟩ := Lib.deBruijn64_at _ hk
  have hcell := hT _ hi
  rw [htab] at hcell
  exact tz_core x _ _ w (by simp; omega) (tz64_key x _ hx h0 hlow) hi hk hcell
set_option maxHeartbeats 1000000 in
theorem twos_one (w : World) (b o cap x : Nat) (hR : Row w b o [x]) (hx : x < 18446744073709551616) (h0 : x ≠ 0) (hc : 1 ≤ cap) (hT : DB w) :
    Calls Tryd.prog 61 #[.slice (some ⟨b, o, none⟩) 1 cap] w fun e w' => e = .returned (.int .i64 (Lib.ctz 64 x)) ∧ Quiet w w' := by
  have hcell : w.cell? ⟨b, o, none⟩ = some (.int .u64 x) := hR.cell 0 (by simp)
  have hne : ((x : Int) == 0) = false := beq_eq_false_iff_ne.2 (by omega)
  have hlt : Lib.ctz 64 x < 64 := (Lib.lowest_bit 64 x h0 hx).2
  go_enter Tryd.func61, Tryd.ntmps61
  go_wp2_with fail
  go_loop [3] (fun v => v = .int .i64 0) (fun _ => 0)
  case atStart => rfl
  case round =>
    obtain rfl := hrel
    go_wp2_with fail
    refine (TrailingZeros64_any x hx h0 _ hT).mono ?_
    rintro e w1 ⟨rfl, rfl⟩
    go_wp2
    go_ret
    exact ⟨rfl, Quiet.refl _⟩
theorem gcd_step (x y : Nat) : Nat.gcd y (x % y) = Nat.gcd x y := by rw [Nat.gcd_comm x y, Nat.gcd_rec y x, Nat.gcd_comm]
set_option maxHeartbeats 1000000 in
theorem gcdWord_any (w : World) (x y : Nat) (hx : x < 18446744073709551616) (hy : y < 18446744073709551616) :
    Calls Tryd.prog 62 #[.int .u64 x, .int .u64 y] w fun e w' => e = .returned (.int .u64 (Nat.gcd x y : Nat)) ∧ Quiet w w' := by
  go_enter Tryd.func62, Tryd.ntmps62
  go_wp2
  go_loopw [0, 1] (fun v u wr => ∃ a c : Nat, a < 18446744073709551616 ∧ c < 18446744073709551616 ∧ Nat.gcd a c = Nat.gcd x y ∧ v = .int .u64 a ∧ u = .int .u64 c ∧ Quiet w wr) (fun _ u _ => (intOf u).toNat)
  case atStart => exact ⟨x, y, hx, hy, rfl, rfl, rfl, Quiet.refl w⟩
  case round =>
    obtain ⟨a, c, ha, hc, hg, rfl, rfl, hq⟩ := hrel
    by_cases h0 : c = 0
    · subst h0
      go_wp2
      go_ret
      refine ⟨?_, hq⟩
      rw [← hg, Nat.gcd_zero_right]
      rfl
    · have hne : ((c : Int) == 0) = false := beq_eq_false_iff_ne.2 (by omega)
      have hmod : a % c < c := Nat.mod_lt _ (by omega)
      have hw : (a : Int) % (c : Int) = ((a % c : Nat) : Int) := by rw [Int.natCast_emod]
      go_wp2
      go_region
      all_goals go_wp2
      all_goals rw [hw]
      all_goals go_roundw
      case rel => exact ⟨c, a % c, hc, by omega, (gcd_step a c).trans hg, rfl, rfl, hq.drew⟩
      case measure => (simp [intOf]; try omega)
theorem shr_one (x n : Nat) (hn : n < 64) (hx : x < 18446744073709551616) : ((x : Int) / 2^n) = ((x / 2^n : Nat) : Int) := by rw [Int.natCast_ediv, Int.natCast_pow]; rfl
def ShrQ (y b o cap : Nat) (w : World) (e : Ending) (w' : World) : Prop := e = .returned (.slice (some ⟨b, o, none⟩) 1 cap) ∧ Row w' b o [y] ∧ Only b o (o+1) w w'
set_option maxHeartbeats 1000000 in
theorem shiftRight_one (w : World) (b o cap x n : Nat) (hR : Row w b o [x]) (hx : x < 18446744073709551616) (hn : n < 64) (hc : 1 ≤ cap) (h0 : x / 2^n ≠ 0) (hb : b < w.heap.size) :
    Calls Tryd.prog 54 #[.slice (some ⟨b, o, none⟩) 1 cap, .int .i64 (n : Nat)] w (ShrQ (x / 2^n) b o cap w) := by
  have hcell : w.cell? ⟨b, o, none⟩ = some (.int .u64 x) := hR.cell 0 (by simp)
  have hfr : w.frozen? ⟨b, o, none⟩ = false := hR.free 0 (by simp)
  have e1 : (n : Int) / 64 = 0 := by omega
  have e2 : (n : Int) % 64 = (n : Nat) := by omega
  have e3 := shr_one x n hn hx
  have hlt : x / 2^n < 18446744073709551616 := Nat.lt_of_le_of_lt (Nat.div_le_self _ _) hx
  have HX := Lib.hid (And.intro hlt (And.intro h0 hx)); clear hlt h0 hx
  have hm : min (0:Int) 1 = 0 := by decide
  generalize hy : x / 2^n = y at *
  have HY := Lib.hid hy; clear hy
  go_enter Tryd.func54, Tryd.ntmps54
  go_wp2_with fail
  simp only [e2, hm]
  clear e1 e2
  go_loopw [7] (fun i wr => i = .int .i64 0 ∧ wr = w ∨ i = .int .i64 1 ∧ Row wr b o [y] ∧ Only b o (o+1) w wr) (fun i _ => 1 - (intOf i).toNat)
  case atStart => exact .inl ⟨rfl, rfl⟩
  case round =>
    rcases hrel with ⟨rfl, rfl⟩ | ⟨rfl, hr, ho⟩
    · go_wp2
      refine ⟨.inr ⟨rfl, by simpa using hR.set 0 y (by simp), (Only.refl b o (o+1) wr).set o _ (Nat.le_refl _) (by omega)⟩, by simp [intOf]⟩
    · go_wp2_with fail
      refine (trim_any wr b o cap [y] hr (by simp) hc).mono ?_
      rintro e w2 ⟨k, hk, hv, ht, rfl, rfl⟩
      have hk1 : k = 1 := by
        have h1 : k ≤ 1 := hk
        have h2 := HX.out.2.1
        rcases Nat.lt_or_ge k 1 with h | h
        · obtain rfl : k = 0 := by omega
          simp [wv] at hv
          omega
        · omega
      subst hk1
      go_wp2
      go_ret
      exact ⟨rfl, hr, ho⟩
end Go.Proofs.YtkpkifhjedlieaaDoor
