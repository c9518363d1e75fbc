/-
  The walk of the reference's Gcd.
-/
import Derived.Test.YteccbedmpjeamaaGreatDoorRefPow
import Derived.Test.YteccbedmpjeamaaGreatDoorGcd
namespace Go.Proofs.YteccbedmpjeamaaGreatDoor
open Go.RowKit NM
set_option maxRecDepth 100000 in
set_option maxHeartbeats 4000000 in
theorem RefGcd_any (w : World) (a b : ByteArray) (ha : a.size ≤ 1000000000) (hb : b.size ≤ 1000000000) :
    Calls Tryz.prog 58 #[.string a, .string b] w fun e w' => e = .returned (GcdV a b) ∧ Below w.heap.size w w' := by
  have hca := Canon_any w a (by omega)
  have hcb := Canon_any w b (by omega)
  rw [tz_NB] at hca hcb
  have sa : (NB (sv a)).size ≤ 1000000000 := Nat.le_trans (NB_size (sv_lt_size a)) ha
  have sb : (NB (sv b)).size ≤ 1000000000 := Nat.le_trans (NB_size (sv_lt_size b)) hb
  unfold GcdV
  obtain ⟨G, hG⟩ : ∃ G, G = Nat.gcd (sv a) (sv b) := ⟨_, rfl⟩
  rw [← hG]
  obtain ⟨x0, hx0⟩ : ∃ x, x = sv a := ⟨_, rfl⟩
  obtain ⟨y0, hy0⟩ : ∃ y, y = sv b := ⟨_, rfl⟩
  rw [← hx0] at hca sa hG
  rw [← hy0] at hcb sb hG
  have HA := Lib.hid hca; have HB := Lib.hid hcb; have HG := Lib.hid (And.intro hG (And.intro sa sb)); clear hca hcb hG sa sb hx0 hy0
  go_enter Tryz.func58, Tryz.ntmps58
  go_wp2_with fail
  refine HA.out.mono ?_
  rintro e w1 ⟨rfl, rfl⟩
  go_wp2_with fail
  refine HB.out.mono ?_
  rintro e w1 ⟨rfl, rfl⟩
  clear HA HB
  go_wp2_with fail
  go_loopw [0, 1] (fun av bw wr => ∃ x y : Nat, av = .string (NB x) ∧ bw = .string (NB y) ∧ Hid (Nat.gcd x y = G) ∧ Hid ((NB x).size ≤ 1000000000 ∧ (NB y).size ≤ 1000000000) ∧ Below w.heap.size w wr) (fun _ bw _ => match bw with | .string s => sv s | _ => 0)
  case atStart => exact ⟨x0, y0, rfl, rfl, Lib.hid HG.out.1.symm, Lib.hid HG.out.2, Below.refl _ _⟩
  case round =>
    obtain ⟨x, y, rfl, rfl, hg, hs, hB⟩ := hrel
    by_cases h0 : y = 0
    · subst h0
      have hgx : x = G := by have := hg.out; rwa [Nat.gcd_zero_right] at this
      subst hgx
      have e0 : NB 0 = ⟨#[]⟩ := by unfold NB; simp [nb]
      rw [e0]
      clear hs hg HG
      go_wp2
      go_ret
      exact ⟨rfl, hB⟩
    · have hq := fun W => quoR_c W (NB x) (NB y) (x / y) (x % y) (by rw [sv_NB, sv_NB]) (by rw [sv_NB, sv_NB]) hs.out.1 hs.out.2 (by rw [sv_NB]; exact h0)
      have hsz : (NB y).size ≠ 0 := fun h => by
        have := sv_lt_size (NB y)
        rw [h, sv_NB] at this
        omega
      have hdec : decide ((0 : Int) < ((NB y).size : Int)) = true := by simp; omega
      have hm1 : sv (NB y) = y := sv_NB y
      have hm2 : sv (NB (x % y)) = x % y := sv_NB _
      have hlt : x % y < y := Nat.mod_lt _ (Nat.pos_of_ne_zero h0)
      have hgn : Nat.gcd y (x % y) = G := by rw [← hg.out]; exact gcd_step x y
      have hs2 : (NB (x % y)).size ≤ 1000000000 := Nat.le_trans (NB_size (Nat.lt_trans hlt (by have h := sv_lt_size (NB y); rwa [sv_NB] at h))) hs.out.2
      have HH := Lib.hid (And.intro hgn (And.intro hs2 (And.intro hm1 (And.intro hm2 hlt)))); clear hgn hs2 hm1 hm2 hlt
      have HQ := Lib.hid hq; clear hq
      go_wp2_with fail
      refine (HQ.out _).mono ?_
      rintro e w2 ⟨rfl, b⟩
      replace hB := hB.trans (b.mono hB.size); clear b
      clear HQ
      go_wp2
      refine ⟨⟨y, x % y, rfl, rfl, Lib.hid HH.out.1, Lib.hid ⟨hs.out.2, HH.out.2.1⟩, hB⟩, ?_⟩
      show sv (NB (x % y)) < sv (NB y)
      rw [HH.out.2.2.1, HH.out.2.2.2.1]; exact HH.out.2.2.2.2
end Go.Proofs.YteccbedmpjeamaaGreatDoor
