/-
  The walk of the law NatFermat.
-/
import Derived.Test.YtkpkifhjedlieaaDoorRefOf
import Derived.Test.YtkpkifhjedlieaaDoorSanity
import Derived.Test.YtkpkifhjedlieaaDoorFermatM
import Derived.Deep.RegionHeld
import Derived.Deep.QuietTactic
namespace Go.Proofs.YtkpkifhjedlieaaDoor
open Go.RowKit NM
/-- a []byte argument, of which the law takes k bytes at most -/
def BArg (w : World) (k : Nat) (v : Value) (A : ByteArray) : Prop :=
  A.size ≤ k ∧ ∃ (p : Option Addr) (N cap m : Nat), v = .slice p N cap ∧ min (N : Int) (k : Int) = (m : Int) ∧ m ≤ cap ∧ m ≤ N ∧
    ∀ W, Below w.heap.size w W → (convert 22 24 (.slice p m cap)).run Tryd.prog W = .ok (.string A) W
theorem pow0_c (w : World) (a e m : ByteArray) (ha : a.size ≤ 4294967296) (he : e.size ≤ 4294967296) (hm : m.size ≤ 4294967296) (h : sv m = 0) :
    Calls Tryd.prog 17 #[.string a, .string e, .string m] w fun e' w' => e' = .returned (.tuple #[.string ⟨#[]⟩, .bool false]) ∧ Below w.heap.size w w' := by
  have := Pow_any w a e m ha he hm trivial
  rwa [show PowV a e m = .tuple #[.string ⟨#[]⟩, .bool false] by unfold PowV; rw [if_pos h]] at this
theorem pow_c (w : World) (a e m : ByteArray) (n : Nat) (hn : n = sv a ^ sv e % sv m) (ha : a.size ≤ 4294967296) (he : e.size ≤ 4294967296) (hm : m.size ≤ 4294967296) (h : sv m ≠ 0) :
    Calls Tryd.prog 17 #[.string a, .string e, .string m] w fun e' w' => e' = .returned (.tuple #[.string (NB n), .bool true]) ∧ Below w.heap.size w w' := by
  have := Pow_any w a e m ha he hm trivial
  rwa [show PowV a e m = .tuple #[.string (NB n), .bool true] by unfold PowV; rw [if_neg h, hn]] at this
theorem quoF_c (w : World) (a b : ByteArray) (q r : Nat) (hq : q = sv a / sv b) (hr : r = sv a % sv b) (ha : a.size ≤ 4294967296) (hb : b.size ≤ 4294967296) (h : sv b ≠ 0) :
    Calls Tryd.prog 12 #[.string a, .string b] w fun e w' => e = .returned (.tuple #[.string (NB q), .string (NB r), .bool true]) ∧ Below w.heap.size w w' := by
  have := Quo_any w a b ha hb trivial
  rwa [show QuoV a b = .tuple #[.string (NB q), .string (NB r), .bool true] by unfold QuoV; rw [if_neg h, hq, hr]] at this
theorem bitsF_c (w : World) (a : ByteArray) (p : Nat) (h : bl (sv a) = p) (ha : a.size ≤ 4294967296) :
    Calls Tryd.prog 13 #[.string a] w fun e w' => e = .returned (.int .i64 (p : Nat)) ∧ Below w.heap.size w w' := by
  rw [← h]
  exact (Bits_any w a ha).mono fun e w' ⟨h1, h2⟩ => ⟨h1, by rw [← h2]; exact Below.refl _ _⟩
theorem addF_c (w : World) (a b : ByteArray) (n : Nat) (h : sv a + sv b = n) (ha : a.size ≤ 4294967296) (hb : b.size ≤ 4294967296) :
    Calls Tryd.prog 9 #[.string a, .string b] w fun e w' => e = .returned (.string (NB n)) ∧ Below w.heap.size w w' := by rw [← h]; exact Add_any w a b ha hb
theorem mulF_c (w : World) (a b : ByteArray) (n : Nat) (h : sv a * sv b = n) (ha : a.size ≤ 4294967296) (hb : b.size ≤ 4294967296) :
    Calls Tryd.prog 10 #[.string a, .string b] w fun e w' => e = .returned (.string (NB n)) ∧ Below w.heap.size w w' := by rw [← h]; exact Mul_any w a b ha hb
theorem ofF_c (w : World) (k : Nat) (h : k < 9223372036854775808) :
    Calls Tryd.prog 16 #[.int .i64 (k : Nat)] w fun e w' => e = .returned (.string (NB k)) ∧ Below w.heap.size w w' := by
  have := RefOf_any w (k : Int) (by omega) (by omega)
  rwa [Int.toNat_natCast] at this
theorem NB_z {x k : Nat} (h : x < 256^k) (hk : k ≤ 4294967296) : (NB x).size ≤ 4294967296 := Nat.le_trans (NB_size h) hk
theorem ofP_c (w : World) (k : Nat) (z : Int) (h : z = (k : Int)) (h2 : k < 9223372036854775808) :
    Calls Tryd.prog 16 #[.int .i64 z] w fun e w' => e = .returned (.string (NB k)) ∧ Below w.heap.size w w' := by rw [h]; exact ofF_c w k h2
structure FS (A Z : ByteArray) (e0 e1 : Nat) : Prop where
  a : A.size ≤ 4294967296
  z : Z.size ≤ 4294967296
  u : (NB e0).size ≤ 4294967296
  v : (NB e1).size ≤ 4294967296
  uv : (NB (e0 + e1)).size ≤ 4294967296
  zl : sv Z < 256^24
theorem fermat_sizes (A Z : ByteArray) (e0 e1 : Nat) (hA : A.size ≤ 24) (hZ : Z.size ≤ 24) (h0 : e0 < 4294967296) (h1 : e1 < 4294967296) : FS A Z e0 e1 :=
  ⟨by omega, by omega, NB_z (k := 4) (by omega) (by omega), NB_z (k := 4) (by omega) (by omega), NB_z (k := 5) (by omega) (by omega),
    Nat.lt_of_lt_of_le (bv_lt _) (Nat.pow_le_pow_right (by omega) (by rw [len_size]; exact hZ))⟩
theorem mul_z {x y z : Nat} (hz : z < 256^24) (hx : x < z) (hy : y < z) : (NB (x * y)).size ≤ 4294967296 :=
  NB_z (k := 48) (by rw [show (256:Nat)^48 = 256^24 * 256^24 by rw [← Nat.pow_add]]; exact Nat.mul_lt_mul'' (by omega) (by omega)) (by omega)
/-- the box of the exponents lies as it did -/
structure BoxS (w : World) (e0 e1 : Nat) (W : World) : Prop where
  c0 : W.cell? ⟨w.heap.size, 0, none⟩ = some (.int .u32 (e0 : Nat))
  c1 : W.cell? ⟨w.heap.size, 1, none⟩ = some (.int .u32 (e1 : Nat))
  lt : w.heap.size < W.heap.size
  bl : Below w.heap.size w W
theorem BoxS.next {w : World} {e0 e1 : Nat} {W W' : World} (h : BoxS w e0 e1 W) (b : Below W.heap.size W W') : BoxS w e0 e1 W' :=
  ⟨(b.cell (p := ⟨w.heap.size, 0, none⟩) h.lt).trans h.c0, (b.cell (p := ⟨w.heap.size, 1, none⟩) h.lt).trans h.c1, Nat.lt_of_lt_of_le h.lt b.size, h.bl.trans (b.mono h.bl.size)⟩
theorem BoxS.drew {w : World} {e0 e1 : Nat} {W : World} (h : BoxS w e0 e1 W) : BoxS w e0 e1 W.drew := ⟨h.c0, h.c1, h.lt, h.bl.drew⟩
theorem BoxS.start (w : World) (e0 e1 : Nat) (t : TypeId) : BoxS w e0 e1 (w.alloc (.cells #[.int .u32 (e0 : Nat), .int .u32 (e1 : Nat)] t)) :=
  ⟨by rw [World.cell?_alloc_at _ _ _ _ rfl]; rfl, by rw [World.cell?_alloc_at _ _ _ _ rfl]; rfl, by simp, (Below.refl _ w).alloc (Nat.le_refl _) _⟩
set_option maxRecDepth 100000 in
set_option maxHeartbeats 8000000 in
theorem fermat_walk (w : World) (v0 v2 : Value) (A Z : ByteArray) (e0 e1 : Nat) (he0 : e0 < 4294967296) (he1 : e1 < 4294967296) (h0 : BArg w 24 v0 A) (h2 : BArg w 24 v2 Z)
    (hT : DB w) (hg : 2 < w.heap.size) (hP : P10 w) (hg2 : 3 < w.heap.size) :
    Calls Tryd.prog 5 #[v0, .agg #[.int .u32 (e0 : Nat), .int .u32 (e1 : Nat)], v2] w fun e w' => e = .returned (.bool true) ∧ Below w.heap.size w w' := by
  obtain ⟨sA, p, N, cap, m, rfl, hm', hmc, hmN, hcv⟩ := h0
  obtain ⟨sZ, p2, N2, cap2, m2, rfl, hm2', hmc2, hmN2, hcv2⟩ := h2
  have hm : min (N : Int) 24 = (m : Int) := hm'
  have hm2 : min (N2 : Int) 24 = (m2 : Int) := hm2'
  clear hm' hm2'
  have S0 := BoxS.start w e0 e1 38
  have HE := Lib.hid (And.intro he0 he1); clear he0 he1
  have HSZ := Lib.hid (And.intro sA sZ); clear sA sZ
  go_enter Tryd.func5, Tryd.ntmps5
  go_wp2_with fail
  generalize w.alloc (.cells #[.int .u32 (e0 : Nat), .int .u32 (e1 : Nat)] 38) = W0 at *
  have hs := sanity_any W0 (fun j hj => (S0.bl.cell (p := ⟨2, j, none⟩) hg).trans (hT j hj)) (Nat.lt_of_lt_of_le hg S0.bl.size) (hP.below S0.bl hg2) (Nat.lt_of_lt_of_le hg2 S0.bl.size)
  refine hs.mono ?_
  clear hs hT hP
  rintro e W1 ⟨rfl, b⟩
  replace S0 := S0.next b; clear b W0
  have k1 := hcv W1.drew S0.drew.bl
  have k2 := hcv2 W1.drew S0.drew.bl
  have HC := Lib.hid (And.intro hcv hcv2); clear hcv hcv2
  go_wp2_with fail
  go_region
  clear k1 k2
  replace S0 := S0.drew
  generalize W1.drew = W2 at *
  go_wp2_with fail
  have hO0 := fun W => ofF_c W e0 (by have := HE.out; omega)
  have hO1 := fun W => ofF_c W e1 (by have := HE.out; omega)
  have x0 : IntKind.i64.wrap (e0 : Int) = (e0 : Int) := IntWalk.i64_in _ ⟨by omega, by have := HE.out; omega⟩
  have x1 : IntKind.i64.wrap (e1 : Int) = (e1 : Int) := IntWalk.i64_in _ ⟨by omega, by have := HE.out; omega⟩
  replace S0 := S0.drew
  have c0 := S0.c0
  have c1 := S0.c1
  go_region_held3 (fun w' => w'.cell? ⟨w.heap.size, 0, none⟩ = some (.int .u32 (e0 : Nat)) ∧ w'.cell? ⟨w.heap.size, 1, none⟩ = some (.int .u32 (e1 : Nat))) (first | (exact ⟨by assumption, by assumption⟩) | (simp [go_sem]; exact ⟨by assumption, by assumption⟩))
    (first
      | (go_at_call 16; (first | go_fit (hO0 W2.drew) | go_fit (hO1 W2.drew)); rintro e w5 ⟨rfl, b5⟩; have S5 := S0.next b5; have c50 := S5.c0; have c51 := S5.c1)
      | (go_at_call 16; (first | go_fit (hO0 w5) | go_fit (hO1 w5)); rintro e w6 ⟨rfl, b6⟩; have S6 := S5.next b6; have c60 := S6.c0; have c61 := S6.c1))
  have HF := Lib.hid (fermat_sizes A Z e0 e1 HSZ.out.1 HSZ.out.2 HE.out.1 HE.out.2)
  all_goals
    have hB := S6.bl
    clear S6 S5 S0 b6 b5 c60 c61 c50 c51 c0 c1 x0 x1 hO0 hO1
  rcases Nat.eq_zero_or_pos (sv Z) with hz | hz
  case' inl =>
    have HZ := Lib.hid hz; clear hz
    go_wp2_with fail
    refine (pow0_c _ A (NB e0) Z HF.out.a HF.out.u HF.out.z HZ.out).mono ?_
    rintro e w' ⟨rfl, b⟩
    replace hB := hB.trans (b.mono hB.size); clear b
    go_wp2_with fail
    refine (pow0_c _ A (NB e1) Z HF.out.a HF.out.v HF.out.z HZ.out).mono ?_
    rintro e w' ⟨rfl, b⟩
    replace hB := hB.trans (b.mono hB.size); clear b
    go_wp2_with fail
    refine (addF_c _ (NB e0) (NB e1) (e0 + e1) (by rw [sv_NB, sv_NB]) HF.out.u HF.out.v).mono ?_
    rintro e w' ⟨rfl, b⟩
    replace hB := hB.trans (b.mono hB.size); clear b
    go_wp2_with fail
    refine (pow0_c _ A (NB (e0 + e1)) Z HF.out.a HF.out.uv HF.out.z HZ.out).mono ?_
    rintro e w' ⟨rfl, b⟩
    replace hB := hB.trans (b.mono hB.size); clear b
    go_wp2_with fail
    refine (bitsF_c _ Z 0 (by rw [HZ.out]; rfl) HF.out.z).mono ?_
    rintro e w' ⟨rfl, b⟩
    replace hB := hB.trans (b.mono hB.size); clear b
  case' inr =>
    obtain ⟨px, hpx⟩ : ∃ n, n = sv A ^ sv (NB e0) % sv Z := ⟨_, rfl⟩
    obtain ⟨py, hpy⟩ : ∃ n, n = sv A ^ sv (NB e1) % sv Z := ⟨_, rfl⟩
    obtain ⟨pb, hpb⟩ : ∃ n, n = sv A ^ sv (NB (e0 + e1)) % sv Z := ⟨_, rfl⟩
    obtain ⟨pq, hpq⟩ : ∃ n, n = sv (NB (px * py)) / sv Z := ⟨_, rfl⟩
    have hrest : pb = sv (NB (px * py)) % sv Z := by
      rw [sv_NB, hpx, hpy, ← Nat.mul_mod, ← Nat.pow_add, hpb, sv_NB, sv_NB, sv_NB]
    have hms : (NB (px * py)).size ≤ 4294967296 := mul_z HF.out.zl (by rw [hpx]; exact Nat.mod_lt _ hz) (by rw [hpy]; exact Nat.mod_lt _ hz)
    obtain ⟨n, hn⟩ : ∃ n, bl (sv Z) = n := ⟨_, rfl⟩
    have hn1 : decide ((0 : Int) < (n : Int)) = true := by
      have : n ≠ 0 := by rw [← hn]; unfold bl; rw [if_neg (by omega)]; omega
      simp; omega
    have hn2 : decide (0 < n) = true := by simp at hn1 ⊢; omega
    have HZ := Lib.hid (And.intro (show sv Z ≠ 0 by omega) (And.intro hms (And.intro hrest (And.intro hpq (And.intro hn (And.intro hpx (And.intro hpy hpb))))))); clear hz hms hrest hpq hn hpx hpy hpb
    go_wp2_with fail
    refine (pow_c _ A (NB e0) Z px HZ.out.2.2.2.2.2.1 HF.out.a HF.out.u HF.out.z HZ.out.1).mono ?_
    rintro e w' ⟨rfl, b⟩
    replace hB := hB.trans (b.mono hB.size); clear b
    go_wp2_with fail
    refine (pow_c _ A (NB e1) Z py HZ.out.2.2.2.2.2.2.1 HF.out.a HF.out.v HF.out.z HZ.out.1).mono ?_
    rintro e w' ⟨rfl, b⟩
    replace hB := hB.trans (b.mono hB.size); clear b
    go_wp2_with fail
    refine (addF_c _ (NB e0) (NB e1) (e0 + e1) (by rw [sv_NB, sv_NB]) HF.out.u HF.out.v).mono ?_
    rintro e w' ⟨rfl, b⟩
    replace hB := hB.trans (b.mono hB.size); clear b
    go_wp2_with fail
    refine (pow_c _ A (NB (e0 + e1)) Z pb HZ.out.2.2.2.2.2.2.2 HF.out.a HF.out.uv HF.out.z HZ.out.1).mono ?_
    rintro e w' ⟨rfl, b⟩
    replace hB := hB.trans (b.mono hB.size); clear b
    go_wp2_with fail
    refine (bitsF_c _ Z n HZ.out.2.2.2.2.1 HF.out.z).mono ?_
    rintro e w' ⟨rfl, b⟩
    replace hB := hB.trans (b.mono hB.size); clear b
    go_wp2_with fail
    refine (mulF_c _ (NB px) (NB py) (px * py) (by rw [sv_NB, sv_NB]) (NB_z (k := 24) (by rw [HZ.out.2.2.2.2.2.1]; exact Nat.lt_trans (Nat.mod_lt _ (Nat.pos_of_ne_zero HZ.out.1)) HF.out.zl) (by omega)) (NB_z (k := 24) (by rw [HZ.out.2.2.2.2.2.2.1]; exact Nat.lt_trans (Nat.mod_lt _ (Nat.pos_of_ne_zero HZ.out.1)) HF.out.zl) (by omega))).mono ?_
    rintro e w' ⟨rfl, b⟩
    replace hB := hB.trans (b.mono hB.size); clear b
    go_wp2_with fail
    refine (quoF_c _ (NB (px * py)) Z pq pb HZ.out.2.2.2.1 HZ.out.2.2.1 HZ.out.2.1 HF.out.z HZ.out.1).mono ?_
    rintro e w' ⟨rfl, b⟩
    replace hB := hB.trans (b.mono hB.size); clear b
  all_goals
    obtain ⟨K, hK⟩ : ∃ K : Nat, 2305843009213691578 = K := ⟨_, rfl⟩
    obtain ⟨M, hM⟩ : ∃ M : Nat, 2305843009213691579 = M := ⟨_, rfl⟩
    have hOM := fun W => ofP_c W M 2305843009213691579 (by omega) (by omega)
    have hOK := fun W => ofP_c W K 2305843009213691578 (by omega) (by omega)
    have hKs : (NB K).size ≤ 4294967296 := NB_z (k := 8) (by omega) (by omega)
    have hMs : (NB M).size ≤ 4294967296 := NB_z (k := 8) (by omega) (by omega)
    have hM0 : sv (NB M) ≠ 0 := by rw [sv_NB]; omega
    obtain ⟨f, hf⟩ : ∃ f, f = sv A ^ sv (NB K) % sv (NB M) := ⟨_, rfl⟩
    obtain ⟨g, hg⟩ : ∃ g, g = sv A / sv (NB M) := ⟨_, rfl⟩
    obtain ⟨r, hr⟩ : ∃ r, r = sv A % sv (NB M) := ⟨_, rfl⟩
    have key : (NB r = ⟨#[]⟩ ∧ NB f = ⟨#[]⟩) ∨ (NB r ≠ ⟨#[]⟩ ∧ NB f = ⟨#[1]⟩) := by
      rw [sv_NB] at hr
      rw [sv_NB, sv_NB] at hf
      by_cases h : r = 0
      · left
        have : f = 0 := by
          rw [hf, Nat.pow_mod, ← hr, h, Nat.zero_pow (by omega), Nat.zero_mod]
        rw [h, this]; exact ⟨NB_0, NB_0⟩
      · right
        have : f = 1 := by
          rw [hf]
          subst hM
          exact fermatP _ K (by omega) (by rw [← hr]; exact h)
        refine ⟨fun e => h ?_, by rw [this]; exact NB_1⟩
        have := congrArg sv e
        rw [sv_NB] at this
        rw [this]; rfl
    have HK := Lib.hid (And.intro hKs (And.intro hMs (And.intro hM0 (And.intro hf (And.intro hg hr))))); clear hKs hMs hM0 hf hg hr hK hM
    go_wp2_with fail
    refine (hOM _).mono ?_
    rintro e w' ⟨rfl, b⟩
    replace hB := hB.trans (b.mono hB.size); clear b
    go_wp2_with fail
    refine (hOK _).mono ?_
    rintro e w' ⟨rfl, b⟩
    replace hB := hB.trans (b.mono hB.size); clear b
    go_wp2_with fail
    refine (pow_c _ A (NB K) (NB M) f HK.out.2.2.2.1 HF.out.a HK.out.1 HK.out.2.1 HK.out.2.2.1).mono ?_
    rintro e w' ⟨rfl, b⟩
    replace hB := hB.trans (b.mono hB.size); clear b
    go_wp2_with fail
    refine (quoF_c _ A (NB M) g r HK.out.2.2.2.2.1 HK.out.2.2.2.2.2 HF.out.a HK.out.2.1 HK.out.2.2.1).mono ?_
    rintro e w' ⟨rfl, b⟩
    replace hB := hB.trans (b.mono hB.size); clear b
    rcases key with ⟨k1, k2⟩ | ⟨k1, k2⟩
    case' inl => rw [k1, k2]; go_wp2; go_ret; exact ⟨rfl, hB⟩
    case' inr =>
      rw [k2]
      generalize NB r = R at *
      have k3 : R.toList.isEmpty = false := by
        rw [Lib.toList_data]
        cases h : R.data.toList with
        | nil =>
          apply (k1 ?_).elim
          cases R with
          | mk d => simp at h; rw [h]
        | cons x l => rfl
      go_wp2
      go_ret
      exact ⟨rfl, hB⟩
end Go.Proofs.YtkpkifhjedlieaaDoor
