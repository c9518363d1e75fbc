/-
  The walk of the reference's Cmp.
-/
import Derived.Test.YteccbedmpjeamaaGreatDoorRefMul2
namespace Go.Proofs.YteccbedmpjeamaaGreatDoor
open Go.RowKit NM
theorem bytesLess_bv : ∀ (x y : List UInt8), x.length = y.length → Go.Op.bytesLess x y = decide (NM.bv x < NM.bv y)
  | [], [], _ => by simp [Go.Op.bytesLess]
  | [], _ :: _, h => by simp at h
  | _ :: _, [], h => by simp at h
  | a :: x, b :: y, h => by
    have hl : x.length = y.length := by simpa using h
    rw [Go.Op.bytesLess, bytesLess_bv x y hl, NM.bv_cons, NM.bv_cons, ← hl]
    have h1 := NM.bv_lt x
    have h2 := NM.bv_lt y
    rw [← hl] at h2
    rcases Nat.lt_trichotomy a.toNat b.toNat with h3 | h3 | h3
    · have h4 : a < b := h3
      have h5 : (a.toNat + 1) * 256^x.length ≤ b.toNat * 256^x.length := Nat.mul_le_mul_right _ h3
      rw [Nat.add_mul] at h5
      simp [h4]; omega
    · have h4 : a = b := UInt8.toNat_inj.1 h3
      subst h4
      have : ¬ a < a := by intro h; exact absurd (show a.toNat < a.toNat from h) (Nat.lt_irrefl _)
      simp
    · have h4 : ¬ a < b := fun h => by have : a.toNat < b.toNat := h; omega
      have h6 : (a == b) = false := beq_eq_false_iff_ne.2 fun e => by rw [e] at h3; exact absurd h3 (Nat.lt_irrefl _)
      have h5 : (b.toNat + 1) * 256^x.length ≤ a.toNat * 256^x.length := Nat.mul_le_mul_right _ h3
      rw [Nat.add_mul] at h5
      simp [h4, h6]; omega
theorem bv_inj : ∀ (x y : List UInt8), x.length = y.length → NM.bv x = NM.bv y → x = y
  | [], [], _, _ => rfl
  | [], _ :: _, h, _ => by simp at h
  | _ :: _, [], h, _ => by simp at h
  | a :: x, b :: y, h, hv => by
    have hl : x.length = y.length := by simpa using h
    rw [NM.bv_cons, NM.bv_cons, ← hl] at hv
    have h1 := NM.bv_lt x
    have h2 := NM.bv_lt y
    rw [← hl] at h2
    have h3 : a.toNat = b.toNat := by
      rcases Nat.lt_trichotomy a.toNat b.toNat with h3 | h3 | h3
      · have h5 : (a.toNat + 1) * 256^x.length ≤ b.toNat * 256^x.length := Nat.mul_le_mul_right _ h3
        rw [Nat.add_mul] at h5; omega
      · exact h3
      · have h5 : (b.toNat + 1) * 256^x.length ≤ a.toNat * 256^x.length := Nat.mul_le_mul_right _ h3
        rw [Nat.add_mul] at h5; omega
    rw [h3] at hv
    rw [UInt8.toNat_inj.1 h3, bv_inj x y hl (by omega)]
theorem sv_lt_size (s : ByteArray) : sv s < 256^s.size := by
  have h := bv_lt s.data.toList
  rwa [show s.data.toList.length = s.size from Array.length_toList] at h
theorem NB_lt_size {x y : Nat} (h : (NB x).size < (NB y).size) : x < y := by
  apply Nat.lt_of_not_le; intro hle
  have h1 := sv_lt_size (NB x)
  rw [sv_NB] at h1
  have := NB_size (n := y) (k := (NB x).size) (Nat.lt_of_le_of_lt hle h1)
  omega
theorem str_less (s t : ByteArray) (h : s.size = t.size) : Op.bytesLess s.toList t.toList = decide (sv s < sv t) := by
  rw [Lib.toList_data, Lib.toList_data]
  exact bytesLess_bv _ _ (by simpa using h)
theorem str_eq (s t : ByteArray) (h : s.size = t.size) : (s.toList == t.toList) = decide (sv s = sv t) := by
  rw [Lib.toList_data, Lib.toList_data]
  by_cases e : sv s = sv t
  · rw [decide_eq_true e, beq_iff_eq]
    exact bv_inj _ _ (by simpa using h) e
  · rw [decide_eq_false e, beq_eq_false_iff_ne]
    intro e2; apply e; show bv _ = bv _; rw [e2]
set_option maxRecDepth 100000 in
set_option maxHeartbeats 1000000 in
theorem RefCmp_any (w : World) (a b : ByteArray) (ha : a.size ≤ 4294967296) (hb : b.size ≤ 4294967296) :
    Calls Tryz.prog 52 #[.string a, .string b] w fun e w' => e = .returned (.int .i64 (cmpv (sv a) (sv b))) ∧ w = w' := by
  have hca := Canon_any w a ha
  have hcb := Canon_any w b hb
  have va : sv (tz a) = sv a := sv_tz a
  have vb : sv (tz b) = sv b := sv_tz b
  have la : (tz a).size < (tz b).size → sv a < sv b := fun h => by rw [tz_NB, tz_NB] at h; exact NB_lt_size h
  have lb : (tz b).size < (tz a).size → sv b < sv a := fun h => by rw [tz_NB, tz_NB] at h; exact NB_lt_size h
  have sa := tz_size_le a
  have sb := tz_size_le b
  have hl := str_less (tz a) (tz b)
  have he := str_eq (tz a) (tz b)
  rw [va, vb] at hl he
  generalize tz a = s at *
  generalize tz b = t at *
  have HA := Lib.hid hca; have HB := Lib.hid hcb; clear hca hcb va vb
  rcases Nat.lt_trichotomy s.size t.size with h | h | h
  · have hv := la h
    have h1 : ((s.size : Int) == (t.size : Int)) = false := beq_eq_false_iff_ne.2 (by omega)
    have h2 : decide ((s.size : Int) < (t.size : Int)) = true := by simp; omega
    rw [cmpv_lt hv]
    clear la lb hl he hv
    go_enter Tryz.func52, Tryz.ntmps52
    go_wp2_with fail
    refine HA.out.mono ?_
    rintro e w1 ⟨rfl, rfl⟩
    go_wp2_with fail
    refine HB.out.mono ?_
    rintro e w1 ⟨rfl, rfl⟩
    go_wp2
    go_ret
    exact ⟨rfl, rfl⟩
  · replace hl := hl h
    replace he := he h
    have h1 : ((s.size : Int) == (t.size : Int)) = true := by simp; omega
    clear la lb
    rcases Nat.lt_trichotomy (sv a) (sv b) with hv | hv | hv
    · rw [decide_eq_true hv] at hl
      rw [cmpv_lt hv]
      clear he hv
      go_enter Tryz.func52, Tryz.ntmps52
      go_wp2_with fail
      refine HA.out.mono ?_
      rintro e w1 ⟨rfl, rfl⟩
      go_wp2_with fail
      refine HB.out.mono ?_
      rintro e w1 ⟨rfl, rfl⟩
      go_wp2
      go_ret
      exact ⟨rfl, rfl⟩
    · rw [decide_eq_false (by omega)] at hl
      rw [decide_eq_true hv] at he
      rw [cmpv_eq hv]
      clear hv
      go_enter Tryz.func52, Tryz.ntmps52
      go_wp2_with fail
      refine HA.out.mono ?_
      rintro e w1 ⟨rfl, rfl⟩
      go_wp2_with fail
      refine HB.out.mono ?_
      rintro e w1 ⟨rfl, rfl⟩
      go_wp2
      go_ret
      exact ⟨rfl, rfl⟩
    · rw [decide_eq_false (by omega)] at hl
      rw [decide_eq_false (by omega)] at he
      rw [cmpv_gt hv]
      clear hv
      go_enter Tryz.func52, Tryz.ntmps52
      go_wp2_with fail
      refine HA.out.mono ?_
      rintro e w1 ⟨rfl, rfl⟩
      go_wp2_with fail
      refine HB.out.mono ?_
      rintro e w1 ⟨rfl, rfl⟩
      go_wp2
      go_ret
      exact ⟨rfl, rfl⟩
  · have hv := lb h
    have h1 : ((s.size : Int) == (t.size : Int)) = false := beq_eq_false_iff_ne.2 (by omega)
    have h2 : decide ((s.size : Int) < (t.size : Int)) = false := by simp; omega
    rw [cmpv_gt hv]
    clear la lb hl he hv
    go_enter Tryz.func52, Tryz.ntmps52
    go_wp2_with fail
    refine HA.out.mono ?_
    rintro e w1 ⟨rfl, rfl⟩
    go_wp2_with fail
    refine HB.out.mono ?_
    rintro e w1 ⟨rfl, rfl⟩
    go_wp2
    go_ret
    exact ⟨rfl, rfl⟩
end Go.Proofs.YteccbedmpjeamaaGreatDoor
