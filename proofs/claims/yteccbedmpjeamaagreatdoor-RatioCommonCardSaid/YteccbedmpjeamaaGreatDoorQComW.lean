/-
  The law RatioCommon for any arguments.
-/
import Derived.Test.YteccbedmpjeamaaGreatDoorQComL
namespace Go.Proofs.YteccbedmpjeamaaGreatDoor
open Go.RowKit NM QM
theorem qg_ok (q : Rat) : badq (qg q) = false := by
  have hr : q.num.natAbs.gcd q.den = 1 := q.reduced
  have hok : okq false (NB q.num.natAbs) (NB q.den) = true := by
    by_cases h : q.num.natAbs = 0
    · rw [h] at hr ⊢
      rw [Nat.gcd_zero_left] at hr
      rw [okq_zero _ _ q.den_nz, hr]; rfl
    · rw [okq_pos _ _ _ q.den_nz h]; exact decide_eq_true hr
  unfold badq qg
  dsimp only
  rw [hok]; rfl
theorem qg_any (Q : List Rat) : (Q.map qg).any badq = false := by
  rw [List.any_eq_false]
  intro t ht
  obtain ⟨q, _, rfl⟩ := List.mem_map.1 ht
  rw [qg_ok]; simp
theorem qg_rv (q : Rat) : (rv3 (qg q)).num.natAbs = q.num.natAbs ∧ (rv3 (qg q)).den = q.den ∧ decide ((rv3 (qg q)).num < 0) = false ∧ rv3 (qg q) = mk false q.num.natAbs q.den := by
  obtain ⟨h1, h2, h3⟩ := good_parts (qg_ok q)
  have e2 : q.num.natAbs = (rv3 (qg q)).num.natAbs := by
    have := congrArg sv h2
    rw [show (qg q).2.1 = NB q.num.natAbs from rfl, sv_NB, sv_NB] at this
    exact this
  have e3 : q.den = (rv3 (qg q)).den := by
    have := congrArg sv h3
    rw [show (qg q).2.2 = NB q.den from rfl, sv_NB, sv_NB] at this
    exact this
  refine ⟨e2.symm, e3.symm, h1.symm, ?_⟩
  have := mk_self (rv3 (qg q))
  rw [← h1, ← e2, ← e3] at this
  exact this.symm
theorem qg_cells (q : Rat) : qcells (rv3 (qg q)) = #[.bool false, .string (NB q.num.natAbs), .string (NB q.den)] := by
  obtain ⟨h1, h2, h3, _⟩ := qg_rv q
  unfold qcells
  rw [h1, h2, h3]
theorem den_take (l : List T3) (k : Nat) (hk : k ≤ l.length) : ∀ t ∈ l.take k, (rv3 t).den ∣ lcl (l.take k) := by
  induction k with
  | zero => intro t h; rw [List.take_zero] at h; cases h
  | succ k ih =>
    intro t h
    have e : l.take (k + 1) = l.take k ++ [l[k]'(by omega)] := List.take_succ_eq_append_getElem (by omega)
    rw [e] at h
    rw [e, lcl_snoc, lc_lcm]
    rcases List.mem_append.1 h with h | h
    · exact Nat.dvd_trans (ih (by omega) t h) (Nat.dvd_lcm_left _ _)
    · rw [List.mem_singleton.1 h]; exact Nat.dvd_lcm_right _ _
theorem den_dvd (l : List T3) (t : T3) (h : t ∈ l) : (rv3 t).den ∣ lcl l := by
  have := den_take l l.length (Nat.le_refl _)
  rw [List.take_length] at this
  exact this t h
theorem mk_wide (n d c : Nat) (hc : c ≠ 0) : mk false (n * c) (d * c) = mk false n d := by
  unfold mk sg
  simp only [Bool.false_eq_true, if_false]
  rw [Int.natCast_mul]
  exact Rat.mkRat_mul_right hc
theorem cc_any (Q : List Rat) (h12 : Q.length ≤ 12) (hs : ∀ q ∈ Q, SmQ 16 q) : CC Q := by
  have hany := qg_any Q
  have hz := szl_qg Q hs
  have hlen : (Q.map qg).length = Q.length := List.length_map ..
  have hD : cD (Q.map qg) = NB (lcl (Q.map qg)) := by unfold cD; rw [hany, if_neg (by decide)]
  have hget : ∀ k (h : k < Q.length), Q.getD k 0 = Q[k] := fun k h => by rw [List.getD_eq_getElem?_getD, List.getElem?_eq_getElem h]; rfl
  have hLs := lcl_small 16 (Q.map qg) hz (by decide) (Q.map qg).length (Nat.le_refl _)
  rw [List.take_length, hlen] at hLs
  have hLp := lcl_pos (Q.map qg) (Q.map qg).length (Nat.le_refl _)
  rw [List.take_length] at hLp
  refine ⟨by unfold cO; rw [hany]; rfl, by unfold cL; rw [hany, if_neg (by decide)], fun k hk W t => ?_, fun k hk W t => ?_, fun W v h t => ?_⟩
  · unfold qx qy
    rw [hget k hk, hD]
    have hq := hs Q[k] (List.getElem_mem hk)
    have hdv := den_dvd (Q.map qg) (qg Q[k]) (List.mem_map.2 ⟨_, List.getElem_mem hk, rfl⟩)
    obtain ⟨r1, r2, r3, r4⟩ := qg_rv Q[k]
    have hc := qg_cells Q[k]
    have hw : wh (Q.map qg) k = NB (Q[k].num.natAbs * (lcl (Q.map qg) / Q[k].den)) := by
      unfold wh
      rw [List.getD_eq_getElem?_getD, List.getElem?_map, List.getElem?_eq_getElem hk]
      show NB ((rv3 (qg Q[k])).num.natAbs * (lcl (Q.map qg) / (rv3 (qg Q[k])).den)) = _
      rw [r1, r2]
    rw [hw]
    rw [r2] at hdv
    generalize lcl (Q.map qg) = L at *
    generalize Q[k] = q at *
    obtain ⟨c, rfl⟩ := hdv
    have hd0 : 0 < q.den := q.den_pos
    have hc0 : c ≠ 0 := fun e => by rw [e, Nat.mul_zero] at hLp; omega
    rw [Nat.mul_div_cancel_left _ hd0]
    have hcs : c < 256^(1 + Q.length * 16) := Nat.lt_of_le_of_lt (Nat.le_mul_of_pos_left c hd0) hLs
    obtain ⟨N, hN⟩ : ∃ N, N = 16 + (1 + Q.length * 16) := ⟨_, rfl⟩
    have hb : q.num.natAbs * c < 256^N := by rw [hN]; exact mul_lt hq.1 hcs
    have hb2 : q.den * c < 256^N := lt_wide hLs (by omega)
    refine (make_yes W false (q.num.natAbs * c) (q.den * c) N hb hb2 (by omega) (by omega) t.b.t t.b.g).mono ?_
    rintro e w' ⟨he, hw'⟩
    refine ⟨?_, hw'⟩
    rw [he, mk_wide _ _ _ hc0, ← r4]
    unfold QV
    rw [hc]
  · unfold qx qy
    rw [hget k hk]
    have hq := hs Q[k] (List.getElem_mem hk)
    have hc := qg_cells Q[k]
    have hsn : (Q.map qg).take (k+1) = (Q.map qg).take k ++ [qg Q[k]] := by rw [List.take_succ_eq_append_getElem (by rw [hlen]; exact hk), List.getElem_map]
    rw [hsn, sumq_snoc, ← hc]
    have hsm := sumq_small 16 (Q.map qg) hz (by decide) k (by rw [hlen]; omega)
    have hrs : SmQ 16 (rv3 (qg Q[k])) := SmQ_rvq _ _ _ 16 (q_szA hq) (q_szB hq) (by decide)
    exact aAdd W _ _ (16 + k * (16 + 1)) hsm (hrs.mono (by omega)) (by omega) (by omega) t
  · exact sumP W v (Q.map qg) 16 h hz (by decide) (by rw [hlen]; omega) (by rw [hlen]; omega) t.b
theorem ratio_common_walk (w : World) (v0 : Value) (l : List (Int × Int × Int)) (gb : Bool) (rn rd : ByteArray) (hT : Tp w) (hl : LA w v0 l) :
    Calls Tryz.prog 8 #[v0, .agg #[.bool gb, .string rn, .string rd]] w fun e w' => e = .returned (.bool true) ∧ Below w.heap.size w w' :=
  common_core w v0 gb rn rd (Lib.hid fun W t => sanity_any W t) (Lib.hid fun W b => List_any W v0 l (hl.next b)) (Lib.hid fun W b => hT.below b)
    (Lib.hid fun Q h1 h2 => cc_any Q h1 h2)
    (Lib.hid fun W v l h hs hn t => (comP W v l 16 h hs (by decide) (by omega) (by omega) t.b).mono fun e w' h => com_of h)
    (Lib.hid fun W v l h hs hn => (comR W v l 16 h hs (by decide) (by omega) (by omega)).mono fun e w' h => com_of h)
    (Lib.hid fun W a b L ha hb hn => same_true W a b L ha hb (by omega)) hT
end Go.Proofs.YteccbedmpjeamaaGreatDoor
