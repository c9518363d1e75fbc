/-
  What holds of a plan's keys and numbers, and of the dealing that they give.
-/
import Derived.Test.YtjfbpmpdcmealaaDoorDPlan
import Derived.Test.YtjfbpmpdcmealaaDoorDMath2
import Derived.Test.YtjfbpmpdcmealaaDoorDDealNo
import Derived.Test.YtjfbpmpdcmealaaDoorDSanW
namespace Go.Proofs.YtjfbpmpdcmealaaDoor.D7
open Go.RowKit GM SH G4 E6 D7P
theorem mem4 : mem 4 = true := mem_4
theorem KL_len (S : List Int) : (KL S).length = min 12 S.length := by unfold KL; rw [List.length_map, List.length_take]
theorem NL_len (S C : List Int) : (NL S C).length = min (min S.length 12) C.length := by unfold NL; rw [List.length_map, List.length_take]
theorem KL_i (S : List Int) : ∀ x ∈ KL S, i64 x := fun x hx => by
  unfold KL at hx
  obtain ⟨s, _, rfl⟩ := List.mem_map.1 hx
  exact pp_i _ _
theorem NL_0 (S C : List Int) : ∀ x ∈ NL S C, 0 ≤ x ∧ x < 1152921504606845789 := fun x hx => by
  unfold NL at hx
  obtain ⟨s, _, rfl⟩ := List.mem_map.1 hx
  exact ex_rng s
theorem NL_i (S C : List Int) : ∀ x ∈ NL S C, i64 x := fun x hx => by have := NL_0 S C x hx; exact ⟨by omega, by omega⟩
theorem NL_q (S C : List Int) : (NL S C).all inQ = true := List.all_eq_true.2 fun x hx => inQ_t (NL_0 S C x hx)
theorem KL_mem (S : List Int) : (KL S).all mem = true := List.all_eq_true.2 fun x hx => by
  unfold KL at hx
  obtain ⟨s, _, rfl⟩ := List.mem_map.1 hx
  exact pp_mem mem4 _ (ex_rng s).1
theorem KL_get (S : List Int) (k : Nat) (s : Int) (h : S[k]? = some s) (hk : k < (KL S).length) : (KL S)[k]? = some (pp 4 (ex s)) := by
  have hk12 : k < 12 := by rw [KL_len] at hk; omega
  unfold KL
  rw [List.getElem?_map, List.getElem?_take_of_lt hk12, h]; rfl
theorem pt_mem (sd : ByteArray) : mem (pp 4 (dk sd)) = true := pp_mem mem4 _ (dk_rng sd).1
theorem CM_mem (S C : List Int) : ((NL S C).map (pp 4)).all mem = true := List.all_eq_true.2 fun x hx => by
  obtain ⟨s, hs, rfl⟩ := List.mem_map.1 hx
  exact pp_mem mem4 _ (NL_0 S C s hs).1
theorem dbx_size (coefs keys : List Int) (K : Int) (i : Nat) : (dbx coefs keys K i).size = 16 := by
  have := bx_len (vl coefs ((i : Int) + 1)) (pd (pp (keys[i]?.getD 0) K) i) (pd_len _ _)
  show (List.toArray _).size = 16
  simpa using this
theorem BX_all (coefs keys : List Int) (K : Int) (n : Nat) : (dbs coefs keys K n).all (fun b => b.size == 16) = true := List.all_eq_true.2 fun x hx => by
  unfold dbs at hx
  obtain ⟨i, _, rfl⟩ := List.mem_map.1 hx
  rw [dbx_size]; rfl
theorem gd_plan (S C : List Int) (h : 1 ≤ (NL S C).length) : gd (NL S C) (KL S) = true := by
  have h1 := NL_len S C
  have h2 := KL_len S
  unfold gd
  rw [NL_q, KL_mem, decide_eq_false (by omega), decide_eq_false (by omega), decide_eq_false (by omega)]; rfl
theorem gd_none (S C : List Int) (h : (NL S C).length < 1) : gd (NL S C) (KL S) = false := by
  unfold gd; rw [decide_eq_true h]; simp
/-- the box of an owner -/
theorem dbx_own (coefs keys : List Int) (K sec : Int) (i : Nat) (hk : keys[i]? = some (pp 4 (ex sec))) : (dbx coefs keys K i).data.toList = bx (vl coefs ((i : Int) + 1)) (pd (pp (pp 4 (ex sec)) K) i) := by
  unfold dbx; rw [hk]; rfl
theorem own_fits (S C : List Int) (sd : ByteArray) (sec : Int) (k : Nat) (hk : (KL S)[k]? = some (pp 4 (ex sec))) : tk (pp (pp 4 (dk sd)) (ex sec)) (k : Int) (dbx (NL S C) (KL S) (dk sd) k).data.toList ((NL S C).map (pp 4)) = true := by
  rw [dbx_own _ _ _ sec k hk]
  exact (tk_own (NL S C) (dk sd) (ex sec) k (dk_rng sd).1 (ex_rng sec).1 (fun c hc => (NL_0 S C c hc).1)).1
end Go.Proofs.YtjfbpmpdcmealaaDoor.D7
