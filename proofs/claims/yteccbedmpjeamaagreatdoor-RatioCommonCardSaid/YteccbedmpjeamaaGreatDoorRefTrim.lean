/-
  The walks of the reference's trim, minus, times and cmp.
-/
import Derived.Test.YteccbedmpjeamaaGreatDoorRefMul2
namespace Go.Proofs.YteccbedmpjeamaaGreatDoor
open Go.RowKit NM
theorem RowI.take {w : World} {b o : Nat} {X : List Nat} (h : RowI w b o X) (k : Nat) (hk : k ≤ X.length) : RowI w b o (X.take k) :=
  ⟨fun j hj => by
    rw [List.length_take, Nat.min_eq_left hk] at hj
    rw [h.cell j (by omega)]
    unfold gd
    rw [List.getD_eq_getElem?_getD, List.getD_eq_getElem?_getD, List.getElem?_take_of_lt hj]⟩
theorem gd_take (X : List Nat) (k j : Nat) (h : j < k) : gd (X.take k) j = gd X j := by
  unfold gd
  rw [List.getD_eq_getElem?_getD, List.getD_eq_getElem?_getD, List.getElem?_take_of_lt h]
/-- where it lies -/
def From (B : Nat) : Value → Prop
  | .slice (some a) _ _ => B ≤ a.block
  | _ => True
def RTrimQ (v0 : Value) (ds : List Nat) (w : World) (e : Ending) (w' : World) : Prop :=
  ∃ v, e = .returned v ∧ w = w' ∧ ∃ k, k ≤ ds.length ∧ IntsAt w v (ds.take k) ∧ T24 (ds.take k) ∧ dv (ds.take k) = dv ds ∧ ∀ B, From B v0 → From B v
set_option maxRecDepth 100000 in
set_option maxHeartbeats 2000000 in
theorem trim_ref (w : World) (v : Value) (ds : List Nat) (h : IntsAt w v ds) (hn : ds.length ≤ 1099511627776) :
    Calls Tryz.prog 100 #[v] w (RTrimQ v ds w) := by
  rcases h with ⟨rfl, rfl⟩ | ⟨b, o, cap, rfl, hb, hr, hc⟩
  · go_enter Tryz.func100, Tryz.ntmps100
    go_wp2
    go_loop [0] (fun l => l = .slice none 0 0) (fun _ => 0)
    case atStart => rfl
    case round =>
      obtain rfl := hrel
      go_wp2
      go_ret
      exact ⟨_, rfl, rfl, 0, Nat.le_refl _, .inl ⟨rfl, rfl⟩, .inl rfl, rfl, fun _ h => h⟩
  · obtain ⟨n, hnl⟩ : ∃ n, n = ds.length := ⟨_, rfl⟩
    rw [← hnl] at hc hn ⊢
    have HN := Lib.hid hnl; clear hnl
    go_enter Tryz.func100, Tryz.ntmps100
    go_wp2
    go_loop [0] (fun l => ∃ j : Nat, j ≤ n ∧ l = .slice (some ⟨b, o, none⟩) j cap ∧ Hid (dv (ds.take j) = dv ds)) (fun l => match l with | .slice _ j _ => j | _ => 0)
    case atStart => exact ⟨n, Nat.le_refl _, rfl, Lib.hid (by rw [HN.out, List.take_length])⟩
    case round =>
      obtain ⟨j, hj, rfl, hv⟩ := hrel
      by_cases h0 : j = 0
      · subst h0
        go_wp2
        go_ret
        exact ⟨_, rfl, rfl, 0, Nat.zero_le _, .inr ⟨b, o, cap, rfl, hb, hr.take 0 (Nat.zero_le _), Nat.zero_le _⟩, .inl rfl, hv.out, fun _ h => h⟩
      · obtain ⟨k, hk⟩ : ∃ k, j = k + 1 := ⟨j - 1, by omega⟩
        have hx := hr.cell k (by have := HN.out; omega)
        have e1 : IntKind.i64.wrap ((j : Int) - 1) = (k : Int) := by rw [show ((j : Int) - 1) = (k : Int) by omega]; exact IntWalk.i64_in _ ⟨by omega, by omega⟩
        have e2 : decide ((0 : Int) < (j : Int)) = true := by simp; omega
        have e3 : (k : Int) < (j : Int) := by omega
        have e4 : k ≤ cap := by omega
        have HK := Lib.hid hk; clear hk
        by_cases hz : gd ds k = 0
        · rw [hz] at hx
          have HZ := Lib.hid hz; clear hz
          go_wp2
          refine ⟨⟨k, by omega, rfl, Lib.hid ?_⟩, by show k < j; omega⟩
          have h1 := dv_take_next ds k
          rw [HZ.out, Nat.mul_zero] at h1
          have h2 : dv (ds.take (k+1)) = dv (ds.take k) := h1
          rw [← h2, ← HK.out]; exact hv.out
        · have hzb : (((gd ds k : Nat) : Int) == 0) = false := beq_eq_false_iff_ne.2 (by omega)
          have HZ := Lib.hid hz; clear hz
          generalize gd ds k = x at hx hzb
          have hl : (ds.take j).length = j := by rw [List.length_take, Nat.min_eq_left (by rw [← HN.out]; exact hj)]
          have hat : IntsAt w (.slice (some ⟨b, o, none⟩) j cap) (ds.take j) := .inr ⟨b, o, cap, by rw [hl], hb, hr.take j (by rw [← HN.out]; exact hj), by rw [hl]; omega⟩
          have HAT := Lib.hid hat; clear hat
          go_wp2
          go_ret
          refine ⟨_, rfl, rfl, j, by rw [← HN.out]; exact hj, HAT.out, .inr ?_, hv.out, fun _ h => h⟩
          rw [hl, HK.out, Nat.add_sub_cancel, gd_take _ _ _ (Nat.lt_succ_self _)]
          exact HZ.out
end Go.Proofs.YteccbedmpjeamaaGreatDoor
