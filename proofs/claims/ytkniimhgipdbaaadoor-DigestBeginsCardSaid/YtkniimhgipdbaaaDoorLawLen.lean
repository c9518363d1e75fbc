/-
  The walks of the laws DigestLengths and DigestChains.
-/
import Derived.Test.YtkniimhgipdbaaaDoorLawSums
import Derived.Laws.OwnMore
namespace Go.Proofs.YtkniimhgipdbaaaDoor
open Go.RowKit SH
/-- what mod returns -/
def modv (n : Int) (m : Nat) : Nat := ((n.tmod m + m).tmod m).toNat
theorem tmod_bounds (n : Int) (m : Nat) (h : 0 < m) : -(m : Int) < n.tmod m ∧ n.tmod m < m := by
  by_cases hn : 0 ≤ n
  · rw [Int.tmod_eq_emod_of_nonneg hn]
    have h1 := Int.emod_nonneg n (show (m : Int) ≠ 0 by omega)
    have h2 := Int.emod_lt_of_pos n (show (0 : Int) < m by omega)
    omega
  · have e : n.tmod m = -((-n).tmod m) := by rw [Int.neg_tmod, Int.neg_neg]
    rw [e, Int.tmod_eq_emod_of_nonneg (show 0 ≤ -n by omega)]
    have h1 := Int.emod_nonneg (-n) (show (m : Int) ≠ 0 by omega)
    have h2 := Int.emod_lt_of_pos (-n) (show (0 : Int) < m by omega)
    omega
theorem modv_spec (n : Int) (m : Nat) (h : 0 < m) : (n.tmod m + m).tmod m = ((modv n m : Nat) : Int) ∧ modv n m < m := by
  have b := tmod_bounds n m h
  have e : (n.tmod m + m).tmod m = (n.tmod m + m) % m := Int.tmod_eq_emod_of_nonneg (by omega)
  have h1 := Int.emod_nonneg (n.tmod m + m) (show (m : Int) ≠ 0 by omega)
  have h2 := Int.emod_lt_of_pos (n.tmod m + m) (show (0 : Int) < m by omega)
  unfold modv
  rw [e]
  constructor
  · omega
  · omega
set_option maxRecDepth 100000 in
theorem mod_any (w : World) (n : Int) (m : Nat) (i : Int) (hi : i = (m : Nat)) (hm : 0 < m) (hm2 : m ≤ 1000000000) (_hn : -9223372036854775808 ≤ n ∧ n ≤ 9223372036854775807) :
    Calls Tryd.prog 6 #[.int .i64 n, .int .i64 i] w fun e w' => e = .returned (.int .i64 (modv n m : Nat)) ∧ w' = w := by
  subst hi
  have b := tmod_bounds n m hm
  have s := modv_spec n m hm
  obtain ⟨t, ht⟩ : ∃ t, n.tmod m = t := ⟨_, rfl⟩
  rw [ht] at b s
  have v1 : IntKind.i64.wrap t = t := IntWalk.i64_in _ ⟨by omega, by omega⟩
  have v2 : wrap64 (t + m) = t + m := by unfold wrap64; omega
  have v3 : IntKind.i64.wrap (t + m) = t + m := IntWalk.i64_in _ ⟨by omega, by omega⟩
  obtain ⟨u, hu⟩ : ∃ u, t + (m : Int) = u := ⟨_, rfl⟩
  rw [hu] at s v2 v3
  have s1 := s.1
  have hm0 : ¬ (m : Int) = 0 := by omega
  have hm1 : ((m : Int) == 0) = false := by simp; omega
  have HS := Lib.hid (And.intro s hm); clear s hm b hm2
  go_enter Tryd.func6, Tryd.ntmps6
  go_wp2
  go_ret
  exact ⟨rfl, rfl⟩
theorem make_bytes (n : Nat) (hn : n ≤ 1000) (u : World) : (Instr.makeSlice 27 (.int .i64 (n : Int)) (.int .i64 (n : Int))).run Tryd.prog u =
    .ok (.slice (some ⟨u.heap.size, 0, none⟩) n n) (u.alloc (.cells (madeCells #[.int .u8 0] n) 5)) := by
  obtain ⟨i0, hi, hz0, hz1, hz2⟩ := info_parts info8
  have h := run_make (P := Tryd.prog) u 27 5 i0 (.int .u8 0) Tryd.underlying27 hi hz0 .i64 .i64 (n : Int) (n : Int) (by omega) (Int.le_refl _) (by rw [hz2]; omega) (by omega)
  simpa [hz1, Value.cells] using h
/-- n bytes lie in block p, which may be written -/
def BR (w : World) (p n : Nat) : Prop := ∀ j, j < n → (∃ b : UInt8, w.cell? ⟨p, j, none⟩ = some (.int .u8 (b.toNat : Nat))) ∧ w.frozen? ⟨p, j, none⟩ = false
theorem BR.set {w : World} {p n : Nat} (h : BR w p n) (k : Nat) (b : UInt8) (hk : k < n) : BR (w.setCell ⟨p, k, none⟩ (.int .u8 (b.toNat : Nat))) p n := fun j hj => by
  refine ⟨?_, by rw [World.frozen?_setCell]; exact (h j hj).2⟩
  by_cases e : j = k
  · subst e
    obtain ⟨c, hc⟩ := (h j hj).1
    exact ⟨b, World.cell?_setCell_same _ _ _ hc⟩
  · obtain ⟨c, hc⟩ := (h j hj).1
    exact ⟨c, by rw [World.cell?_setCell_other _ _ _ _ (by intro e2; simp at e2; try omega)]; exact hc⟩
theorem BR.made (n : Nat) (u : World) : BR (u.alloc (.cells (madeCells #[.int .u8 0] n) 5)) u.heap.size n := fun j hj => by
  constructor
  · refine ⟨0, ?_⟩
    rw [World.cell?_alloc_at _ _ _ _ rfl, ← Array.getElem?_toList, toList_madeCells_one, List.getElem?_replicate, if_pos hj]
    rfl
  · rw [World.frozen?_alloc_at _ _ _ _ rfl]
theorem bytes_back (W : World) (p n cap : Nat) (h : BR W p n) :
    ∃ S2 : ByteArray, S2.size = n ∧ (convert 27 9 (.slice (some ⟨p, 0, none⟩) n cap)).run Tryd.prog W = .ok (.string S2) W := by
  have hc2 : ∀ j, ∃ b : UInt8, j < n → W.cell? ⟨p, j, none⟩ = some (.int .u8 (b.toNat : Nat)) := fun j => by
    by_cases hj : j < n
    · obtain ⟨b, hb⟩ := (h j hj).1; exact ⟨b, fun _ => hb⟩
    · exact ⟨0, fun h2 => absurd h2 hj⟩
  obtain ⟨f, hf⟩ := Classical.axiomOfChoice hc2
  refine ⟨⟨((List.range n).map f).toArray⟩, by show ((List.range n).map f).toArray.size = n; simp, ?_⟩
  have h := run_convert_bytes_back (P := Tryd.prog) W 27 9 5 ⟨p, 0, none⟩ cap ((List.range n).map f) Tryd.underlying27 Tryd.underlying5 Tryd.underlying9 (fun j hj => by
    have hj2 : j < n := by simpa using hj
    have hadd : (⟨p, 0, none⟩ : Addr).add j = ⟨p, j, none⟩ := by unfold Addr.add; split <;> simp_all
    rw [hadd, hf j hj2]
    simp)
  rwa [show ((List.range n).map f).length = n by simp] at h
end Go.Proofs.YtkniimhgipdbaaaDoor
