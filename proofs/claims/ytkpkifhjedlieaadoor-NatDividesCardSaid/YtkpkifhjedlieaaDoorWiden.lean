/-
  The walk of nat.widen: a copy of words in a longer row.
-/
import Derived.Test.YtkpkifhjedlieaaDoorWords
import Derived.Laws.CopyOwn
namespace Go.Proofs.YtkpkifhjedlieaaDoor
open Go.RowKit NM
def wcell (x : Nat) : Value := .int .u64 (x : Nat)
theorem Row.of_heap {w : World} {g t : Nat} {Z : List Nat} (h : w.heap[g]? = some (.cells (Z.map wcell).toArray t (0, 0))) : Row w g 0 Z where
  cell j hj := by simp [World.cell?, h, gd, wcell, hj]
  free j hj := by simp [World.frozen?, h]
def WidQ (X : List Nat) (n : Nat) (w : World) (e : Ending) (w' : World) : Prop :=
  ∃ Z, Own w.heap.size w' w.heap.size 0 n Z ∧ Z.length = n ∧ wv Z = wv X ∧ Below w.heap.size w w' ∧ e = .returned (.slice (some ⟨w.heap.size, 0, none⟩) n n)
set_option maxHeartbeats 1000000 in
theorem widen_any (w : World) (b o cap n : Nat) (X : List Nat) (hR : Row w b o X) (hX : Wd X) (hb : b < w.heap.size) (hn : n ≤ 1099511627776) (hl : X.length ≤ n) :
    Calls Tryd.prog 27 #[.slice (some ⟨b, o, none⟩) X.length cap, .int .i64 (n : Nat)] w (WidQ X n w) := by
  have hmk := fun u => make_words n hn u
  have hB1 := (Below.refl w.heap.size w).alloc (Nat.le_refl _) (.cells (madeCells #[.int .u64 0] n) 56)
  have hR1 := hR.alloc hb (.cells (madeCells #[.int .u64 0] n) 56)
  have hz : (w.alloc (.cells (madeCells #[.int .u64 0] n) 56)).heap.size = w.heap.size + 1 := by simp
  have hh : (w.alloc (.cells (madeCells #[.int .u64 0] n) 56)).heap[w.heap.size]? = some (.cells ((List.replicate n 0).map wcell).toArray 56 (0, 0)) := by
    have e : (madeCells #[Value.int .u64 0] n) = ((List.replicate n 0).map wcell).toArray := by
      apply Array.toList_inj.1
      rw [toList_madeCells_one]; simp [wcell]
    rw [← e]; show (w.heap.push _)[w.heap.size]? = _; rw [Array.getElem?_push_size]
  obtain ⟨C0, hC0⟩ : ∃ C0, C0 = (List.replicate n 0).map wcell := ⟨_, rfl⟩
  obtain ⟨C1, hC1⟩ : ∃ C1, C1 = X.map wcell := ⟨_, rfl⟩
  rw [← hC0] at hh
  have l0 : C0.length = n := by rw [hC0]; simp
  have l1 : C1.length = X.length := by rw [hC1]; simp
  have h1 : ∀ v ∈ C1, v.oneCell' = true := by
    intro v hv; rw [hC1] at hv; obtain ⟨x, _, rfl⟩ := List.mem_map.1 hv; rfl
  have hsrc : ∀ j v, C1[j]? = some v → (w.alloc (.cells (madeCells #[.int .u64 0] n) 56)).cell? ((⟨b, o, none⟩ : Addr).add j) = some v := by
    intro j v hj
    rw [hC1, List.getElem?_map] at hj
    by_cases hjl : j < X.length
    · rw [List.getElem?_eq_getElem hjl] at hj
      simp only [Option.map_some, Option.some.injEq] at hj
      have ha : (⟨b, o, none⟩ : Addr).add j = ⟨b, o + j, none⟩ := by unfold Addr.add; split <;> simp_all
      rw [ha, hR1.cell j hjl, ← hj]
      simp [wcell, gd, hjl]
    · rw [List.getElem?_eq_none (by omega)] at hj; simp at hj
  have H1 := Lib.hid h1; have HS := Lib.hid hsrc; have HH := Lib.hid hh; have L0 := Lib.hid l0; have L1 := Lib.hid l1
  have HC0 := Lib.hid hC0; have HC1 := Lib.hid hC1
  clear h1 hsrc hh l0 l1 hC0 hC1 hR1 hR
  go_enter Tryd.func27, Tryd.ntmps27
  go_wp2_with (with_reducible refine wpList_copy_splice rfl _ _ _ _ rfl 56 Tryd.underlying46 (by kernel_rfl) _ _ _ _ _ _ rfl rfl w.heap.size 0 C0 56 HH.out C1 (by rw [L1.out]; exact (Nat.min_eq_left hl).symm) (fun _ => ⟨rfl, _, rfl, HS.out⟩) (by rw [L0.out, L1.out]; omega) H1.out w.heap.size w hB1 (Nat.le_refl _) ?_; intro w2 HG2 hB2)
  go_ret
  have hg := HG2.out
  have hsp : splice C0 0 C1 = ((X ++ List.replicate (n - X.length) 0).map wcell) := by
    unfold splice
    rw [HC0.out, HC1.out]
    simp
  rw [hsp] at hg
  refine ⟨X ++ List.replicate (n - X.length) 0, ⟨Nat.le_refl _, (Array.getElem?_eq_some_iff.1 hg).1, Row.of_heap hg, Wd_append hX (Wd_zeros _), by simp; omega⟩, by simp; omega, by rw [wv_append, wv_replicate, Nat.mul_zero, Nat.add_zero], hB2, rfl⟩
end Go.Proofs.YtkpkifhjedlieaaDoor
