/-
  The eight bytes of a number: sign.bytesOf.
-/
import Derived.Test.YthoonpjgecempaaDoorGLawPowers
import Derived.Test.YthoonpjgecempaaDoorSMath
namespace Go.Proofs.YthoonpjgecempaaDoor.S5
open Go.RowKit GM SH G4
/-- the byte of the number at place k, the lowest first -/
def by8 (n k : Nat) : UInt8 := UInt8.ofNat (n / 2^(8*k))
def bxl (n : Nat) : List UInt8 := [by8 n 7, by8 n 6, by8 n 5, by8 n 4, by8 n 3, by8 n 2, by8 n 1, by8 n 0]
/-- the eight bytes of a number -/
def bx (n : Nat) : ByteArray := ⟨(bxl n).toArray⟩
theorem bx_size (n : Nat) : (bx n).size = 8 := rfl
/-- the array when k bytes are in their places -/
def rw8 (n : Nat) : Nat → List UInt8
  | 0 => List.replicate 8 0
  | k+1 => (rw8 n k).set (7-k) (by8 n k)
theorem rw8_len (n : Nat) : ∀ k, (rw8 n k).length = 8
  | 0 => by simp [rw8]
  | k+1 => by simp [rw8, rw8_len n k]
theorem rw8_done (n : Nat) : rw8 n 8 = bxl n := rfl
/-- bytes l lie in block b as an array of eight -/
def BM (w : World) (b : Nat) (l : List UInt8) : Prop := w.heap[b]? = some (.cells (hcells l) 52 (0, 0))
theorem BM.lt {w : World} {b : Nat} {l : List UInt8} (h : BM w b l) : b < w.heap.size := (Array.getElem?_eq_some_iff.1 h).1
theorem BM.cell {w : World} {b : Nat} {l : List UInt8} (h : BM w b l) (j : Nat) (hj : j < l.length) : w.cell? ⟨b, j, none⟩ = some (.int .u8 (gb l j : Nat)) := by
  rw [cell_of_row w b j _ _ _ h, hcells_get l j hj]
theorem BM.free {w : World} {b : Nat} {l : List UInt8} (h : BM w b l) (j : Nat) : w.frozen? ⟨b, j, none⟩ = false := frozen_of_row w b j _ _ h
theorem BM.set {w : World} {b : Nat} {l : List UInt8} (h : BM w b l) (j : Nat) (x : UInt8) : BM (w.setCell ⟨b, j, none⟩ (.int .u8 (x.toNat : Nat))) b (l.set j x) := by
  unfold BM; rw [heap_setCell_same w b j _ _ _ h, hcells_set]
theorem BM.conv {w : World} {b : Nat} {l : List UInt8} (h : BM w b l) (c : Nat) (n : Nat) (hn : l.length = n) :
    (convert 30 9 (.slice (some ⟨b, 0, none⟩) n c)).run Tryd.prog w = .ok (.string ⟨l.toArray⟩) w := by
  subst hn
  refine run_convert_bytes_back (P := Tryd.prog) w 30 9 5 ⟨b, 0, none⟩ c l Tryd.underlying30 Tryd.underlying5 Tryd.underlying9 (fun j hj => ?_)
  have hadd : (⟨b, 0, none⟩ : Addr).add j = ⟨b, j, none⟩ := by unfold Addr.add; split <;> simp_all
  rw [hadd, h.cell j hj]
  simp [gb, List.getD_eq_getElem?_getD, hj]
end Go.Proofs.YthoonpjgecempaaDoor.S5
