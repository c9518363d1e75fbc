/-
  The walk of strconv.FormatUint to the base 10.
  The walk of a strings.Builder's WriteString, at a builder of the caller's own.
  nat.Text of a number that one piece holds.
  nat.Parse of a text with a zero in front: nothing.
-/
import Derived.Test.YtipmoklmolhffaaShelf
import Derived.Test.YtipmoklmolhffaaBase
import Derived.Lib.ItoaMem
import Derived.Lib.UnsafeStr
import Derived.Lib.AppendStr
import Derived.Lib.Builder
import Derived.OwnWalk
import Derived.Test.YtipmoklmolhffaaDiv
import Derived.Test.YtipmoklmolhffaaGcd
import Derived.Laws.AppendOwn
namespace Go.Proofs.Ytipmoklmolhffaa
open Go.RowKit Go.Sort NM
abbrev P10 (w : World) : Prop := Lib.TabIs Try.prog w "internal/strconv.uint64pow10" .u64 Lib.pow10Tab
theorem holds0 (w : World) (T : TypeId) (nd : Nat) (hs : nd ≤ 24) : Holds (fun (b : UInt8) => Value.int .u8 (b.toNat : Int)) (w.alloc (.cells Lib.zeros24 T)) w.heap.size 0 (Array.replicate nd (0 : UInt8)) := fun j hj => by
  have hj' : j < nd := by simpa using hj
  refine ⟨?_, World.frozen?_alloc_new _ _ _ _⟩
  rw [Nat.zero_add, World.cell?_alloc_new, Lib.zeros24_at _ (by omega), getElem!_pos _ j hj]
  simp
theorem below_put (w : World) (o : Obj) (dk : Array UInt8) (k : Nat) : Below w.heap.size w ((putRow (fun (b : UInt8) => Value.int .u8 (b.toNat : Int)) (w.alloc o) w.heap.size 0 dk).drewN k) := by
  rw [alloc_eq_grow]
  obtain ⟨os', h1, e⟩ := putRow_grow_new (fun (b : UInt8) => Value.int .u8 (b.toNat : Int)) w #[o] w.heap.size 0 dk (Nat.le_refl _)
  rw [e]
  exact ⟨rfl, rfl, rfl, by show w.heap.size ≤ (grow w os').heap.size; simp [grow], fun k hk => heap_grow_old w os' hk⟩
end Go.Proofs.Ytipmoklmolhffaa
namespace Go.Proofs.Ytipmoklmolhffaa
open Go.RowKit NM
abbrev t8 : TypeId := 5
theorem info8 : (Try.prog.info? t8).map (fun i => (i.zero, i.size, i.bytes)) = some (some (.int .u8 0), 1, 1) := by kernel_rfl
end Go.Proofs.Ytipmoklmolhffaa
namespace Go.Proofs.Ytipmoklmolhffaa
open Go.RowKit NM
theorem info64 : (Try.prog.info? 54).map (fun i => (i.zero, i.size, i.bytes)) = some (some (.int .u64 0), 1, 8) := by kernel_rfl
end Go.Proofs.Ytipmoklmolhffaa
namespace Go.Proofs.Ytipmoklmolhffaa
open Go.RowKit NM
def s007 : ByteArray := ⟨#[48, 48, 55]⟩
end Go.Proofs.Ytipmoklmolhffaa
