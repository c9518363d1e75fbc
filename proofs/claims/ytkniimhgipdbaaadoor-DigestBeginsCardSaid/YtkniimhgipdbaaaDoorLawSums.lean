/-
  The walks of the laws DigestSums and DigestJoined.
-/
import Derived.Test.YtkniimhgipdbaaaDoorSanityD
import Derived.Stop.BytesEq
namespace Go.Proofs.YtkniimhgipdbaaaDoor
open Go.RowKit SH
theorem sizeOf8 (w : World) : (sizeOf 5).run Tryd.prog w = .ok 1 w := by
  obtain ⟨i0, hi, hz0, hz1, hz2⟩ := info_parts info8
  simp [sizeOf, typeInfo, hi, hz1]
theorem eql_hash (w : World) (a b : List UInt8) (ha : a.length = 32) (hb : b.length = 32) : (binOp .eql 29 (hval a) (hval b)).run Tryd.prog w = .ok (.bool (a == b)) w :=
  run_eql_bytes w 29 5 32 Tryd.underlying29 Tryd.underlying5 sizeOf8 a b ha hb
theorem eql_same (w : World) (a : List UInt8) (ha : a.length = 32) : (binOp .eql 29 (hval a) (hval a)).run Tryd.prog w = .ok (.bool true) w := by
  rw [eql_hash w a a ha ha]; simp
theorem sha_length (l : List UInt8) : (sha l).length = 32 := by simp [sha, out]
/-- the tables lie in memory -/
structure TB (w : World) : Prop where
  sq : SQ w
  cb : CB w
theorem TB.below {u w : World} (h : TB u) (hb : Below u.heap.size u w) : TB w := ⟨h.sq.below hb h.sq.lt, h.cb.below hb h.cb.lt⟩
theorem TB.drew {w : World} (h : TB w) : TB w.drew := ⟨h.sq, h.cb⟩
theorem sumN (w : World) (t : ByteArray) (l : List UInt8) (h : sha t.data.toList = l) (hn : t.size ≤ 1000000000) (hT : TB w) :
    Calls Tryd.prog 9 #[.string t] w fun e w' => e = .returned (hval l) ∧ Below w.heap.size w w' := by rw [← h]; exact Sum_any w t (Nat.le_trans hn (by decide)) hT.sq hT.cb
theorem sumR (w : World) (t : ByteArray) (l : List UInt8) (h : sha t.data.toList = l) (hn : t.size ≤ 1000000000) :
    Calls Tryd.prog 12 #[.string t] w fun e w' => e = .returned (hval l) ∧ Below w.heap.size w w' := by rw [← h]; exact refSum_any w t hn
theorem sane (w : World) (hT : TB w) : Calls Tryd.prog 5 #[] w fun e w' => e = .returned (.bool true) ∧ Below w.heap.size w w' := sanity_any w hT.sq hT.cb
end Go.Proofs.YtkniimhgipdbaaaDoor
