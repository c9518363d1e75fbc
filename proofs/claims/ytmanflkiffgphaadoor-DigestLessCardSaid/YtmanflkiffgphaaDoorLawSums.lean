/-
  The walks of the laws DigestSums and DigestJoined.
-/
import Derived.Test.YtmanflkiffgphaaDoorSanityD
import Derived.Stop.BytesEq
namespace Go.Proofs.YtmanflkiffgphaaDoor
open Go.RowKit SH
theorem sizeOf8 (w : World) : (sizeOf 5).run Tryd.prog w = .ok 1 w := by
  obtain ⟨i0, hi, hz0, hz1, hz2⟩ := info_parts info8
  simp [sizeOf, typeInfo, hi, hz1]
theorem eql_hash (w : World) (a b : List UInt8) (ha : a.length = 32) (hb : b.length = 32) : (binOp .eql 24 (hval a) (hval b)).run Tryd.prog w = .ok (.bool (a == b)) w :=
  run_eql_bytes w 24 5 32 Tryd.underlying24 Tryd.underlying5 sizeOf8 a b ha hb
theorem eql_same (w : World) (a : List UInt8) (ha : a.length = 32) : (binOp .eql 24 (hval a) (hval a)).run Tryd.prog w = .ok (.bool true) w := by
  rw [eql_hash w a a ha ha]; simp
theorem sha_length (l : List UInt8) : (sha l).length = 32 := by simp [sha, out]
/-- the tables lie in memory -/
structure TB (w : World) : Prop where
  sq : SQ w
  cb : CB w
theorem TB.below {u w : World} (h : TB u) (hb : Below u.heap.size u w) : TB w := ⟨h.sq.below hb h.sq.lt, h.cb.below hb h.cb.lt⟩
theorem TB.drew {w : World} (h : TB w) : TB w.drew := ⟨h.sq, h.cb⟩
theorem sumN (w : World) (t : ByteArray) (l : List UInt8) (h : sha t.data.toList = l) (hn : t.size ≤ 1000000000) (hT : TB w) :
    Calls Tryd.prog 14 #[.string t] w fun e w' => e = .returned (hval l) ∧ Below w.heap.size w w' := by rw [← h]; exact Sum_any w t hn hT.sq hT.cb
theorem sumR (w : World) (t : ByteArray) (l : List UInt8) (h : sha t.data.toList = l) (hn : t.size ≤ 1000000000) :
    Calls Tryd.prog 15 #[.string t] w fun e w' => e = .returned (hval l) ∧ Below w.heap.size w w' := by rw [← h]; exact refSum_any w t hn
theorem sane (w : World) (hT : TB w) : Calls Tryd.prog 13 #[] w fun e w' => e = .returned (.bool true) ∧ Below w.heap.size w w' := sanity_any w hT.sq hT.cb
set_option maxRecDepth 100000 in
set_option maxHeartbeats 2000000 in
theorem sums_walk (w : World) (s : ByteArray) (hT : TB w) :
    Calls Tryd.prog 3 #[.string s] w fun e w' => e = .returned (.bool true) ∧ Below w.heap.size w w' := by
  obtain ⟨m, hm⟩ : ∃ m, min s.size 500 = m := ⟨_, rfl⟩
  have m1 : min (s.size : Int) 500 = (m : Int) := by omega
  have m2 : (m : Int) ≤ (s.size : Int) := by omega
  have m3 : (0 : Int) ≤ (m : Int) := by omega
  have m4 : m ≤ s.size := by omega
  obtain ⟨x, hx⟩ : ∃ x, s.extract 0 m = x := ⟨_, rfl⟩
  have hxs : x.size ≤ 1000000000 := by rw [← hx, (ext_take s m m4).2]; omega
  obtain ⟨l, hl⟩ : ∃ l, sha x.data.toList = l := ⟨_, rfl⟩
  have hll : l.length = 32 := by rw [← hl]; exact sha_length _
  have heq := fun W => eql_same W l hll
  have HX := Lib.hid (And.intro hxs (And.intro hl hT)); clear hxs hl hll hT
  go_enter Tryd.func3, Tryd.ntmps3
  go_wp2_with fail
  go_must (go_fit (sane _ HX.out.2.2))
  rintro e w1 ⟨rfl, b1⟩
  have t1 := Lib.hid (HX.out.2.2.below b1)
  have hB := Lib.hid b1; clear b1
  go_wp2_with fail
  go_must (go_fit (sumN _ x l HX.out.2.1 HX.out.1 t1.out))
  rintro e w2 ⟨rfl, b2⟩
  replace hB := Lib.hid (hB.out.trans (b2.mono hB.out.size)); clear b2
  go_wp2_with fail
  go_must (go_fit (sumR _ x l HX.out.2.1 HX.out.1))
  rintro e w3 ⟨rfl, b3⟩
  replace hB := Lib.hid (hB.out.trans (b3.mono hB.out.size)); clear b3
  go_wp2
  go_ret
  exact ⟨rfl, hB.out⟩
end Go.Proofs.YtmanflkiffgphaaDoor
