/-
  The law DigestStream's walk: the program's stream of a length up to 300 is the reference's; a length out of bounds gives nothing.
-/
import Derived.Test.YtkniimhgipdbaaaDoorStreamF
namespace Go.Proofs.YtkniimhgipdbaaaDoor
open Go.RowKit SH Go
theorem refStream_none (w : World) (seed : ByteArray) (n : Int) (hn : n < 1 ∨ 1048576 < n) :
    Calls Tryd.prog 8 #[.string seed, .int .i64 n] w fun e w' => e = .returned (.string ⟨#[]⟩) ∧ Below w.heap.size w w' := by
  have hb : Below w.heap.size w w := Below.refl _ _
  have HB := Lib.hid hb; clear hb
  go_enter Tryd.func8, Tryd.ntmps8
  by_cases h1 : n < 1
  · go_wp2
    go_ret
    exact ⟨rfl, HB.out⟩
  · have h2 : (1048576 : Int) < n := by omega
    go_wp2
    go_ret
    exact ⟨rfl, HB.out⟩
/-- both streams of a length below 300 -/
theorem both_any (seed : ByteArray) (hs : seed.size ≤ 1000) (k : Nat) (hk : k < 300) : ∃ S : ByteArray,
    (∀ w, T3 w → Calls Tryd.prog 7 #[.string seed, .int .i64 (k : Int)] w fun e w' => e = .returned (.string S) ∧ Below w.heap.size w w') ∧
    (∀ w, Calls Tryd.prog 8 #[.string seed, .int .i64 (k : Int)] w fun e w' => e = .returned (.string S) ∧ Below w.heap.size w w') := by
  by_cases h0 : k = 0
  · subst h0
    exact ⟨⟨#[]⟩, fun w _ => stream_none w seed _ (.inl (by decide)), fun w => refStream_none w seed _ (.inl (by decide))⟩
  · exact ⟨_, fun w hT => stream_any w seed (by omega) k (by omega) (by omega) hT, fun w => refStream_any w seed hs k (by omega) (by omega)⟩
set_option maxRecDepth 100000 in
set_option maxHeartbeats 4000000 in
theorem stream_walk (w : World) (s : ByteArray) (n : Int) (hn : -9223372036854775808 ≤ n ∧ n ≤ 9223372036854775807) (hT : T3 w) :
    Calls Tryd.prog 3 #[.string s, .int .i64 n] w fun e w' => e = .returned (.bool true) ∧ Below w.heap.size w w' := by
  obtain ⟨m, hm⟩ : ∃ m, min s.size 100 = m := ⟨_, rfl⟩
  have m1 : min (s.size : Int) 100 = (m : Int) := by omega
  have m2 : (m : Int) ≤ (s.size : Int) := by omega
  have m3 : (0 : Int) ≤ (m : Int) := by omega
  have m4 : m ≤ s.size := by omega
  obtain ⟨x, hx⟩ : ∃ x, s.extract 0 m = x := ⟨_, rfl⟩
  have hxs : x.size ≤ 1000 := by rw [← hx, (ext_take s m m4).2]; omega
  have k1 := fun W => mod_any W n 300 300 rfl (by omega) (by omega) hn
  have l1 := (modv_spec n 300 (by omega)).2
  obtain ⟨k, e1⟩ : ∃ r, modv n 300 = r := ⟨_, rfl⟩
  rw [e1] at k1 l1
  clear e1
  obtain ⟨S, A1, A2⟩ := both_any x hxs k l1
  have HK := Lib.hid (And.intro hT (And.intro (TB.mk hT.sq hT.cb) (And.intro k1 (And.intro A1 A2)))); clear hT k1 A1 A2 hxs l1 hn
  go_enter Tryd.func3, Tryd.ntmps3
  by_cases h1 : n < 1
  · go_wp2_with fail
    go_must (go_fit (sane _ HK.out.2.1))
    rintro e w1 ⟨rfl, b1⟩
    have t1 := Lib.hid (HK.out.1.below b1)
    have hB := Lib.hid b1; clear b1
    go_wp2_with fail
    go_must (go_fit (HK.out.2.2.1 _))
    rintro e w2 ⟨rfl, rfl⟩
    go_wp2_with fail
    go_must (go_fit (HK.out.2.2.2.1 _ t1.out))
    rintro e w2 ⟨rfl, b2⟩
    have t2 := Lib.hid (t1.out.below b2)
    replace hB := Lib.hid (hB.out.trans (b2.mono hB.out.size)); clear b2 t1
    go_wp2_with fail
    go_must (go_fit (HK.out.2.2.2.2 _))
    rintro e w3 ⟨rfl, b3⟩
    have t3 := Lib.hid (t2.out.below b3)
    replace hB := Lib.hid (hB.out.trans (b3.mono hB.out.size)); clear b3 t2
    go_wp2_with fail
    go_must (go_fit (stream_none _ x n (.inl h1)))
    rintro e w4 ⟨rfl, b4⟩
    replace hB := Lib.hid (hB.out.trans (b4.mono hB.out.size)); clear b4
    go_wp2
    go_ret
    exact ⟨rfl, hB.out⟩
  · by_cases h2 : (1048576 : Int) < n
    · go_wp2_with fail
      go_must (go_fit (sane _ HK.out.2.1))
      rintro e w1 ⟨rfl, b1⟩
      have t1 := Lib.hid (HK.out.1.below b1)
      have hB := Lib.hid b1; clear b1
      go_wp2_with fail
      go_must (go_fit (HK.out.2.2.1 _))
      rintro e w2 ⟨rfl, rfl⟩
      go_wp2_with fail
      go_must (go_fit (HK.out.2.2.2.1 _ t1.out))
      rintro e w2 ⟨rfl, b2⟩
      have t2 := Lib.hid (t1.out.below b2)
      replace hB := Lib.hid (hB.out.trans (b2.mono hB.out.size)); clear b2 t1
      go_wp2_with fail
      go_must (go_fit (HK.out.2.2.2.2 _))
      rintro e w3 ⟨rfl, b3⟩
      have t3 := Lib.hid (t2.out.below b3)
      replace hB := Lib.hid (hB.out.trans (b3.mono hB.out.size)); clear b3 t2
      go_wp2_with fail
      go_must (go_fit (stream_none _ x n (.inr (by omega))))
      rintro e w4 ⟨rfl, b4⟩
      replace hB := Lib.hid (hB.out.trans (b4.mono hB.out.size)); clear b4
      go_wp2
      go_ret
      exact ⟨rfl, hB.out⟩
    · go_wp2_with fail
      go_must (go_fit (sane _ HK.out.2.1))
      rintro e w1 ⟨rfl, b1⟩
      have t1 := Lib.hid (HK.out.1.below b1)
      have hB := Lib.hid b1; clear b1
      go_wp2_with fail
      go_must (go_fit (HK.out.2.2.1 _))
      rintro e w2 ⟨rfl, rfl⟩
      go_wp2_with fail
      go_must (go_fit (HK.out.2.2.2.1 _ t1.out))
      rintro e w2 ⟨rfl, b2⟩
      have t2 := Lib.hid (t1.out.below b2)
      replace hB := Lib.hid (hB.out.trans (b2.mono hB.out.size)); clear b2 t1
      go_wp2_with fail
      go_must (go_fit (HK.out.2.2.2.2 _))
      rintro e w3 ⟨rfl, b3⟩
      have t3 := Lib.hid (t2.out.below b3)
      replace hB := Lib.hid (hB.out.trans (b3.mono hB.out.size)); clear b3 t2
      go_wp2
      go_ret
      exact ⟨rfl, hB.out⟩
end Go.Proofs.YtkniimhgipdbaaaDoor
