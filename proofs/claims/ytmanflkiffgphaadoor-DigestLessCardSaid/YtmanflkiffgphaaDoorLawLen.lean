/-
  The walks of the laws DigestLengths and DigestChains.
-/
import Derived.Test.YtmanflkiffgphaaDoorLawSums
import Derived.Laws.OwnMore
namespace Go.Proofs.YtmanflkiffgphaaDoor
open Go.RowKit SH
/-- what mod returns -/
def modv (n : Int) (m : Nat) : Nat := ((n.tmod m + m).tmod m).toNat
theorem tmod_bounds (n : Int) (m : Nat) (h : 0 < m) : -(m : Int) < n.tmod m ∧ n.tmod m < m := by
  by_cases hn : 0 ≤ n
  · rw [Int.tmod_eq_emod_of_nonneg hn]
    have h1 := Int.emod_nonneg n (show (m : Int) ≠ 0 by omega)
    have h2 := Int.emod_lt_of_pos n (show (0 : Int) < m by omega)
    omega
  · have e : n.tmod m = -((-n).tmod m) := by rw [Int.neg_tmod, Int.neg_neg]
    rw [e, Int.tmod_eq_emod_of_nonneg (show 0 ≤ -n by omega)]
    have h1 := Int.emod_nonneg (-n) (show (m : Int) ≠ 0 by omega)
    have h2 := Int.emod_lt_of_pos (-n) (show (0 : Int) < m by omega)
    omega
theorem modv_spec (n : Int) (m : Nat) (h : 0 < m) : (n.tmod m + m).tmod m = ((modv n m : Nat) : Int) ∧ modv n m < m := by
  have b := tmod_bounds n m h
  have e : (n.tmod m + m).tmod m = (n.tmod m + m) % m := Int.tmod_eq_emod_of_nonneg (by omega)
  have h1 := Int.emod_nonneg (n.tmod m + m) (show (m : Int) ≠ 0 by omega)
  have h2 := Int.emod_lt_of_pos (n.tmod m + m) (show (0 : Int) < m by omega)
  unfold modv
  rw [e]
  constructor
  · omega
  · omega
set_option maxRecDepth 100000 in
theorem mod_any (w : World) (n : Int) (m : Nat) (i : Int) (hi : i = (m : Nat)) (hm : 0 < m) (hm2 : m ≤ 1000000000) (_hn : -9223372036854775808 ≤ n ∧ n ≤ 9223372036854775807) :
    Calls Tryd.prog 17 #[.int .i64 n, .int .i64 i] w fun e w' => e = .returned (.int .i64 (modv n m : Nat)) ∧ w' = w := by
  subst hi
  have b := tmod_bounds n m hm
  have s := modv_spec n m hm
  obtain ⟨t, ht⟩ : ∃ t, n.tmod m = t := ⟨_, rfl⟩
  rw [ht] at b s
  have v1 : IntKind.i64.wrap t = t := IntWalk.i64_in _ ⟨by omega, by omega⟩
  have v2 : wrap64 (t + m) = t + m := by unfold wrap64; omega
  have v3 : IntKind.i64.wrap (t + m) = t + m := IntWalk.i64_in _ ⟨by omega, by omega⟩
  obtain ⟨u, hu⟩ : ∃ u, t + (m : Int) = u := ⟨_, rfl⟩
  rw [hu] at s v2 v3
  have s1 := s.1
  have hm0 : ¬ (m : Int) = 0 := by omega
  have hm1 : ((m : Int) == 0) = false := by simp; omega
  have HS := Lib.hid (And.intro s hm); clear s hm b hm2
  go_enter Tryd.func17, Tryd.ntmps17
  go_wp2
  go_ret
  exact ⟨rfl, rfl⟩
theorem make_bytes (n : Nat) (hn : n ≤ 1000) (u : World) : (Instr.makeSlice 36 (.int .i64 (n : Int)) (.int .i64 (n : Int))).run Tryd.prog u =
    .ok (.slice (some ⟨u.heap.size, 0, none⟩) n n) (u.alloc (.cells (madeCells #[.int .u8 0] n) 5)) := by
  obtain ⟨i0, hi, hz0, hz1, hz2⟩ := info_parts info8
  have h := run_make (P := Tryd.prog) u 36 5 i0 (.int .u8 0) Tryd.underlying36 hi hz0 .i64 .i64 (n : Int) (n : Int) (by omega) (Int.le_refl _) (by rw [hz2]; omega) (by omega)
  simpa [hz1, Value.cells] using h
/-- n bytes lie in block p, which may be written -/
def BR (w : World) (p n : Nat) : Prop := ∀ j, j < n → (∃ b : UInt8, w.cell? ⟨p, j, none⟩ = some (.int .u8 (b.toNat : Nat))) ∧ w.frozen? ⟨p, j, none⟩ = false
theorem BR.set {w : World} {p n : Nat} (h : BR w p n) (k : Nat) (b : UInt8) (hk : k < n) : BR (w.setCell ⟨p, k, none⟩ (.int .u8 (b.toNat : Nat))) p n := fun j hj => by
  refine ⟨?_, by rw [World.frozen?_setCell]; exact (h j hj).2⟩
  by_cases e : j = k
  · subst e
    obtain ⟨c, hc⟩ := (h j hj).1
    exact ⟨b, World.cell?_setCell_same _ _ _ hc⟩
  · obtain ⟨c, hc⟩ := (h j hj).1
    exact ⟨c, by rw [World.cell?_setCell_other _ _ _ _ (by intro e2; simp at e2; try omega)]; exact hc⟩
theorem BR.made (n : Nat) (u : World) : BR (u.alloc (.cells (madeCells #[.int .u8 0] n) 5)) u.heap.size n := fun j hj => by
  constructor
  · refine ⟨0, ?_⟩
    rw [World.cell?_alloc_at _ _ _ _ rfl, ← Array.getElem?_toList, toList_madeCells_one, List.getElem?_replicate, if_pos hj]
    rfl
  · rw [World.frozen?_alloc_at _ _ _ _ rfl]
theorem bytes_back (W : World) (p n cap : Nat) (h : BR W p n) :
    ∃ S2 : ByteArray, S2.size = n ∧ (convert 36 9 (.slice (some ⟨p, 0, none⟩) n cap)).run Tryd.prog W = .ok (.string S2) W := by
  have hc2 : ∀ j, ∃ b : UInt8, j < n → W.cell? ⟨p, j, none⟩ = some (.int .u8 (b.toNat : Nat)) := fun j => by
    by_cases hj : j < n
    · obtain ⟨b, hb⟩ := (h j hj).1; exact ⟨b, fun _ => hb⟩
    · exact ⟨0, fun h2 => absurd h2 hj⟩
  obtain ⟨f, hf⟩ := Classical.axiomOfChoice hc2
  refine ⟨⟨((List.range n).map f).toArray⟩, by show ((List.range n).map f).toArray.size = n; simp, ?_⟩
  have h := run_convert_bytes_back (P := Tryd.prog) W 36 9 5 ⟨p, 0, none⟩ cap ((List.range n).map f) Tryd.underlying36 Tryd.underlying5 Tryd.underlying9 (fun j hj => by
    have hj2 : j < n := by simpa using hj
    have hadd : (⟨p, 0, none⟩ : Addr).add j = ⟨p, j, none⟩ := by unfold Addr.add; split <;> simp_all
    rw [hadd, hf j hj2]
    simp)
  rwa [show ((List.range n).map f).length = n by simp] at h
set_option maxRecDepth 100000 in
set_option maxHeartbeats 1000000 in
theorem repeated_any (w : World) (c : Int) (hc : 0 ≤ c ∧ c ≤ 255) (n : Nat) (hn : n ≤ 1000) :
    Calls Tryd.prog 16 #[.int .u8 c, .int .i64 n] w fun e w' => ∃ B : ByteArray, B.size = n ∧ e = .returned (.string B) ∧ Below w.heap.size w w' := by
  have hmk := make_bytes n hn w
  have hm := Lib.hid (BR.made n w)
  have hb := Lib.hid ((Below.refl _ w).alloc (Nat.le_refl _) (.cells (madeCells #[.int .u8 0] n) 5))
  have HC := Lib.hid hc; clear hc
  go_enter Tryd.func16, Tryd.ntmps16
  go_wp2_with fail
  clear hmk
  go_loopw [6] (fun i wr => ∃ (k : Nat) (kk : Int), k ≤ n ∧ kk = (k : Nat) ∧ i = .int .i64 kk ∧ Hid (BR wr w.heap.size n) ∧ Hid (Below w.heap.size w wr)) (fun i _ => n - (intOf i).toNat)
  case atStart => exact ⟨0, 0, by omega, rfl, rfl, hm, hb⟩
  case round =>
    clear hm hb
    obtain ⟨k, kk, hk, hkk, rfl, hm, hb⟩ := hrel
    by_cases hlt : k < n
    · subst hkk
      obtain ⟨⟨b, cb⟩, fb⟩ := hm.out k hlt
      obtain ⟨q, hq⟩ : ∃ q, k / 100 = q := ⟨_, rfl⟩
      have y1 : (k : Int).tdiv 100 = (q : Int) := by rw [Int.tdiv_eq_ediv_of_nonneg (by omega)]; omega
      have y2 : (k : Int) / 100 = (q : Int) := by omega
      have y3 : (q : Int) % 256 = (q : Int) := by omega
      obtain ⟨x, hx⟩ : ∃ x : UInt8, (c + (q : Int)) % 256 = (x.toNat : Nat) := by
        refine ⟨UInt8.ofNat ((c + (q : Int)) % 256).toNat, ?_⟩
        have : (UInt8.ofNat ((c + (q : Int)) % 256).toNat).toNat = ((c + (q : Int)) % 256).toNat % 256 := rfl
        rw [this]; omega
      have hm2 := Lib.hid (hm.out.set k x hlt)
      have hb2 := Lib.hid (hb.out.setCell (p := ⟨w.heap.size, k, none⟩) (Nat.le_refl _) (.int .u8 (x.toNat : Nat)))
      have HL := Lib.hid (And.intro hlt hq); clear hm hb hq
      go_wp2
      exact ⟨⟨k + 1, _, HL.out.1, by simp, rfl, hm2, hb2⟩, by simp [intOf]; omega⟩
    · obtain rfl : k = n := by omega
      obtain ⟨B, hB, hcv⟩ := bytes_back wr w.heap.size k k hm.out
      subst hkk
      go_wp2
      go_ret
      exact ⟨B, hB, rfl, hb.out⟩
set_option maxRecDepth 100000 in
set_option maxHeartbeats 2000000 in
theorem lengths_walk (w : World) (c : Int) (hc : 0 ≤ c ∧ c ≤ 255) (n : Int) (hn : -9223372036854775808 ≤ n ∧ n ≤ 9223372036854775807) (far : Int) (hf : -9223372036854775808 ≤ far ∧ far ≤ 9223372036854775807) (hT : TB w) :
    Calls Tryd.prog 4 #[.int .u8 c, .int .i64 n, .int .i64 far] w fun e w' => e = .returned (.bool true) ∧ Below w.heap.size w w' := by
  have k1 := fun W => mod_any W n 300 300 rfl (by omega) (by omega) hn
  have k2 := fun W => mod_any W n 4 4 rfl (by omega) (by omega) hn
  have k3 := fun W => mod_any W far 20 20 rfl (by omega) (by omega) hf
  have l1 := (modv_spec n 300 (by omega)).2
  have l2 := (modv_spec n 4 (by omega)).2
  have l3 := (modv_spec far 20 (by omega)).2
  obtain ⟨r1, e1⟩ : ∃ r, modv n 300 = r := ⟨_, rfl⟩
  obtain ⟨r2, e2⟩ : ∃ r, modv n 4 = r := ⟨_, rfl⟩
  obtain ⟨r3, e3⟩ : ∃ r, modv far 20 = r := ⟨_, rfl⟩
  rw [e1] at k1 l1
  rw [e2] at k2 l2
  rw [e3] at k3 l3
  clear e1 e2 e3
  obtain ⟨n2, hn2⟩ : ∃ n2, 64 * r2 + 50 + r3 = n2 := ⟨_, rfl⟩
  have y1 : 64 * (r2 : Int) + 50 + (r3 : Int) = (n2 : Int) := by omega
  have g1 := fun W => repeated_any W c hc r1 (by omega)
  have g2 := fun W => repeated_any W c hc n2 (by omega)
  have HK := Lib.hid (And.intro k1 (And.intro k2 (And.intro k3 (And.intro g1 (And.intro g2 (And.intro hT (And.intro l1 hn2))))))); clear k1 k2 k3 g1 g2 hT hn2 hc hn hf
  go_enter Tryd.func4, Tryd.ntmps4
  go_wp2_with fail
  go_must (go_fit (sane _ HK.out.2.2.2.2.2.1))
  rintro e w1 ⟨rfl, b1⟩
  have t1 := Lib.hid (HK.out.2.2.2.2.2.1.below b1)
  have hB := Lib.hid b1; clear b1
  go_wp2_with fail
  go_must (go_fit (HK.out.1 _))
  rintro e w2 ⟨rfl, rfl⟩
  go_wp2_with fail
  go_must (go_fit (HK.out.2.2.2.1 _))
  rintro e w3 ⟨A, hA, rfl, b3⟩
  have t3 := Lib.hid (t1.out.below b3)
  replace hB := Lib.hid (hB.out.trans (b3.mono hB.out.size)); clear b3 t1
  go_wp2_with fail
  go_must (go_fit (HK.out.2.1 _))
  rintro e w4 ⟨rfl, rfl⟩
  go_wp2_with fail
  go_must (go_fit (HK.out.2.2.1 _))
  rintro e w5 ⟨rfl, rfl⟩
  go_wp2_with fail
  go_must (go_fit (HK.out.2.2.2.2.1 _))
  rintro e w6 ⟨B, hB2, rfl, b6⟩
  have t6 := Lib.hid (t3.out.below b6)
  replace hB := Lib.hid (hB.out.trans (b6.mono hB.out.size)); clear b6 t3
  obtain ⟨la, hla⟩ : ∃ l, sha A.data.toList = l := ⟨_, rfl⟩
  obtain ⟨lb, hlb⟩ : ∃ l, sha B.data.toList = l := ⟨_, rfl⟩
  have qa := fun W => eql_same W la (by rw [← hla]; exact sha_length _)
  have qb := fun W => eql_same W lb (by rw [← hlb]; exact sha_length _)
  have HS := Lib.hid (And.intro hla (And.intro hlb (And.intro (show A.size ≤ 1000000000 by omega) (show B.size ≤ 1000000000 by have := HK.out.2.2.2.2.2.2.2; omega)))); clear hla hlb hA hB2
  go_wp2_with fail
  go_must (go_fit (sumN _ A la HS.out.1 HS.out.2.2.1 t6.out))
  rintro e w7 ⟨rfl, b7⟩
  have t7 := Lib.hid (t6.out.below b7)
  replace hB := Lib.hid (hB.out.trans (b7.mono hB.out.size)); clear b7 t6
  go_wp2_with fail
  go_must (go_fit (sumR _ A la HS.out.1 HS.out.2.2.1))
  rintro e w8 ⟨rfl, b8⟩
  have t8 := Lib.hid (t7.out.below b8)
  replace hB := Lib.hid (hB.out.trans (b8.mono hB.out.size)); clear b8 t7
  go_wp2_with fail
  go_must (go_fit (sumN _ B lb HS.out.2.1 HS.out.2.2.2 t8.out))
  rintro e w9 ⟨rfl, b9⟩
  replace hB := Lib.hid (hB.out.trans (b9.mono hB.out.size)); clear b9 t8
  go_wp2_with fail
  go_must (go_fit (sumR _ B lb HS.out.2.1 HS.out.2.2.2))
  rintro e w10 ⟨rfl, b10⟩
  replace hB := Lib.hid (hB.out.trans (b10.mono hB.out.size)); clear b10
  go_wp2
  go_ret
  exact ⟨rfl, hB.out⟩
set_option maxRecDepth 100000 in
set_option maxHeartbeats 2000000 in
theorem chains_walk (w : World) (s : ByteArray) (n : Int) (hn : -9223372036854775808 ≤ n ∧ n ≤ 9223372036854775807) (hT : TB w) :
    Calls Tryd.prog 5 #[.string s, .int .i64 n] w fun e w' => e = .returned (.bool true) ∧ Below w.heap.size w w' := by
  have k1 := fun W => mod_any W n 20 20 rfl (by omega) (by omega) hn
  have l1 := (modv_spec n 20 (by omega)).2
  obtain ⟨r1, e1⟩ : ∃ r, modv n 20 = r := ⟨_, rfl⟩
  rw [e1] at k1 l1
  clear e1
  obtain ⟨m, hm⟩ : ∃ m, min s.size 100 = m := ⟨_, rfl⟩
  have m1 : min (s.size : Int) 100 = (m : Int) := by omega
  have m2 : (m : Int) ≤ (s.size : Int) := by omega
  have m3 : (0 : Int) ≤ (m : Int) := by omega
  have m4 : m ≤ s.size := by omega
  obtain ⟨x, hx⟩ : ∃ x, s.extract 0 m = x := ⟨_, rfl⟩
  have hxs : x.size ≤ 1000 := by rw [← hx, (ext_take s m m4).2]; omega
  have HK := Lib.hid (And.intro k1 (And.intro hT hxs)); clear k1 hT hn hxs
  go_enter Tryd.func5, Tryd.ntmps5
  go_wp2_with fail
  go_must (go_fit (sane _ HK.out.2.1))
  rintro e w1 ⟨rfl, b1⟩
  have t1 := Lib.hid (HK.out.2.1.below b1)
  have hB := Lib.hid b1; clear b1
  go_wp2_with fail
  clear m1 m2 m3 m4 hm hx
  go_loopw [6, 7, 8] (fun a b i wr => ∃ (k : Nat) (kk : Int) (y : ByteArray), a = .string y ∧ b = .string y ∧ k ≤ r1 ∧ kk = (k : Nat) ∧ i = .int .i64 kk ∧ Hid (y.size ≤ 1000) ∧ Hid (TB wr) ∧ Hid (Below w.heap.size w wr)) (fun _ _ i _ => r1 - (intOf i).toNat)
  case atStart => exact ⟨0, 0, x, rfl, rfl, by omega, rfl, rfl, Lib.hid HK.out.2.2, t1, hB⟩
  case round =>
    clear t1 hB
    obtain ⟨k, kk, y, rfl, rfl, hk, hkk, rfl, hy, hT, hB⟩ := hrel
    go_wp2_with fail
    go_must (go_fit (HK.out.1 _))
    rintro e w2 ⟨rfl, rfl⟩
    by_cases hlt : k < r1
    · subst hkk
      obtain ⟨l, hl⟩ : ∃ l, sha y.data.toList = l := ⟨_, rfl⟩
      have hll : l.length = 32 := by rw [← hl]; exact sha_length _
      have HL := Lib.hid (And.intro hl (And.intro hll hlt)); clear hl hll hk
      go_wp2_with fail
      go_must (go_fit (sumN _ y l HL.out.1 (by have := hy.out; omega) hT.out))
      rintro e w3 ⟨rfl, b3⟩
      replace hT := Lib.hid (hT.out.below b3)
      replace hB := Lib.hid (hB.out.trans (b3.mono hB.out.size)); clear b3
      go_wp2_with fail
      go_must (go_fit (Text_any _ l HL.out.2.1))
      rintro e w4 ⟨T, hTT, rfl, b4⟩
      replace hT := Lib.hid (hT.out.below b4)
      replace hB := Lib.hid (hB.out.trans (b4.mono hB.out.size)); clear b4
      have HT1 := Lib.hid hTT; clear hTT
      go_wp2_with fail
      go_must (go_fit (sumR _ y l HL.out.1 (by have := hy.out; omega)))
      rintro e w5 ⟨rfl, b5⟩
      replace hT := Lib.hid (hT.out.below b5)
      replace hB := Lib.hid (hB.out.trans (b5.mono hB.out.size)); clear b5
      go_wp2_with fail
      go_must (go_fit (refText_any _ l HL.out.2.1))
      rintro e w6 ⟨T2, hTT2, rfl, b6⟩
      replace hT := Lib.hid (hT.out.below b6)
      replace hB := Lib.hid (hB.out.trans (b6.mono hB.out.size)); clear b6
      have e2 : T2 = T := str_eq (by rw [hTT2, HT1.out])
      have hTs : T.size ≤ 1000 := by rw [← size_toList, HT1.out, hex_length, HL.out.2.1]; omega
      subst e2
      have HTS := Lib.hid hTs; clear hTs hTT2
      go_wp2
      exact ⟨⟨k + 1, _, T2, rfl, rfl, HL.out.2.2, by simp, rfl, HTS, hT, hB⟩, by have := HL.out.2.2; simp [intOf]; omega⟩
    · obtain rfl : k = r1 := by omega
      subst hkk
      go_wp2
      go_ret
      exact ⟨rfl, hB.out⟩
end Go.Proofs.YtmanflkiffgphaaDoor
