/-
  The law DigestBegins' walk: a shorter stream is the beginning of a longer one, and each block of 32 bytes is the sum of the seed with its number.
-/
import Derived.Test.YtkniimhgipdbaaaDoorStreamG
namespace Go.Proofs.YtkniimhgipdbaaaDoor
open Go.RowKit SH Go
/-- the first n bytes of the blocks -/
def stL (seed : ByteArray) (n : Nat) : List UInt8 := (flat (bks seed ((n + 31) / 32))).take n
def stS (seed : ByteArray) (n : Nat) : ByteArray := ⟨(stL seed n).toArray⟩
theorem stL_len (seed : ByteArray) (n : Nat) : (stL seed n).length = n := by unfold stL; rw [List.length_take, flat_len, bks_len]; omega
theorem stL_get (seed : ByteArray) (n i : Nat) (h : i < n) : (stL seed n)[i]? = (bk seed (i / 32))[i % 32]? := by unfold stL; rw [List.getElem?_take_of_lt h]; exact flat_get seed _ i (by omega)
theorem stS_size (seed : ByteArray) (n : Nat) : (stS seed n).size = n := by show (stL seed n).toArray.size = n; rw [List.size_toArray, stL_len]
theorem ba_of {a : ByteArray} {l : List UInt8} (h : a.data.toList = l) : a = ⟨l.toArray⟩ := by cases a; congr 1; exact Array.toList_inj.1 (by simpa using h)
theorem stS_take (seed : ByteArray) (a b : Nat) (h : a ≤ b) : (stS seed b).extract 0 a = stS seed a := by
  refine ba_of ?_
  rw [(ext_take _ a (by rw [stS_size]; exact h)).1]
  show (stL seed b).toArray.toList.take a = stL seed a
  rw [List.toList_toArray]
  apply List.ext_getElem?
  intro i
  by_cases hi : i < a
  · rw [List.getElem?_take_of_lt hi, stL_get _ _ _ (by omega), stL_get _ _ _ hi]
  · rw [List.getElem?_eq_none (by rw [List.length_take]; omega), List.getElem?_eq_none (by rw [stL_len]; omega)]
theorem stS_block (seed : ByteArray) (b k lo hi : Nat) (h : 32 * (k + 1) ≤ b) (e1 : lo = 32 * k) (e2 : hi = 32 * k + 32) : (stS seed b).extract lo hi = ⟨(bk seed k).toArray⟩ := by
  subst e1 e2
  refine ba_of ?_
  rw [(ext_mid _ (32 * k) 32 (by rw [stS_size]; omega)).1]
  show ((stL seed b).toArray.toList.drop (32 * k)).take 32 = bk seed k
  rw [List.toList_toArray]
  apply List.ext_getElem?
  intro i
  by_cases hi : i < 32
  · rw [List.getElem?_take_of_lt hi, List.getElem?_drop, stL_get _ _ _ (by omega)]
    have e1 : (32 * k + i) / 32 = k := by omega
    have e2 : (32 * k + i) % 32 = i := by omega
    rw [e1, e2]
  · rw [List.getElem?_eq_none (by rw [List.length_take, List.length_drop]; omega), List.getElem?_eq_none (by rw [bk_len]; omega)]
theorem st_any (seed : ByteArray) (hs : seed.size ≤ 1000000) (k : Nat) (hk : k ≤ 1048576) (w : World) (hT : T3 w) :
    Calls Tryd.prog 7 #[.string seed, .int .i64 (k : Int)] w fun e w' => e = .returned (.string (stS seed k)) ∧ Below w.heap.size w w' := by
  by_cases h0 : k = 0
  · subst h0
    exact stream_none w seed _ (.inl (by decide))
  · exact stream_any w seed hs k (by omega) hk hT
/-- one byte as a string -/
theorem one_back (u : World) (k : Nat) (hk : k ≤ 9) (c : Int) (hc : 48 + (k : Int) = c) : (convert 27 9 (.slice (some ⟨u.heap.size, 0, none⟩) 1 1)).run Tryd.prog (u.alloc (.cells #[.int .u8 c] 5)) = .ok (.string (dcm k)) (u.alloc (.cells #[.int .u8 c] 5)) := by
  have hd : ∀ k, k < 10 → dcm (k : Nat) = ⟨#[UInt8.ofNat (48 + k)]⟩ := by
    have : ∀ k, k < 10 → Lib.itoa (k : Nat) = [UInt8.ofNat (48 + k)] := by decide +kernel
    intro k hk
    unfold dcm
    rw [this k hk]
  rw [hd k (by omega)]
  refine run_convert_bytes_back (P := Tryd.prog) _ 27 9 t8 ⟨u.heap.size, 0, none⟩ 1 [UInt8.ofNat (48 + k)] Tryd.underlying27 Tryd.underlying5 Tryd.underlying9 (fun j hj => ?_)
  have h0 : j = 0 := by simpa using hj
  subst h0
  have hadd : (⟨u.heap.size, 0, none⟩ : Addr).add 0 = ⟨u.heap.size, 0, none⟩ := rfl
  rw [hadd, World.cell?_alloc_at _ _ _ _ rfl]
  have hv : ((UInt8.ofNat (48 + k)).toNat : Int) = c := by
    rw [← hc, show (UInt8.ofNat (48 + k)).toNat = (48 + k) % 256 from rfl, Nat.mod_eq_of_lt (by omega)]
    omega
  show some (Value.int .u8 c) = some (Value.int .u8 ((UInt8.ofNat (48 + k)).toNat : Int))
  rw [hv]
/-- a hash's bytes as a string -/
theorem hash_back (V : World) (q : Nat) (l : List UInt8) (hl : l.length = 32) (h : HM V q l) : (convert 27 9 (.slice (some ⟨q, 0, none⟩) 32 32)).run Tryd.prog V = .ok (.string ⟨l.toArray⟩) V := by
  have := run_convert_bytes_back (P := Tryd.prog) V 27 9 t8 ⟨q, 0, none⟩ 32 l Tryd.underlying27 Tryd.underlying5 Tryd.underlying9 (fun j hj => by
    have hadd : (⟨q, 0, none⟩ : Addr).add j = ⟨q, j, none⟩ := by unfold Addr.add; split <;> simp_all
    rw [hadd, h.cell j hj]
    simp [gb, hj])
  rwa [hl] at this
set_option maxRecDepth 100000 in
set_option maxHeartbeats 4000000 in
theorem begins_walk (w : World) (s : ByteArray) (n : Int) (hn : 0 ≤ n ∧ n ≤ 65535) (m : Int) (hm : 0 ≤ m ∧ m ≤ 65535) (hT : T3 w) :
    Calls Tryd.prog 4 #[.string s, .int .u16 n, .int .u16 m] w fun e w' => e = .returned (.bool true) ∧ Below w.heap.size w w' := by
  obtain ⟨c, hc⟩ : ∃ c, min s.size 100 = c := ⟨_, rfl⟩
  have m1 : min (s.size : Int) 100 = (c : Int) := by omega
  have m2 : (c : Int) ≤ (s.size : Int) := by omega
  have m3 : (0 : Int) ≤ (c : Int) := by omega
  have m4 : c ≤ s.size := by omega
  obtain ⟨x, hx⟩ : ∃ x, s.extract 0 c = x := ⟨_, rfl⟩
  have hxs : x.size ≤ 1000 := by rw [← hx, (ext_take s c m4).2]; omega
  obtain ⟨p, hp⟩ : ∃ p : Nat, Int.tmod n 330 = (p : Int) := ⟨(n % 330).toNat, by rw [Int.tmod_eq_emod_of_nonneg hn.1]; omega⟩
  obtain ⟨q, hq⟩ : ∃ q : Nat, Int.tmod m 330 = (q : Int) := ⟨(m % 330).toNat, by rw [Int.tmod_eq_emod_of_nonneg hm.1]; omega⟩
  have hp9 : p < 330 := by rw [Int.tmod_eq_emod_of_nonneg hn.1] at hp; omega
  have hq9 : q < 330 := by rw [Int.tmod_eq_emod_of_nonneg hm.1] at hq; omega
  obtain ⟨a, ha⟩ : ∃ a, min p q = a := ⟨_, rfl⟩
  obtain ⟨b, hb⟩ : ∃ b, max p q = b := ⟨_, rfl⟩
  have ha1 : min (p : Int) (q : Int) = (a : Int) := by omega
  have hb1 : max (p : Int) (q : Int) = (b : Int) := by omega
  have hab : a ≤ b := by omega
  have hb9 : b < 330 := by omega
  have v1 : IntKind.i64.wrap (a : Int) = (a : Int) := IntWalk.i64_in _ ⟨by omega, by omega⟩
  have v2 : IntKind.i64.wrap (b : Int) = (b : Int) := IntWalk.i64_in _ ⟨by omega, by omega⟩
  have v3 : IntKind.u16.wrap (p : Int) = (p : Int) := by rw [show IntKind.u16.wrap (p : Int) = (p : Int) % 65536 from rfl]; omega
  have v4 : IntKind.u16.wrap (q : Int) = (q : Int) := by rw [show IntKind.u16.wrap (q : Int) = (q : Int) % 65536 from rfl]; omega
  have HK := Lib.hid (And.intro hT (And.intro (TB.mk hT.sq hT.cb) (And.intro hxs (And.intro hab hb9)))); clear hT hxs hn hm ha hb hab
  go_enter Tryd.func4, Tryd.ntmps4
  go_wp2_with fail
  go_must (go_fit (sane _ HK.out.2.1))
  rintro e w1 ⟨rfl, b1⟩
  have t1 := Lib.hid (HK.out.1.below b1)
  have hB := Lib.hid b1; clear b1
  go_wp2_with fail
  go_must (go_fit (st_any x (by have := HK.out.2.2.1; omega) a (by have := HK.out.2.2.2.1; omega) _ t1.out))
  rintro e w2 ⟨rfl, b2⟩
  have t2 := Lib.hid (t1.out.below b2)
  replace hB := Lib.hid (hB.out.trans (b2.mono hB.out.size)); clear b2 t1
  go_wp2_with fail
  go_must (go_fit (st_any x (by have := HK.out.2.2.1; omega) b (by omega) _ t2.out))
  rintro e w3 ⟨rfl, b3⟩
  have t3 := Lib.hid (t2.out.below b3)
  replace hB := Lib.hid (hB.out.trans (b3.mono hB.out.size)); clear b3 t2
  have z1 := stS_size x a
  have z2 := stS_size x b
  have z3 := stS_take x a b HK.out.2.2.2.1
  have hab := HK.out.2.2.2.1
  have z4 : (a : Int) ≤ (b : Int) := by omega
  have z5 : (0 : Int) ≤ (a : Int) := by omega
  clear ha1 hb1 v1 v2 v3 v4 hp hq hp9 hq9 m1 m2 m3 m4 hc hx
  go_wp2_with fail
  clear z3 z4 z5
  have info32 : Hid ((Tryd.prog.info? 29).map (·.size) = some 32) := Lib.hid (by kernel_rfl)
  go_loopw [13] (fun y wr => ∃ (k : Nat), y = .int .i64 (k : Int) ∧ k ≤ 10 ∧ Hid (T3 wr ∧ Below w.heap.size w wr)) (fun y _ => 11 - (intOf y).toNat)
  case atStart => exact ⟨0, rfl, by omega, Lib.hid ⟨t3.out, hB.out⟩⟩
  case round =>
    clear t3 hB
    obtain ⟨k, rfl, hk, hW⟩ := hrel
    obtain ⟨lo, hlo⟩ : ∃ lo : Nat, 32 * k = lo := ⟨_, rfl⟩
    obtain ⟨hi, hhi⟩ : ∃ hi : Nat, 32 * k + 32 = hi := ⟨_, rfl⟩
    have e1 : 32 * (k : Int) = (lo : Int) := by omega
    have e2 : 32 * ((k : Int) + 1) = (hi : Int) := by omega
    by_cases hlt : hi ≤ b
    · have g1 : (hi : Int) ≤ (b : Int) := by omega
      have g2 : (lo : Int) ≤ (hi : Int) := by omega
      have g3 : (0 : Int) ≤ (lo : Int) := by omega
      have i1 : IntKind.i64.wrap ((k : Int) + 1) = (k : Int) + 1 := IntWalk.i64_in _ ⟨by omega, by omega⟩
      have i2 : IntKind.i64.wrap (hi : Int) = (hi : Int) := IntWalk.i64_in _ ⟨by omega, by omega⟩
      have i3 : IntKind.i64.wrap (lo : Int) = (lo : Int) := IntWalk.i64_in _ ⟨by omega, by omega⟩
      have g5 : (0 : Int) ≤ (hi : Int) := by omega
      have hk9 : k ≤ 9 := by omega
      have g4 : ¬ ((9 : Int) < (k : Int)) := by omega
      have hd : Int.tmod (k : Int) 10 = (k : Int) := by rw [Int.tmod_eq_emod_of_nonneg (by omega)]; omega
      obtain ⟨c, hc⟩ : ∃ c : Int, 48 + (k : Int) = c := ⟨_, rfl⟩
      have hcw : IntKind.u8.wrap c = c := by rw [show IntKind.u8.wrap c = c % 256 from rfl]; omega
      have hone := one_back wr k hk9 c hc
      obtain ⟨S1, hS1⟩ : ∃ S1, x ++ (⟨#[47]⟩ : ByteArray) = S1 := ⟨_, rfl⟩
      have q1 : S1.size = x.size + 1 := by rw [← hS1, ByteArray.size_append]; rfl
      have zd := dcm_size k (by omega)
      obtain ⟨S2, hS2⟩ : ∃ S2, S1 ++ dcm k = S2 := ⟨_, rfl⟩
      have hx9 := HK.out.2.2.1
      have q2 : S2.size ≤ 2000 := by rw [← hS2, ByteArray.size_append]; omega
      have hL1 : (9223372036854775807 < x.size + 1) = False := eq_false (by omega)
      have hL2 : (9223372036854775807 < S1.size + (dcm k).size) = False := eq_false (by omega)
      have hS : sha S2.data.toList = bk x k := by rw [← hS2, ← hS1]; simp [bk, L0]
      have hex := stS_block x b k lo hi (by omega) hlo.symm hhi.symm
      have HS := Lib.hid (And.intro hS (And.intro q2 hk9)); clear hS q1 q2 zd hx9 hk9 hk hab
      obtain ⟨U, hU⟩ : ∃ U, wr.alloc (.cells #[.int .u8 c] 5) = U := ⟨_, rfl⟩
      have tU : T3 U ∧ Below w.heap.size w U := by
        rw [← hU]
        have hb := (Below.refl wr.heap.size wr).alloc (Nat.le_refl _) (.cells #[.int .u8 c] 5)
        exact ⟨hW.out.1.below hb, hW.out.2.trans (hb.mono hW.out.2.size)⟩
      have HU := Lib.hid (And.intro hU tU); clear tU hU hW
      go_upto_region 13 with fail
      change Code.wp _ _ _ _ (wr.alloc (.cells #[.int .u8 c] 5))
      rw [HU.out.1]
      clear hone hcw hc hd
      go_wp2_with fail
      go_must (go_fit (Sum_any U S2 (by have := HS.out.2.1; omega) HU.out.2.1.sq HU.out.2.1.cb))
      rintro e w5 ⟨rfl, b5⟩
      rw [HS.out.1]
      have hrow : (w5.alloc (.cells (hcells (List.replicate 32 0)) 29)).heap[w5.heap.size]? = some (.cells (hcells (List.replicate 32 0)) 29 (0, 0)) := heap_alloc_new _ _
      have hin : (Tryd.prog.info? 29).map (·.size) = some (hcells (bk x k)).size := by rw [hcells_size, bk_len]; exact info32.out
      have hold : (hcells (List.replicate 32 0)).size = (hcells (bk x k)).size := by rw [hcells_size, hcells_size, bk_len]; rfl
      clear hL1 hL2 hS1 hS2
      go_upto_region 14 with (refine wpList_store_row rfl 29 (.tmp 15) (.tmp 78) rfl w5.heap.size (hcells (bk x k)) rfl rfl 29 _ hrow hin hold (hcells_one _) ?_)
      change Code.wp _ _ _ _ ((w5.alloc (.cells (hcells (List.replicate 32 0)) 29)).setRow w5.heap.size (hcells (bk x k)))
      have b6 : Below w5.heap.size w5 ((w5.alloc (.cells (hcells (List.replicate 32 0)) 29)).setRow w5.heap.size (hcells (bk x k))) := Below.setRow' ((Below.refl _ w5).alloc (Nat.le_refl _) _) (Nat.le_refl _) _
      have hV : HM ((w5.alloc (.cells (hcells (List.replicate 32 0)) 29)).setRow w5.heap.size (hcells (bk x k))) w5.heap.size (bk x k) := setRow_heap _ _ _ _ _ _ hrow
      have tV : Hid (T3 ((w5.alloc (.cells (hcells (List.replicate 32 0)) 29)).setRow w5.heap.size (hcells (bk x k))) ∧ Below w.heap.size w ((w5.alloc (.cells (hcells (List.replicate 32 0)) 29)).setRow w5.heap.size (hcells (bk x k)))) :=
        Lib.hid ⟨(HU.out.2.1.below b5).below b6, (HU.out.2.2.trans (b5.mono HU.out.2.2.size)).trans (b6.mono (Nat.le_trans HU.out.2.2.size b5.size))⟩
      clear b5 b6 hrow hin hold HU
      generalize (w5.alloc (.cells (hcells (List.replicate 32 0)) 29)).setRow w5.heap.size (hcells (bk x k)) = V at *
      have hz2 := hash_back V.drew w5.heap.size (bk x k) (bk_len _ _) hV
      generalize w5.heap.size = q at *
      clear hV
      go_region
      all_goals
        go_wp2_with fail
        go_roundw
        case rel => exact ⟨k + 1, by go_num, by have := HS.out.2.2; omega, Lib.hid ⟨tV.out.1.below ((Below.refl _ V).drew), tV.out.2.drew⟩⟩
        case measure => (have := HS.out.2.2; simp [intOf]; try omega)
    · have g1 : ¬ ((hi : Int) ≤ (b : Int)) := by omega
      go_wp2
      go_ret
      exact ⟨rfl, hW.out.2⟩
end Go.Proofs.YtkniimhgipdbaaaDoor
