/-
  The walk of the reference's Of.
-/
import Derived.Test.YteccbedmpjeamaaGreatDoorTop
import Derived.Test.YteccbedmpjeamaaGreatDoorText
namespace Go.Proofs.YteccbedmpjeamaaGreatDoor
open Go.RowKit NM
theorem sv_NB (n : Nat) : sv (NB n) = n := bv_nb n
theorem tz_NB (s : ByteArray) : tz s = NB (sv s) := by
  have h : (tz s).data.toList = (NB (sv s)).data.toList := by rw [tz_list, dz_eq]; rfl
  cases h1 : tz s with
  | mk d =>
    cases h2 : NB (sv s) with
    | mk d2 =>
      rw [h1, h2] at h
      have e : d = d2 := Array.toList_inj.1 h
      rw [e]
theorem NB_size {n k : Nat} (h : n < 256^k) : (NB n).size ≤ k := by
  rw [← len_size, NB_list]; exact nb_length_le n k h
/-- the byte of the number at place i, the highest first -/
def ob (n i : Nat) : Nat := n / 2^(56 - 8*i) % 256
def obs (n j : Nat) : List UInt8 := (List.range j).map fun i => UInt8.ofNat (ob n i)
theorem obs_succ (n j : Nat) : obs n (j+1) = obs n j ++ [UInt8.ofNat (ob n j)] := by
  unfold obs; rw [List.range_succ, List.map_append]; rfl
theorem bc_succ (n j : Nat) : Lib.byteCells (obs n (j+1)) = Lib.byteCells (obs n j) ++ [.int .u8 ((ob n j : Nat) : Int)] := by
  have : ob n j < 256 := Nat.mod_lt _ (by omega)
  rw [obs_succ]
  simp [Lib.byteCells]
  omega
theorem bv_obs (n : Nat) (h : n < 9223372036854775808) : bv (obs n 8) = n := by
  have e : ∀ i, (UInt8.ofNat (ob n i)).toNat = ob n i := fun i => by
    have : ob n i < 256 := Nat.mod_lt _ (by omega)
    simp; omega
  simp only [obs_succ, bv_snoc, e]
  simp [obs, ob]
  omega
set_option maxRecDepth 100000 in
set_option maxHeartbeats 2000000 in
theorem RefOf_any (w : World) (n : Int) (h1 : -9223372036854775808 ≤ n) (h2 : n < 9223372036854775808) :
    Calls Tryz.prog 34 #[.int .i64 n] w fun e w' => e = .returned (.string (NB n.toNat)) ∧ Below w.heap.size w w' := by
  obtain ⟨i0, hi, hz0, hz1, hz2⟩ := info_parts info8
  by_cases h0 : n ≤ 0
  · have hcv := run_convert_bytes_nil (P := Tryz.prog) w 57 5 Tryz.underlying57 Tryz.underlying5 0 0 24 Tryz.underlying24
    have hd : decide (0 < n) = false := by simp; omega
    have hn : n.toNat = 0 := by omega
    rw [hn]
    go_enter Tryz.func34, Tryz.ntmps34
    go_wp2_with fail
    go_loop [3, 4] (fun b k => b = .slice none 0 0 ∧ k = .int .i64 56) (fun _ _ => 0)
    case atStart => exact ⟨rfl, rfl⟩
    case round =>
      obtain ⟨rfl, rfl⟩ := hrel
      go_wp2_with fail
      refine (Canon_any _ ByteArray.empty (by decide)).mono ?_
      rintro e w1 ⟨rfl, rfl⟩
      go_wp2
      go_ret
      exact ⟨by rw [tz_NB]; rfl, Below.refl _ _⟩
  · obtain ⟨N, rfl⟩ : ∃ N : Nat, n = (N : Int) := ⟨n.toNat, by omega⟩
    have hd : decide (0 < (N : Int)) = true := by simp; omega
    rw [Int.toNat_natCast]
    have HN := Lib.hid (And.intro h2 (And.intro h1 h0)); clear h2 h1 h0
    go_enter Tryz.func34, Tryz.ntmps34
    go_wp2_with fail
    go_loopw [3, 4] (fun b k wr => ∃ (j : Nat) (v : Value) (kk : Int), b = v ∧ j ≤ 8 ∧ kk = 56 - 8 * (j : Int) ∧ k = .int .i64 kk ∧ wr.ownsRow w.heap.size t8 1 v j (Lib.byteCells (obs N j)) ∧ Below w.heap.size w wr) (fun _ k _ => (intOf k + 8).toNat)
    case atStart => exact ⟨0, _, 56, rfl, by omega, rfl, rfl, World.ownsRow_nil _ _ _ _, Below.refl _ _⟩
    case round =>
      obtain ⟨j, b, kk, rfl, hj, hkk, rfl, hown, hB⟩ := hrel
      by_cases hlt : j < 8
      · have hsz := hB.size
        have hj8 : j = 0 ∨ j = 1 ∨ j = 2 ∨ j = 3 ∨ j = 4 ∨ j = 5 ∨ j = 6 ∨ j = 7 := by omega
        clear hlt hj
        have hN0 : 0 < N := by have := HN.out.2.2; omega
        rcases hj8 with rfl | rfl | rfl | rfl | rfl | rfl | rfl | rfl
        · obtain rfl : kk = 56 := by simpa using hkk
          clear hkk
          go_wp2_with (at_builtin; refine wpList_append_own _ rfl _ _ 57 rfl w.heap.size t8 i0 (.int .u8 0) 1 1 Tryz.underlying57 hi hz0 hz1 hz2 rfl (by decide) _ _ _ rfl (hown.alloc _) ⟨wr.heap.size, 0, none⟩ 1 1 [.int .u8 ((ob N 0 : Nat) : Int)] rfl rfl ?c1 ?c2 ?c3 ?c4 ?c5 ?_)
          case c1 =>
            intro j u hj
            match j, hj with
            | 0, hj => simp at hj; subst hj; simp [Addr.add, ob]
          case c2 => intro u hu; simp at hu; subst hu; rfl
          case c3 => unfold maxLen; omega
          case c4 => omega
          case c5 => simp; omega
          intro v' w2 hown' hgrow _
          rw [← bc_succ] at hown'
          go_wp2
          exact ⟨⟨0 + 1, v', 56 - 8, rfl, by omega, by omega, rfl, hown', (hB.alloc hsz _).grown hgrow (by simp; omega) (fun k hk => (hown.lt k hk).1)⟩, by simp [intOf]⟩
        · obtain rfl : kk = 48 := by simpa using hkk
          clear hkk
          go_wp2_with (at_builtin; refine wpList_append_own _ rfl _ _ 57 rfl w.heap.size t8 i0 (.int .u8 0) 1 1 Tryz.underlying57 hi hz0 hz1 hz2 rfl (by decide) _ _ _ rfl (hown.alloc _) ⟨wr.heap.size, 0, none⟩ 1 1 [.int .u8 ((ob N 1 : Nat) : Int)] rfl rfl ?c1 ?c2 ?c3 ?c4 ?c5 ?_)
          case c1 =>
            intro j u hj
            match j, hj with
            | 0, hj => simp at hj; subst hj; simp [Addr.add, ob]
          case c2 => intro u hu; simp at hu; subst hu; rfl
          case c3 => unfold maxLen; omega
          case c4 => omega
          case c5 => simp; omega
          intro v' w2 hown' hgrow _
          rw [← bc_succ] at hown'
          go_wp2
          exact ⟨⟨1 + 1, v', 48 - 8, rfl, by omega, by omega, rfl, hown', (hB.alloc hsz _).grown hgrow (by simp; omega) (fun k hk => (hown.lt k hk).1)⟩, by simp [intOf]⟩
        · obtain rfl : kk = 40 := by simpa using hkk
          clear hkk
          go_wp2_with (at_builtin; refine wpList_append_own _ rfl _ _ 57 rfl w.heap.size t8 i0 (.int .u8 0) 1 1 Tryz.underlying57 hi hz0 hz1 hz2 rfl (by decide) _ _ _ rfl (hown.alloc _) ⟨wr.heap.size, 0, none⟩ 1 1 [.int .u8 ((ob N 2 : Nat) : Int)] rfl rfl ?c1 ?c2 ?c3 ?c4 ?c5 ?_)
          case c1 =>
            intro j u hj
            match j, hj with
            | 0, hj => simp at hj; subst hj; simp [Addr.add, ob]
          case c2 => intro u hu; simp at hu; subst hu; rfl
          case c3 => unfold maxLen; omega
          case c4 => omega
          case c5 => simp; omega
          intro v' w2 hown' hgrow _
          rw [← bc_succ] at hown'
          go_wp2
          exact ⟨⟨2 + 1, v', 40 - 8, rfl, by omega, by omega, rfl, hown', (hB.alloc hsz _).grown hgrow (by simp; omega) (fun k hk => (hown.lt k hk).1)⟩, by simp [intOf]⟩
        · obtain rfl : kk = 32 := by simpa using hkk
          clear hkk
          go_wp2_with (at_builtin; refine wpList_append_own _ rfl _ _ 57 rfl w.heap.size t8 i0 (.int .u8 0) 1 1 Tryz.underlying57 hi hz0 hz1 hz2 rfl (by decide) _ _ _ rfl (hown.alloc _) ⟨wr.heap.size, 0, none⟩ 1 1 [.int .u8 ((ob N 3 : Nat) : Int)] rfl rfl ?c1 ?c2 ?c3 ?c4 ?c5 ?_)
          case c1 =>
            intro j u hj
            match j, hj with
            | 0, hj => simp at hj; subst hj; simp [Addr.add, ob]
          case c2 => intro u hu; simp at hu; subst hu; rfl
          case c3 => unfold maxLen; omega
          case c4 => omega
          case c5 => simp; omega
          intro v' w2 hown' hgrow _
          rw [← bc_succ] at hown'
          go_wp2
          exact ⟨⟨3 + 1, v', 32 - 8, rfl, by omega, by omega, rfl, hown', (hB.alloc hsz _).grown hgrow (by simp; omega) (fun k hk => (hown.lt k hk).1)⟩, by simp [intOf]⟩
        · obtain rfl : kk = 24 := by simpa using hkk
          clear hkk
          go_wp2_with (at_builtin; refine wpList_append_own _ rfl _ _ 57 rfl w.heap.size t8 i0 (.int .u8 0) 1 1 Tryz.underlying57 hi hz0 hz1 hz2 rfl (by decide) _ _ _ rfl (hown.alloc _) ⟨wr.heap.size, 0, none⟩ 1 1 [.int .u8 ((ob N 4 : Nat) : Int)] rfl rfl ?c1 ?c2 ?c3 ?c4 ?c5 ?_)
          case c1 =>
            intro j u hj
            match j, hj with
            | 0, hj => simp at hj; subst hj; simp [Addr.add, ob]
          case c2 => intro u hu; simp at hu; subst hu; rfl
          case c3 => unfold maxLen; omega
          case c4 => omega
          case c5 => simp; omega
          intro v' w2 hown' hgrow _
          rw [← bc_succ] at hown'
          go_wp2
          exact ⟨⟨4 + 1, v', 24 - 8, rfl, by omega, by omega, rfl, hown', (hB.alloc hsz _).grown hgrow (by simp; omega) (fun k hk => (hown.lt k hk).1)⟩, by simp [intOf]⟩
        · obtain rfl : kk = 16 := by simpa using hkk
          clear hkk
          go_wp2_with (at_builtin; refine wpList_append_own _ rfl _ _ 57 rfl w.heap.size t8 i0 (.int .u8 0) 1 1 Tryz.underlying57 hi hz0 hz1 hz2 rfl (by decide) _ _ _ rfl (hown.alloc _) ⟨wr.heap.size, 0, none⟩ 1 1 [.int .u8 ((ob N 5 : Nat) : Int)] rfl rfl ?c1 ?c2 ?c3 ?c4 ?c5 ?_)
          case c1 =>
            intro j u hj
            match j, hj with
            | 0, hj => simp at hj; subst hj; simp [Addr.add, ob]
          case c2 => intro u hu; simp at hu; subst hu; rfl
          case c3 => unfold maxLen; omega
          case c4 => omega
          case c5 => simp; omega
          intro v' w2 hown' hgrow _
          rw [← bc_succ] at hown'
          go_wp2
          exact ⟨⟨5 + 1, v', 16 - 8, rfl, by omega, by omega, rfl, hown', (hB.alloc hsz _).grown hgrow (by simp; omega) (fun k hk => (hown.lt k hk).1)⟩, by simp [intOf]⟩
        · obtain rfl : kk = 8 := by simpa using hkk
          clear hkk
          go_wp2_with (at_builtin; refine wpList_append_own _ rfl _ _ 57 rfl w.heap.size t8 i0 (.int .u8 0) 1 1 Tryz.underlying57 hi hz0 hz1 hz2 rfl (by decide) _ _ _ rfl (hown.alloc _) ⟨wr.heap.size, 0, none⟩ 1 1 [.int .u8 ((ob N 6 : Nat) : Int)] rfl rfl ?c1 ?c2 ?c3 ?c4 ?c5 ?_)
          case c1 =>
            intro j u hj
            match j, hj with
            | 0, hj => simp at hj; subst hj; simp [Addr.add, ob]
          case c2 => intro u hu; simp at hu; subst hu; rfl
          case c3 => unfold maxLen; omega
          case c4 => omega
          case c5 => simp; omega
          intro v' w2 hown' hgrow _
          rw [← bc_succ] at hown'
          go_wp2
          exact ⟨⟨6 + 1, v', 8 - 8, rfl, by omega, by omega, rfl, hown', (hB.alloc hsz _).grown hgrow (by simp; omega) (fun k hk => (hown.lt k hk).1)⟩, by simp [intOf]⟩
        · obtain rfl : kk = 0 := by simpa using hkk
          clear hkk
          go_wp2_with (at_builtin; refine wpList_append_own _ rfl _ _ 57 rfl w.heap.size t8 i0 (.int .u8 0) 1 1 Tryz.underlying57 hi hz0 hz1 hz2 rfl (by decide) _ _ _ rfl (hown.alloc _) ⟨wr.heap.size, 0, none⟩ 1 1 [.int .u8 ((ob N 7 : Nat) : Int)] rfl rfl ?c1 ?c2 ?c3 ?c4 ?c5 ?_)
          case c1 =>
            intro j u hj
            match j, hj with
            | 0, hj => simp at hj; subst hj; simp [Addr.add, ob]
          case c2 => intro u hu; simp at hu; subst hu; rfl
          case c3 => unfold maxLen; omega
          case c4 => omega
          case c5 => simp; omega
          intro v' w2 hown' hgrow _
          rw [← bc_succ] at hown'
          go_wp2
          exact ⟨⟨7 + 1, v', 0 - 8, rfl, by omega, by omega, rfl, hown', (hB.alloc hsz _).grown hgrow (by simp; omega) (fun k hk => (hown.lt k hk).1)⟩, by simp [intOf]⟩
      · obtain rfl : j = 8 := by omega
        obtain rfl : kk = -8 := by simpa using hkk
        clear hkk
        obtain ⟨g, cap, cur, rfl, hg1, hg2, hg3, hg4, hg5, hg6⟩ : ∃ g cap cur, u3 = .slice (some ⟨g, 0, none⟩) 8 cap ∧ w.heap.size ≤ g ∧ wr.heap[g]? = some (.cells cur t8 (0, 0)) ∧ 8 ≤ cap ∧ cap ≤ maxLen ∧ cur.size = cap * 1 ∧ cur.toList.take (8 * 1) = Lib.byteCells (obs N 8) := by
          rcases hown.2 with ⟨_, h⟩ | h
          · omega
          · exact h
        have hcv := run_convert_bytes_back (P := Tryz.prog) wr 57 24 5 ⟨g, 0, none⟩ cap (obs N 8) Tryz.underlying57 Tryz.underlying5 Tryz.underlying24 (fun j hj => by
          have := World.ownsRow.cells hown (g := g) rfl j (.int .u8 ((obs N 8)[j].toNat : Int)) (by simp [Lib.byteCells, hj])
          exact this)
        rw [show (obs N 8).length = 8 by simp [obs]] at hcv
        have hsv : sv ⟨(obs N 8).toArray⟩ = N := bv_obs N (by have := HN.out.1; omega)
        have hsz8 : (ByteArray.mk (obs N 8).toArray).size ≤ 4294967296 := by
          show (obs N 8).toArray.size ≤ _
          rw [List.size_toArray, show (obs N 8).length = 8 by simp [obs]]; omega
        have HC := Lib.hid (Canon_any wr ⟨(obs N 8).toArray⟩ hsz8)
        have HS := Lib.hid hsv
        clear hsv hsz8 hown hg2 hg4 hg5 hg6 hg3
        go_wp2_with fail
        refine HC.out.mono ?_
        rintro e w1 ⟨rfl, rfl⟩
        go_wp2
        go_ret
        exact ⟨by rw [← HS.out, ← tz_NB, HS.out]; rfl, hB⟩
end Go.Proofs.YteccbedmpjeamaaGreatDoor
