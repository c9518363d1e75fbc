/-
  The walk of the reference's Stream, for a length up to 300.
-/
import Derived.Test.YtkniimhgipdbaaaDoorStreamE
import Derived.Test.YtkniimhgipdbaaaDoorLawLen
namespace Go.Proofs.YtkniimhgipdbaaaDoor
open Go.RowKit SH Go
theorem dig_list : ∀ m, m < 10 → ((⟨#[48, 49, 50, 51, 52, 53, 54, 55, 56, 57]⟩ : ByteArray).extract m (m+1)).data.toList = Lib.itoa (m : Int) := by decide +kernel
theorem dig_one (m : Nat) (h : m < 10) : (⟨#[48, 49, 50, 51, 52, 53, 54, 55, 56, 57]⟩ : ByteArray).extract m (m+1) = dcm m := by
  have := dig_list m h
  unfold dcm
  generalize (⟨#[48, 49, 50, 51, 52, 53, 54, 55, 56, 57]⟩ : ByteArray).extract m (m+1) = X at *
  cases X
  congr 1
  exact Array.toList_inj.1 (by simpa using this)
set_option maxRecDepth 100000 in
theorem decimal_small (w : World) (m : Nat) (hm : m ≤ 9) :
    Calls Tryd.prog 13 #[.int .i64 (m : Int)] w fun e w' => e = .returned (.string (dcm m)) ∧ w' = w := by
  have h : m = 0 ∨ m = 1 ∨ m = 2 ∨ m = 3 ∨ m = 4 ∨ m = 5 ∨ m = 6 ∨ m = 7 ∨ m = 8 ∨ m = 9 := by omega
  rcases h with rfl | rfl | rfl | rfl | rfl | rfl | rfl | rfl | rfl | rfl
  all_goals
    go_enter Tryd.func13, Tryd.ntmps13
    go_wp2
    go_ret
    exact ⟨congrArg (fun x => Ending.returned (Value.string x)) (dig_one _ (by decide)), rfl⟩
theorem bks_flat (seed : ByteArray) (m : Nat) : flat (bks seed (m+1)) = flat (bks seed m) ++ bk seed m := by rw [bks_snoc, flat_snoc]; rfl
theorem flat_get (seed : ByteArray) : ∀ (m i : Nat), i < 32 * m → (flat (bks seed m))[i]? = (bk seed (i / 32))[i % 32]?
  | 0, i, h => by omega
  | m+1, i, h => by
    have hl : (flat (bks seed m)).length = 32 * m := by rw [flat_len, bks_len]
    rw [bks_flat]
    by_cases hi : i < 32 * m
    · rw [List.getElem?_append_left (by omega)]; exact flat_get seed m i hi
    · rw [List.getElem?_append_right (by omega), hl]
      have e1 : i / 32 = m := by omega
      have e2 : i % 32 = i - 32 * m := by omega
      rw [e1, e2]
/-- the first i bytes, then zeros -/
def rowOf (R : List UInt8) (n i : Nat) : List UInt8 := R.take i ++ List.replicate (n - i) 0
theorem rowOf_len (R : List UInt8) (n i : Nat) (h : R.length = n) (hi : i ≤ n) : (rowOf R n i).length = n := by simp [rowOf]; omega
theorem rowOf_step (R : List UInt8) (n i : Nat) (b : UInt8) (h : R.length = n) (hi : i < n) (hb : R[i]? = some b) : (rowOf R n i).set i b = rowOf R n (i+1) := by
  unfold rowOf
  have e : n - i = (n - (i+1)) + 1 := by omega
  have e2 : R.take (i+1) = R.take i ++ [b] := by rw [List.take_add_one, hb]; rfl
  rw [List.set_append_right _ _ (by simp; omega), e, List.replicate_succ, e2, List.append_assoc]
  congr 1
  have e3 : i - (R.take i).length = 0 := by simp; omega
  rw [e3]; rfl
/-- bytes l lie in block p as a row -/
def BY (W : World) (p : Nat) (l : List UInt8) : Prop := W.heap[p]? = some (.cells (hcells l) t8 (0, 0))
theorem BY.below {u v : World} {p : Nat} {l : List UInt8} (h : BY u p l) (k : Below u.heap.size u v) : BY v p l := (k.block p (Array.getElem?_eq_some_iff.1 h).1).trans h
structure RS (w : World) (p q : Nat) (l lb : List UInt8) (W : World) : Prop where
  out : BY W p l
  blk : HM W q lb
  b : Below w.heap.size w W
theorem RS.next {w u v : World} {p q : Nat} {l lb : List UInt8} (h : RS w p q l lb u) (k : Below u.heap.size u v) : RS w p q l lb v := ⟨h.out.below k, h.blk.below k h.blk.lt, h.b.trans (k.mono h.b.size)⟩
theorem RS.set {w V : World} {p q : Nat} {l lb : List UInt8} (h : RS w p q l lb V) (hp : w.heap.size ≤ p) (hne : q ≠ p) (i : Nat) (b : UInt8) : RS w p q (l.set i b) lb (V.setCell ⟨p, i, none⟩ (.int .u8 (b.toNat : Nat))) :=
  ⟨by unfold BY; rw [← hcells_set]; exact heap_setCell_same _ _ _ _ _ _ h.out, h.blk.setOther hne _ _, h.b.setCell (p := ⟨p, i, none⟩) hp _⟩
theorem RS.put {w V : World} {p q : Nat} {l lb : List UInt8} (h : RS w p q l lb V) (hq : w.heap.size ≤ q) (hne : p ≠ q) (l2 : List UInt8) : RS w p q l l2 (V.setRow q (hcells l2)) :=
  ⟨(setRow_other _ _ _ _ hne).trans h.out, setRow_heap _ _ _ _ _ _ h.blk, Below.setRow' h.b hq _⟩
theorem made_h (n : Nat) : madeCells #[.int .u8 0] n = hcells (List.replicate n 0) := by
  apply Array.ext'
  rw [toList_madeCells_one]
  simp [hcells]
set_option maxRecDepth 100000 in
set_option maxHeartbeats 4000000 in
theorem refStream_any (w : World) (seed : ByteArray) (hs : seed.size ≤ 1000) (n : Nat) (hn1 : 1 ≤ n) (hn2 : n ≤ 300) :
    Calls Tryd.prog 8 #[.string seed, .int .i64 (n : Int)] w fun e w' => e = .returned (.string ⟨((flat (bks seed ((n + 31) / 32))).take n).toArray⟩) ∧ Below w.heap.size w w' := by
  obtain ⟨R, hR⟩ : ∃ R, (flat (bks seed ((n + 31) / 32))).take n = R := ⟨_, rfl⟩
  rw [hR]
  have hRl : R.length = n := by rw [← hR, List.length_take, flat_len, bks_len]; omega
  have hRg : ∀ i, i < n → R[i]? = (bk seed (i / 32))[i % 32]? := fun i hi => by rw [← hR, List.getElem?_take_of_lt hi]; exact flat_get seed _ i (by omega)
  have mk := make_bytes n (by omega)
  have h1 : ¬ ((n : Int) < 1) := by omega
  have h2 : ¬ ((1048576 : Int) < (n : Int)) := by omega
  have info32 : Hid ((Tryd.prog.info? 29).map (·.size) = some 32) := Lib.hid (by kernel_rfl)
  obtain ⟨W, hW⟩ : ∃ W, (w.alloc (.cells (madeCells #[.int .u8 0] n) 5)).alloc (.cells (hcells (List.replicate 32 0)) 29) = W := ⟨_, rfl⟩
  have rs0 : RS w w.heap.size (w.heap.size + 1) (rowOf R n 0) (List.replicate 32 0) W := by
    have k1 : Below (w.heap.size + 1) (w.alloc (.cells (madeCells #[.int .u8 0] n) 5)) W := by rw [← hW]; exact (Below.refl _ _).alloc (by simp) _
    refine ⟨(k1.block _ (by omega)).trans ?_, ?_, by rw [← hW]; exact ((Below.refl _ w).alloc (Nat.le_refl _) _).alloc (by simp) _⟩
    · rw [made_h]
      have : rowOf R n 0 = List.replicate n 0 := by simp [rowOf]
      rw [this]
      exact heap_alloc_new w _
    · rw [← hW]
      have := heap_alloc_new (w.alloc (.cells (madeCells #[.int .u8 0] n) 5)) (.cells (hcells (List.replicate 32 0)) 29)
      rwa [World.size_alloc] at this
  have HR := Lib.hid (And.intro hRl hRg)
  have HW := Lib.hid hW
  have H0 := Lib.hid rs0
  clear hRl hRg hW rs0 hR
  go_enter Tryd.func8, Tryd.ntmps8
  go_upto_region 5 with fail
  change Code.wp _ _ _ _ ((w.alloc (.cells (madeCells #[.int .u8 0] n) 5)).alloc (.cells (hcells (List.replicate 32 0)) 29))
  rw [HW.out]
  clear mk h1 h2 HW
  go_wp2_with fail
  go_loopw [7] (fun x wr => ∃ (i : Nat) (lb : List UInt8), x = .int .i64 (i : Int) ∧ i ≤ n ∧ lb.length = 32 ∧ Hid (i % 32 ≠ 0 → lb = bk seed (i / 32)) ∧ Hid (RS w w.heap.size (w.heap.size + 1) (rowOf R n i) lb wr)) (fun x _ => n - (intOf x).toNat)
  case atStart => exact ⟨0, _, rfl, by omega, by simp, Lib.hid (fun h => absurd rfl h), H0.out⟩
  case round =>
    clear H0
    obtain ⟨i, lb, rfl, hi, hlb, hlb2, hrs⟩ := hrel
    by_cases hlt : i < n
    · have hd : Int.tmod (i : Int) 32 = ((i % 32 : Nat) : Int) := by rw [Int.tmod_eq_emod_of_nonneg (by omega)]; omega
      have hq : Int.tdiv (i : Int) 32 = ((i / 32 : Nat) : Int) := by rw [Int.tdiv_eq_ediv_of_nonneg (by omega)]; omega
      obtain ⟨a, ha⟩ : ∃ a, i % 32 = a := ⟨_, rfl⟩
      obtain ⟨d, hdd⟩ : ∃ d, i / 32 = d := ⟨_, rfl⟩
      rw [ha] at hd
      rw [hdd] at hq
      have ha32 : a < 32 := by omega
      have x1 : (0 : Int) ≤ (a : Int) := by omega
      have x2 : (a : Int) < 32 := by omega
      have x3 : (0 : Int) ≤ (i : Int) := by omega
      have x4 : (i : Int) < (n : Int) := by omega
      by_cases h0 : a = 0
      · subst h0
        have hd9 : d ≤ 9 := by omega
        obtain ⟨S1, hS1⟩ : ∃ S1, seed ++ (⟨#[47]⟩ : ByteArray) = S1 := ⟨_, rfl⟩
        have z1 : S1.size = seed.size + 1 := by rw [← hS1, ByteArray.size_append]; rfl
        have zd := dcm_size d (by omega)
        obtain ⟨S2, hS2⟩ : ∃ S2, S1 ++ dcm d = S2 := ⟨_, rfl⟩
        have z2 : S2.size ≤ 2000 := by rw [← hS2, ByteArray.size_append]; omega
        have hL1 : (9223372036854775807 < seed.size + 1) = False := eq_false (by omega)
        have hL2 : (9223372036854775807 < S1.size + (dcm d).size) = False := eq_false (by omega)
        have hS : sha S2.data.toList = bk seed d := by rw [← hS2, ← hS1]; simp [bk, L0]
        have HS := Lib.hid (And.intro hS z2); clear hS z1 z2 zd
        have D1 := decimal_small wr d hd9
        go_wp2_with fail
        go_must (go_fit D1)
        rintro e w1 ⟨rfl, rfl⟩
        clear D1
        go_wp2_with fail
        go_must (go_fit (refSum_any _ S2 (by have := HS.out.2; omega)))
        rintro e w1 ⟨rfl, b⟩
        rw [HS.out.1]
        have hr1 := hrs.out.next b
        have hrow := hr1.blk
        have hin : (Tryd.prog.info? 29).map (·.size) = some (hcells (bk seed d)).size := by rw [hcells_size, bk_len]; exact info32.out
        have hold : (hcells lb).size = (hcells (bk seed d)).size := by rw [hcells_size, hcells_size, bk_len, hlb]
        have hF := Lib.hid (hr1.put (by omega) (by omega) (bk seed d))
        clear hrs b hr1 hL1 hL2 hS1 hS2
        go_upto_region 10 with (refine wpList_store_row rfl 29 (.tmp 6) (.tmp 30) rfl (w.heap.size + 1) (hcells (bk seed d)) rfl rfl 29 _ hrow hin hold (hcells_one _) ?_)
        clear hrow hin hold
        generalize w1.setRow (w.heap.size + 1) (hcells (bk seed d)) = V at *
        obtain ⟨x, hx⟩ : ∃ x, gb (bk seed d) 0 = x := ⟨_, rfl⟩
        have cb := hF.out.blk.cell 0 (by rw [bk_len]; omega)
        rw [hx] at cb
        have co : V.cell? ⟨w.heap.size, i, none⟩ = some (.int .u8 (gb (rowOf R n i) i : Nat)) := by rw [cell_of_row _ _ i _ _ _ hF.out.out, hcells_get _ _ (by rw [rowOf_len _ _ _ HR.out.1 hi]; exact hlt)]
        have fo : V.frozen? ⟨w.heap.size, i, none⟩ = false := frozen_of_row _ _ i _ _ hF.out.out
        have HA := Lib.hid (And.intro ha (And.intro hdd (And.intro hx hlb))); clear ha hdd hx hlb hlb2
        go_wp2_with fail
        go_roundw
        case rel =>
          refine ⟨i + 1, bk seed d, by go_num, hlt, bk_len _ _, Lib.hid (fun h => by obtain ⟨g1, g2, _⟩ := HA.out; congr 1; omega), Lib.hid ?_⟩
          obtain ⟨g1, g2, g3, _⟩ := HA.out
          have hxb : gb (bk seed d) 0 = ((bk seed d).getD 0 0).toNat := rfl
          have hst := hF.out.set (Nat.le_refl _) (by omega) i ((bk seed d).getD 0 0)
          rw [rowOf_step R n i _ HR.out.1 hlt (by rw [HR.out.2 i hlt, g1, g2, List.getD_eq_getElem?_getD, List.getElem?_eq_getElem (by rw [bk_len]; omega)]; rfl)] at hst
          rw [← hxb, g3] at hst
          exact hst
        case measure => (simp [intOf]; try omega)
      · have hlb3 : lb = bk seed d := by rw [hlb2.out (by omega), hdd]
        subst hlb3
        have h0i : ¬ ((a : Int) = 0) := by omega
        have h0b : ((a : Int) == 0) = false := beq_eq_false_iff_ne.2 h0i
        have hF := hrs
        go_upto_region 10 with fail
        obtain ⟨x, hx⟩ : ∃ x, gb (bk seed d) a = x := ⟨_, rfl⟩
        have cb := hF.out.blk.cell a (by rw [bk_len]; omega)
        rw [hx] at cb
        have co : wr.cell? ⟨w.heap.size, i, none⟩ = some (.int .u8 (gb (rowOf R n i) i : Nat)) := by rw [cell_of_row _ _ i _ _ _ hF.out.out, hcells_get _ _ (by rw [rowOf_len _ _ _ HR.out.1 hi]; exact hlt)]
        have fo : wr.frozen? ⟨w.heap.size, i, none⟩ = false := frozen_of_row _ _ i _ _ hF.out.out
        have HA := Lib.hid (And.intro ha (And.intro hdd (And.intro hx hlb))); clear ha hdd hx hlb hlb2
        go_wp2_with fail
        go_roundw
        case rel =>
          refine ⟨i + 1, bk seed d, by go_num, hlt, bk_len _ _, Lib.hid (fun h => by obtain ⟨g1, g2, _⟩ := HA.out; congr 1; omega), Lib.hid ?_⟩
          obtain ⟨g1, g2, g3, _⟩ := HA.out
          have hxb : gb (bk seed d) a = ((bk seed d).getD a 0).toNat := rfl
          have hst := hF.out.set (Nat.le_refl _) (by omega) i ((bk seed d).getD a 0)
          rw [rowOf_step R n i _ HR.out.1 hlt (by rw [HR.out.2 i hlt, g1, g2, List.getD_eq_getElem?_getD, List.getElem?_eq_getElem (by rw [bk_len]; omega)]; rfl)] at hst
          rw [← hxb, g3] at hst
          exact hst
        case measure => (simp [intOf]; try omega)
    · obtain rfl : i = n := by omega
      have hz := run_convert_bytes_back (P := Tryd.prog) wr 27 9 t8 ⟨w.heap.size, 0, none⟩ i R Tryd.underlying27 Tryd.underlying5 Tryd.underlying9 (fun j hj => by
        have hadd : (⟨w.heap.size, 0, none⟩ : Addr).add j = ⟨w.heap.size, j, none⟩ := by unfold Addr.add; split <;> simp_all
        have hjn : j < i := by have := HR.out.1; omega
        have hall : rowOf R i i = R := by unfold rowOf; rw [List.take_of_length_le (by have := HR.out.1; omega), Nat.sub_self]; simp
        have hout := hrs.out.out
        rw [hall] at hout
        rw [hadd, cell_of_row _ _ j _ _ _ hout, hcells_get _ _ hj]
        simp [gb, hj])
      rw [HR.out.1] at hz
      go_wp2
      go_ret
      exact ⟨rfl, hrs.out.b⟩
end Go.Proofs.YtkniimhgipdbaaaDoor
