/-
  The walks of the reference's Exponent, Element, power, decimal, joined, Challenge.
-/
import Derived.Test.YtbfplapjjeeceaaGreatDoorEVer
import Derived.Test.YtbfplapjjeeceaaGreatDoorGRefB
import Derived.Test.YtbfplapjjeeceaaGreatDoorGRefNumber
import Derived.Test.YtbfplapjjeeceaaGreatDoorNRC
namespace Go.Proofs.YtbfplapjjeeceaaGreatDoor.E6
open Go.RowKit GM SH G4
theorem refPow_b (W : World) (a n m r : Int) (h : gp a n m = r) (ha : i64 a) (hn : n ≤ 9223372036854775807) (hm2 : m ≤ 9223372036854775807) :
    Calls Tryz.prog 39 #[.int .i64 a, .int .i64 n, .int .i64 m] W fun e w' => e = .returned (.int .i64 r) ∧ w' = W := by
  subst h
  exact refPow_any W a n m ha.1 ha.2 hn hm2
theorem power_any (w : World) (a n : Int) (ha : i64 a) (hn : i64 n) :
    Calls Tryz.prog 110 #[.int .i64 a, .int .i64 n] w fun e w' => e = .returned (.int .i64 (pp a n)) ∧ w' = w := by
  have R := Lib.hid (refPow_b w a n 2305843009213691579 (pp a n) (pp_def a n) ha hn.2 (by decide))
  generalize pp a n = v at *
  go_enter Tryz.func110, Tryz.ntmps110
  go_wp2_with fail
  refine R.out.mono ?_
  rintro e w1 ⟨rfl, rfl⟩
  go_wp2
  go_ret
  exact ⟨rfl, rfl⟩
/-- joined numbers -/
def jn : List Int → ByteArray
  | [] => ⟨#[]⟩
  | a :: l => tw (dcm a) l
theorem tw_app (x y : ByteArray) (l : List Int) : tw (x ++ y) l = x ++ tw y l := by
  induction l generalizing y with
  | nil => rfl
  | cons a l ih =>
    show tw (x ++ y ++ (⟨#[47]⟩ : ByteArray) ++ dcm a) l = x ++ tw (y ++ (⟨#[47]⟩ : ByteArray) ++ dcm a) l
    rw [← ih]
    simp only [ba_assoc]
theorem jn_tw (s : ByteArray) (a : Int) (l : List Int) : s ++ (⟨#[47]⟩ : ByteArray) ++ jn (a :: l) = tw s (a :: l) := by
  show _ ++ tw (dcm a) l = tw (s ++ _ ++ dcm a) l
  rw [tw_app]
theorem jn_one (l : List Int) (x : Int) (hx : l[0]? = some x) : jn (l.take 1) = dcm x := by
  cases l with
  | nil => simp at hx
  | cons a l => simp at hx; subst hx; rfl
theorem jn_succ (l : List Int) (j : Nat) (x : Int) (hj : l[j]? = some x) (h0 : 0 < j) : jn (l.take (j+1)) = jn (l.take j) ++ (⟨#[47]⟩ : ByteArray) ++ dcm x := by
  cases l with
  | nil => simp at hj
  | cons a l =>
    obtain ⟨i, rfl⟩ : ∃ i, j = i + 1 := ⟨j - 1, by omega⟩
    have h : l[i]? = some x := by simpa using hj
    show tw (dcm a) (l.take (i+1)) = tw (dcm a) (l.take i) ++ _ ++ _
    rw [tw_succ _ _ _ _ h, ba_assoc]
theorem jn_size (l : List Int) (hr : ∀ x ∈ l, i64 x) (k : Nat) (hl : l.length ≤ 1000) : (jn (l.take k)).size ≤ 30000 := by
  cases h : l.take k with
  | nil => decide
  | cons a t =>
    have hmem : ∀ x ∈ a :: t, x ∈ l := fun x hx => List.mem_of_mem_take (h ▸ hx)
    have h1 := tw_size t (fun x hx => hr x (hmem x (by simp [hx]))) (dcm a)
    have h2 := dcm_size a (hr a (hmem a (by simp)))
    have h3 : t.length + 1 ≤ l.length := by
      have := congrArg List.length h
      rw [List.length_take, List.length_cons] at this; omega
    show (tw (dcm a) t).size ≤ _
    omega
theorem neg_cat (s : ByteArray) : (⟨#[45]⟩ : ByteArray) ++ s = ⟨(45 :: s.data.toList).toArray⟩ := ba_ext (by simp [ByteArray.data_append])
theorem dcm_nat (n : Nat) : dcm (n : Int) = dtext n := rfl
theorem dcm_neg (n : Nat) (h : 0 < n) : dcm (-(n : Int)) = (⟨#[45]⟩ : ByteArray) ++ dtext n := by
  rw [neg_cat]
  unfold dcm Lib.itoa
  rw [if_pos (by omega), Int.natAbs_neg, Int.natAbs_natCast]
  rfl
theorem dcm_rec (n : Nat) (h : 10 ≤ n) : dcm (-(n : Int)) = dcm (-((n / 10 : Nat) : Int)) ++ dtext (n % 10) := by
  rw [dcm_neg n (by omega), dcm_neg (n / 10) (by omega), ba_assoc]
  congr 1
  refine ba_ext ?_
  rw [ByteArray.data_append, Array.toList_append]
  show Lib.decDigits n = Lib.decDigits (n / 10) ++ Lib.decDigits (n % 10)
  rw [show Lib.decDigits (n % 10) = [UInt8.ofNat (48 + n % 10)] from Lib.decDigits_one (by omega)]
  conv => lhs; rw [Lib.decDigits, dif_neg (by omega)]
theorem natText (w : World) (n : Nat) (h : n < 9223372036854775808) :
    Calls Tryz.prog 123 #[.string (NB n)] w fun e w' => e = .returned (.string (dtext n)) ∧ Below w.heap.size w w' := by
  have := RefText_any w (NB n) (Nat.le_trans (NB_size (k := 8) (by omega)) (by omega))
  rwa [sv_NB] at this
theorem natOf (w : World) (n : Nat) (h : n < 9223372036854775808) :
    Calls Tryz.prog 124 #[.int .i64 (n : Int)] w fun e w' => e = .returned (.string (NB n)) ∧ Below w.heap.size w w' := by
  have := RefOf_any w (n : Int) (by omega) (by omega)
  rwa [Int.toNat_natCast] at this
set_option maxRecDepth 100000 in
set_option maxHeartbeats 2000000 in
theorem decimal_to (m : Nat) : ∀ (w : World) (n : Int), i64 n → n.natAbs ≤ m →
    Calls Tryz.prog 98 #[.int .i64 n] w fun e w' => e = .returned (.string (dcm n)) ∧ Below w.heap.size w w' := by
  induction m using Nat.strongRecOn with
  | ind m ih =>
    intro w n hn hm
    by_cases h0 : 0 ≤ n
    · obtain ⟨k, rfl⟩ : ∃ k : Nat, n = k := ⟨n.toNat, by omega⟩
      have R1 := Lib.hid fun W => natOf W k (by have := hn.2; omega)
      have R2 := Lib.hid fun W => natText W k (by have := hn.2; omega)
      rw [dcm_nat]
      generalize dtext k = T at *
      generalize NB k = B at *
      clear ih
      go_enter Tryz.func98, Tryz.ntmps98
      go_wp2_with fail
      refine (R1.out _).mono ?_
      rintro e w1 ⟨rfl, b1⟩
      go_wp2_with fail
      refine (R2.out _).mono ?_
      rintro e w2 ⟨rfl, b2⟩
      have hb := Lib.hid (b1.trans (b2.mono b1.size)); clear b1 b2
      go_wp2
      go_ret
      exact ⟨rfl, hb.out⟩
    · obtain ⟨k, rfl⟩ : ∃ k : Nat, n = -(k : Int) := ⟨n.natAbs, by omega⟩
      by_cases h1 : k < 10
      · have hw : wrap64 (-(-(k : Int))) = (k : Int) := by unfold wrap64; omega
        have R1 := Lib.hid fun W => natOf W k (by omega)
        have R2 := Lib.hid fun W => natText W k (by omega)
        have E := Lib.hid (dcm_neg k (by omega))
        have z := dec_len 2 k (by omega) (by omega)
        have z2 : (dtext k).size ≤ 2 := z
        generalize dcm (-(k : Int)) = V at *
        generalize dtext k = T at *
        generalize NB k = B at *
        have b1 : (9223372036854775807 < 1 + T.size) = False := eq_false (by omega)
        clear ih z hm
        go_enter Tryz.func98, Tryz.ntmps98
        go_wp2_with fail
        refine (R1.out _).mono ?_
        rintro e w1 ⟨rfl, b1⟩
        go_wp2_with fail
        refine (R2.out _).mono ?_
        rintro e w2 ⟨rfl, b2⟩
        have hb := Lib.hid (b1.trans (b2.mono b1.size)); clear b1 b2
        go_wp2
        go_ret
        exact ⟨by rw [E.out]; rfl, hb.out⟩
      · have I := Lib.hid fun W => ih (k / 10) (by omega) W (-((k / 10 : Nat) : Int)) (by have := hn.1; omega) (by omega)
        have R1 := Lib.hid fun W => natOf W (k % 10) (by omega)
        have R2 := Lib.hid fun W => natText W (k % 10) (by omega)
        have E := Lib.hid (dcm_rec k (by omega))
        have d1 : Int.tdiv (-(k : Int)) 10 = -((k / 10 : Nat) : Int) := by rw [Int.neg_tdiv, Int.tdiv_eq_ediv_of_nonneg (by omega)]; omega
        have d2 : Int.tmod (-(k : Int)) 10 = -((k % 10 : Nat) : Int) := by rw [Int.neg_tmod, Int.tmod_eq_emod_of_nonneg (by omega)]; omega
        have z0 := dcm_size (-((k / 10 : Nat) : Int)) (by have := hn.1; omega)
        have z := dec_len 2 (k % 10) (by omega) (by omega)
        have z2 : (dtext (k % 10)).size ≤ 2 := z
        have hr9 : k % 10 < 10 := by omega
        have hq9 : k / 10 < 922337203685477581 := by have := hn.1; omega
        generalize dcm (-(k : Int)) = V at *
        generalize dcm (-((k / 10 : Nat) : Int)) = U at *
        generalize dtext (k % 10) = T at *
        generalize NB (k % 10) = B at *
        generalize k / 10 = a at *
        generalize k % 10 = b at *
        have b1 : (9223372036854775807 < U.size + T.size) = False := eq_false (by omega)
        clear ih z hm
        go_enter Tryz.func98, Tryz.ntmps98
        go_wp2_with fail
        refine (I.out _).mono ?_
        rintro e w0 ⟨rfl, b0⟩
        have hb0 := Lib.hid b0; clear b0
        go_wp2_with fail
        refine (R1.out _).mono ?_
        rintro e w1 ⟨rfl, b1⟩
        have hb1 := Lib.hid (hb0.out.trans (b1.mono hb0.out.size)); clear b1 hb0
        go_wp2_with fail
        refine (R2.out _).mono ?_
        rintro e w2 ⟨rfl, b2⟩
        have hb := Lib.hid (hb1.out.trans (b2.mono hb1.out.size)); clear b2 hb1
        go_wp2
        go_ret
        exact ⟨by rw [E.out]; rfl, hb.out⟩
theorem decimal_any (w : World) (n : Int) (h : i64 n) :
    Calls Tryz.prog 98 #[.int .i64 n] w fun e w' => e = .returned (.string (dcm n)) ∧ Below w.heap.size w w' := decimal_to _ w n h (Nat.le_refl _)
set_option maxRecDepth 100000 in
set_option maxHeartbeats 2000000 in
theorem joined_any (w : World) (bk c n : Nat) (l : List Int) (hn : l.length = n) (hI : IL w bk l) (hr : ∀ x ∈ l, i64 x) (hN : n ≤ 1000) :
    Calls Tryz.prog 60 #[.slice (some ⟨bk, 0, none⟩) n c] w fun e w' => e = .returned (.string (jn l)) ∧ Below w.heap.size w w' := by
  subst hn
  have HI := Lib.hid (And.intro hI hr); clear hI
  have hz := Lib.hid fun k => jn_size l hr k hN
  clear hr
  go_enter Tryz.func60, Tryz.ntmps60
  go_wp2_with fail
  go_loopw [3, 4] (fun a i wr => ∃ (k : Nat), k ≤ l.length ∧ i = .int .i64 (k : Int) ∧ a = .string (jn (l.take k)) ∧ Hid (Below w.heap.size w wr)) (fun _ i _ => l.length - (match i with | .int _ i => i.toNat | _ => 0))
  case atStart => exact ⟨0, Nat.zero_le _, rfl, by simp [jn], Lib.hid (Below.refl _ _)⟩
  case round =>
    obtain ⟨k, hk, rfl, rfl, hb⟩ := hrel
    by_cases hlt : k < l.length
    · obtain ⟨x, hx⟩ : ∃ x, l[k]? = some x := ⟨l[k], List.getElem?_eq_getElem hlt⟩
      have hc := (HI.out.1.below hb.out) k x hx
      have hix := Lib.hid (HI.out.2 x (List.mem_of_getElem? hx))
      have I1 := Lib.hid fun W => decimal_any W x hix.out
      have hx1 : (dcm x).size ≤ 21 := dcm_size x hix.out
      have hs1 := hz.out k
      have hszb := hb.out.size
      by_cases h0 : k = 0
      · subst h0
        have E := Lib.hid (jn_one l x hx)
        rw [show jn (l.take 0) = ⟨#[]⟩ from rfl]
        generalize dcm x = D at *
        have b2 : (9223372036854775807 < 0 + D.size) = False := eq_false (by omega)
        clear hs1 hx
        go_wp2_with fail
        refine (I1.out _).mono ?_
        rintro e w1 ⟨rfl, b⟩
        have hb1 := Lib.hid (hb.out.trans (b.mono hb.out.size)); clear b hc
        go_wp2
        exact ⟨⟨0 + 1, by omega, by simp, by first | (rw [E.out]; rfl) | (rw [E.out]; simp), hb1⟩, by simp; omega⟩
      · have E := Lib.hid (jn_succ l k x hx (by omega))
        generalize jn (l.take k) = U at *
        generalize dcm x = D at *
        have b1 : (9223372036854775807 < U.size + 1) = False := eq_false (by omega)
        have b2 : (9223372036854775807 < U.size + 1 + D.size) = False := eq_false (by omega)
        clear hs1 hx
        go_wp2_with fail
        refine (I1.out _).mono ?_
        rintro e w1 ⟨rfl, b⟩
        have hb1 := Lib.hid (hb.out.trans (b.mono hb.out.size)); clear b hc
        go_wp2
        exact ⟨⟨k + 1, by omega, by simp, by rw [E.out], hb1⟩, by simp; omega⟩
    · obtain rfl : k = l.length := by omega
      rw [List.take_length]
      go_wp2
      go_ret
      exact ⟨rfl, hb.out⟩
set_option maxRecDepth 100000 in
theorem refChallenge_any (w : World) (bk c n : Nat) (a : Int) (l : List Int) (hn : (a :: l).length = n) (hI : IL w bk (a :: l)) (hr : ∀ x ∈ a :: l, i64 x) (hN : n ≤ 1000) :
    Calls Tryz.prog 26 #[.slice (some ⟨bk, 0, none⟩) n c] w fun e w' => e = .returned (.int .i64 (ch (a :: l))) ∧ Below w.heap.size w w' := by
  have R1 := Lib.hid (joined_any w bk c n (a :: l) hn hI hr hN)
  have e : tw wE (a :: l) = (⟨#[101, 113, 117, 97, 108, 47]⟩ : ByteArray) ++ jn (a :: l) := by rw [← jn_tw]; rfl
  have z := jn_size (a :: l) hr n (by omega)
  rw [← hn, List.take_length] at z
  have R2 := Lib.hid fun W => refScalar_any W (tw wE (a :: l)) (by rw [e, ByteArray.size_append]; have : (⟨#[101, 113, 117, 97, 108, 47]⟩ : ByteArray).size = 6 := rfl; omega)
  have R2 := Lib.hid (show ∀ W, Calls Tryz.prog 59 #[.string ((⟨#[101, 113, 117, 97, 108, 47]⟩ : ByteArray) ++ jn (a :: l))] W fun e w' => e = .returned (.int .i64 (ch (a :: l))) ∧ Below W.heap.size W w' from fun W => by rw [← e]; exact R2.out W)
  clear e
  generalize ch (a :: l) = v at *
  generalize jn (a :: l) = J at *
  have b1 : (9223372036854775807 < 6 + J.size) = False := eq_false (by omega)
  clear hn hI hr hN z
  go_enter Tryz.func26, Tryz.ntmps26
  go_wp2_with fail
  refine R1.out.mono ?_
  rintro e w1 ⟨rfl, b1⟩
  have hb := Lib.hid b1; clear b1
  go_wp2_with fail
  refine (R2.out _).mono ?_
  rintro e w2 ⟨rfl, b2⟩
  replace hb := Lib.hid (hb.out.trans (b2.mono hb.out.size)); clear b2
  go_wp2
  go_ret
  exact ⟨rfl, hb.out⟩
end Go.Proofs.YtbfplapjjeeceaaGreatDoor.E6
