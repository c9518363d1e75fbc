/-
  The walk of the reference's Text.
  The walk of the reference's Make.
  Texts of numbers by two parts: what is read, and that what the reference reads is the same.
  The walk of the reference's Parse.
-/
import Derived.Test.YteccbedmpjeamaaGreatDoorQRefS
import Derived.Test.YteccbedmpjeamaaGreatDoorQF
import Derived.Test.YteccbedmpjeamaaGreatDoorRefText
import Derived.Test.YteccbedmpjeamaaGreatDoorRefCmp
import Derived.Deep.CutBlock
import Derived.Deep.CutRange
namespace Go.Proofs.YteccbedmpjeamaaGreatDoor
open Go.RowKit NM QM
theorem cat_assoc (a b c : ByteArray) : a ++ (b ++ c) = a ++ b ++ c := ByteArray.append_assoc.symm
set_option maxRecDepth 100000 in
set_option maxHeartbeats 4000000 in
theorem rText (w : World) (g : Bool) (A B : ByteArray) (N : Nat) (hA : A.size ≤ N) (hB : B.size ≤ N) (hN1 : 1 ≤ N) (hN : N ≤ 1000) :
    Calls Tryz.prog 29 #[RW g A B] w fun e w' => e = .returned (.string (txq (rvq g A B))) ∧ Below w.heap.size w w' := by
  have VV := fun W => value_q W g A B N hA hB (by omega)
  have sm := SmQ_rvq g A B N hA hB hN1
  generalize rvq g A B = a at *
  have T1 := fun W => RefText_any W (NB a.num.natAbs) (by have := NB_size sm.1; omega)
  have T2 := fun W => RefText_any W (NB a.den) (by have := NB_size sm.2; omega)
  have C1 := fun W => RefCmp_any W (NB a.den) ⟨#[1]⟩ (by have := NB_size sm.2; omega) (by decide)
  rw [sv_NB] at T1 T2 C1
  rw [sv_one] at C1
  have z1 := dtext_sz a.num.natAbs N sm.1
  have z2 := dtext_sz a.den N sm.2
  have hs := r1_start w (rrow g A B)
  obtain ⟨W, hW⟩ : ∃ W, w.alloc (.cells (rrow g A B) 26) = W := ⟨_, rfl⟩
  rw [hW] at hs
  have htx : ∀ k n : Bool, decide (a.num < 0) = k → decide (a.den = 1) = n → txq a = (if n then (if k then ⟨#[45]⟩ ++ dtext a.num.natAbs else dtext a.num.natAbs) else (if k then ⟨#[45]⟩ ++ dtext a.num.natAbs else dtext a.num.natAbs) ++ ⟨#[47]⟩ ++ dtext a.den) := by
    rintro k n rfl rfl
    unfold txq txh
    by_cases h1 : a.den = 1 <;> by_cases h2 : a.num < 0 <;> simp [h1, h2, cat_assoc]
  obtain ⟨k, hk⟩ : ∃ k, decide (a.num < 0) = k := ⟨_, rfl⟩
  obtain ⟨n, hn⟩ : ∃ n, decide (a.den = 1) = n := ⟨_, rfl⟩
  rw [htx k n hk hn]
  clear htx
  have hcz : (cmpv a.den 1 != 0) = !n := by
    rw [← hn]
    by_cases h1 : a.den = 1
    · rw [h1]; rfl
    · rw [decide_eq_false h1]
      unfold cmpv
      by_cases h2 : a.den < 1
      · exact absurd (show a.den = 0 by omega) a.den_nz
      · simp [show ¬ a.den < 1 by omega, show 1 < a.den by omega]
  generalize cmpv a.den 1 = cz at *
  generalize dtext a.num.natAbs = TN at *
  generalize dtext a.den = TD at *
  generalize hE : NB a.den = DE at *
  unfold QV at VV
  have HV := Lib.hid (And.intro VV (And.intro T1 (And.intro T2 (And.intro hW (And.intro hs hE)))))
  have HC := Lib.hid C1
  have c0 : W.cell? ⟨w.heap.size, 0, none⟩ = some (.bool g) := cell_of_row _ _ 0 _ _ _ hs.r
  have c1 : W.cell? ⟨w.heap.size, 1, none⟩ = some (.string A) := cell_of_row _ _ 1 _ _ _ hs.r
  have c2 : W.cell? ⟨w.heap.size, 2, none⟩ = some (.string B) := cell_of_row _ _ 2 _ _ _ hs.r
  have HK := Lib.hid hk
  clear VV T1 T2 C1 hW hs sm hk hn hE
  unfold RW
  go_enter Tryz.func29, Tryz.ntmps29
  go_upto_region 1 with fail
  change Code.wp _ _ _ _ (w.alloc (.cells (rrow g A B) 26))
  rw [HV.out.2.2.2.1]
  go_wp2_with fail
  refine (HV.out.1 _).mono ?_
  rintro e w1 ⟨rfl, b1⟩
  have H1 := Lib.hid (HV.out.2.2.2.2.1.next b1); clear b1 c0 c1 c2
  go_upto_region 2 with (refine wpList_store_row rfl 26 (.tmp 1) (.tmp 5) rfl w.heap.size (qcells a) rfl rfl 26 (rrow g A B) H1.out.r info26.out rfl (qone _) ?_)
  have h2 : R1 w (qcells a) (w1.setRow w.heap.size (qcells a)) := ⟨setRow_heap _ _ _ _ _ _ H1.out.r, by rw [show (w1.setRow w.heap.size (qcells a)).heap.size = w1.heap.size by simp]; exact H1.out.lt, Below.setRow' H1.out.b (Nat.le_refl _) _⟩
  generalize w1.setRow w.heap.size (qcells a) = Y at *
  have H2 := Lib.hid h2
  clear h2 H1
  have c1 : Y.cell? ⟨w.heap.size, 1, none⟩ = some (.string (NB a.num.natAbs)) := cell_of_row _ _ 1 _ _ _ H2.out.r
  go_wp2_with fail
  refine (HV.out.2.1 _).mono ?_
  rintro e w3 ⟨rfl, b3⟩
  have H3 := Lib.hid (H2.out.next b3); clear b3 c1
  have c0 : w3.cell? ⟨w.heap.size, 0, none⟩ = some (.bool k) := by rw [← HK.out]; exact cell_of_row _ _ 0 _ _ _ H3.out.r
  have HT2 := Lib.hid HV.out.2.2.1
  have HDE := Lib.hid HV.out.2.2.2.2.2
  have s1 : (9223372036854775807 < 1 + TN.size) = False := by simp; omega
  have s2 : (9223372036854775807 < TN.size + 1) = False := by simp; omega
  have s3 : (9223372036854775807 < TN.size + 1 + TD.size) = False := by simp; omega
  have s4 : (9223372036854775807 < 1 + TN.size + 1) = False := by simp; omega
  have s5 : (9223372036854775807 < 1 + TN.size + 1 + TD.size) = False := by simp; omega
  clear HV z1 z2
  have cc2 : ∀ u, R1 w (qcells a) u → u.cell? ⟨w.heap.size, 2, none⟩ = some (.string DE) := fun u h => by rw [← HDE.out]; exact cell_of_row _ _ 2 _ _ _ h.r
  have C2 := Lib.hid cc2; clear cc2 HDE
  cases k
  all_goals
    go_upto_region 5 with fail
    clear c0
    have c2 := C2.out _ H3.out
    have c2d := C2.out _ H3.out.drew
    go_region_held3 (fun w' => R1 w (qcells a) w' ∧ w'.cell? ⟨w.heap.size, 2, none⟩ = some (.string DE))
      (first | assumption | exact ⟨H3.out.drew, c2d⟩ | exact ⟨H3.out, c2⟩ | exact ⟨R1.next (And.left (by assumption)) b, C2.out _ (R1.next (And.left (by assumption)) b)⟩)
      (first
        | (go_at_call 34; refine (rone_q _).mono ?_; rintro e w' ⟨rfl, b⟩)
        | (go_at_call 52; refine (HC.out _).mono ?_; rintro e w' ⟨rfl, rfl⟩; have b := Below.refl w'.heap.size w'))
    all_goals
      have hR : R1 w (qcells a) w' := And.left (by assumption)
      have H5 := Lib.hid hR; clear hR
      cases n
      · go_wp2_with fail
        refine (HT2.out _).mono ?_
        rintro e w4 ⟨rfl, b4⟩
        have H4 := Lib.hid (H5.out.next b4); clear b4
        go_wp2
        go_ret
        exact ⟨rfl, H4.out.b⟩
      · go_wp2
        go_ret
        exact ⟨rfl, H5.out.b⟩
end Go.Proofs.YteccbedmpjeamaaGreatDoor
namespace Go.Proofs.YteccbedmpjeamaaGreatDoor
open Go.RowKit NM QM
set_option maxRecDepth 100000 in
set_option maxHeartbeats 2000000 in
theorem rmake_no (w : World) (g : Bool) (A B : ByteArray) (h : fitq A B = false) :
    Calls Tryz.prog 33 #[.bool g, .string A, .string B] w fun e w' => e = .returned (.tuple #[.agg zrow, .bool false]) ∧ Below w.heap.size w w' := by
  have RA := fun W => RefRight_any W A
  have RB := fun W => RefRight_any W B
  have h0 := z1_start w
  obtain ⟨W, hW⟩ : ∃ W, w.alloc (.cells zrow 26) = W := ⟨_, rfl⟩
  rw [hW] at h0
  have HW := Lib.hid hW; clear hW
  have hz := h0.z
  have HB := Lib.hid h0.b
  clear h0
  by_cases hA : rgt A = true
  · rw [hA] at RA
    by_cases hB : rgt B = true
    · rw [hB] at RB
      have hb : B = ⟨#[]⟩ := by
        unfold fitq at h
        rw [hA, hB] at h
        have h2 : sv B = 0 := by simpa using h
        rw [rgt_NB hB, h2, NB_zero]
      subst hb
      have HR := Lib.hid (And.intro RA RB)
      clear RA RB hA hB h
      go_enter Tryz.func33, Tryz.ntmps33
      go_upto_region 1 with fail
      change Code.wp _ _ _ _ (w.alloc (.cells zrow 26))
      rw [HW.out]
      go_wp2_with fail
      refine (HR.out.1 _).mono ?_
      rintro e w' ⟨rfl, rfl⟩
      go_wp2_with fail
      refine (HR.out.2 _).mono ?_
      rintro e w' ⟨rfl, rfl⟩
      go_wp2_with (refine wpList_store_row rfl 26 (.tmp 6) (.tmp 24) rfl w.heap.size zrow rfl rfl 26 _ hz infoz.out rfl zone ?_)
      refine bodyPost_ret (results_row_tmp rfl _ _ w.heap.size _ zrow _ _ rfl (setRow_heap _ _ _ _ _ _ hz) Tryz.underlying26 rfl infoz.out) rfl ?_
      exact ⟨rfl, Below.setRow' HB.out (Nat.le_refl _) _⟩
    · rw [Bool.not_eq_true] at hB
      rw [hB] at RB
      have HR := Lib.hid (And.intro RA RB)
      clear RA RB hA hB h
      go_enter Tryz.func33, Tryz.ntmps33
      go_upto_region 1 with fail
      change Code.wp _ _ _ _ (w.alloc (.cells zrow 26))
      rw [HW.out]
      go_wp2_with fail
      refine (HR.out.1 _).mono ?_
      rintro e w' ⟨rfl, rfl⟩
      go_wp2_with fail
      refine (HR.out.2 _).mono ?_
      rintro e w' ⟨rfl, rfl⟩
      go_wp2_with (refine wpList_store_row rfl 26 (.tmp 6) (.tmp 24) rfl w.heap.size zrow rfl rfl 26 _ hz infoz.out rfl zone ?_)
      refine bodyPost_ret (results_row_tmp rfl _ _ w.heap.size _ zrow _ _ rfl (setRow_heap _ _ _ _ _ _ hz) Tryz.underlying26 rfl infoz.out) rfl ?_
      exact ⟨rfl, Below.setRow' HB.out (Nat.le_refl _) _⟩
  · rw [Bool.not_eq_true] at hA
    rw [hA] at RA
    generalize rgt B = rb at *
    have HR := Lib.hid (And.intro RA RB)
    clear RA RB hA h
    go_enter Tryz.func33, Tryz.ntmps33
    go_upto_region 1 with fail
    change Code.wp _ _ _ _ (w.alloc (.cells zrow 26))
    rw [HW.out]
    go_wp2_with fail
    refine (HR.out.1 _).mono ?_
    rintro e w' ⟨rfl, rfl⟩
    go_wp2_with fail
    refine (HR.out.2 _).mono ?_
    rintro e w' ⟨rfl, rfl⟩
    go_wp2_with (refine wpList_store_row rfl 26 (.tmp 6) (.tmp 24) rfl w.heap.size zrow rfl rfl 26 _ hz infoz.out rfl zone ?_)
    refine bodyPost_ret (results_row_tmp rfl _ _ w.heap.size _ zrow _ _ rfl (setRow_heap _ _ _ _ _ _ hz) Tryz.underlying26 rfl infoz.out) rfl ?_
    exact ⟨rfl, Below.setRow' HB.out (Nat.le_refl _) _⟩
set_option maxRecDepth 100000 in
set_option maxHeartbeats 2000000 in
theorem rmake_yes (w : World) (g : Bool) (n d N : Nat) (hn : n < 256^N) (hd : d < 256^N) (h0 : d ≠ 0) (hN : N ≤ 1000000) :
    Calls Tryz.prog 33 #[.bool g, .string (NB n), .string (NB d)] w fun e w' => e = .returned (.tuple #[QV (mk g n d), .bool true]) ∧ Below w.heap.size w w' := by
  have RA := fun W => RefRight_any W (NB n)
  have RB := fun W => RefRight_any W (NB d)
  rw [NB_rgt] at RA RB
  have LW := fun W => lowest_q W g n d N hn hd h0 (by omega)
  have hne : ((NB d).toList == []) = false := str_ne (B := ⟨#[]⟩) rfl (fun h => h0 (NB_inj (h.trans NB_zero.symm)))
  have hs := z1_start w
  obtain ⟨W, hW⟩ : ∃ W, w.alloc (.cells zrow 26) = W := ⟨_, rfl⟩
  rw [hW] at hs
  have HW := Lib.hid hW; clear hW
  generalize mk g n d = q at *
  generalize NB n = A at *
  generalize NB d = B at *
  have HR := Lib.hid (And.intro RA (And.intro RB LW))
  have HS := Lib.hid hs
  clear RA RB LW hn hd h0 hs
  go_enter Tryz.func33, Tryz.ntmps33
  go_upto_region 1 with fail
  change Code.wp _ _ _ _ (w.alloc (.cells zrow 26))
  rw [HW.out]
  go_wp2_with fail
  refine (HR.out.1 _).mono ?_
  rintro e w' ⟨rfl, rfl⟩
  go_wp2_with fail
  refine (HR.out.2.1 _).mono ?_
  rintro e w' ⟨rfl, rfl⟩
  go_wp2_with fail
  refine (HR.out.2.2 _).mono ?_
  rintro e w1 ⟨rfl, b1⟩
  have H1 := Lib.hid (HS.out.next b1); clear b1
  have hz := H1.out.z
  unfold QV
  go_wp2_with (refine wpList_store_row rfl 26 (.tmp 6) (.tmp 28) rfl w.heap.size (qcells q) rfl rfl 26 _ hz info26.out rfl (qone _) ?_)
  refine bodyPost_ret (results_row_tmp rfl _ _ w.heap.size _ (qcells q) _ _ rfl (setRow_heap _ _ _ _ _ _ hz) Tryz.underlying26 rfl info26.out) rfl ?_
  exact ⟨rfl, Below.setRow' H1.out.b (Nat.le_refl _) _⟩
end Go.Proofs.YteccbedmpjeamaaGreatDoor
namespace Go.Proofs.YteccbedmpjeamaaGreatDoor
open Go.RowKit NM QM
theorem index_at (x : UInt8) (a b : List UInt8) (h : ∀ c ∈ a, c ≠ x) : Lib.indexByte (a ++ x :: b) x = (a.length : Int) := by
  induction a with
  | nil => simp [Lib.indexByte]
  | cons y a ih =>
    have hx : (y == x) = false := beq_eq_false_iff_ne.2 (h y (by simp))
    have h2 := ih (fun c hc => h c (by simp [hc]))
    show Lib.indexByte (y :: (a ++ x :: b)) x = _
    rw [Lib.indexByte, hx, h2]
    have : ((a.length : Int) == -1) = false := beq_eq_false_iff_ne.2 (by omega)
    rw [this]
    simp
theorem cut_at (x : UInt8) (a b : List UInt8) (h : ∀ c ∈ a, c ≠ x) : Lib.cut (a ++ x :: b) [x] = (a, b, true) := by
  unfold Lib.cut
  rw [Lib.index_one, index_at x a b h, if_pos (by omega), Int.toNat_natCast]
  simp
theorem cut_no (x : UInt8) (l : List UInt8) (h : ∀ c ∈ l, c ≠ x) : Lib.cut l [x] = (l, [], false) := by
  have h1 := Lib.indexByte_ge l x
  have h2 : Lib.indexByte l x = -1 := by
    by_cases e : Lib.indexByte l x = -1
    · exact e
    · obtain ⟨i, hi⟩ : ∃ i : Nat, Lib.indexByte l x = (i : Int) := ⟨(Lib.indexByte l x).toNat, by omega⟩
      have := (Lib.indexByte_some hi).1
      exact absurd rfl (h x (List.mem_of_getElem? this))
  unfold Lib.cut
  rw [Lib.index_one, h2, if_neg (by omega)]
/-- a text is cut at its first byte of a kind, or has none -/
theorem cut_or (x : UInt8) (l : List UInt8) : (∀ c ∈ l, c ≠ x) ∧ Lib.cut l [x] = (l, [], false) ∨ ∃ (i : Nat) (a b : List UInt8), i < l.length ∧ a = l.take i ∧ b = l.drop (i+1) ∧ l[i]? = some x ∧ (∀ c ∈ a, c ≠ x) ∧ l = a ++ x :: b ∧ Lib.cut l [x] = (a, b, true) := by
  have h1 := Lib.indexByte_ge l x
  by_cases e : Lib.indexByte l x = -1
  · have h : ∀ c ∈ l, c ≠ x := fun c hc k => by
      subst k
      obtain ⟨k, hk⟩ := List.mem_iff_getElem?.1 hc
      exact Lib.indexByte_none e k hk
    exact .inl ⟨h, cut_no x l h⟩
  · obtain ⟨i, hi⟩ : ∃ i : Nat, Lib.indexByte l x = (i : Int) := ⟨(Lib.indexByte l x).toNat, by omega⟩
    obtain ⟨h2, h3⟩ := Lib.indexByte_some hi
    have hlt : i < l.length := (List.getElem?_eq_some_iff.1 h2).1
    have h4 : l[i] = x := (List.getElem?_eq_some_iff.1 h2).2
    have hn : ∀ c ∈ l.take i, c ≠ x := fun c hc k => by
      subst k
      obtain ⟨k, hk⟩ := List.mem_iff_getElem?.1 hc
      have hk2 : k < i := by
        have := (List.getElem?_eq_some_iff.1 hk).1
        rw [List.length_take] at this; omega
      rw [List.getElem?_take_of_lt hk2] at hk
      exact h3 k hk2 hk
    have hl : l = l.take i ++ x :: l.drop (i+1) := by
      conv => lhs; rw [← List.take_append_drop i l, List.drop_eq_getElem_cons hlt, h4]
    refine .inr ⟨i, _, _, hlt, rfl, rfl, h2, hn, hl, ?_⟩
    conv => lhs; rw [hl]
    exact cut_at x _ _ hn
theorem ofNat_toNat (c : UInt8) (d : Nat) (h : c.toNat = d) : UInt8.ofNat d = c := by subst h; simp
/-- digits are those of their value -/
theorem dec_back : ∀ (n : Nat) (l : List UInt8), l.length = n → decOK l → Lib.decDigits (dval l) = l := by
  intro n
  induction n with
  | zero => intro l h k; exact absurd (List.length_eq_zero_iff.1 h) k.1
  | succ n ih =>
    intro l hl hk
    obtain ⟨r, c, rfl⟩ : ∃ r c, l = r ++ [c] := ⟨l.dropLast, l.getLast hk.1, (List.dropLast_concat_getLast hk.1).symm⟩
    have hrl : r.length = n := by simpa using hl
    obtain ⟨_, hd, h0⟩ := hk
    have hc := hd c (by simp)
    unfold isdg at hc
    have hc := of_decide_eq_true hc
    rw [dval_snoc]
    cases r with
    | nil =>
      have e : dval [] = 0 := rfl
      rw [e, Lib.decDigits_one (by omega)]
      show [_] = [c]
      rw [ofNat_toNat c _ (by omega)]
    | cons y r =>
      have h1 : (y :: r)[0]? ≠ some 48 := by
        rcases h0 with h0 | h0
        · simp at h0
        · simpa using h0
      have hr : decOK (y :: r) := ⟨by simp, fun x hx => hd x (by rw [List.mem_append]; exact .inl hx), .inr h1⟩
      have e := ih (y :: r) hrl hr
      have hp : 0 < dval (y :: r) := by
        rcases Nat.eq_zero_or_pos (dval (y :: r)) with h | h
        · rw [h, Lib.decDigits_one (by omega)] at e
          rw [← e] at h1
          exact absurd rfl h1
        · exact h
      rw [Lib.decDigits, dif_neg (by omega), show (10 * dval (y :: r) + (c.toNat - 48)) / 10 = dval (y :: r) by omega, e, show (10 * dval (y :: r) + (c.toNat - 48)) % 10 = c.toNat - 48 by omega, ofNat_toNat c _ (by omega)]
theorem decOK_dec (n : Nat) : decOK (Lib.decDigits n) := by
  obtain ⟨h1, h2, h3, h4⟩ := dec_spec n
  refine ⟨h4, h2, ?_⟩
  by_cases h : 0 < n
  · exact .inr (h3 h)
  · left
    have : n = 0 := by omega
    subst this
    rw [Lib.decDigits_one (by omega)]; rfl
theorem dec_no (n : Nat) (x : UInt8) (hx : isdg x = false) : ∀ c ∈ Lib.decDigits n, c ≠ x := fun c hc e => by
  have := (dec_spec n).2.1 c hc
  rw [e, hx] at this
  cases this
theorem okq_parts {g : Bool} {n d : Nat} (h : okq g (NB n) (NB d) = true) : d ≠ 0 ∧ decide ((mk g n d).num < 0) = g ∧ (mk g n d).num.natAbs = n ∧ (mk g n d).den = d := by
  unfold okq at h
  rw [Bool.and_eq_true] at h
  obtain ⟨h1, h2⟩ := h
  obtain ⟨h3, h4, h5⟩ := of_decide_eq_true h2
  rw [sv_NB, sv_NB] at h3 h4 h5
  obtain ⟨_, _, h6⟩ := fit_parts h1
  rw [sv_NB] at h6
  have h4 := congrArg sv h4
  have h5 := congrArg sv h5
  rw [sv_NB, sv_NB] at h4 h5
  exact ⟨h6, h3.symm, h4.symm, h5.symm⟩
theorem txq_list (a : Rat) : (txq a).data.toList = (if a.num < 0 then [45] else []) ++ (Lib.decDigits a.num.natAbs ++ (if a.den = 1 then [] else 47 :: Lib.decDigits a.den)) := by
  unfold txq txh
  split <;> split <;> simp [ByteArray.data_append, Array.toList_append, dtext]
theorem bytes_ext {a b : ByteArray} (h : a.data.toList = b.data.toList) : a = b := by
  cases a; cases b; congr 1; exact Array.toList_inj.1 h
/-- the sign in front, and what stands behind it -/
theorem sign_or (l : List UInt8) : Lib.hasPrefix l [45] = true ∧ l = 45 :: Lib.trimPrefix l [45] ∨ Lib.hasPrefix l [45] = false ∧ l = Lib.trimPrefix l [45] := by
  unfold Lib.trimPrefix
  cases h : Lib.hasPrefix l [45] with
  | false => exact .inr ⟨rfl, rfl⟩
  | true =>
    refine .inl ⟨rfl, ?_⟩
    unfold Lib.hasPrefix at h
    cases l with
    | nil => cases h
    | cons c l =>
      have : c = 45 := by
        have := List.isPrefixOf_iff_prefix.1 h
        obtain ⟨t, ht⟩ := this
        injection ht with h1 h2
        exact h1.symm
      subst this
      rfl
theorem one_NB : NB 1 = ⟨#[1]⟩ := NB_one
/-- the text of what is read is the text -/
theorem parq_text {s : ByteArray} {a : Rat} (h : parq s = some a) : ∃ D, D = (if (Lib.cut (prest s) [47]).2.2 = true then (Lib.cut (prest s) [47]).2.1 else [49]) ∧ decOK (Lib.cut (prest s) [47]).1 ∧ decOK D ∧ dval D ≠ 0 ∧ a = mk (Lib.hasPrefix s.data.toList [45]) (dval (Lib.cut (prest s) [47]).1) (dval D) ∧ txq a = s := by
  unfold parq parp at h
  have hs := sign_or s.data.toList
  have hp : Lib.trimPrefix s.data.toList [45] = prest s := rfl
  rw [hp] at hs
  have hc := cut_or 47 (prest s)
  generalize hpr : prest s = P at *
  generalize hcu : Lib.cut P [47] = cu at *
  obtain ⟨C1, C2, fnd⟩ := cu
  dsimp only at h ⊢
  have key : ∀ d, okq (Lib.hasPrefix s.data.toList [45]) (NB (dval C1)) (NB d) = true → decOK C1 → (P = C1 ++ (if d = 1 then [] else 47 :: Lib.decDigits d)) → txq (mk (Lib.hasPrefix s.data.toList [45]) (dval C1) d) = s := by
    intro d ho hk he
    obtain ⟨_, k1, k2, k3⟩ := okq_parts ho
    refine bytes_ext ?_
    rw [txq_list, k2, k3, dec_back _ C1 rfl hk, ← he]
    rcases hs with ⟨e1, e2⟩ | ⟨e1, e2⟩
    · rw [e1] at k1 ⊢
      rw [if_pos (of_decide_eq_true k1)]; exact e2.symm
    · rw [e1] at k1 ⊢
      rw [if_neg (of_decide_eq_false k1)]; exact e2.symm
  split at h
  · rename_i k1
    split at h
    · rename_i kf
      split at h
      · rename_i k2
        injection h with h
        obtain ⟨d0, _, _, _⟩ := okq_parts k2.2.2
        refine ⟨C2, by rw [if_pos kf], k1, k2.1, d0, h.symm, ?_⟩
        rw [← h]
        refine key _ k2.2.2 k1 ?_
        rcases hc with ⟨_, e⟩ | ⟨i, a', b', _, _, _, _, _, e1, e⟩
        · injection e with _ e; injection e with _ e; rw [kf] at e; cases e
        · injection e with q1 q2; injection q2 with q2 _
          rw [if_neg k2.2.1, dec_back _ C2 rfl k2.1, e1, q1, q2]
      · cases h
    · rename_i kf
      split at h
      · rename_i k2
        injection h with h
        refine ⟨[49], by rw [if_neg kf], k1, ⟨by simp, by decide, .inl rfl⟩, by decide, by rw [← h]; rfl, ?_⟩
        rw [← h]
        refine key 1 (by rw [one_NB]; exact k2) k1 ?_
        rcases hc with ⟨_, e⟩ | ⟨i, a', b', _, _, _, _, _, e1, e⟩
        · injection e with e _; rw [if_pos rfl, e, List.append_nil]
        · injection e with _ q; injection q with _ q; exact absurd q kf
      · cases h
  · cases h
/-- what was written is read again -/
theorem parq_txq (a : Rat) : parq (txq a) = some a := by
  have hok := okq_QV a
  have hl := txq_list a
  have n45 : isdg 45 = false := by decide
  have n47 : isdg 47 = false := by decide
  have hP : Lib.hasPrefix (txq a).data.toList [45] = decide (a.num < 0) ∧ prest (txq a) = Lib.decDigits a.num.natAbs ++ (if a.den = 1 then [] else 47 :: Lib.decDigits a.den) := by
    by_cases hn : a.num < 0
    · rw [if_pos hn] at hl
      have e : Lib.hasPrefix (txq a).data.toList [45] = true := by rw [hl]; rfl
      refine ⟨by rw [e, decide_eq_true hn], ?_⟩
      unfold prest Lib.trimPrefix
      rw [if_pos e, hl]; rfl
    · rw [if_neg hn, List.nil_append] at hl
      have e : Lib.hasPrefix (txq a).data.toList [45] = false := by
        rcases sign_or (txq a).data.toList with ⟨_, e2⟩ | ⟨e1, _⟩
        · exfalso
          have h4 := (dec_spec a.num.natAbs).2.2.2
          cases hd : Lib.decDigits a.num.natAbs with
          | nil => exact h4 hd
          | cons c r =>
            rw [hl, hd] at e2
            injection e2 with e2 _
            exact dec_no a.num.natAbs 45 n45 c (by rw [hd]; simp) e2
        · exact e1
      refine ⟨by rw [e, decide_eq_false hn], ?_⟩
      unfold prest Lib.trimPrefix
      rw [e, if_neg (by simp), hl]
  unfold parq parp
  rw [hP.1, hP.2]
  by_cases hd : a.den = 1
  · rw [if_pos hd, List.append_nil, cut_no 47 _ (dec_no _ 47 n47)]
    dsimp only
    rw [if_pos (decOK_dec _), if_neg (by simp), (dec_spec _).1, if_pos (by rw [← one_NB, ← hd]; exact hok)]
    have := mk_self a
    rw [hd] at this
    rw [this]
  · rw [if_neg hd, cut_at 47 _ _ (dec_no _ 47 n47)]
    dsimp only
    rw [if_pos (decOK_dec _), if_pos rfl, (dec_spec _).1, (dec_spec _).1, if_pos ⟨decOK_dec _, hd, hok⟩, mk_self]
/-- what the reference reads -/
def refq (s : ByteArray) (C D : List UInt8) : Option Rat := if decOK C ∧ decOK D ∧ dval D ≠ 0 ∧ txq (mk (Lib.hasPrefix s.data.toList [45]) (dval C) (dval D)) = s then some (mk (Lib.hasPrefix s.data.toList [45]) (dval C) (dval D)) else none
theorem refq_parq (s : ByteArray) : refq s (Lib.cut (prest s) [47]).1 (if (Lib.cut (prest s) [47]).2.2 = true then (Lib.cut (prest s) [47]).2.1 else [49]) = parq s := by
  cases h : parq s with
  | some a =>
    obtain ⟨D, rfl, h1, h2, h3, h4, h5⟩ := parq_text h
    unfold refq
    rw [if_pos ⟨h1, h2, h3, by rw [← h4]; exact h5⟩, ← h4]
  | none =>
    unfold refq
    generalize (if (Lib.cut (prest s) [47]).2.2 = true then (Lib.cut (prest s) [47]).2.1 else [49]) = D
    generalize (Lib.cut (prest s) [47]).1 = C
    generalize Lib.hasPrefix s.data.toList [45] = g
    refine if_neg fun k => ?_
    have e := parq_txq (mk g (dval C) (dval D))
    rw [k.2.2.2, h] at e
    cases e
end Go.Proofs.YteccbedmpjeamaaGreatDoor
namespace Go.Proofs.YteccbedmpjeamaaGreatDoor
open Go.RowKit NM QM
theorem infoRt (b : Bool) (x y : ByteArray) : Hid ((Tryz.prog.info? 26).map (·.size) = some (#[Value.bool b, .string x, .string y]).size) := Lib.hid (by show _ = some 3; kernel_rfl)
theorem w_one (b : Bool) (x y : ByteArray) : (#[Value.bool b, .string x, .string y]).all (·.oneCell') = true := by simp [Value.oneCell']
theorem w_size (b b' : Bool) (x y x' y' : ByteArray) : (#[Value.bool b, .string x, .string y]).size = (#[Value.bool b', .string x', .string y']).size := by simp
theorem size_ls (s : ByteArray) : s.data.toList.length = s.size := (Lib.size_eq s).symm
theorem ext_ls (s : ByteArray) (a b : Nat) : (s.extract a b).data.toList = (s.data.toList.drop a).take (b - a) := Lib.extract_data s a b
/-- a row of a number's own, the answer's block -/
structure R3 (w : World) (W : World) : Prop where
  b : Below w.heap.size w W
  z : W.heap[w.heap.size]? = some (.cells #[.bool false, .string ⟨#[]⟩, .string ⟨#[]⟩] 26 (0, 0))
theorem R3.next {w W V : World} (h : R3 w W) (k : Below W.heap.size W V) : R3 w V := ⟨h.b.trans (k.mono h.b.size), (k.block _ (Array.getElem?_eq_some_iff.1 h.z).1).trans h.z⟩
set_option maxRecDepth 100000 in
set_option maxHeartbeats 8000000 in
theorem rparse_core (w : World) (s R C D : ByteArray) (g : Bool) (hs : s.size ≤ 1000) (hg : Lib.hasPrefix s.data.toList [45] = g) (hR : R.data.toList = Lib.trimPrefix s.data.toList [45])
    (hC : C.data.toList = (Lib.cut R.data.toList [47]).1) (hD : D.data.toList = (if (Lib.cut R.data.toList [47]).2.2 = true then (Lib.cut R.data.toList [47]).2.1 else [49]))
    (c d T : ByteArray) (one two ok b : Bool) (x y : ByteArray) (V : Value)
    (P1 : Hid (∀ W, Calls Tryz.prog 78 #[.string C] W fun e w' => e = .returned (.tuple #[.string c, .bool one]) ∧ Below W.heap.size W w'))
    (P2 : Hid (∀ W, Calls Tryz.prog 78 #[.string D] W fun e w' => e = .returned (.tuple #[.string d, .bool two]) ∧ Below W.heap.size W w'))
    (MK : Hid (one = true → two = true → ∀ W, Calls Tryz.prog 33 #[.bool g, .string c, .string d] W fun e w' => e = .returned (.tuple #[.agg #[.bool b, .string x, .string y], .bool ok]) ∧ Below W.heap.size W w'))
    (TT : Hid (one = true → two = true → ok = true → ∀ W, Calls Tryz.prog 29 #[.agg #[.bool b, .string x, .string y]] W fun e w' => e = .returned (.string T) ∧ Below W.heap.size W w'))
    (F0 : Hid (one = false ∨ two = false ∨ ok = false ∨ ¬ T = s → V = .tuple #[.agg #[.bool false, .string ⟨#[]⟩, .string ⟨#[]⟩], .bool false]))
    (F1 : Hid (one = true → two = true → ok = true → T = s → V = .tuple #[.agg #[.bool b, .string x, .string y], .bool true])) :
    Calls Tryz.prog 43 #[.string s] w fun e w' => e = .returned V ∧ Below w.heap.size w w' := by
  obtain ⟨W, hW⟩ : ∃ W, w.alloc (.cells #[.bool false, .string ⟨#[]⟩, .string ⟨#[]⟩] 26) = W := ⟨_, rfl⟩
  have K0 : Hid (R3 w W) := Lib.hid ⟨by rw [← hW]; exact (Below.refl _ _).alloc (Nat.le_refl _) _, by rw [← hW]; exact heap_alloc_new _ _⟩
  have hi := infoRt b x y
  have h0 := infoRt false ⟨#[]⟩ ⟨#[]⟩
  have hRs : R.size ≤ s.size := by
    rw [← size_ls, ← size_ls, hR]
    unfold Lib.trimPrefix
    split
    · rw [List.length_drop]; omega
    · exact Nat.le_refl _
  have HG := Lib.hid (And.intro hg hR)
  have HC := Lib.hid (And.intro hC hD)
  have HS := Lib.hid (And.intro hs hRs)
  clear hg hR hC hD
  go_enter Tryz.func43, Tryz.ntmps43
  go_upto_region 2 with fail
  clear hW
  go_cut [5] from 15 to 24 (fun v wx => v = .bool g ∧ wx = W)
  case first =>
    by_cases hz : s.size = 0
    · have e : s.data.toList = [] := List.length_eq_zero_iff.1 (by rw [size_ls]; exact hz)
      have hgf : g = false := by rw [← HG.out.1, e]; rfl
      subst hgf
      go_wp2_with fail
      go_meet
      exact ⟨rfl, rfl⟩
    · have hpos : 0 < s.size := by omega
      have hl : 0 < s.data.toList.length := by rw [size_ls]; exact hpos
      obtain ⟨c0, hc⟩ : ∃ c, s[0]'hpos = c := ⟨_, rfl⟩
      have hg0 : s.data.toList[0]'hl = c0 := hc
      have hcons : s.data.toList = c0 :: s.data.toList.drop 1 := by
        have := List.drop_eq_getElem_cons hl
        rw [List.drop_zero, hg0] at this
        exact this
      have hgv : g = (c0 == 45) := by
        rw [← HG.out.1, hcons]
        unfold Lib.hasPrefix
        show (45 == c0 && _) = _
        rw [show List.isPrefixOf [] (s.data.toList.drop 1) = true from rfl, Bool.and_true]
        exact Bool.beq_comm
      clear hg0 hcons hl
      by_cases h45 : c0 = 45
      · subst h45
        have hgt : g = true := by rw [hgv]; rfl
        subst hgt
        clear hgv
        go_wp2_with fail
        go_meet
        exact ⟨rfl, rfl⟩
      · have hgt : g = false := by rw [hgv]; exact beq_eq_false_iff_ne.2 h45
        subst hgt
        have e1 : ((c0.toNat : Int) == 45) = false := beq_eq_false_iff_ne.2 fun h => h45 (UInt8.toNat_inj.1 (by
          show c0.toNat = 45
          omega))
        clear hgv h45
        go_wp2_with fail
        go_meet
        exact ⟨rfl, rfl⟩
  case rest =>
  obtain ⟨rfl, rfl⟩ := hcut
  go_upto_if 24 with fail
  go_cut [4] from 24 to 27 (fun v wy => v = .string R ∧ wy = wc)
  case first =>
    cases g with
    | false =>
      have hE : s = R := bytes_ext (by
        rcases sign_or s.data.toList with ⟨e, _⟩ | ⟨_, e⟩
        · rw [HG.out.1] at e; cases e
        · rw [HG.out.2]; exact e)
      go_wp2_with fail
      go_meet
      exact ⟨by rw [hE], rfl⟩
    | true =>
      have hE : s.data.toList = 45 :: R.data.toList := by
        rcases sign_or s.data.toList with ⟨_, e⟩ | ⟨e, _⟩
        · rw [HG.out.2]; exact e
        · rw [HG.out.1] at e; cases e
      have h1 : 1 ≤ s.size := by rw [← size_ls, hE]; simp
      have hE2 : s.extract 1 s.size = R := bytes_ext (by
        rw [ext_ls, hE, List.take_of_length_le (by rw [← hE, List.length_drop, size_ls]; omega)]; rfl)
      have c1 : (1 : Int) ≤ (s.size : Int) := by omega
      clear hE
      go_wp2_with fail
      go_meet
      exact ⟨by first | rfl | rw [hE2], rfl⟩
  case rest =>
  obtain ⟨rfl, rfl⟩ := hcut
  go_upto_block 0 with fail
  go_cut [6, 7] from 28 to 45 (fun n v wz => n = .string C ∧ v = .string D ∧ wz = wc)
  case first =>
    go_wp2_with fail
    go_loop [6, 7, 8] (fun n v i => ∃ (k : Nat), k ≤ R.size ∧ n = .string R ∧ v = .string ⟨#[49]⟩ ∧ i = .int .i64 (k : Int) ∧ Hid (∀ c ∈ R.data.toList.take k, c ≠ 47)) (fun _ _ i => R.size - (match i with | .int _ i => i.toNat | _ => 0))
    case atStart => exact ⟨0, Nat.zero_le _, rfl, rfl, rfl, Lib.hid (by simp)⟩
    case round =>
      obtain ⟨k, hk, rfl, rfl, rfl, hn⟩ := hrel
      by_cases hlt : k < R.size
      · have hl : k < R.data.toList.length := by rw [size_ls]; exact hlt
        obtain ⟨c0, hc⟩ : ∃ c, R[k]'hlt = c := ⟨_, rfl⟩
        have hg0 : R.data.toList[k]'hl = c0 := hc
        have hbk : (k : Int) + 1 ≤ 281474976710656 := by have := HS.out; omega
        by_cases h47 : c0 = 47
        · subst h47
          have hcat : R.data.toList = R.data.toList.take k ++ 47 :: R.data.toList.drop (k+1) := by
            conv => lhs; rw [← List.take_append_drop k R.data.toList, List.drop_eq_getElem_cons hl, hg0]
          have hcut : Lib.cut R.data.toList [47] = (R.data.toList.take k, R.data.toList.drop (k+1), true) := by
            conv => lhs; rw [hcat]
            exact cut_at 47 _ _ hn.out
          have q1 : R.extract 0 k = C := bytes_ext (by rw [HC.out.1, hcut, ext_ls]; simp)
          have q2 : R.extract (k+1) R.size = D := bytes_ext (by
            rw [HC.out.2, hcut, ext_ls, if_pos rfl, List.take_of_length_le (by rw [List.length_drop, size_ls]; omega)])
          have Q := Lib.hid (And.intro q1 q2)
          clear hcat hcut q1 q2 hg0 hl
          go_wp2_with fail
          go_meet
          exact ⟨by first | rfl | rw [Q.out.1], by first | rfl | rw [Q.out.2], rfl⟩
        · have e1 : ((c0.toNat : Int) == 47) = false := beq_eq_false_iff_ne.2 fun h => h47 (UInt8.toNat_inj.1 (by
            show c0.toNat = 47
            omega))
          have hn2 := Lib.hid (show ∀ x ∈ R.data.toList.take (k+1), x ≠ 47 by
            intro x hx
            rw [List.take_add_one, List.getElem?_eq_getElem hl, hg0] at hx
            rcases List.mem_append.1 hx with hx | hx
            · exact hn.out x hx
            · simp at hx; rw [hx]; exact h47)
          clear hg0 h47 hl
          go_wp2
          exact ⟨⟨k + 1, by omega, rfl, rfl, by simp, hn2⟩, by simp; omega⟩
      · obtain rfl : k = R.size := by omega
        have hcut : Lib.cut R.data.toList [47] = (R.data.toList, [], false) := cut_no 47 _ (by have := hn.out; rwa [List.take_of_length_le (by rw [size_ls]; exact Nat.le_refl _)] at this)
        have q1 : R = C := bytes_ext (by rw [HC.out.1, hcut])
        have q2 : (⟨#[49]⟩ : ByteArray) = D := bytes_ext (by rw [HC.out.2, hcut, if_neg (by simp)])
        have Q := Lib.hid (And.intro q1 q2)
        clear hcut q1 q2
        go_wp2_with fail
        go_meet
        exact ⟨by first | rfl | rw [← Q.out.1], by first | rfl | rw [← Q.out.2], rfl⟩
  case rest =>
  obtain ⟨rfl, rfl, rfl⟩ := hcut
  clear HC
  go_wp2_with fail
  refine (P1.out _).mono ?_
  rintro e w1 ⟨rfl, b1⟩
  have K1 := Lib.hid (K0.out.next b1); clear b1 K0
  go_wp2_with fail
  refine (P2.out _).mono ?_
  rintro e w2 ⟨rfl, b1⟩
  have K2 := Lib.hid (K1.out.next b1); clear b1 K1 P1 P2
  have z2 := K2.out.z
  cases one with
  | false =>
    have F := Lib.hid (F0.out (.inl rfl))
    clear F0 F1 MK TT
    go_wp2_with (refine wpList_store_row rfl 26 (.tmp 2) (.tmp 61) rfl w.heap.size #[.bool false, .string ⟨#[]⟩, .string ⟨#[]⟩] rfl rfl 26 _ z2 h0.out (w_size _ _ _ _ _ _) (w_one _ _ _) ?_)
    refine bodyPost_ret (results_row_tmp rfl _ _ w.heap.size _ #[.bool false, .string ⟨#[]⟩, .string ⟨#[]⟩] _ _ rfl (setRow_heap _ _ _ _ _ _ z2) Tryz.underlying26 rfl h0.out) rfl ?_
    exact ⟨by rw [F.out]; rfl, Below.setRow' K2.out.b (Nat.le_refl _) _⟩
  | true =>
  cases two with
  | false =>
    have F := Lib.hid (F0.out (.inr (.inl rfl)))
    clear F0 F1 MK TT
    go_wp2_with (refine wpList_store_row rfl 26 (.tmp 2) (.tmp 61) rfl w.heap.size #[.bool false, .string ⟨#[]⟩, .string ⟨#[]⟩] rfl rfl 26 _ z2 h0.out (w_size _ _ _ _ _ _) (w_one _ _ _) ?_)
    refine bodyPost_ret (results_row_tmp rfl _ _ w.heap.size _ #[.bool false, .string ⟨#[]⟩, .string ⟨#[]⟩] _ _ rfl (setRow_heap _ _ _ _ _ _ z2) Tryz.underlying26 rfl h0.out) rfl ?_
    exact ⟨by rw [F.out]; rfl, Below.setRow' K2.out.b (Nat.le_refl _) _⟩
  | true =>
  have M1 := Lib.hid (MK.out rfl rfl)
  have T1 := Lib.hid (TT.out rfl rfl)
  have G1 := Lib.hid (F1.out rfl rfl)
  clear MK TT F1 z2
  go_wp2_with fail
  refine (M1.out _).mono ?_
  rintro e w3 ⟨rfl, b1⟩
  have K3 := Lib.hid (K2.out.next b1); clear b1 K2 M1
  have m7 : (w3.alloc (.cells #[.bool false, .string ⟨#[]⟩, .string ⟨#[]⟩] 26)).heap[w3.heap.size]? = some (.cells #[.bool false, .string ⟨#[]⟩, .string ⟨#[]⟩] 26 (0, 0)) := heap_alloc_new _ _
  go_upto_region 18 with (refine wpList_store_row rfl 26 (.tmp 13) (.tmp 67) rfl w3.heap.size #[.bool b, .string x, .string y] rfl rfl 26 _ m7 hi.out (w_size _ _ _ _ _ _) (w_one _ _ _) ?_)
  have b6 : Below w3.heap.size w3 ((w3.alloc (.cells #[.bool false, .string ⟨#[]⟩, .string ⟨#[]⟩] 26)).setRow w3.heap.size #[.bool b, .string x, .string y]) := Below.setRow' ((Below.refl w3.heap.size w3).alloc (Nat.le_refl _) _) (Nat.le_refl _) _
  have m6 : ((w3.alloc (.cells #[.bool false, .string ⟨#[]⟩, .string ⟨#[]⟩] 26)).setRow w3.heap.size #[.bool b, .string x, .string y]).heap[w3.heap.size]? = some (.cells #[.bool b, .string x, .string y] 26 (0, 0)) := setRow_heap _ _ _ _ _ _ m7
  have K4 := Lib.hid (K3.out.next b6)
  clear m7 b6 K3
  try change Code.wp _ _ _ _ ((w3.alloc (.cells #[.bool false, .string ⟨#[]⟩, .string ⟨#[]⟩] 26)).setRow w3.heap.size #[.bool b, .string x, .string y])
  generalize (w3.alloc (.cells #[.bool false, .string ⟨#[]⟩, .string ⟨#[]⟩] 26)).setRow w3.heap.size #[.bool b, .string x, .string y] = w4 at *
  generalize w3.heap.size = g5 at *
  have z4 := K4.out.z
  cases ok with
  | false =>
    have F := Lib.hid (F0.out (.inr (.inr (.inl rfl))))
    clear F0 G1 T1
    go_wp2_with (refine wpList_store_row rfl 26 (.tmp 2) (.tmp 77) rfl w.heap.size #[.bool false, .string ⟨#[]⟩, .string ⟨#[]⟩] rfl rfl 26 _ z4 h0.out (w_size _ _ _ _ _ _) (w_one _ _ _) ?_)
    refine bodyPost_ret (results_row_tmp rfl _ _ w.heap.size _ #[.bool false, .string ⟨#[]⟩, .string ⟨#[]⟩] _ _ rfl (setRow_heap _ _ _ _ _ _ z4) Tryz.underlying26 rfl h0.out) rfl ?_
    exact ⟨by rw [F.out]; rfl, Below.setRow' K4.out.b (Nat.le_refl _) _⟩
  | true =>
  have y0 : w4.cell? ⟨g5, 0, none⟩ = some (.bool b) := cell_of_row _ g5 0 _ _ _ m6
  have y1 : w4.cell? ⟨g5, 1, none⟩ = some (.string x) := cell_of_row _ g5 1 _ _ _ m6
  have y2 : w4.cell? ⟨g5, 2, none⟩ = some (.string y) := cell_of_row _ g5 2 _ _ _ m6
  go_wp2_with fail
  clear y0 y1 y2
  refine (T1.out (by simp) _).mono ?_
  rintro e w7 ⟨rfl, b7⟩
  have z9 := (b7.block _ (Array.getElem?_eq_some_iff.1 z4).1).trans z4
  have m9 := (b7.block _ (Array.getElem?_eq_some_iff.1 m6).1).trans m6
  have KD := Lib.hid (K4.out.b.trans (b7.mono K4.out.b.size))
  clear b7 K4 z4 m6 T1
  by_cases hts : T = s
  · have F := Lib.hid (G1.out (by simp) hts)
    clear F0 G1
    subst hts
    go_wp2_with (first | (refine wpList_load_row rfl 26 (.tmp 13) rfl g5 rfl 26 #[.bool b, .string x, .string y] (0, 0) _ m9 Tryz.underlying26 rfl hi.out ?_) | (refine wpList_store_row rfl 26 (.tmp 2) (.tmp 78) rfl w.heap.size #[.bool b, .string x, .string y] rfl rfl 26 _ z9 hi.out (w_size _ _ _ _ _ _) (w_one _ _ _) ?_))
    refine bodyPost_ret (results_row_tmp rfl _ _ w.heap.size _ #[.bool b, .string x, .string y] _ _ rfl (setRow_heap _ _ _ _ _ _ z9) Tryz.underlying26 rfl hi.out) rfl ?_
    exact ⟨by rw [F.out]; rfl, Below.setRow' KD.out (Nat.le_refl _) _⟩
  · have F := Lib.hid (F0.out (.inr (.inr (.inr hts))))
    have hne2 : (T.toList == s.toList) = false := beq_eq_false_iff_ne.2 fun h => hts (bytes_ext (by rw [← Lib.toList_data, ← Lib.toList_data]; exact h))
    clear F0 G1 hts
    go_wp2_with (refine wpList_store_row rfl 26 (.tmp 2) (.tmp 77) rfl w.heap.size #[.bool false, .string ⟨#[]⟩, .string ⟨#[]⟩] rfl rfl 26 _ z9 h0.out (w_size _ _ _ _ _ _) (w_one _ _ _) ?_)
    refine bodyPost_ret (results_row_tmp rfl _ _ w.heap.size _ #[.bool false, .string ⟨#[]⟩, .string ⟨#[]⟩] _ _ rfl (setRow_heap _ _ _ _ _ _ z9) Tryz.underlying26 rfl h0.out) rfl ?_
    exact ⟨by rw [F.out]; rfl, Below.setRow' KD.out (Nat.le_refl _) _⟩
end Go.Proofs.YteccbedmpjeamaaGreatDoor
