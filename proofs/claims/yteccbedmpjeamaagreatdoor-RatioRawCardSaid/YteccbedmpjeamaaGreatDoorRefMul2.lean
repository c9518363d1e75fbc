/-
  Arithmetic of the digits of the reference: sums, differences, products by a digit, order, long division.
  The walk of the reference's Mul.
-/
import Derived.Test.YteccbedmpjeamaaGreatDoorRefMul
namespace Go.Proofs.YteccbedmpjeamaaGreatDoor
open Go.RowKit NM
theorem gd_over (l : List Nat) (k : Nat) (h : l.length ≤ k) : gd l k = 0 := by
  unfold gd; rw [List.getD_eq_getElem?_getD, List.getElem?_eq_none h]; rfl
theorem dv_take_next (l : List Nat) (k : Nat) : dv (l.take (k+1)) = dv (l.take k) + C24^k * gd l k := by
  by_cases h : k < l.length
  · exact dv_take_succ l k h
  · rw [gd_over l k (by omega), List.take_of_length_le (by omega), List.take_of_length_le (by omega), Nat.mul_zero, Nat.add_zero]
theorem dv_take_all (l : List Nat) (k : Nat) (h : l.length ≤ k) : dv (l.take k) = dv l := by rw [List.take_of_length_le h]
theorem dv_split (l : List Nat) (k : Nat) (h : k ≤ l.length) : dv l = dv (l.take k) + C24^k * dv (l.drop k) := by
  have h1 := dv_append (l.take k) (l.drop k)
  rw [List.take_append_drop, List.length_take, Nat.min_eq_left h] at h1
  exact h1
/-- no zero at the end -/
def T24 (l : List Nat) : Prop := l.length = 0 ∨ gd l (l.length - 1) ≠ 0
theorem T24_low {l : List Nat} {n : Nat} (h : T24 l) (hl : l.length = n + 1) : C24^n ≤ dv l := by
  have h1 := dv_take_next l n
  rw [dv_take_all l (n+1) (by omega)] at h1
  rcases h with h | h
  · omega
  · rw [hl, Nat.add_sub_cancel] at h
    rw [h1]
    have := Nat.le_mul_of_pos_right (C24^n) (Nat.pos_of_ne_zero h)
    omega
theorem T24_zero {l : List Nat} (h : T24 l) (h0 : dv l = 0) : l.length = 0 := by
  rcases Nat.eq_zero_or_pos l.length with h1 | h1
  · exact h1
  · have := T24_low (n := l.length - 1) h (by omega)
    have := Nat.pow_pos (n := l.length - 1) C24_pos
    omega
theorem T24_lt {u v : List Nat} (hu : D24 u) (hv : T24 v) (h : u.length < v.length) : dv u < dv v := by
  have h1 := dv_lt u hu
  have h2 := T24_low (n := v.length - 1) hv (by omega)
  have h3 : C24^u.length ≤ C24^(v.length-1) := Nat.pow_le_pow_right C24_pos (by omega)
  omega
/-- the highest place where two differ decides -/
theorem dv_lt_at (u v : List Nat) (m n : Nat) (hu : u.length = n) (hv : v.length = n) (hm : m < n) (Du : D24 u) (hd : dv (u.drop (m+1)) = dv (v.drop (m+1))) (h : gd u m < gd v m) : dv u < dv v := by
  rw [dv_split u m (by omega), dv_split v m (by omega), dv_drop_cons u m (by omega), dv_drop_cons v m (by omega), hd]
  have h1 := dv_lt (u.take m) (fun x hx => Du x (List.mem_of_mem_take hx))
  rw [List.length_take, Nat.min_eq_left (by omega)] at h1
  have h2 : C24^m * (gd u m + C24 * dv (v.drop (m+1)) + 1) ≤ C24^m * (gd v m + C24 * dv (v.drop (m+1))) := Nat.mul_le_mul_left _ (by omega)
  rw [Nat.mul_add _ (_ + _) 1] at h2
  omega
theorem drop_step (u v : List Nat) (m n : Nat) (hu : u.length = n) (hv : v.length = n) (hm : m < n) (hd : dv (u.drop (m+1)) = dv (v.drop (m+1))) (h : gd u m = gd v m) : dv (u.drop m) = dv (v.drop m) := by
  rw [dv_drop_cons u m (by omega), dv_drop_cons v m (by omega), hd, h]
/-- one more digit of a sum -/
theorem radd_step (ds us vs : List Nat) (k c s : Nat) (hl : ds.length = k) (hs : s = c + gd us k + gd vs k) (h : dv ds + c * C24^k = dv (us.take k) + dv (vs.take k)) :
    dv (ds ++ [s % C24]) + (s / C24) * C24^(k+1) = dv (us.take (k+1)) + dv (vs.take (k+1)) := by
  rw [dv_snoc, dv_take_next, dv_take_next, hl, Nat.pow_succ]
  have h1 := Nat.div_add_mod s C24
  generalize s / C24 = q at *
  generalize s % C24 = r at *
  generalize C24^k = A at *
  generalize dv (us.take k) = U at *
  generalize dv (vs.take k) = V at *
  generalize gd us k = x at *
  generalize gd vs k = y at *
  generalize dv ds = D at *
  generalize C24 = C at *
  clear hl
  grind
/-- one more digit of a difference -/
theorem rsub_step (ds us vs : List Nat) (k b d b2 : Nat) (hl : ds.length = k) (hs : d + b + gd vs k = gd us k + b2 * C24) (h : dv ds + dv (vs.take k) = dv (us.take k) + b * C24^k) :
    dv (ds ++ [d]) + dv (vs.take (k+1)) = dv (us.take (k+1)) + b2 * C24^(k+1) := by
  rw [dv_snoc, dv_take_next, dv_take_next, hl, Nat.pow_succ]
  generalize C24^k = A at *
  generalize dv (us.take k) = U at *
  generalize dv (vs.take k) = V at *
  generalize gd us k = x at *
  generalize gd vs k = y at *
  generalize dv ds = D at *
  generalize C24 = C at *
  clear hl
  grind
theorem sub_end (ds us vs : List Nat) (n b : Nat) (hu : us.length = n) (hl : ds.length = n) (Dd : D24 ds) (Du : D24 us) (hle : dv vs ≤ dv us) (h : dv ds + dv (vs.take n) = dv (us.take n) + b * C24^n) : dv ds = dv us - dv vs := by
  rw [dv_take_all us n (by omega)] at h
  have h1 := dv_lt ds Dd
  rw [hl] at h1
  have h2 := dv_lt us Du
  rw [hu] at h2
  have h3 : dv (vs.take n) = dv vs := by
    by_cases hv : vs.length ≤ n
    · exact dv_take_all vs n hv
    · have h4 := dv_split vs n (by omega)
      rcases Nat.eq_zero_or_pos (dv (vs.drop n)) with h0 | h0
      · rw [h4, h0, Nat.mul_zero, Nat.add_zero]
      · have := Nat.le_mul_of_pos_right (C24^n) h0
        omega
  rw [h3] at h
  rcases Nat.eq_zero_or_pos b with h0 | h0
  · rw [h0, Nat.zero_mul] at h; omega
  · have := Nat.le_mul_of_pos_left (C24^n) h0
    omega
/-- one more digit of a product by a digit -/
theorem times_step (ds us : List Nat) (k c d s : Nat) (hl : ds.length = k) (hs : s = gd us k * d + c) (h : dv ds + c * C24^k = dv (us.take k) * d) :
    dv (ds ++ [s % C24]) + (s / C24) * C24^(k+1) = dv (us.take (k+1)) * d := by
  rw [dv_snoc, dv_take_next, hl, Nat.pow_succ]
  have h1 := Nat.div_add_mod s C24
  generalize s / C24 = q at *
  generalize s % C24 = r at *
  generalize C24^k = A at *
  generalize dv (us.take k) = U at *
  generalize gd us k = x at *
  generalize dv ds = D at *
  generalize C24 = C at *
  clear hl
  grind
theorem times_lt (u d c : Nat) (hu : u < C24) (hd : d < C24) (hc : c < C24) : u * d + c < C24 * C24 ∧ (u * d + c) / C24 < C24 := by
  have h3 : u * d ≤ (C24 - 1) * (C24 - 1) := Nat.mul_le_mul (by omega) (by omega)
  have hb : u * d + c < C24 * C24 := by
    have : (C24 - 1) * (C24 - 1) + (C24 - 1) < C24 * C24 := by decide
    omega
  exact ⟨hb, (Nat.div_lt_iff_lt_mul C24_pos).2 hb⟩
theorem dv_trim (l : List Nat) (n : Nat) (hl : l.length = n + 1) (h : gd l n = 0) : dv (l.take n) = dv l := by
  have h1 := dv_take_next l n
  rw [dv_take_all l (n+1) (by omega), h, Nat.mul_zero, Nat.add_zero] at h1
  exact h1.symm
theorem D24_take {l : List Nat} (h : D24 l) (n : Nat) : D24 (l.take n) := fun x hx => h x (List.mem_of_mem_take hx)
/-- a step of the long division -/
theorem quo_step (X x V R q : Nat) (hV : 0 < V) (hR : R = X % V) (hq : q = (x + C24 * R) / V) :
    (x + C24 * X) / V = q + C24 * (X / V) ∧ (x + C24 * X) % V = x + C24 * R - V * q := by
  have h1 := Nat.div_add_mod X V
  have e : x + C24 * X = (x + C24 * R) + V * (C24 * (X / V)) := by
    rw [hR]
    have : C24 * X = C24 * (V * (X / V)) + C24 * (X % V) := by rw [← Nat.mul_add, h1]
    rw [this, ← Nat.mul_assoc C24, Nat.mul_comm C24 V, Nat.mul_assoc]; omega
  rw [e, Nat.add_mul_div_left _ _ hV, Nat.add_mul_mod_self_left, ← hq]
  refine ⟨rfl, ?_⟩
  have h2 := Nat.div_add_mod (x + C24 * R) V
  rw [← hq] at h2
  omega
theorem quo_digit (x V R : Nat) (hx : x < C24) (hR : R < V) : (x + C24 * R) / V < C24 := by
  rw [Nat.div_lt_iff_lt_mul (by omega)]
  have : C24 * (R + 1) ≤ C24 * V := Nat.mul_le_mul_left _ hR
  rw [Nat.mul_add] at this
  omega
end Go.Proofs.YteccbedmpjeamaaGreatDoor
namespace Go.Proofs.YteccbedmpjeamaaGreatDoor
open Go.RowKit NM
/-- a slice of ints, as the walk wants it: the address is looked at only where there is an element -/
theorem IntsAt.form {W : World} {v : Value} {ds : List Nat} (h : IntsAt W v ds) :
    ∃ p cap, v = .slice p ds.length cap ∧ ds.length ≤ cap ∧ (0 < ds.length → ∃ b o, p = some ⟨b, o, none⟩ ∧ b < W.heap.size ∧ RowI W b o ds) := by
  rcases h with ⟨rfl, rfl⟩ | ⟨b, o, cap, rfl, hb, hr, hc⟩
  · exact ⟨none, 0, rfl, Nat.le_refl _, fun h => absurd h (Nat.lt_irrefl 0)⟩
  · exact ⟨_, cap, rfl, hc, fun _ => ⟨b, o, rfl, hb, hr⟩⟩
theorem gd_zeros (n k : Nat) : gd (List.replicate n 0) k = 0 := by
  unfold gd; rw [List.getD_eq_getElem?_getD, List.getElem?_replicate]; split <;> rfl
theorem RowI.only {b lo hi b' o : Nat} {u w : World} {X : List Nat} (r : RowI u b' o X) (h : Only b lo hi u w) (hne : b' ≠ b) (hlt : b' < u.heap.size) : RowI w b' o X :=
  ⟨fun j hj => (World.cell?_of_block (h.blk b' hne hlt)).trans (r.cell j hj)⟩
set_option maxRecDepth 100000 in
set_option maxHeartbeats 4000000 in
theorem RefMul_any (w : World) (a b : ByteArray) (ha : a.size ≤ 1000000000) (hb : b.size ≤ 1000000000) :
    Calls Tryz.prog 45 #[.string a, .string b] w fun e w' => e = .returned (.string (NB (sv a * sv b))) ∧ Below w.heap.size w w' := by
  have hsa := rsmall_any w a 3 (by omega) (by omega)
  have hsb := rsmall_any w b 4 (by omega) (by omega)
  by_cases hp : (tz a).size ≤ 3 ∧ (tz b).size ≤ 4
  · rw [show SmallV a 3 = .tuple #[.int .i64 (sv a : Nat), .bool true] by unfold SmallV; rw [if_pos hp.1]] at hsa
    rw [show SmallV b 4 = .tuple #[.int .i64 (sv b : Nat), .bool true] by unfold SmallV; rw [if_pos hp.2]] at hsb
    have h1 := sv_small hp.1
    have h2 := sv_small hp.2
    obtain ⟨x, hx⟩ : ∃ x, x = sv a := ⟨_, rfl⟩
    obtain ⟨y, hy⟩ : ∃ y, y = sv b := ⟨_, rfl⟩
    rw [← hx] at h1 hsa ⊢
    rw [← hy] at h2 hsb ⊢
    obtain ⟨z, hz⟩ : ∃ z, z = x * y := ⟨_, rfl⟩
    have hzb : z < 256^7 := by
      rw [hz, show (256:Nat)^7 = 256^3 * 256^4 by decide]; exact Nat.mul_lt_mul'' h1 h2
    have hw : IntKind.i64.wrap ((x : Int) * (y : Int)) = (z : Int) := by
      rw [show ((x : Int) * (y : Int)) = (z : Int) by rw [hz, Int.natCast_mul]]
      exact IntWalk.i64_in _ ⟨by omega, by omega⟩
    have ho := RefOf_any w (z : Int) (by omega) (by omega)
    rw [Int.toNat_natCast] at ho
    rw [← hz]
    have HSA := Lib.hid hsa; have HSB := Lib.hid hsb; have HO := Lib.hid ho
    have HH := Lib.hid (And.intro hx (And.intro hy (And.intro hz (And.intro h1 h2))))
    clear hsa hsb ho hx hy hz h1 h2 hp hzb
    go_enter Tryz.func45, Tryz.ntmps45
    go_wp2_with fail
    refine HSA.out.mono ?_
    rintro e w1 ⟨rfl, rfl⟩
    go_wp2_with fail
    refine HSB.out.mono ?_
    rintro e w1 ⟨rfl, rfl⟩
    go_wp2_with fail
    refine HO.out.mono ?_
    rintro e w1 ⟨rfl, hB⟩
    go_wp2
    go_ret
    exact ⟨rfl, hB⟩
  · obtain ⟨pa, xa, hsa', hpx⟩ : ∃ (pa : Bool) (xa : Int), SmallV a 3 = .tuple #[.int .i64 xa, .bool pa] ∧ (pa = true → (tz a).size ≤ 3) := by
      unfold SmallV; split
      · exact ⟨true, _, rfl, fun _ => by assumption⟩
      · exact ⟨false, _, rfl, fun h => by cases h⟩
    obtain ⟨pb, xb, hsb', hpy⟩ : ∃ (pb : Bool) (xb : Int), SmallV b 4 = .tuple #[.int .i64 xb, .bool pb] ∧ (pb = true → (tz b).size ≤ 4) := by
      unfold SmallV; split
      · exact ⟨true, _, rfl, fun _ => by assumption⟩
      · exact ⟨false, _, rfl, fun h => by cases h⟩
    rw [hsa'] at hsa
    rw [hsb'] at hsb
    have hpp : pa = true → pb = false := fun h => by
      cases pb with
      | false => rfl
      | true => exact absurd ⟨hpx h, hpy rfl⟩ hp
    have HSA := Lib.hid hsa; have HSB := Lib.hid hsb; clear hsa hsb hsa' hsb' hpx hpy hp
    have hta := tz_size_le a
    have htb := tz_size_le b
    have key : pa = false ∨ (pa = true ∧ pb = false) := by
      cases pa with
      | false => exact .inl rfl
      | true => exact .inr ⟨rfl, hpp rfl⟩
    have HA := Lib.hid (And.intro ha hb)
    clear hpp
    rcases key with rfl | ⟨rfl, rfl⟩
    all_goals
      go_enter Tryz.func45, Tryz.ntmps45
      go_wp2_with fail
      refine HSA.out.mono ?_
      rintro e w1 ⟨rfl, rfl⟩
      go_wp2_with fail
      refine HSB.out.mono ?_
      rintro e w1 ⟨rfl, rfl⟩
      go_wp2_with fail
      refine (of_any _ a (by omega)).mono ?_
      rintro e w1 ⟨vu, us, rfl, ou, du, eu, lu, B1⟩
      go_wp2_with fail
      refine (of_any _ b (by omega)).mono ?_
      rintro e w2 ⟨vv, vs, rfl, ov, dvs, ev, lv, B2⟩
      obtain ⟨pu, cu, rfl, hcu, fu⟩ := ((IntsAt.of_own ou).below B2).form
      obtain ⟨pv, cv, rfl, hcv, fv⟩ := (IntsAt.of_own ov).form
      obtain ⟨n, hn⟩ : ∃ n, n = us.length := ⟨_, rfl⟩
      obtain ⟨m, hm⟩ : ∃ m, m = vs.length := ⟨_, rfl⟩
      have hnb : n ≤ 400000000 := by omega
      have hmb : m ≤ 400000000 := by omega
      rw [← hn] at hcu fu
      rw [← hm] at hcv fv
      simp only [← hn, ← hm]
      have HN := Lib.hid (And.intro hn (And.intro hm (And.intro lu lv))); clear hn hm lu lv ou ov hta htb
      have hmk : ∀ u : World, (Instr.makeSlice 84 (.int .i64 ((n : Int) + (m : Int))) (.int .i64 ((n : Int) + (m : Int)))).run Tryz.prog u =
        .ok (.slice (some ⟨u.heap.size, 0, none⟩) (n + m) (n + m)) (u.alloc (.cells (madeCells #[.int .i64 0] (n + m)) 3)) := fun u => by
          have := make_ints (n + m) (by omega) u
          rw [show ((n + m : Nat) : Int) = (n : Int) + (m : Int) by omega] at this
          exact this
      have hB2 : Below w.heap.size w w2 := B1.trans (B2.mono B1.size)
      have hsz2 := hB2.size
      have hA0 := AtI.made (n + m) 3 w2
      have hB3 := hB2.alloc hsz2 (.cells (madeCells #[.int .i64 0] (n + m)) 3)
      have hz : (w2.alloc (.cells (madeCells #[.int .i64 0] (n + m)) 3)).heap.size = w2.heap.size + 1 := by simp
      have fu3 : 0 < n → ∃ b o, pu = some ⟨b, o, none⟩ ∧ b < w2.heap.size ∧ RowI (w2.alloc (.cells (madeCells #[.int .i64 0] (n + m)) 3)) b o us := fun h => by
        obtain ⟨b, o, h1, h2, h3⟩ := fu h
        exact ⟨b, o, h1, h2, h3.below ((Below.refl w2.heap.size w2).alloc (Nat.le_refl _) _) h2⟩
      have fv3 : 0 < m → ∃ b o, pv = some ⟨b, o, none⟩ ∧ b < w2.heap.size ∧ RowI (w2.alloc (.cells (madeCells #[.int .i64 0] (n + m)) 3)) b o vs := fun h => by
        obtain ⟨b, o, h1, h2, h3⟩ := fv h
        exact ⟨b, o, h1, h2, h3.below ((Below.refl w2.heap.size w2).alloc (Nat.le_refl _) _) h2⟩
      clear fu fv B1 B2 hB2
      go_wp2
      generalize w2.alloc (.cells (madeCells #[.int .i64 0] (n + m)) 3) = w3 at *
      generalize w2.heap.size = bo at *
      clear hmk
      have HF := Lib.hid (And.intro fu3 fv3); clear fu3 fv3
      have HA3 := Lib.hid hA0; have HB3 := Lib.hid (And.intro hB3 hz); clear hA0 hB3 hz
      go_loopw [12] (fun iv wr => ∃ (i : Nat) (O : List Nat), iv = .int .i64 (i : Nat) ∧ i ≤ n ∧ AtI (n + m) bo 0 w3 O wr ∧ Hid (dv O = dv (us.take i) * dv vs) ∧ Hid (∀ k, i + m ≤ k → gd O k = 0)) (fun iv _ => n - (intOf iv).toNat)
      case atStart => exact ⟨0, _, rfl, Nat.zero_le _, HA3.out, Lib.hid (by rw [dv_replicate, List.take_zero]; simp [dv]), Lib.hid (fun k _ => gd_zeros _ k)⟩
      case round =>
        obtain ⟨i, O, rfl, hin, hO, hdv, hz⟩ := hrel
        by_cases hlt : i < n
        · obtain ⟨b1, o1, rfl, hb1, r1⟩ := HF.out.1 (by omega)
          go_wp2
          go_loopw [13, 14] (fun cv jv wr2 => ∃ (j c : Nat) (O2 : List Nat), cv = .int .i64 (c : Nat) ∧ jv = .int .i64 (j : Nat) ∧ j ≤ m ∧ c < 16777216 ∧ AtI (n + m) bo 0 w3 O2 wr2 ∧ Hid (dv O2 + c * C24^(i+j) = dv (us.take i) * dv vs + gd us i * dv (vs.take j) * C24^i) ∧ Hid (∀ k, i + m ≤ k → gd O2 k = 0)) (fun _ jv _ => m - (intOf jv).toNat)
          case atStart => exact ⟨0, 0, O, rfl, rfl, Nat.zero_le _, by omega, hO, Lib.hid (by rw [hdv.out, List.take_zero]; simp [dv]), hz⟩
          case round =>
            clear hO hdv hz
            obtain ⟨j, c, O2, rfl, rfl, hjm, hc, hO, hdv, hz⟩ := hrel
            by_cases hlj : j < m
            · obtain ⟨b2, o2, rfl, hb2, r2⟩ := HF.out.2 (by omega)
              have hnl := HN.out.1
              have hml := HN.out.2.1
              have h3s := HB3.out.2
              have rx := (r1.only hO.only (by omega) (by omega)).cell i (by omega)
              have ry := (r2.only hO.only (by omega) (by omega)).cell j (by omega)
              obtain ⟨K, hK⟩ : ∃ K, K = i + j := ⟨_, rfl⟩
              have hKb : K < n + m := by omega
              have ro := hO.row.cell K (by rw [hO.len]; omega)
              have rf := hO.row.free K (by rw [hO.len]; omega)
              have g := mul_inner O2 us vs i j m c _ hO.dig du dvs hc hml hlj (by rw [hO.len]; omega) hdv.out
              have gx := D24_gd du i
              have gy := D24_gd dvs j
              rw [← hK] at g
              generalize gd us i = x at *
              generalize gd vs j = y at *
              generalize gd O2 K = z at *
              obtain ⟨p, hp⟩ : ∃ p, p = x * y := ⟨_, rfl⟩
              obtain ⟨q, hq⟩ : ∃ q, q = z + p := ⟨_, rfl⟩
              obtain ⟨t, ht⟩ : ∃ t, t = q + c := ⟨_, rfl⟩
              rw [← hp, ← hq, ← ht] at g
              have htb : t < 281474976710656 := g.2.2
              have x1 : IntKind.i64.wrap ((i : Int) + (j : Int)) = (K : Int) := by rw [hK]; exact IntWalk.i64_in _ ⟨by omega, by omega⟩
              have x2 : IntKind.i64.wrap ((x : Int) * (y : Int)) = (p : Int) := by rw [hp, ← Int.natCast_mul]; exact IntWalk.i64_in _ ⟨by omega, by omega⟩
              have x3 : IntKind.i64.wrap ((z : Int) + (p : Int)) = (q : Int) := by rw [hq]; exact IntWalk.i64_in _ ⟨by omega, by omega⟩
              have x4 : IntKind.i64.wrap ((q : Int) + (c : Int)) = (t : Int) := by rw [ht]; exact IntWalk.i64_in _ ⟨by omega, by omega⟩
              have HG := Lib.hid (And.intro g (And.intro hK (And.intro hp (And.intro hq ht)))); clear g hK hp hq ht
              clear hnl hml h3s gx gy
              rw [Nat.zero_add] at ro rf
              have hKi : (K : Int) < (n : Int) + (m : Int) := by omega
              go_wp2
              go_region
              all_goals go_wp2
              all_goals go_roundw
              case rel =>
                obtain ⟨⟨g1, g2, g3⟩, hK, hp, hq, ht⟩ := HG.out
                refine ⟨j + 1, t / C24, O2.set K (t % C24), ?_, by go_num, by omega, g2, ?_, Lib.hid g1, Lib.hid (fun k hk => by rw [gd_set_other _ _ _ _ (by omega)]; exact hz.out k hk)⟩
                · rw [show (16777216 : Int) = ((C24 : Nat) : Int) from rfl, ← Int.natCast_ediv]
                · have h := hO.drew.set K (t % C24) hKb (Nat.mod_lt _ C24_pos)
                  rw [Nat.zero_add] at h
                  exact h
              case measure => (simp [intOf]; try omega)
            · obtain rfl : j = m := by omega
              have ro := hO.row.cell (i+j) (by rw [hO.len]; omega)
              have rf := hO.row.free (i+j) (by rw [hO.len]; omega)
              rw [Nat.zero_add] at ro rf
              have g := mul_outer O2 us vs i j c HN.out.2.1 (by have := HN.out.1; omega) (by rw [hO.len]; omega) (hz.out _ (Nat.le_refl _)) (by
                have h := hdv.out
                rwa [show vs.take j = vs from List.take_of_length_le (by have := HN.out.2.1; omega)] at h)
              have hset := hO.set (i+j) c (by omega) hc
              rw [Nat.zero_add] at hset
              have HG := Lib.hid g; have HS := Lib.hid hset; clear g hset hdv hO
              go_wp2
              refine ⟨⟨i + 1, _, by go_num, by omega, HS.out, HG, Lib.hid (fun k hk => by rw [gd_set_other _ _ _ _ (by omega)]; exact hz.out k (by omega))⟩, by (simp [intOf]; try omega)⟩
        · obtain rfl : i = n := by omega
          have hlen := hO.len
          have hrow : RowI wr bo 0 O := ⟨hO.row.cell⟩
          have hbw : bo < wr.heap.size := by have := hO.only.size; have := HB3.out.2; omega
          have hN := RefNum_row wr bo 0 (i + m) O hbw hrow (by omega) hO.dig (by omega)
          have e1 : dv O = sv a * sv b := by rw [hdv.out, List.take_of_length_le (by have := HN.out.1; omega), eu, ev]
          have hB := HB3.out.1.trans (hO.only.below hsz2 HB3.out.1.size)
          rw [e1, hlen] at hN
          have HNum := Lib.hid hN; clear hN hrow hO hdv hz e1
          go_wp2_with fail
          refine HNum.out.mono ?_
          rintro e w4 ⟨rfl, B4⟩
          go_wp2
          go_ret
          exact ⟨rfl, hB.trans (B4.mono hB.size)⟩
end Go.Proofs.YteccbedmpjeamaaGreatDoor
