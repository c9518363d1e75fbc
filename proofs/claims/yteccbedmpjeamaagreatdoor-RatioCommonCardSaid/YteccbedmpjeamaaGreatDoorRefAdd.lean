/-
  The walks of the reference's number, Add and Sub, for all numbers.
-/
import Derived.Test.YteccbedmpjeamaaGreatDoorRefTimes
import Derived.Test.YteccbedmpjeamaaGreatDoorRefCmp
namespace Go.Proofs.YteccbedmpjeamaaGreatDoor
open Go.RowKit NM
set_option maxRecDepth 100000 in
set_option maxHeartbeats 1000000 in
theorem RefNum_any (w : World) (v : Value) (ds : List Nat) (h : IntsAt w v ds) (hD : D24 ds) (hl : ds.length ≤ 1000000000) :
    Calls Tryz.prog 81 #[v] w fun e w' => e = .returned (.string (NB (dv ds))) ∧ Below w.heap.size w w' := by
  rcases h with ⟨rfl, rfl⟩ | ⟨b, o, cap, rfl, hb, hr, hc⟩
  · have hcv := run_convert_bytes_nil (P := Tryz.prog) w 57 5 Tryz.underlying57 Tryz.underlying5 0 0 24 Tryz.underlying24
    go_enter Tryz.func81, Tryz.ntmps81
    go_wp2_with fail
    go_loop [3, 4] (fun b k => b = .slice none 0 0 ∧ k = .int .i64 (-1)) (fun _ _ => 0)
    case atStart => exact ⟨rfl, rfl⟩
    case round =>
      obtain ⟨rfl, rfl⟩ := hrel
      go_wp2_with fail
      refine (Canon_any _ ByteArray.empty (by decide)).mono ?_
      rintro e w1 ⟨rfl, rfl⟩
      go_wp2
      go_ret
      exact ⟨by rw [tz_NB]; rfl, Below.refl _ _⟩
  · exact RefNum_row w b o cap ds hb hr hc hD hl
set_option maxRecDepth 100000 in
set_option maxHeartbeats 4000000 in
theorem RefAdd_any (w : World) (a b : ByteArray) (ha : a.size ≤ 1000000000) (hb : b.size ≤ 1000000000) :
    Calls Tryz.prog 51 #[.string a, .string b] w fun e w' => e = .returned (.string (NB (sv a + sv b))) ∧ Below w.heap.size w w' := by
  have hsa := rsmall_any w a 7 (by omega) (by omega)
  have hsb := rsmall_any w b 7 (by omega) (by omega)
  by_cases hp : (tz a).size ≤ 7 ∧ (tz b).size ≤ 7
  · rw [show SmallV a 7 = .tuple #[.int .i64 (sv a : Nat), .bool true] by unfold SmallV; rw [if_pos hp.1]] at hsa
    rw [show SmallV b 7 = .tuple #[.int .i64 (sv b : Nat), .bool true] by unfold SmallV; rw [if_pos hp.2]] at hsb
    have h1 := sv_small hp.1
    have h2 := sv_small hp.2
    obtain ⟨x, hx⟩ : ∃ x, x = sv a := ⟨_, rfl⟩
    obtain ⟨y, hy⟩ : ∃ y, y = sv b := ⟨_, rfl⟩
    rw [← hx] at h1 hsa ⊢
    rw [← hy] at h2 hsb ⊢
    obtain ⟨z, hz⟩ : ∃ z, z = x + y := ⟨_, rfl⟩
    have hw : IntKind.i64.wrap ((x : Int) + (y : Int)) = (z : Int) := by
      rw [hz]; exact IntWalk.i64_in _ ⟨by omega, by omega⟩
    have ho := RefOf_any w (z : Int) (by omega) (by omega)
    rw [Int.toNat_natCast] at ho
    rw [← hz]
    have HSA := Lib.hid hsa; have HSB := Lib.hid hsb; have HO := Lib.hid ho
    have HH := Lib.hid (And.intro hx (And.intro hy (And.intro hz (And.intro h1 h2))))
    clear hsa hsb ho hx hy hz h1 h2 hp
    go_enter Tryz.func51, Tryz.ntmps51
    go_wp2_with fail
    refine HSA.out.mono ?_
    rintro e w1 ⟨rfl, rfl⟩
    go_wp2_with fail
    refine HSB.out.mono ?_
    rintro e w1 ⟨rfl, rfl⟩
    go_wp2_with fail
    refine HO.out.mono ?_
    rintro e w1 ⟨rfl, hB⟩
    go_wp2
    go_ret
    exact ⟨rfl, hB⟩
  · obtain ⟨pa, xa, hsa', hpx⟩ : ∃ (pa : Bool) (xa : Int), SmallV a 7 = .tuple #[.int .i64 xa, .bool pa] ∧ (pa = true → (tz a).size ≤ 7) := by
      unfold SmallV; split
      · exact ⟨true, _, rfl, fun _ => by assumption⟩
      · exact ⟨false, _, rfl, fun h => by cases h⟩
    obtain ⟨pb, xb, hsb', hpy⟩ : ∃ (pb : Bool) (xb : Int), SmallV b 7 = .tuple #[.int .i64 xb, .bool pb] ∧ (pb = true → (tz b).size ≤ 7) := by
      unfold SmallV; split
      · exact ⟨true, _, rfl, fun _ => by assumption⟩
      · exact ⟨false, _, rfl, fun h => by cases h⟩
    rw [hsa'] at hsa
    rw [hsb'] at hsb
    have hpp : pa = true → pb = false := fun h => by
      cases pb with
      | false => rfl
      | true => exact absurd ⟨hpx h, hpy rfl⟩ hp
    have HSA := Lib.hid hsa; have HSB := Lib.hid hsb; clear hsa hsb hsa' hsb' hpx hpy hp
    have hta := tz_size_le a
    have htb := tz_size_le b
    have key : pa = false ∨ (pa = true ∧ pb = false) := by
      cases pa with
      | false => exact .inl rfl
      | true => exact .inr ⟨rfl, hpp rfl⟩
    obtain ⟨i0, hi, hz0, hz1, hz2⟩ := info_parts infoI
    have HA := Lib.hid (And.intro ha hb)
    clear hpp
    rcases key with rfl | ⟨rfl, rfl⟩
    all_goals
      go_enter Tryz.func51, Tryz.ntmps51
      go_wp2_with fail
      refine HSA.out.mono ?_
      rintro e w1 ⟨rfl, rfl⟩
      go_wp2_with fail
      refine HSB.out.mono ?_
      rintro e w1 ⟨rfl, rfl⟩
      go_wp2_with fail
      refine (of_any _ a (by omega)).mono ?_
      rintro e w1 ⟨vu, us, rfl, ou, du, eu, lu, B1⟩
      go_wp2_with fail
      refine (of_any _ b (by omega)).mono ?_
      rintro e w2 ⟨vv, vs, rfl, ov, dvs, ev, lv, B2⟩
      obtain ⟨pu, cu, rfl, hcu, fu⟩ := ((IntsAt.of_own ou).below B2).form
      obtain ⟨pv, cv, rfl, hcv, fv⟩ := (IntsAt.of_own ov).form
      obtain ⟨n, hn⟩ : ∃ n, n = us.length := ⟨_, rfl⟩
      obtain ⟨m, hm⟩ : ∃ m, m = vs.length := ⟨_, rfl⟩
      have hnb : n ≤ 400000000 := by omega
      have hmb : m ≤ 400000000 := by omega
      rw [← hn] at hcu fu
      rw [← hm] at hcv fv
      simp only [← hn, ← hm]
      have HN := Lib.hid (And.intro hn (And.intro hm (And.intro lu lv))); clear hn hm lu lv ou ov hta htb
      have hB2 : Below w.heap.size w w2 := B1.trans (B2.mono B1.size)
      clear B1 B2
      have HF := Lib.hid (And.intro fu fv); clear fu fv
      have HB := Lib.hid hB2; clear hB2
      have HE := Lib.hid (And.intro eu ev); clear eu ev
      obtain ⟨M, hM1, hM2, hM3⟩ : ∃ M, n ≤ M ∧ m ≤ M ∧ M ≤ 400000000 := ⟨max n m, by omega, by omega, by omega⟩
      go_wp2
      go_loopw [11, 12, 13] (fun out cr kv wr => ∃ (k c : Nat) (ds : List Nat) (v : Value), out = v ∧ cr = .int .i64 (c : Nat) ∧ kv = .int .i64 (k : Nat) ∧ k ≤ M + 1 ∧ c ≤ 1 ∧ (k = M + 1 → c = 0) ∧ wr.ownsRow w2.heap.size 3 1 v k (iv ds) ∧ Hid (ds.length = k) ∧ Hid (D24 ds) ∧ Hid (dv ds + c * C24^k = dv (us.take k) + dv (vs.take k)) ∧ Below w2.heap.size w2 wr) (fun _ _ kv _ => M + 2 - (intOf kv).toNat)
      case atStart => exact ⟨0, 0, [], _, rfl, rfl, rfl, Nat.zero_le _, by omega, fun _ => rfl, World.ownsRow_nil _ _ _ _, Lib.hid rfl, Lib.hid D24_nil, Lib.hid (by simp [dv]), Below.refl _ _⟩
      case round =>
        obtain ⟨k, c, ds, v, rfl, rfl, rfl, hk, hc, hlast, hown, hdl, hD, hdv, hB⟩ := hrel
        have hsz := hB.size
        obtain ⟨s, hs⟩ : ∃ s, s = c + gd us k + gd vs k := ⟨_, rfl⟩
        have hst := radd_step ds us vs k c s hdl.out hs hdv.out
        have gx : gd us k < 16777216 := D24_gd du k
        have gy : gd vs k < 16777216 := D24_gd dvs k
        obtain ⟨r, hr⟩ : ∃ r, r = s % C24 := ⟨_, rfl⟩
        obtain ⟨q, hq⟩ : ∃ q, q = s / C24 := ⟨_, rfl⟩
        rw [← hr, ← hq] at hst
        have hr2 : r < C24 := by rw [hr]; exact Nat.mod_lt _ C24_pos
        have hr' : r = s % 16777216 := hr
        have hq' : q = s / 16777216 := hq
        have hq2 : q ≤ 1 := by omega
        have x3 : (s : Int) % 16777216 = (r : Int) := by omega
        have x4 : (s : Int) / 16777216 = (q : Int) := by omega
        have hqz : gd us k = 0 → gd vs k = 0 → q = 0 := fun h1 h2 => by omega
        have hlu : n ≤ k → gd us k = 0 := fun h => gd_over us k (by have := HN.out.1; omega)
        have hlv : m ≤ k → gd vs k = 0 := fun h => gd_over vs k (by have := HN.out.2.1; omega)
        have hqM : k = M → q = 0 := fun h => hqz (hlu (by omega)) (hlv (by omega))
        have HST := Lib.hid (And.intro hst hr2); clear hst hr2
        clear hr hq hr' hq' hqz
        have HQM := Lib.hid hqM; clear hqM
        have HL := Lib.hid hlast; clear hlast
        by_cases hkn : k < n
        · obtain ⟨b1, o1, rfl, hb1, r1⟩ := HF.out.1 (by omega)
          have hx := (r1.below hB hb1).cell k (by have := HN.out.1; omega)
          have e1 : decide ((k : Int) < (n : Int)) = true := by simp; omega
          clear hlu
          by_cases hkm : k < m
          · obtain ⟨b2, o2, rfl, hb2, r2⟩ := HF.out.2 (by omega)
            have hy := (r2.below hB hb2).cell k (by have := HN.out.2.1; omega)
            have e2 : decide ((k : Int) < (m : Int)) = true := by simp; omega
            clear hlv
            generalize gd us k = x at *
            generalize gd vs k = y at *
            obtain ⟨s1, hs1⟩ : ∃ s1, s1 = c + x := ⟨_, rfl⟩
            have x1 : IntKind.i64.wrap ((c : Int) + (x : Int)) = (s1 : Int) := by rw [hs1]; exact IntWalk.i64_in _ ⟨by omega, by omega⟩
            have x2 : IntKind.i64.wrap ((s1 : Int) + (y : Int)) = (s : Int) := by rw [show (s1 : Int) + (y : Int) = (s : Int) by omega]; exact IntWalk.i64_in _ ⟨by omega, by omega⟩
            clear hs hs1 gx gy
            go_wp2_with (at_builtin; refine wpList_append_own _ rfl _ _ 84 rfl w2.heap.size 3 i0 (.int .i64 0) 1 8 Tryz.underlying84 hi hz0 hz1 hz2 rfl (by decide) _ _ _ rfl (hown.alloc _) ⟨wr.heap.size, 0, none⟩ 1 1 [.int .i64 (r : Int)] rfl rfl (one_cell _ _ _) (one_one _) ?c3 ?c4 ?c5 ?_)
            case c3 => unfold maxLen; omega
            case c4 => omega
            case c5 => first | omega | (simp; omega)
            intro v' w4 hown' hgrow _
            rw [← iv_snoc] at hown'
            go_wp2
            have z1 : Hid ((ds ++ [r]).length = k + 1) := Lib.hid (by rw [List.length_append, hdl.out]; rfl)
            have z2 : Hid (D24 (ds ++ [r])) := Lib.hid (D24_snoc hD.out HST.out.2)
            have z3 : Below w2.heap.size w2 w4 := (hB.alloc hsz _).grown hgrow (by simp; omega) (fun k hk => (hown.lt k hk).1)
            refine ⟨⟨k + 1, q, ds ++ [r], v', rfl, ?q1, ?q2, ?q3, ?q4, ?q7, hown', z1, z2, ?q5, z3⟩, ?q6⟩
            case q1 => rfl
            case q2 => go_num
            case q3 => omega
            case q4 => omega
            case q7 => exact fun h => HQM.out (by omega)
            case q6 => (simp [intOf]; try omega)
            case q5 => exact Lib.hid HST.out.1
          · have e2 : decide ((k : Int) < (m : Int)) = false := by simp; omega
            have hy0 := hlv (by omega)
            rw [hy0] at hs
            clear hlv hy0 gy
            generalize gd us k = x at *
            have x1 : IntKind.i64.wrap ((c : Int) + (x : Int)) = (s : Int) := by rw [show (c : Int) + (x : Int) = (s : Int) by omega]; exact IntWalk.i64_in _ ⟨by omega, by omega⟩
            clear hs gx
            go_wp2_with (at_builtin; refine wpList_append_own _ rfl _ _ 84 rfl w2.heap.size 3 i0 (.int .i64 0) 1 8 Tryz.underlying84 hi hz0 hz1 hz2 rfl (by decide) _ _ _ rfl (hown.alloc _) ⟨wr.heap.size, 0, none⟩ 1 1 [.int .i64 (r : Int)] rfl rfl (one_cell _ _ _) (one_one _) ?c3 ?c4 ?c5 ?_)
            case c3 => unfold maxLen; omega
            case c4 => omega
            case c5 => first | omega | (simp; omega)
            intro v' w4 hown' hgrow _
            rw [← iv_snoc] at hown'
            go_wp2
            have z1 : Hid ((ds ++ [r]).length = k + 1) := Lib.hid (by rw [List.length_append, hdl.out]; rfl)
            have z2 : Hid (D24 (ds ++ [r])) := Lib.hid (D24_snoc hD.out HST.out.2)
            have z3 : Below w2.heap.size w2 w4 := (hB.alloc hsz _).grown hgrow (by simp; omega) (fun k hk => (hown.lt k hk).1)
            refine ⟨⟨k + 1, q, ds ++ [r], v', rfl, ?q1, ?q2, ?q3, ?q4, ?q7, hown', z1, z2, ?q5, z3⟩, ?q6⟩
            case q1 => rfl
            case q2 => go_num
            case q3 => omega
            case q4 => omega
            case q7 => exact fun h => HQM.out (by omega)
            case q6 => (simp [intOf]; try omega)
            case q5 => exact Lib.hid HST.out.1
        · have e1 : decide ((k : Int) < (n : Int)) = false := by simp; omega
          have hx0 := hlu (by omega)
          rw [hx0] at hs
          clear hlu hx0 gx
          by_cases hkm : k < m
          · obtain ⟨b2, o2, rfl, hb2, r2⟩ := HF.out.2 (by omega)
            have hy := (r2.below hB hb2).cell k (by have := HN.out.2.1; omega)
            have e2 : decide ((k : Int) < (m : Int)) = true := by simp; omega
            clear hlv
            generalize gd vs k = y at *
            have x1 : IntKind.i64.wrap ((c : Int) + (y : Int)) = (s : Int) := by rw [show (c : Int) + (y : Int) = (s : Int) by omega]; exact IntWalk.i64_in _ ⟨by omega, by omega⟩
            clear hs gy
            go_wp2_with (at_builtin; refine wpList_append_own _ rfl _ _ 84 rfl w2.heap.size 3 i0 (.int .i64 0) 1 8 Tryz.underlying84 hi hz0 hz1 hz2 rfl (by decide) _ _ _ rfl (hown.alloc _) ⟨wr.heap.size, 0, none⟩ 1 1 [.int .i64 (r : Int)] rfl rfl (one_cell _ _ _) (one_one _) ?c3 ?c4 ?c5 ?_)
            case c3 => unfold maxLen; omega
            case c4 => omega
            case c5 => first | omega | (simp; omega)
            intro v' w4 hown' hgrow _
            rw [← iv_snoc] at hown'
            go_wp2
            have z1 : Hid ((ds ++ [r]).length = k + 1) := Lib.hid (by rw [List.length_append, hdl.out]; rfl)
            have z2 : Hid (D24 (ds ++ [r])) := Lib.hid (D24_snoc hD.out HST.out.2)
            have z3 : Below w2.heap.size w2 w4 := (hB.alloc hsz _).grown hgrow (by simp; omega) (fun k hk => (hown.lt k hk).1)
            refine ⟨⟨k + 1, q, ds ++ [r], v', rfl, ?q1, ?q2, ?q3, ?q4, ?q7, hown', z1, z2, ?q5, z3⟩, ?q6⟩
            case q1 => rfl
            case q2 => go_num
            case q3 => omega
            case q4 => omega
            case q7 => exact fun h => HQM.out (by omega)
            case q6 => (simp [intOf]; try omega)
            case q5 => exact Lib.hid HST.out.1
          · have e2 : decide ((k : Int) < (m : Int)) = false := by simp; omega
            have hy0 := hlv (by omega)
            rw [hy0] at hs
            clear hlv hy0 gy
            by_cases hc0 : c = 0
            · subst hc0
              have hfin : dv ds = sv a + sv b := by
                have h := hdv.out
                rw [dv_take_all us k (by have := HN.out.1; omega), dv_take_all vs k (by have := HN.out.2.1; omega), Nat.zero_mul, Nat.add_zero] at h
                rw [h, HE.out.1, HE.out.2]
              have hat : IntsAt wr u11 ds := IntsAt.of_own (by have := hdl.out; rw [this]; exact hown)
              have hN := RefNum_any wr u11 ds hat hD.out (by have := hdl.out; omega)
              rw [hfin] at hN
              have HNum := Lib.hid hN; clear hN hat hfin hown
              go_wp2_with fail
              refine HNum.out.mono ?_
              rintro e w4 ⟨rfl, B4⟩
              go_wp2
              go_ret
              exact ⟨rfl, (HB.out.trans (hB.mono HB.out.size)).trans (B4.mono (Nat.le_trans HB.out.size hB.size))⟩
            · obtain rfl : c = 1 := by omega
              obtain rfl : s = 1 := by omega
              have hkM : k ≤ M := by
                apply Nat.le_of_not_lt; intro h
                have := HL.out (by omega); omega
              clear hs hc0
              obtain rfl : q = 0 := by omega
              obtain rfl : r = 1 := by omega
              clear x3 x4
              go_wp2_with (at_builtin; refine wpList_append_own _ rfl _ _ 84 rfl w2.heap.size 3 i0 (.int .i64 0) 1 8 Tryz.underlying84 hi hz0 hz1 hz2 rfl (by decide) _ _ _ rfl (hown.alloc _) ⟨wr.heap.size, 0, none⟩ 1 1 [.int .i64 (1 : Int)] rfl rfl (one_cell _ _ _) (one_one _) ?c3 ?c4 ?c5 ?_)
              case c3 => unfold maxLen; omega
              case c4 => omega
              case c5 => first | omega | (simp; omega)
              intro v' w4 hown' hgrow _
              rw [show (Value.int .i64 (1 : Int)) = Value.int .i64 ((1 : Nat) : Int) from rfl, ← iv_snoc] at hown'
              go_wp2
              have z1 : Hid ((ds ++ [1]).length = k + 1) := Lib.hid (by rw [List.length_append, hdl.out]; rfl)
              have z2 : Hid (D24 (ds ++ [1])) := Lib.hid (D24_snoc hD.out HST.out.2)
              have z3 : Below w2.heap.size w2 w4 := (hB.alloc hsz _).grown hgrow (by simp; omega) (fun k hk => (hown.lt k hk).1)
              refine ⟨⟨k + 1, 0, ds ++ [1], v', rfl, ?q1, ?q2, ?q3, ?q4, ?q7, hown', z1, z2, ?q5, z3⟩, ?q6⟩
              case q1 => rfl
              case q2 => go_num
              case q3 => omega
              case q4 => omega
              case q7 => exact fun _ => rfl
              case q6 => (simp [intOf]; try omega)
              case q5 => exact Lib.hid HST.out.1
set_option maxRecDepth 100000 in
set_option maxHeartbeats 2000000 in
theorem RefSub_any (w : World) (a b : ByteArray) (ha : a.size ≤ 1000000000) (hb : b.size ≤ 1000000000) :
    Calls Tryz.prog 53 #[.string a, .string b] w fun e w' => e = .returned (SubV a b) ∧ Below w.heap.size w w' := by
  have hta := tz_size_le a
  have htb := tz_size_le b
  have hC := RefCmp_any w a b (by omega) (by omega)
  by_cases h : sv a < sv b
  · rw [cmpv_lt h] at hC
    rw [show SubV a b = .tuple #[.string ⟨#[]⟩, .bool false] by unfold SubV; rw [if_neg (by omega)]]
    have HC := Lib.hid hC; clear hC h
    go_enter Tryz.func53, Tryz.ntmps53
    go_wp2_with fail
    refine HC.out.mono ?_
    rintro e w1 ⟨rfl, rfl⟩
    go_wp2
    go_ret2
    exact ⟨rfl, Below.refl _ _⟩
  · rw [show SubV a b = .tuple #[.string (NB (sv a - sv b)), .bool true] by unfold SubV; rw [if_pos (by omega)]]
    obtain ⟨z, hz, hz0⟩ : ∃ z : Int, z = cmpv (sv a) (sv b) ∧ 0 ≤ z := by
      rcases Nat.lt_or_eq_of_le (Nat.le_of_not_lt h) with h1 | h1
      · exact ⟨1, (cmpv_gt h1).symm, by omega⟩
      · exact ⟨0, (cmpv_eq h1.symm).symm, by omega⟩
    rw [← hz] at hC
    have hz1 : decide (z < 0) = false := by simp; omega
    have HC := Lib.hid hC; have HH := Lib.hid (And.intro h hz); clear hC h hz
    go_enter Tryz.func53, Tryz.ntmps53
    go_wp2_with fail
    refine HC.out.mono ?_
    rintro e w1 ⟨rfl, rfl⟩
    go_wp2_with fail
    refine (of_any _ a (by omega)).mono ?_
    rintro e w1 ⟨vu, us, rfl, ou, du, eu, lu, B1⟩
    go_wp2_with fail
    refine (of_any _ b (by omega)).mono ?_
    rintro e w2 ⟨vv, vs, rfl, ov, dvs, ev, lv, B2⟩
    have hM := minus_ref w2 vu vv us vs ((IntsAt.of_own ou).below B2) (IntsAt.of_own ov) du dvs (by omega) (by omega) (by rw [eu, ev]; have := HH.out.1; omega)
    have HM := Lib.hid hM; clear hM ou ov
    go_wp2_with fail
    refine HM.out.mono ?_
    rintro e w3 ⟨v3, ds, rfl, hat, hd, htr, ⟨hdv, hdl⟩, B3, _⟩
    have hN := RefNum_any w3 v3 ds hat hd (by omega)
    rw [hdv, eu, ev] at hN
    have HNum := Lib.hid hN; clear hN hat
    have hB := (B1.trans (B2.mono B1.size)).trans (B3.mono (Nat.le_trans B1.size B2.size))
    clear B1 B2 B3 HM
    go_wp2_with fail
    refine HNum.out.mono ?_
    rintro e w4 ⟨rfl, B4⟩
    go_wp2
    go_ret2
    exact ⟨rfl, hB.trans (B4.mono hB.size)⟩
end Go.Proofs.YteccbedmpjeamaaGreatDoor
