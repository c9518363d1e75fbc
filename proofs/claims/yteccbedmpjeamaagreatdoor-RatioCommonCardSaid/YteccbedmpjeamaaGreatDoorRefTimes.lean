/-
  The walks of the reference's minus and times.
  The walks of the reference's times and cmp.
-/
import Derived.Test.YteccbedmpjeamaaGreatDoorRefTrim
namespace Go.Proofs.YteccbedmpjeamaaGreatDoor
open Go.RowKit NM
/-- digits that a call has made -/
def DigQ (P : List Nat → Prop) (w : World) (e : Ending) (w' : World) : Prop :=
  ∃ v ds, e = .returned v ∧ IntsAt w' v ds ∧ D24 ds ∧ T24 ds ∧ P ds ∧ Below w.heap.size w w' ∧ From w.heap.size v
theorem From.of_own {w : World} {B : Nat} {t : TypeId} {v : Value} {n : Nat} {xs : List Value} (h : w.ownsRow B t 1 v n xs) : From B v := by
  rcases h.2 with ⟨rfl, _⟩ | ⟨g, cap, cur, rfl, hb, _⟩
  · trivial
  · exact hb
theorem IntsAt.drew {w : World} {v : Value} {ds : List Nat} (h : IntsAt w v ds) : IntsAt w.drew v ds :=
  h.imp id fun ⟨b, o, cap, h1, h2, h3, h4⟩ => ⟨b, o, cap, h1, h2, ⟨h3.cell⟩, h4⟩
theorem one_cell (W : World) (d : Int) (t : TypeId) : ∀ (j : Nat) (u : Value), [Value.int .i64 d][j]? = some u → (W.alloc (.cells #[.int .i64 d] t)).cell? ((⟨W.heap.size, 0, none⟩ : Addr).add j) = some u := by
  intro j u hj
  match j, hj with
  | 0, hj => simp at hj; subst hj; simp [Addr.add]
theorem one_one (d : Int) : ∀ u, u ∈ [Value.int .i64 d] → u.oneCell' = true := by
  intro u hu; simp at hu; subst hu; rfl
set_option maxRecDepth 100000 in
set_option maxHeartbeats 4000000 in
theorem minus_ref (w : World) (v1 v2 : Value) (us vs : List Nat) (h1 : IntsAt w v1 us) (h2 : IntsAt w v2 vs) (Du : D24 us) (Dv : D24 vs) (hn : us.length ≤ 1000000000) (hm : vs.length ≤ 1000000000) (hle : dv vs ≤ dv us) :
    Calls Tryz.prog 83 #[v1, v2] w (DigQ (fun ds => dv ds = dv us - dv vs ∧ ds.length ≤ us.length) w) := by
  obtain ⟨i0, hi, hz0, hz1, hz2⟩ := info_parts infoI
  obtain ⟨pu, cu, rfl, hcu, fu⟩ := h1.form
  obtain ⟨pv, cv, rfl, hcv, fv⟩ := h2.form
  obtain ⟨n, hnl⟩ : ∃ n, n = us.length := ⟨_, rfl⟩
  obtain ⟨m, hml⟩ : ∃ m, m = vs.length := ⟨_, rfl⟩
  rw [← hnl] at hcu fu hn ⊢
  rw [← hml] at hcv fv hm ⊢
  have HF := Lib.hid (And.intro fu fv); clear fu fv h1 h2
  have HN := Lib.hid (And.intro hnl (And.intro hml hle)); clear hnl hml hle
  go_enter Tryz.func83, Tryz.ntmps83
  go_wp2
  go_loopw [5, 6, 7] (fun out br kv wr => ∃ (k bb : Nat) (ds : List Nat) (v : Value), out = v ∧ br = .int .i64 (bb : Nat) ∧ kv = .int .i64 (k : Nat) ∧ k ≤ n ∧ bb ≤ 1 ∧ wr.ownsRow w.heap.size 3 1 v k (iv ds) ∧ Hid (ds.length = k) ∧ Hid (D24 ds) ∧ Hid (dv ds + dv (vs.take k) = dv (us.take k) + bb * C24^k) ∧ Below w.heap.size w wr) (fun _ _ kv _ => n - (intOf kv).toNat)
  case atStart => exact ⟨0, 0, [], _, rfl, rfl, rfl, Nat.zero_le _, by omega, World.ownsRow_nil _ _ _ _, Lib.hid rfl, Lib.hid D24_nil, Lib.hid (by simp [dv]), Below.refl _ _⟩
  case round =>
    obtain ⟨k, bb, ds, v, rfl, rfl, rfl, hk, hbb, hown, hdl, hD, hdv, hB⟩ := hrel
    have hsz := hB.size
    by_cases hlt : k < n
    · obtain ⟨b1, o1, rfl, hb1, r1⟩ := HF.out.1 (by omega)
      have hx := (r1.below hB hb1).cell k (by have := HN.out.1; omega)
      have gx := D24_gd Du k
      have gy := D24_gd Dv k
      have gx' : gd us k < 16777216 := gx
      have gy' : gd vs k < 16777216 := gy
      have key : ∃ (d b2 : Nat), b2 ≤ 1 ∧ d < 16777216 ∧ d + bb + gd vs k = gd us k + b2 * 16777216 ∧ ((b2 = 0 ∧ bb + gd vs k ≤ gd us k) ∨ (b2 = 1 ∧ gd us k < bb + gd vs k)) := by
        by_cases h : bb + gd vs k ≤ gd us k
        · exact ⟨gd us k - (bb + gd vs k), 0, by omega, by omega, by omega, .inl ⟨rfl, h⟩⟩
        · exact ⟨gd us k + 16777216 - (bb + gd vs k), 1, by omega, by omega, by omega, .inr ⟨rfl, by omega⟩⟩
      obtain ⟨d, b2, hb2, hd, heq, hcase⟩ := key
      have hst := rsub_step ds us vs k bb d b2 hdl.out heq hdv.out
      have HST := Lib.hid (And.intro hst hd); clear hst
      by_cases hkm : k < m
      · obtain ⟨b3, o3, rfl, hb3, r3⟩ := HF.out.2 (by omega)
        have hy := (r3.below hB hb3).cell k (by have := HN.out.2.1; omega)
        generalize gd us k = x at *
        generalize gd vs k = y at *
        have e0 : decide ((k : Int) < (m : Int)) = true := by simp; omega
        obtain ⟨d1, hd1⟩ : ∃ d1 : Int, d1 = (x : Int) - (bb : Int) := ⟨_, rfl⟩
        have e1 : IntKind.i64.wrap ((x : Int) - (bb : Int)) = d1 := by rw [hd1]; exact IntWalk.i64_in _ ⟨by omega, by omega⟩
        rcases hcase with ⟨rfl, hc⟩ | ⟨rfl, hc⟩
        · have e2 : IntKind.i64.wrap (d1 - (y : Int)) = (d : Int) := by rw [show d1 - (y : Int) = (d : Int) by omega]; exact IntWalk.i64_in _ ⟨by omega, by omega⟩
          clear hd1 hc heq gx gy gx' gy' hd
          go_wp2_with (at_builtin; refine wpList_append_own _ rfl _ _ 84 rfl w.heap.size 3 i0 (.int .i64 0) 1 8 Tryz.underlying84 hi hz0 hz1 hz2 rfl (by decide) _ _ _ rfl (hown.alloc _) ⟨wr.heap.size, 0, none⟩ 1 1 [.int .i64 (d : Int)] rfl rfl (one_cell _ _ _) (one_one _) ?c3 ?c4 ?c5 ?_)
          case c3 => unfold maxLen; omega
          case c4 => omega
          case c5 => first | omega | (simp; omega)
          intro v' w2 hown' hgrow _
          rw [← iv_snoc] at hown'
          go_wp2
          have z1 : Hid ((ds ++ [d]).length = k + 1) := Lib.hid (by rw [List.length_append, hdl.out]; rfl)
          have z2 : Hid (D24 (ds ++ [d])) := Lib.hid (D24_snoc hD.out HST.out.2)
          have z3 : Below w.heap.size w w2 := (hB.alloc hsz _).grown hgrow (by simp; omega) (fun k hk => (hown.lt k hk).1)
          refine ⟨⟨k + 1, 0, ds ++ [d], v', rfl, ?q1, ?q2, ?q3, ?q4, hown', z1, z2, ?q5, z3⟩, ?q6⟩
          case q1 => rfl
          case q2 => go_num
          case q3 => omega
          case q4 => omega
          case q6 => (simp [intOf]; try omega)
          case q5 => exact Lib.hid HST.out.1
        · obtain ⟨d2, hd2⟩ : ∃ d2 : Int, d2 = d1 - (y : Int) := ⟨_, rfl⟩
          have e2 : IntKind.i64.wrap (d1 - (y : Int)) = d2 := by rw [hd2]; exact IntWalk.i64_in _ ⟨by omega, by omega⟩
          have e3 : decide (d2 < 0) = true := by simp; omega
          have e4 : IntKind.i64.wrap (d2 + 16777216) = (d : Int) := by rw [show d2 + 16777216 = (d : Int) by omega]; exact IntWalk.i64_in _ ⟨by omega, by omega⟩
          clear hd1 hd2 hc heq gx gy gx' gy' hd
          go_wp2_with (at_builtin; refine wpList_append_own _ rfl _ _ 84 rfl w.heap.size 3 i0 (.int .i64 0) 1 8 Tryz.underlying84 hi hz0 hz1 hz2 rfl (by decide) _ _ _ rfl (hown.alloc _) ⟨wr.heap.size, 0, none⟩ 1 1 [.int .i64 (d : Int)] rfl rfl (one_cell _ _ _) (one_one _) ?c3 ?c4 ?c5 ?_)
          case c3 => unfold maxLen; omega
          case c4 => omega
          case c5 => first | omega | (simp; omega)
          intro v' w2 hown' hgrow _
          rw [← iv_snoc] at hown'
          go_wp2
          have z1 : Hid ((ds ++ [d]).length = k + 1) := Lib.hid (by rw [List.length_append, hdl.out]; rfl)
          have z2 : Hid (D24 (ds ++ [d])) := Lib.hid (D24_snoc hD.out HST.out.2)
          have z3 : Below w.heap.size w w2 := (hB.alloc hsz _).grown hgrow (by simp; omega) (fun k hk => (hown.lt k hk).1)
          refine ⟨⟨k + 1, 1, ds ++ [d], v', rfl, ?q1, ?q2, ?q3, ?q4, hown', z1, z2, ?q5, z3⟩, ?q6⟩
          case q1 => rfl
          case q2 => go_num
          case q3 => omega
          case q4 => omega
          case q6 => (simp [intOf]; try omega)
          case q5 => exact Lib.hid HST.out.1
      · have hy0 : gd vs k = 0 := gd_over vs k (by have := HN.out.2.1; omega)
        rw [hy0] at heq hcase
        generalize gd us k = x at *
        have e0 : decide ((k : Int) < (m : Int)) = false := by simp; omega
        rcases hcase with ⟨rfl, hc⟩ | ⟨rfl, hc⟩
        · have e1 : IntKind.i64.wrap ((x : Int) - (bb : Int)) = (d : Int) := by rw [show (x : Int) - (bb : Int) = (d : Int) by omega]; exact IntWalk.i64_in _ ⟨by omega, by omega⟩
          clear hc heq gx gy gx' gy' hd hy0
          go_wp2_with (at_builtin; refine wpList_append_own _ rfl _ _ 84 rfl w.heap.size 3 i0 (.int .i64 0) 1 8 Tryz.underlying84 hi hz0 hz1 hz2 rfl (by decide) _ _ _ rfl (hown.alloc _) ⟨wr.heap.size, 0, none⟩ 1 1 [.int .i64 (d : Int)] rfl rfl (one_cell _ _ _) (one_one _) ?c3 ?c4 ?c5 ?_)
          case c3 => unfold maxLen; omega
          case c4 => omega
          case c5 => first | omega | (simp; omega)
          intro v' w2 hown' hgrow _
          rw [← iv_snoc] at hown'
          go_wp2
          have z1 : Hid ((ds ++ [d]).length = k + 1) := Lib.hid (by rw [List.length_append, hdl.out]; rfl)
          have z2 : Hid (D24 (ds ++ [d])) := Lib.hid (D24_snoc hD.out HST.out.2)
          have z3 : Below w.heap.size w w2 := (hB.alloc hsz _).grown hgrow (by simp; omega) (fun k hk => (hown.lt k hk).1)
          refine ⟨⟨k + 1, 0, ds ++ [d], v', rfl, ?q1, ?q2, ?q3, ?q4, hown', z1, z2, ?q5, z3⟩, ?q6⟩
          case q1 => rfl
          case q2 => go_num
          case q3 => omega
          case q4 => omega
          case q6 => (simp [intOf]; try omega)
          case q5 => exact Lib.hid HST.out.1
        · obtain ⟨d2, hd2⟩ : ∃ d2 : Int, d2 = (x : Int) - (bb : Int) := ⟨_, rfl⟩
          have e1 : IntKind.i64.wrap ((x : Int) - (bb : Int)) = d2 := by rw [hd2]; exact IntWalk.i64_in _ ⟨by omega, by omega⟩
          have e3 : decide (d2 < 0) = true := by simp; omega
          have e4 : IntKind.i64.wrap (d2 + 16777216) = (d : Int) := by rw [show d2 + 16777216 = (d : Int) by omega]; exact IntWalk.i64_in _ ⟨by omega, by omega⟩
          clear hd2 hc heq gx gy gx' gy' hd hy0
          go_wp2_with (at_builtin; refine wpList_append_own _ rfl _ _ 84 rfl w.heap.size 3 i0 (.int .i64 0) 1 8 Tryz.underlying84 hi hz0 hz1 hz2 rfl (by decide) _ _ _ rfl (hown.alloc _) ⟨wr.heap.size, 0, none⟩ 1 1 [.int .i64 (d : Int)] rfl rfl (one_cell _ _ _) (one_one _) ?c3 ?c4 ?c5 ?_)
          case c3 => unfold maxLen; omega
          case c4 => omega
          case c5 => first | omega | (simp; omega)
          intro v' w2 hown' hgrow _
          rw [← iv_snoc] at hown'
          go_wp2
          have z1 : Hid ((ds ++ [d]).length = k + 1) := Lib.hid (by rw [List.length_append, hdl.out]; rfl)
          have z2 : Hid (D24 (ds ++ [d])) := Lib.hid (D24_snoc hD.out HST.out.2)
          have z3 : Below w.heap.size w w2 := (hB.alloc hsz _).grown hgrow (by simp; omega) (fun k hk => (hown.lt k hk).1)
          refine ⟨⟨k + 1, 1, ds ++ [d], v', rfl, ?q1, ?q2, ?q3, ?q4, hown', z1, z2, ?q5, z3⟩, ?q6⟩
          case q1 => rfl
          case q2 => go_num
          case q3 => omega
          case q4 => omega
          case q6 => (simp [intOf]; try omega)
          case q5 => exact Lib.hid HST.out.1
    · obtain rfl : k = n := by omega
      have hfin := sub_end ds us vs k bb HN.out.1.symm hdl.out hD.out Du HN.out.2.2 hdv.out
      have hat : IntsAt wr u5 ds := IntsAt.of_own (by have := hdl.out; rw [this]; exact hown)
      have hT := trim_ref wr u5 ds hat (by have := hdl.out; omega)
      have HT := Lib.hid hT; have HFin := Lib.hid hfin; clear hT hfin hat
      go_wp2_with fail
      refine HT.out.mono ?_
      rintro e w3 ⟨v3, rfl, rfl, j, hj, hat, htr, hdd, hfr⟩
      go_wp2
      go_ret
      exact ⟨_, _, rfl, hat, D24_take hD.out j, htr, ⟨by rw [hdd, HFin.out], by rw [List.length_take]; have := hdl.out; omega⟩, hB, hfr _ (From.of_own hown)⟩
end Go.Proofs.YteccbedmpjeamaaGreatDoor
namespace Go.Proofs.YteccbedmpjeamaaGreatDoor
open Go.RowKit NM
set_option maxRecDepth 100000 in
set_option maxHeartbeats 4000000 in
theorem times_ref (w : World) (v1 : Value) (us : List Nat) (y : Nat) (h1 : IntsAt w v1 us) (Du : D24 us) (hn : us.length ≤ 1000000000) (hy : y < C24) :
    Calls Tryz.prog 103 #[v1, .int .i64 (y : Nat)] w (DigQ (fun ds => dv ds = dv us * y ∧ ds.length ≤ us.length + 1) w) := by
  obtain ⟨i0, hi, hz0, hz1, hz2⟩ := info_parts infoI
  obtain ⟨pu, cu, rfl, hcu, fu⟩ := h1.form
  obtain ⟨n, hnl⟩ : ∃ n, n = us.length := ⟨_, rfl⟩
  rw [← hnl] at hcu fu hn ⊢
  have HF := Lib.hid fu; clear fu h1
  have HN := Lib.hid hnl; clear hnl
  have hy' : y < 16777216 := hy
  have HY := Lib.hid hy; clear hy
  go_enter Tryz.func103, Tryz.ntmps103
  go_wp2
  go_loopw [5, 6, 7] (fun out cr kv wr => ∃ (k c : Nat) (ds : List Nat) (v : Value), out = v ∧ cr = .int .i64 (c : Nat) ∧ kv = .int .i64 (k : Nat) ∧ k ≤ n ∧ c < 16777216 ∧ wr.ownsRow w.heap.size 3 1 v k (iv ds) ∧ Hid (ds.length = k) ∧ Hid (D24 ds) ∧ Hid (dv ds + c * C24^k = dv (us.take k) * y) ∧ Below w.heap.size w wr) (fun _ _ kv _ => n - (intOf kv).toNat)
  case atStart => exact ⟨0, 0, [], _, rfl, rfl, rfl, Nat.zero_le _, by omega, World.ownsRow_nil _ _ _ _, Lib.hid rfl, Lib.hid D24_nil, Lib.hid (by simp [dv]), Below.refl _ _⟩
  case round =>
    obtain ⟨k, c, ds, v, rfl, rfl, rfl, hk, hc, hown, hdl, hD, hdv, hB⟩ := hrel
    have hsz := hB.size
    by_cases hlt : k < n
    · obtain ⟨b1, o1, rfl, hb1, r1⟩ := HF.out (by omega)
      have hx := (r1.below hB hb1).cell k (by have := HN.out; omega)
      have gx : gd us k < 16777216 := D24_gd Du k
      have hst := times_step ds us k c y _ hdl.out rfl hdv.out
      have hlt2 := times_lt (gd us k) y c gx HY.out hc
      generalize gd us k = x at *
      obtain ⟨p, hp⟩ : ∃ p, p = x * y := ⟨_, rfl⟩
      rw [← hp] at hst hlt2
      obtain ⟨s, hs⟩ : ∃ s, s = p + c := ⟨_, rfl⟩
      rw [← hs] at hst hlt2
      have hsb : s < 281474976710656 := hlt2.1
      obtain ⟨r, hr⟩ : ∃ r, r = s % C24 := ⟨_, rfl⟩
      obtain ⟨q, hq⟩ : ∃ q, q = s / C24 := ⟨_, rfl⟩
      rw [← hr, ← hq] at hst
      have hq2 : q < 16777216 := by rw [hq]; exact hlt2.2
      have hr2 : r < C24 := by rw [hr]; exact Nat.mod_lt _ C24_pos
      have hr' : r = s % 16777216 := hr
      have hq' : q = s / 16777216 := hq
      have x1 : IntKind.i64.wrap ((x : Int) * (y : Int)) = (p : Int) := by rw [hp, ← Int.natCast_mul]; exact IntWalk.i64_in _ ⟨by omega, by omega⟩
      have x2 : IntKind.i64.wrap ((p : Int) + (c : Int)) = (s : Int) := by rw [hs]; exact IntWalk.i64_in _ ⟨by omega, by omega⟩
      have x3 : (s : Int) % 16777216 = (r : Int) := by omega
      have x4 : (s : Int) / 16777216 = (q : Int) := by omega
      have HST := Lib.hid (And.intro hst hr2); clear hst hr2
      clear hlt2 hr hq hr' hq' hp hs gx
      go_wp2_with (at_builtin; refine wpList_append_own _ rfl _ _ 84 rfl w.heap.size 3 i0 (.int .i64 0) 1 8 Tryz.underlying84 hi hz0 hz1 hz2 rfl (by decide) _ _ _ rfl (hown.alloc _) ⟨wr.heap.size, 0, none⟩ 1 1 [.int .i64 (r : Int)] rfl rfl (one_cell _ _ _) (one_one _) ?c3 ?c4 ?c5 ?_)
      case c3 => unfold maxLen; omega
      case c4 => omega
      case c5 => first | omega | (simp; omega)
      intro v' w2 hown' hgrow _
      rw [← iv_snoc] at hown'
      go_wp2
      have z1 : Hid ((ds ++ [r]).length = k + 1) := Lib.hid (by rw [List.length_append, hdl.out]; rfl)
      have z2 : Hid (D24 (ds ++ [r])) := Lib.hid (D24_snoc hD.out HST.out.2)
      have z3 : Below w.heap.size w w2 := (hB.alloc hsz _).grown hgrow (by simp; omega) (fun k hk => (hown.lt k hk).1)
      refine ⟨⟨k + 1, q, ds ++ [r], v', rfl, ?q1, ?q2, ?q3, ?q4, hown', z1, z2, ?q5, z3⟩, ?q6⟩
      case q1 => rfl
      case q2 => go_num
      case q3 => omega
      case q4 => exact hq2
      case q6 => (simp [intOf]; try omega)
      case q5 => exact Lib.hid HST.out.1
    · obtain rfl : k = n := by omega
      have hfin : dv (ds ++ [c]) = dv us * y := by
        have h := hdv.out
        rw [dv_take_all us k (by rw [← HN.out]; exact Nat.le_refl _)] at h
        rw [dv_snoc, hdl.out, Nat.mul_comm]; exact h
      have hDc : D24 (ds ++ [c]) := D24_snoc hD.out hc
      have hlen : (ds ++ [c]).length = k + 1 := by rw [List.length_append, hdl.out]; rfl
      have HFin := Lib.hid (And.intro hfin (And.intro hDc hlen)); clear hfin hDc hlen
      go_wp2_with (at_builtin; refine wpList_append_own _ rfl _ _ 84 rfl w.heap.size 3 i0 (.int .i64 0) 1 8 Tryz.underlying84 hi hz0 hz1 hz2 rfl (by decide) _ _ _ rfl (hown.alloc _) ⟨wr.heap.size, 0, none⟩ 1 1 [.int .i64 (c : Int)] rfl rfl (one_cell _ _ _) (one_one _) ?c3 ?c4 ?c5 ?_)
      case c3 => unfold maxLen; omega
      case c4 => omega
      case c5 => first | omega | (simp; omega)
      intro v' w2 hown' hgrow _
      rw [← iv_snoc] at hown'
      have z3 : Below w.heap.size w w2 := (hB.alloc hsz _).grown hgrow (by simp; omega) (fun k hk => (hown.lt k hk).1)
      have hat : IntsAt w2 v' (ds ++ [c]) := IntsAt.of_own (by have := HFin.out.2.2; rw [this]; exact hown')
      have HT := Lib.hid (trim_ref w2 v' (ds ++ [c]) hat (by have := HFin.out.2.2; omega)); clear hat
      have HFR := Lib.hid (From.of_own hown')
      clear hown hown' hgrow hB
      go_wp2_with fail
      refine HT.out.mono ?_
      rintro e w3 ⟨v3, rfl, rfl, j, hj, hat, htr, hdd, hfr⟩
      go_wp2
      go_ret
      exact ⟨_, _, rfl, hat, D24_take HFin.out.2.1 j, htr, ⟨by rw [hdd, HFin.out.1], by rw [List.length_take]; have := HFin.out.2.2; omega⟩, z3, hfr _ HFR.out⟩
/-- the order of two numbers in digits, by a sign -/
def CmpI (us vs : List Nat) (w : World) (e : Ending) (w' : World) : Prop :=
  ∃ z : Int, e = .returned (.int .i64 z) ∧ (z < 0 ↔ dv us < dv vs) ∧ (0 < z ↔ dv vs < dv us) ∧ Quiet w w'
theorem Quiet.ints {u w : World} (h : Quiet u w) {v : Value} {ds : List Nat} (k : IntsAt u v ds) : IntsAt w v ds := k.below (h.below _)
theorem Quiet.rowI {u w : World} (h : Quiet u w) {b o : Nat} {X : List Nat} (r : RowI u b o X) : RowI w b o X :=
  ⟨fun j hj => (World.cell?_of_block (by rw [h.heap])).trans (r.cell j hj)⟩
set_option maxRecDepth 100000 in
set_option maxHeartbeats 2000000 in
theorem cmp_ref (w : World) (v1 v2 : Value) (us vs : List Nat) (h1 : IntsAt w v1 us) (h2 : IntsAt w v2 vs) (Du : D24 us) (Dv : D24 vs) (Tu : T24 us) (Tv : T24 vs) (hn : us.length ≤ 1000000001) (hm : vs.length ≤ 1000000001) :
    Calls Tryz.prog 101 #[v1, v2] w (CmpI us vs w) := by
  obtain ⟨pu, cu, rfl, hcu, fu⟩ := h1.form
  obtain ⟨pv, cv, rfl, hcv, fv⟩ := h2.form
  by_cases hl : us.length = vs.length
  · obtain ⟨n, hXn⟩ : ∃ n, n = us.length := ⟨_, rfl⟩
    have hYn : n = vs.length := by omega
    rw [← hXn] at hcu fu hn ⊢
    rw [← hYn] at hcv fv hm ⊢
    have HF := Lib.hid (And.intro fu fv); clear fu fv h1 h2 Tu Tv
    have HX := Lib.hid hXn; have HY := Lib.hid hYn; clear hXn hYn hl
    go_enter Tryz.func101, Tryz.ntmps101
    go_wp2
    go_loopw [5] (fun i wr => ∃ k : Nat, k ≤ n ∧ i = .int .i64 ((k : Int) - 1) ∧ Hid (dv (us.drop k) = dv (vs.drop k)) ∧ Quiet w wr) (fun i _ => (intOf i + 1).toNat)
    case atStart => exact ⟨n, Nat.le_refl _, rfl, Lib.hid (by rw [List.drop_eq_nil_of_le (by rw [← HX.out]; exact Nat.le_refl _), List.drop_eq_nil_of_le (by rw [← HY.out]; exact Nat.le_refl _)]), Quiet.refl _⟩
    case round =>
      obtain ⟨k, hk, rfl, HD, hq⟩ := hrel
      by_cases h0 : k = 0
      · subst h0
        go_wp2
        go_ret
        have := HD.out
        simp only [List.drop_zero] at this
        exact ⟨0, rfl, by omega, by omega, hq⟩
      · obtain ⟨m, rfl⟩ : ∃ m, k = m + 1 := ⟨k - 1, by omega⟩
        rw [show (((m + 1 : Nat) : Int) - 1) = (m : Int) by omega]
        obtain ⟨b1, o1, rfl, hb1, r1⟩ := HF.out.1 (by omega)
        obtain ⟨b2, o2, rfl, hb2, r2⟩ := HF.out.2 (by omega)
        have hx := (hq.rowI r1).cell m (by have := HX.out; omega)
        have hy := (hq.rowI r2).cell m (by have := HY.out; omega)
        have gx : gd us m < 16777216 := D24_gd Du m
        have gy : gd vs m < 16777216 := D24_gd Dv m
        have HQ := Lib.hid hq; clear hq
        have HR := Lib.hid (And.intro r1 r2); clear r1 r2
        have hmn : m < n := by omega
        have lo := dv_lt_at us vs m n HX.out.symm HY.out.symm hmn Du HD.out
        have hi := dv_lt_at vs us m n HY.out.symm HX.out.symm hmn Dv HD.out.symm
        have eq := drop_step us vs m n HX.out.symm HY.out.symm hmn HD.out
        generalize gd us m = x at *
        generalize gd vs m = y at *
        by_cases h : x = y
        · subst h
          have HE := Lib.hid (eq rfl); clear eq lo hi
          go_wp2
          go_region
          all_goals go_wp2
          all_goals go_roundw
          case rel => exact ⟨m, by omega, rfl, HE, HQ.out.drew⟩
          case measure => (simp [intOf]; try omega)
        · have hne : ((x : Int) != (y : Int)) = true := by simp; omega
          have hne2 : (x != y) = true := by simp; omega
          have hne3 : ((x : Int) == (y : Int)) = false := beq_eq_false_iff_ne.2 (by omega)
          obtain ⟨z, hz⟩ : ∃ z : Int, z = (x : Int) - (y : Int) := ⟨_, rfl⟩
          have ew : IntKind.i64.wrap ((x : Int) - (y : Int)) = z := by rw [hz]; exact IntWalk.i64_in _ ⟨by omega, by omega⟩
          have key : (z < 0 ↔ dv us < dv vs) ∧ (0 < z ↔ dv vs < dv us) := by
            rcases Nat.lt_or_gt_of_ne h with h3 | h3
            · have := lo h3; constructor <;> constructor <;> omega
            · have := hi h3; constructor <;> constructor <;> omega
          have HK := Lib.hid key; clear key lo hi eq hz h
          go_wp2
          go_region
          all_goals go_wp2
          all_goals go_region
          all_goals go_wp2
          all_goals go_ret
          all_goals exact ⟨z, rfl, HK.out.1, HK.out.2, HQ.out.drew.drew⟩
  · have hne : ((us.length : Int) == (vs.length : Int)) = false := by simp; omega
    obtain ⟨z, hz⟩ : ∃ z : Int, z = (us.length : Int) - (vs.length : Int) := ⟨_, rfl⟩
    have ew : IntKind.i64.wrap ((us.length : Int) - (vs.length : Int)) = z := by rw [hz]; exact IntWalk.i64_in _ ⟨by omega, by omega⟩
    have key : (z < 0 ↔ dv us < dv vs) ∧ (0 < z ↔ dv vs < dv us) := by
      rcases Nat.lt_or_gt_of_ne hl with h | h
      · have := T24_lt Du Tv h; constructor <;> constructor <;> omega
      · have := T24_lt Dv Tu h; constructor <;> constructor <;> omega
    generalize us.length = n at *
    generalize vs.length = m at *
    have HK := Lib.hid key; clear key hz
    go_enter Tryz.func101, Tryz.ntmps101
    go_wp2
    go_ret
    exact ⟨z, rfl, HK.out.1, HK.out.2, Quiet.refl _⟩
end Go.Proofs.YteccbedmpjeamaaGreatDoor
