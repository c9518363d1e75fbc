/-
  The walk of the law EqualRange, case 2.
-/
import Derived.Test.YtdaicfgoahegpaaDoorERange1
namespace Go.Proofs.YtdaicfgoahegpaaDoor.E6
open Go.RowKit GM SH G4
set_option maxRecDepth 100000 in
set_option maxHeartbeats 8000000 in
theorem range_2 (w : World) (s q0 q1 g h e a b c z ca cs za zs da db dg aa : Int) (n : Int) (hn : Int.tmod n 4 = 2) (hn0 : 0 ≤ n ∧ n ≤ 255)
    (xca : c + 1152921504606845789 = ca) (xza : z + 1152921504606845789 = za) (xcs : c - 1152921504606845789 = cs) (xzs : z - 1152921504606845789 = zs)
    (xda : 2305843009213691579 - a = da) (xdb : 2305843009213691579 - b = db) (xdg : 2305843009213691579 - g = dg) (xaa : a + 2305843009213691579 = aa)
    (hc0 : 0 ≤ c) (hc1 : c < 1152921504606845789) (hz0 : 0 ≤ z) (hz1 : z < 1152921504606845789) (ha0 : 0 ≤ a) (ha1 : a < 2305843009213691579) (hb0 : 0 ≤ b) (hb1 : b < 2305843009213691579) (hg0 : 0 ≤ g) (hg1 : g < 2305843009213691579)
    (S0 : Hid (∀ W, TS W → Calls Tryd.prog 6 #[] W fun e w' => e = .returned (.bool true) ∧ Below W.heap.size W w'))
    (E1 : Hid (∀ W, Calls Tryd.prog 7 #[.int .i64 q0] W fun e w' => e = .returned (.int .i64 g) ∧ w' = W))
    (E2 : Hid (∀ W, Calls Tryd.prog 7 #[.int .i64 q1] W fun e w' => e = .returned (.int .i64 h) ∧ w' = W))
    (A1 : Hid (∀ W, Calls Tryd.prog 8 #[.int .i64 s, .int .i64 0, .int .i64 1152921504606845789] W fun r w' => r = .returned (.int .i64 e) ∧ w' = W))
    (P1 : Hid (∀ W, Calls Tryd.prog 10 #[.int .i64 g, .int .i64 e, .int .i64 2305843009213691579] W fun e w' => e = .returned (.int .i64 a) ∧ Below W.heap.size W w'))
    (P2 : Hid (∀ W, Calls Tryd.prog 10 #[.int .i64 h, .int .i64 e, .int .i64 2305843009213691579] W fun e w' => e = .returned (.int .i64 b) ∧ Below W.heap.size W w'))
    (C1 : Hid (∀ W, TS W → Calls Tryd.prog 11 #[.int .i64 s, .int .i64 g, .int .i64 h] W fun e w' => e = .returned (pfv c z) ∧ Below W.heap.size W w'))
    (V1 : Hid (∀ W, TS W → Calls Tryd.prog 9 #[.int .i64 g, .int .i64 a, .int .i64 h, .int .i64 b, pfv c z] W fun e w' => e = .returned (.bool true) ∧ Below W.heap.size W w'))
    (V2 : Hid (∀ W, TS W → Calls Tryd.prog 9 #[.int .i64 g, .int .i64 a, .int .i64 h, .int .i64 b, pfv cs z] W fun e w' => e = .returned (.bool false) ∧ Below W.heap.size W w'))
    (V3 : Hid (∀ W, TS W → Calls Tryd.prog 9 #[.int .i64 g, .int .i64 da, .int .i64 h, .int .i64 b, pfv c z] W fun e w' => e = .returned (.bool false) ∧ Below W.heap.size W w'))
    (V4 : Hid (∀ W, TS W → Calls Tryd.prog 9 #[.int .i64 g, .int .i64 a, .int .i64 h, .int .i64 db, pfv c z] W fun e w' => e = .returned (.bool false) ∧ Below W.heap.size W w'))
    (V5 : Hid (∀ W, TS W → Calls Tryd.prog 9 #[.int .i64 dg, .int .i64 a, .int .i64 h, .int .i64 b, pfv c z] W fun e w' => e = .returned (.bool false) ∧ Below W.heap.size W w'))
    (V6 : Hid (∀ W, TS W → Calls Tryd.prog 9 #[.int .i64 g, .int .i64 a, .int .i64 0, .int .i64 b, pfv c z] W fun e w' => e = .returned (.bool false) ∧ Below W.heap.size W w'))
    (V7 : Hid (∀ W, TS W → Calls Tryd.prog 9 #[.int .i64 g, .int .i64 aa, .int .i64 h, .int .i64 b, pfv c z] W fun e w' => e = .returned (.bool false) ∧ Below W.heap.size W w'))
    (hT : TS w) : Calls Tryd.prog 5 #[.int .i64 s, .agg #[.int .i64 q0, .int .i64 q1], .int .u8 n] w fun e w' => e = .returned (.bool true) ∧ Below w.heap.size w w' := by
  have yca : IntKind.i64.wrap (c + 1152921504606845789) = ca := (IntWalk.i64_in _ ⟨by omega, by omega⟩).trans xca
  have vca : wrap64 (c + 1152921504606845789) = ca := by rw [xca]; unfold wrap64; omega
  have yza : IntKind.i64.wrap (z + 1152921504606845789) = za := (IntWalk.i64_in _ ⟨by omega, by omega⟩).trans xza
  have vza : wrap64 (z + 1152921504606845789) = za := by rw [xza]; unfold wrap64; omega
  have ycs : IntKind.i64.wrap (c - 1152921504606845789) = cs := (IntWalk.i64_in _ ⟨by omega, by omega⟩).trans xcs
  have vcs : wrap64 (c - 1152921504606845789) = cs := by rw [xcs]; unfold wrap64; omega
  have yzs : IntKind.i64.wrap (z - 1152921504606845789) = zs := (IntWalk.i64_in _ ⟨by omega, by omega⟩).trans xzs
  have vzs : wrap64 (z - 1152921504606845789) = zs := by rw [xzs]; unfold wrap64; omega
  have yda : IntKind.i64.wrap (2305843009213691579 - a) = da := (IntWalk.i64_in _ ⟨by omega, by omega⟩).trans xda
  have vda : wrap64 (2305843009213691579 - a) = da := by rw [xda]; unfold wrap64; omega
  have ydb : IntKind.i64.wrap (2305843009213691579 - b) = db := (IntWalk.i64_in _ ⟨by omega, by omega⟩).trans xdb
  have vdb : wrap64 (2305843009213691579 - b) = db := by rw [xdb]; unfold wrap64; omega
  have ydg : IntKind.i64.wrap (2305843009213691579 - g) = dg := (IntWalk.i64_in _ ⟨by omega, by omega⟩).trans xdg
  have vdg : wrap64 (2305843009213691579 - g) = dg := by rw [xdg]; unfold wrap64; omega
  have yaa : IntKind.i64.wrap (a + 2305843009213691579) = aa := (IntWalk.i64_in _ ⟨by omega, by omega⟩).trans xaa
  have vaa : wrap64 (a + 2305843009213691579) = aa := by rw [xaa]; unfold wrap64; omega
  clear xca xza xcs xzs xda xdb xdg xaa hc0 hc1 hz0 hz1 ha0 ha1 hb0 hb1 hg0 hg1
  have HT := sk_start hT; clear hT
  obtain ⟨W, hW⟩ : ∃ W, w.alloc (.cells #[.int .i64 q0, .int .i64 q1] 32) = W := ⟨_, rfl⟩
  have HT := HT.next (show Below w.heap.size w W by rw [← hW]; exact (Below.refl _ w).alloc (Nat.le_refl _) _)
  have d0 : W.cell? ⟨w.heap.size, 0, none⟩ = some (.int .i64 q0) := by rw [← hW]; exact World.cell?_alloc_at _ _ _ _ rfl
  have d1 : W.cell? ⟨w.heap.size, 1, none⟩ = some (.int .i64 q1) := by rw [← hW]; exact World.cell?_alloc_at _ _ _ _ rfl
  obtain ⟨p, hp⟩ : ∃ p, w.heap.size = p := ⟨_, rfl⟩
  rw [hp] at d0 d1
  have HT := Lib.hid (And.intro HT (And.intro d0 d1)); clear d0 d1
  go_enter Tryd.func5, Tryd.ntmps5
  go_upto_region 1 with fail
  clear hW
  go_wp2_with fail
  refine (S0.out _ HT.out.1.t).mono ?_
  rintro r w1 ⟨rfl, b1⟩
  have K1 := Lib.hid (two_keep HT.out b1); clear b1 HT
  obtain ⟨k0, d0, d1⟩ := K1.out
  go_wp2_with fail
  go_region_held3 (fun w' => SK w w' [] ∧ w'.cell? ⟨p, 0, none⟩ = some (.int .i64 q0) ∧ w'.cell? ⟨p, 1, none⟩ = some (.int .i64 q1))
    (first | assumption | exact ⟨k0.next (Below.drew (Below.refl _ _)), d0, d1⟩ | exact ⟨k0, d0, d1⟩)
    (first
      | (go_at_call_of 7 (Value.int .i64 q0); refine (E1.out _).mono ?_; rintro e w' ⟨rfl, rfl⟩)
      | (go_at_call_of 7 (Value.int .i64 q1); refine (E2.out _).mono ?_; rintro e w' ⟨rfl, rfl⟩))
  have K2 : Hid (SK w w1.drew []) := Lib.hid (k0.next (Below.drew (Below.refl _ _)))
  clear k0 d0 d1 E1 E2 K1
  generalize w1.drew = w2 at *
  go_wp2_with fail
  refine (A1.out _).mono ?_
  rintro r w4 ⟨rfl, rfl⟩
  go_wp2_with fail
  refine (P1.out _).mono ?_
  rintro r w5 ⟨rfl, b1⟩
  have K3 := Lib.hid (K2.out.next b1); clear b1 K2
  go_wp2_with fail
  refine (P2.out _).mono ?_
  rintro r w6 ⟨rfl, b1⟩
  have K4 := Lib.hid (K3.out.next b1); clear b1 K3
  go_wp2_with fail
  refine (C1.out _ K4.out.t).mono ?_
  rintro r w7 ⟨rfl, b1⟩
  have K5 := Lib.hid (K4.out.next b1); clear b1 K4
  have m7 := PM.new w7 0 0
  have hi7 := infoP c z
  go_upto_region 6 with (refine wpList_store_row rfl 27 (.tmp 13) (.tmp 33) rfl w7.heap.size #[.int .i64 c, .int .i64 z] rfl rfl 27 _ m7 hi7.out (two_size _ _ _ _) (pf_one _ _) ?_)
  clear m7 hi7
  have K6 := Lib.hid (K5.out.push c z); clear K5
  try change Code.wp _ _ _ _ ((w7.alloc (.cells #[.int .i64 0, .int .i64 0] 27)).setRow w7.heap.size #[.int .i64 c, .int .i64 z])
  generalize hq : (w7.alloc (.cells #[.int .i64 0, .int .i64 0] 27)).setRow w7.heap.size #[.int .i64 c, .int .i64 z] = v7 at *
  clear hq
  have e0 := (K6.out.get w7.heap.size c z (by simp)).c0
  have e1 := (K6.out.get w7.heap.size c z (by simp)).c1
  go_upto_region 7 with fail
  clear e0 e1
  have Bf : Below v7.heap.size v7 ((v7.alloc (.cells #[.int .i64 ca, .int .i64 z, .int .i64 c, .int .i64 za, .int .i64 cs, .int .i64 z, .int .i64 c, .int .i64 zs] 27)).alloc (.cells #[.int .i64 (cs), .int .i64 (z)] 27)) := ((Below.refl _ v7).alloc (Nat.le_refl _) _).alloc (by simp) _
  have Mf := PM.new (v7.alloc (.cells #[.int .i64 ca, .int .i64 z, .int .i64 c, .int .i64 za, .int .i64 cs, .int .i64 z, .int .i64 c, .int .i64 zs] 27)) (cs) (z)
  have zf : (v7.alloc (.cells #[.int .i64 ca, .int .i64 z, .int .i64 c, .int .i64 za, .int .i64 cs, .int .i64 z, .int .i64 c, .int .i64 zs] 27)).heap.size = v7.heap.size + 1 := by simp
  rw [zf] at Mf
  change Code.wp _ _ _ _ ((v7.alloc (.cells #[.int .i64 ca, .int .i64 z, .int .i64 c, .int .i64 za, .int .i64 cs, .int .i64 z, .int .i64 c, .int .i64 zs] 27)).alloc (.cells #[.int .i64 (cs), .int .i64 (z)] 27))
  clear zf
  generalize (v7.alloc (.cells #[.int .i64 ca, .int .i64 z, .int .i64 c, .int .i64 za, .int .i64 cs, .int .i64 z, .int .i64 c, .int .i64 zs] 27)).alloc (.cells #[.int .i64 (cs), .int .i64 (z)] 27) = v8 at *
  have KM : Hid (SK w v8 [(v7.heap.size + 1, cs, z), (w7.heap.size, c, z)]) := Lib.hid ⟨(K6.out.next Bf).t, (K6.out.next Bf).b, fun p hp => by
    rcases List.mem_cons.1 hp with rfl | hp
    · exact Mf
    · exact (K6.out.next Bf).s p hp⟩
  clear K6 Bf Mf
  have q0 := (KM.out.get (w7.heap.size) (c) (z) (by simp)).c0
  have q1 := (KM.out.get (w7.heap.size) (c) (z) (by simp)).c1
  go_wp2_with fail
  clear q0 q1
  refine (V1.out _ KM.out.t).mono ?_
  rintro r w9 ⟨rfl, b9⟩
  have N1 := Lib.hid (KM.out.next b9); clear b9 KM
  have q0 := (N1.out.get (v7.heap.size + 1) (cs) (z) (by simp)).c0
  have q1 := (N1.out.get (v7.heap.size + 1) (cs) (z) (by simp)).c1
  go_wp2_with fail
  clear q0 q1
  refine (V2.out _ N1.out.t).mono ?_
  rintro r w9 ⟨rfl, b9⟩
  have N2 := Lib.hid (N1.out.next b9); clear b9 N1
  have q0 := (N2.out.get (w7.heap.size) (c) (z) (by simp)).c0
  have q1 := (N2.out.get (w7.heap.size) (c) (z) (by simp)).c1
  go_wp2_with fail
  clear q0 q1
  refine (V3.out _ N2.out.t).mono ?_
  rintro r w9 ⟨rfl, b9⟩
  have N3 := Lib.hid (N2.out.next b9); clear b9 N2
  have q0 := (N3.out.get (w7.heap.size) (c) (z) (by simp)).c0
  have q1 := (N3.out.get (w7.heap.size) (c) (z) (by simp)).c1
  go_wp2_with fail
  clear q0 q1
  refine (V4.out _ N3.out.t).mono ?_
  rintro r w9 ⟨rfl, b9⟩
  have N4 := Lib.hid (N3.out.next b9); clear b9 N3
  have q0 := (N4.out.get (w7.heap.size) (c) (z) (by simp)).c0
  have q1 := (N4.out.get (w7.heap.size) (c) (z) (by simp)).c1
  go_wp2_with fail
  clear q0 q1
  refine (V5.out _ N4.out.t).mono ?_
  rintro r w9 ⟨rfl, b9⟩
  have N5 := Lib.hid (N4.out.next b9); clear b9 N4
  have q0 := (N5.out.get (w7.heap.size) (c) (z) (by simp)).c0
  have q1 := (N5.out.get (w7.heap.size) (c) (z) (by simp)).c1
  go_wp2_with fail
  clear q0 q1
  refine (V6.out _ N5.out.t).mono ?_
  rintro r w9 ⟨rfl, b9⟩
  have N6 := Lib.hid (N5.out.next b9); clear b9 N5
  have q0 := (N6.out.get (w7.heap.size) (c) (z) (by simp)).c0
  have q1 := (N6.out.get (w7.heap.size) (c) (z) (by simp)).c1
  go_wp2_with fail
  clear q0 q1
  refine (V7.out _ N6.out.t).mono ?_
  rintro r w9 ⟨rfl, b9⟩
  have N7 := Lib.hid (N6.out.next b9); clear b9 N6
  go_wp2
  go_ret
  exact ⟨rfl, N7.out.b⟩
end Go.Proofs.YtdaicfgoahegpaaDoor.E6
