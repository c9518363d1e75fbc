/-
  The walk of the law EqualTexts.
-/
import Derived.Test.YtdaicfgoahegpaaGreatDoorETxt
import Derived.Test.YtdaicfgoahegpaaGreatDoorESanW
import Derived.Deep.DeepCutAuto
import Derived.OwnWalk
import Derived.Lib.UnsafeStr
namespace Go.Proofs.YtdaicfgoahegpaaGreatDoor.E6
open Go.RowKit GM SH G4 DM
theorem bytes_free (w : World) (s : ByteArray) : ∃ cap w1, (convert 9 45 (.string s)).run Tryz.prog w = .ok (.slice (some ⟨w.heap.size, 0, none⟩) s.size cap) w1 ∧ Below w.heap.size w w1 ∧ w1.heap.size = w.heap.size + 1 ∧ s.size ≤ cap ∧
    (∀ j (h : j < s.size), w1.cell? ⟨w.heap.size, j, none⟩ = some (.int .u8 ((s[j]'h).toNat : Nat))) ∧ (∀ j, j < s.size → w1.frozen? ⟨w.heap.size, j, none⟩ = false) := by
  have h := run_bytes_of_string w 9 45 5 s Tryz.underlying9 Tryz.underlying45 Tryz.underlying5
  obtain ⟨cap, hcap⟩ : ∃ cap, cap = grownCap w s.size 0 5 := ⟨_, rfl⟩
  rw [← hcap] at h
  have hh : (w.drew.alloc (.cells (bytesRow s cap) 5 ((bytesRow s cap).size, (bytesRow s cap).size + 1))).heap[w.heap.size]? = some (.cells (bytesRow s cap) 5 ((bytesRow s cap).size, (bytesRow s cap).size + 1)) := by
    show (w.heap.push _)[w.heap.size]? = _
    simp
  refine ⟨cap, _, h, (Below.refl _ w).drew.alloc (Nat.le_refl _) _, ?_, by rw [hcap]; exact grownCap_ge _ _ _ _, fun j hj => ?_, fun j hj => ?_⟩
  · show (w.heap.push _).size = _
    simp
  · rw [Lib.cell_of_heap hh, bytesRow_at _ _ _ hj]; rfl
  · have hsz : s.size ≤ (bytesRow s cap).size := by
      apply Nat.le_of_not_lt; intro h2
      have h3 := bytesRow_at s cap (bytesRow s cap).size h2
      rw [Array.getElem?_eq_none (Nat.le_refl _)] at h3; cases h3
    unfold World.frozen?
    rw [hh]
    simp
    omega
/-- bytes that lie in a row, as a string again -/
theorem bytes_back (W : World) (p n cap : Nat) (hc : ∀ j, j < n → ∃ b : UInt8, W.cell? ⟨p, j, none⟩ = some (.int .u8 (b.toNat : Nat))) (hp : p < W.heap.size) :
    ∃ S2 : ByteArray, S2.size = n ∧ ∀ W', Below (p+1) W W' → (convert 45 9 (.slice (some ⟨p, 0, none⟩) n cap)).run Tryz.prog W' = .ok (.string S2) W' := by
  have hc2 : ∀ j, ∃ b : UInt8, j < n → W.cell? ⟨p, j, none⟩ = some (.int .u8 (b.toNat : Nat)) := fun j => by
    by_cases h : j < n
    · obtain ⟨b, hb⟩ := hc j h; exact ⟨b, fun _ => hb⟩
    · exact ⟨0, fun h2 => absurd h2 h⟩
  obtain ⟨f, hf⟩ := Classical.axiomOfChoice hc2
  refine ⟨⟨((List.range n).map f).toArray⟩, by show ((List.range n).map f).toArray.size = n; simp, fun W' hB => ?_⟩
  have h := run_convert_bytes_back (P := Tryz.prog) W' 45 9 5 ⟨p, 0, none⟩ cap ((List.range n).map f) Tryz.underlying45 Tryz.underlying5 Tryz.underlying9 (fun j hj => by
    have hj2 : j < n := by simpa using hj
    rw [Lib.add_plain, Nat.zero_add, hB.cell (p := ⟨p, j, none⟩) (Nat.lt_succ_self p), hf j hj2]
    simp)
  rwa [show ((List.range n).map f).length = n by simp] at h
theorem txt_size (x y : Int) (hx : i64 x) (hy : i64 y) : (txt x y).size ≤ 43 ∧ 0 < (txt x y).size := by
  have h1 := dcm_size x hx
  have h2 := dcm_size y hy
  have h3 : (txt x y).size = (dcm x).size + 1 + (dcm y).size := by unfold txt; rw [ByteArray.size_append, ByteArray.size_append]; rfl
  omega
theorem cells7s (w : World) (t : TypeId) (N : Nat) (A B C D E F G : ByteArray) (a : A.size ≤ N) (b : B.size ≤ N) (c : C.size ≤ N) (d : D.size ≤ N) (e : E.size ≤ N) (f : F.size ≤ N) (g : G.size ≤ N) : ∀ j, j < 7 → ∃ X : ByteArray, X.size ≤ N ∧
    (w.alloc (.cells #[.string A, .string B, .string C, .string D, .string E, .string F, .string G] t)).cell? ⟨w.heap.size, j, none⟩ = some (.string X) := by
  intro j hj
  rw [World.cell?_alloc_at _ _ _ _ rfl]
  match j, hj with
  | 0, _ => exact ⟨A, a, rfl⟩
  | 1, _ => exact ⟨B, b, rfl⟩
  | 2, _ => exact ⟨C, c, rfl⟩
  | 3, _ => exact ⟨D, d, rfl⟩
  | 4, _ => exact ⟨E, e, rfl⟩
  | 5, _ => exact ⟨F, f, rfl⟩
  | 6, _ => exact ⟨G, g, rfl⟩
/-- what the walk keeps: the tables, the frame, the two boxes -/
structure TK (w W : World) (p : Nat) (C Z q0 q1 : Int) : Prop where
  t : TS W
  b : Below w.heap.size w W
  m : PM W p C Z
  c0 : W.cell? ⟨p + 1, 0, none⟩ = some (.int .u16 q0)
  c1 : W.cell? ⟨p + 1, 1, none⟩ = some (.int .u16 q1)
theorem TK.next {w u v : World} {p : Nat} {C Z q0 q1 : Int} (h : TK w u p C Z q0 q1) (k : Below u.heap.size u v) : TK w v p C Z q0 q1 :=
  ⟨h.t.below k, h.b.trans (k.mono h.b.size), h.m.next k, (k.cell (p := ⟨p + 1, 0, none⟩) (World.block_lt_of_cell? _ _ h.c0)).trans h.c0, (k.cell (p := ⟨p + 1, 1, none⟩) (World.block_lt_of_cell? _ _ h.c1)).trans h.c1⟩
theorem tk_start {w : World} (hT : TS w) (C Z q0 q1 : Int) : TK w ((w.alloc (.cells #[.int .i64 C, .int .i64 Z] 25)).alloc (.cells #[.int .u16 q0, .int .u16 q1] 41)) w.heap.size C Z q0 q1 := by
  have b1 : Below w.heap.size w (w.alloc (.cells #[.int .i64 C, .int .i64 Z] 25)) := (Below.refl _ w).alloc (Nat.le_refl _) _
  have m1 := PM.new w C Z
  have z1 : (w.alloc (.cells #[.int .i64 C, .int .i64 Z] 25)).heap.size = w.heap.size + 1 := by simp
  generalize w.alloc (.cells #[.int .i64 C, .int .i64 Z] 25) = u at *
  have b2 := b1.alloc (by omega) (.cells #[.int .u16 q0, .int .u16 q1] 41)
  refine ⟨hT.below b2, b2, m1.alloc _, ?_, ?_⟩
  · rw [← z1]; exact World.cell?_alloc_at _ _ _ _ rfl
  · rw [← z1]; exact World.cell?_alloc_at _ _ _ _ rfl
set_option maxRecDepth 100000 in
set_option maxHeartbeats 8000000 in
theorem texts_core (w : World) (C Z q0 q1 : Int) (raw T : ByteArray) (hq0 : 0 ≤ q0 ∧ q0 ≤ 65535) (hq1 : 0 ≤ q1 ∧ q1 ≤ 65535) (hraw : raw.size ≤ 140737488355300) (hT1 : T.size ≤ 43) (hT0 : 0 < T.size)
    (S0 : Hid (∀ W, TS W → Calls Tryz.prog 8 #[] W fun e w' => e = .returned (.bool true) ∧ Below W.heap.size W w'))
    (X1 : Hid (∀ W, TS W → Calls Tryz.prog 19 #[pfv C Z] W fun e w' => e = .returned (.string T) ∧ Below W.heap.size W w'))
    (X2 : Hid (∀ W, TS W → Calls Tryz.prog 21 #[pfv C Z] W fun e w' => e = .returned (.string T) ∧ Below W.heap.size W w'))
    (R0 : Hid (∀ W, TS W → Calls Tryz.prog 20 #[.string T] W fun e w' => e = .returned (.tuple #[pfv C Z, .bool true]) ∧ Below W.heap.size W w'))
    (RR : Hid (∀ t : ByteArray, t.size ≤ 281474976710656 → ∃ (x y : Int) (o : Bool), ∀ W, TS W → Calls Tryz.prog 20 #[.string t] W (fun e w' => e = .returned (.tuple #[pfv x y, .bool o]) ∧ Below W.heap.size W w') ∧ Calls Tryz.prog 22 #[.string t] W (fun e w' => e = .returned (.tuple #[pfv x y, .bool o]) ∧ Below W.heap.size W w')))
    (hT : TS w) :
    Calls Tryz.prog 7 #[pfv C Z, .string raw, .agg #[.int .u16 q0, .int .u16 q1]] w fun e w' => e = .returned (.bool true) ∧ Below w.heap.size w w' := by
  have HT := tk_start hT C Z q0 q1
  obtain ⟨W, hW⟩ : ∃ W, (w.alloc (.cells #[.int .i64 C, .int .i64 Z] 25)).alloc (.cells #[.int .u16 q0, .int .u16 q1] 41) = W := ⟨_, rfl⟩
  rw [hW] at HT
  obtain ⟨p, hp⟩ : ∃ p, w.heap.size = p := ⟨_, rfl⟩
  rw [hp] at HT
  have HT := Lib.hid HT
  clear hT
  go_enter Tryz.func7, Tryz.ntmps7
  go_upto_region 1 with fail
  clear hW
  go_wp2_with fail
  refine (S0.out _ HT.out.t).mono ?_
  rintro r w1 ⟨rfl, b1⟩
  have K1 := Lib.hid (HT.out.next b1); clear b1 HT
  have e0 := K1.out.m.c0
  have e1 := K1.out.m.c1
  go_wp2_with fail
  clear e0 e1
  refine (X1.out _ K1.out.t).mono ?_
  rintro r w2 ⟨rfl, b1⟩
  have K2 := Lib.hid (K1.out.next b1); clear b1 K1
  go_wp2_with fail
  refine (R0.out _ K2.out.t).mono ?_
  rintro r w3 ⟨rfl, b1⟩
  have K3 := Lib.hid (K2.out.next b1); clear b1 K2
  have m7 := PM.new w3 0 0
  have hi7 := infoP C Z
  go_upto_region 4 with (refine wpList_store_row rfl 25 (.tmp 9) (.tmp 24) rfl w3.heap.size #[.int .i64 C, .int .i64 Z] rfl rfl 25 _ m7 hi7.out (two_size _ _ _ _) (pf_one _ _) ?_)
  have b3 : Below w3.heap.size w3 ((w3.alloc (.cells #[.int .i64 0, .int .i64 0] 25)).setRow w3.heap.size #[.int .i64 C, .int .i64 Z]) := Below.setRow' ((Below.refl w3.heap.size w3).alloc (Nat.le_refl _) _) (Nat.le_refl _) _
  have m3 : PM ((w3.alloc (.cells #[.int .i64 0, .int .i64 0] 25)).setRow w3.heap.size #[.int .i64 C, .int .i64 Z]) w3.heap.size C Z := setRow_heap _ _ _ _ _ _ m7
  clear m7 hi7
  have K4 := Lib.hid (And.intro (K3.out.next b3) m3); clear b3 m3 K3
  try change Code.wp _ _ _ _ ((w3.alloc (.cells #[.int .i64 0, .int .i64 0] 25)).setRow w3.heap.size #[.int .i64 C, .int .i64 Z])
  generalize hq5 : (w3.alloc (.cells #[.int .i64 0, .int .i64 0] 25)).setRow w3.heap.size #[.int .i64 C, .int .i64 Z] = v3 at *
  clear hq5
  generalize w3.heap.size = m0 at *
  have e0 := K4.out.1.m.c0
  have e1 := K4.out.1.m.c1
  go_wp2_with fail
  clear e0 e1
  refine (X2.out _ K4.out.1.t).mono ?_
  rintro r w4 ⟨rfl, b1⟩
  have K5 := Lib.hid (And.intro (K4.out.1.next b1) (K4.out.2.next b1)); clear b1 K4
  have e0 := K5.out.1.m.c0
  have e1 := K5.out.1.m.c1
  have f0 := K5.out.2.c0
  have f1 := K5.out.2.c1
  obtain ⟨cap, W5, hcv, hB5, hs5, hcap, hcell, hfree⟩ := bytes_free w4 T
  have K6 := Lib.hid (K5.out.1.next (hB5.mono (Nat.le_refl _)))
  have HC := Lib.hid (And.intro hcell hfree)
  clear hcell hfree
  go_wp2_with fail
  clear e0 e1 f0 f1
  obtain ⟨i, hi⟩ : ∃ i : Nat, i = q0.toNat % T.size := ⟨_, rfl⟩
  have hiS : i < T.size := by rw [hi]; exact Nat.mod_lt _ hT0
  have hci := HC.out.1 i hiS
  have hfi := HC.out.2 i hiS
  have c0 := K6.out.c0
  have c1 := K6.out.c1
  have x0 : IntKind.i64.wrap q0 = q0 := IntWalk.i64_in _ ⟨by omega, by omega⟩
  have x8 : IntKind.u8.wrap q1 = q1 % 256 := IntKind.wrap_u8 _
  have xr2 : Int.tmod q0 (T.size : Int) = (i : Int) := by
    rw [hi, Int.tmod_eq_emod_of_nonneg hq0.1, Int.natCast_emod, Int.toNat_of_nonneg hq0.1]
  have hzn : ¬ T.size = 0 := by omega
  have hzn2 : (T.size == 0) = false := beq_eq_false_iff_ne.2 hzn
  have hz0 : ((T.size : Int) == 0) = false := beq_eq_false_iff_ne.2 (by omega)
  have hi0 : (0 : Int) ≤ (i : Int) := by omega
  have hi1 : (i : Int) < (T.size : Int) := by omega
  have HI := Lib.hid (And.intro hi (And.intro hq0 hq1)); clear hi hq0 hq1
  go_cut [42] from 41 to 52 (fun _ wx => wx = (W5.setCell ⟨w4.heap.size, i, none⟩ (.int .u8 (q1 % 256))).drew)
  case first => go_region; all_goals (go_wp2_with fail; go_meet; exact rfl)
  case rest =>
  obtain rfl := hcut
  have hB7 : Below w4.heap.size w4 (W5.setCell ⟨w4.heap.size, i, none⟩ (.int .u8 (q1 % 256))).drew := (hB5.setCell (p := ⟨w4.heap.size, i, none⟩) (Nat.le_refl _) _).drew
  have K7 := Lib.hid (K5.out.1.next hB7)
  obtain ⟨S2, hz2, hS2⟩ := bytes_back (W5.setCell ⟨w4.heap.size, i, none⟩ (.int .u8 (q1 % 256))).drew w4.heap.size T.size cap (fun j hj => by
    show ∃ b : UInt8, (W5.setCell ⟨w4.heap.size, i, none⟩ (.int .u8 (q1 % 256))).cell? ⟨w4.heap.size, j, none⟩ = some (.int .u8 (b.toNat : Nat))
    by_cases e : j = i
    · subst e
      refine ⟨UInt8.ofNat (q1 % 256).toNat, ?_⟩
      rw [World.cell?_setCell_same _ _ _ hci]
      congr 2
      simp
      omega
    · exact ⟨_, by rw [World.cell?_setCell_other _ _ _ _ (by intro h; injection h with h1 h2; exact e h2.symm)]; exact HC.out.1 j hj⟩) (by show w4.heap.size < (W5.setCell _ _).heap.size; simp; omega)
  have hl7 : w4.heap.size + 1 ≤ (W5.setCell ⟨w4.heap.size, i, none⟩ (.int .u8 (q1 % 256))).drew.heap.size := by show _ ≤ (W5.setCell _ _).heap.size; simp; omega
  clear hci hfi c0 c1 x0 x8 xr2 hzn hzn2 hz0 hi0 hi1 hB5 hB7 hs5 hcap HC hcv K5 K6
  generalize (W5.setCell ⟨w4.heap.size, i, none⟩ (.int .u8 (q1 % 256))).drew = W7 at *
  generalize w4.heap.size = m4 at *
  have hs1 : (1 : Int) ≤ (T.size : Int) := by omega
  have hL1 : (9223372036854775807 < 1 + T.size) = False := eq_false (by omega)
  have hL2 : (9223372036854775807 < T.size + 1) = False := eq_false (by omega)
  have hL3 : (9223372036854775807 < T.size + raw.size) = False := eq_false (by omega)
  have HZ := Lib.hid (And.intro hz2 (And.intro hT1 hraw)); clear hz2 hT1 hraw
  go_wp2_with fail
  go_region_held3 (fun W => (convert 45 9 (.slice (some ⟨m4, 0, none⟩) T.size cap)).run Tryz.prog W = .ok (.string S2) W) (first | exact hS2 _ ((Below.refl _ _).drew) | exact hS2 _ (((Below.refl _ _).drew).alloc hl7 _)) (fail)
  have hc8 := cells7s W7 9 281474976710656 S2 raw (T ++ raw) (⟨#[48]⟩ ++ T) (T ++ ⟨#[48]⟩) (T.extract 1 T.size) (⟨#[45]⟩ ++ T)
    (by have := HZ.out; omega) (by have := HZ.out; omega) (by have := HZ.out; rw [ByteArray.size_append]; omega) (by have := HZ.out; rw [ByteArray.size_append]; show 1 + T.size ≤ _; omega) (by have := HZ.out; rw [ByteArray.size_append]; show T.size + 1 ≤ _; omega) (by have := HZ.out; have := ext_size T 1 T.size; omega) (by have := HZ.out; rw [ByteArray.size_append]; show 1 + T.size ≤ _; omega)
  replace hc8 := fun j hj => (show ∃ X : ByteArray, X.size ≤ 281474976710656 ∧ (W7.alloc (.cells #[.string S2, .string raw, .string (T ++ raw), .string (⟨#[48]⟩ ++ T), .string (T ++ ⟨#[48]⟩), .string (T.extract 1 T.size), .string (⟨#[45]⟩ ++ T)] 9)).drew.cell? ⟨W7.heap.size, j, none⟩ = some (.string X) from hc8 j hj)
  have K8 := Lib.hid (K7.out.next (((Below.refl _ W7).alloc (Nat.le_refl _) (.cells #[.string S2, .string raw, .string (T ++ raw), .string (⟨#[48]⟩ ++ T), .string (T ++ ⟨#[48]⟩), .string (T.extract 1 T.size), .string (⟨#[45]⟩ ++ T)] 9)).drew))
  have HC8 := Lib.hid hc8
  clear hc8 hs1 hL1 hL2 hL3 hS2 hl7 K7 hiS hT0
  generalize (W7.alloc (.cells #[.string S2, .string raw, .string (T ++ raw), .string (⟨#[48]⟩ ++ T), .string (T ++ ⟨#[48]⟩), .string (T.extract 1 T.size), .string (⟨#[45]⟩ ++ T)] 9)).drew = W8 at *
  generalize W7.heap.size = g at *
  go_wp2_with fail
  go_loopw [68] (fun i wr => ∃ (j : Nat), j ≤ 7 ∧ i = .int .i64 (j : Int) ∧ Hid (TK w wr p C Z q0 q1 ∧ Below W8.heap.size W8 wr)) (fun i _ => 7 - (match i with | .int _ i => i.toNat | _ => 0))
  case atStart => exact ⟨0, by omega, rfl, Lib.hid ⟨K8.out, Below.refl _ _⟩⟩
  case round =>
    obtain ⟨j, hj, rfl, hK⟩ := hrel
    by_cases hlj : j < 7
    · obtain ⟨X, sX, c0⟩ := HC8.out j hlj
      have d0 := (hK.out.2.cell (p := ⟨g, j, none⟩) (World.block_lt_of_cell? _ _ c0)).trans c0
      clear c0
      obtain ⟨x, y, o, hxy⟩ := RR.out X sX
      have N1 := Lib.hid fun W t => (hxy W t).1
      have N2 := Lib.hid fun W t => (hxy W t).2
      clear hxy sX
      go_wp2_with fail
      clear d0
      refine (N1.out _ hK.out.1.t).mono ?_
      rintro e w5 ⟨rfl, b5⟩
      have K9 := Lib.hid (And.intro (hK.out.1.next b5) (hK.out.2.trans (b5.mono hK.out.2.size))); clear b5
      have m7 := PM.new w5 0 0
      have hi7 := infoP x y
      go_upto_region 12 with (refine wpList_store_row rfl 25 (.tmp 14) (.tmp 75) rfl w5.heap.size #[.int .i64 x, .int .i64 y] rfl rfl 25 _ m7 hi7.out (two_size _ _ _ _) (pf_one _ _) ?_)
      have b3 : Below w5.heap.size w5 ((w5.alloc (.cells #[.int .i64 0, .int .i64 0] 25)).setRow w5.heap.size #[.int .i64 x, .int .i64 y]) := Below.setRow' ((Below.refl w5.heap.size w5).alloc (Nat.le_refl _) _) (Nat.le_refl _) _
      have m3 : PM ((w5.alloc (.cells #[.int .i64 0, .int .i64 0] 25)).setRow w5.heap.size #[.int .i64 x, .int .i64 y]) w5.heap.size x y := setRow_heap _ _ _ _ _ _ m7
      have KA := Lib.hid (And.intro (K9.out.1.next b3) (And.intro (K9.out.2.trans (b3.mono K9.out.2.size)) m3)); clear b3 m3 K9 m7
      try change Code.wp _ _ _ _ ((w5.alloc (.cells #[.int .i64 0, .int .i64 0] 25)).setRow w5.heap.size #[.int .i64 x, .int .i64 y])
      generalize hq5 : (w5.alloc (.cells #[.int .i64 0, .int .i64 0] 25)).setRow w5.heap.size #[.int .i64 x, .int .i64 y] = v5 at *
      clear hq5
      generalize w5.heap.size = a1 at *
      go_wp2_with fail
      refine (N2.out _ KA.out.1.t).mono ?_
      rintro e w6 ⟨rfl, b5⟩
      have KB := Lib.hid (And.intro (KA.out.1.next b5) (And.intro (KA.out.2.1.trans (b5.mono KA.out.2.1.size)) (KA.out.2.2.next b5))); clear b5 KA
      have m7 := PM.new w6 0 0
      go_upto_region 13 with (refine wpList_store_row rfl 25 (.tmp 16) (.tmp 80) rfl w6.heap.size #[.int .i64 x, .int .i64 y] rfl rfl 25 _ m7 hi7.out (two_size _ _ _ _) (pf_one _ _) ?_)
      have b3 : Below w6.heap.size w6 ((w6.alloc (.cells #[.int .i64 0, .int .i64 0] 25)).setRow w6.heap.size #[.int .i64 x, .int .i64 y]) := Below.setRow' ((Below.refl w6.heap.size w6).alloc (Nat.le_refl _) _) (Nat.le_refl _) _
      have m3 : PM ((w6.alloc (.cells #[.int .i64 0, .int .i64 0] 25)).setRow w6.heap.size #[.int .i64 x, .int .i64 y]) w6.heap.size x y := setRow_heap _ _ _ _ _ _ m7
      have KC := Lib.hid (And.intro (KB.out.1.next b3) (And.intro (KB.out.2.1.trans (b3.mono KB.out.2.1.size)) (And.intro (KB.out.2.2.next b3) m3))); clear b3 m3 KB m7 hi7
      try change Code.wp _ _ _ _ ((w6.alloc (.cells #[.int .i64 0, .int .i64 0] 25)).setRow w6.heap.size #[.int .i64 x, .int .i64 y])
      generalize hq5 : (w6.alloc (.cells #[.int .i64 0, .int .i64 0] 25)).setRow w6.heap.size #[.int .i64 x, .int .i64 y] = v6 at *
      clear hq5
      generalize w6.heap.size = a2 at *
      have e0 := KC.out.2.2.1.c0
      have e1 := KC.out.2.2.1.c1
      have f0 := KC.out.2.2.2.c0
      have f1 := KC.out.2.2.2.c1
      have KD := Lib.hid (And.intro KC.out.1 KC.out.2.1); clear KC
      go_wp2
      exact ⟨⟨j + 1, by omega, by simp, KD⟩, by simp; omega⟩
    · obtain rfl : j = 7 := by omega
      have hF := Lib.hid hK.out.1.b
      go_wp2
      go_ret
      exact ⟨rfl, hF.out⟩
theorem texts_walk (w : World) (C Z : Int) (raw : ByteArray) (q0 q1 : Int) (hC : i64 C) (hZ : i64 Z) (hraw : raw.size ≤ 140737488355300) (hq0 : 0 ≤ q0 ∧ q0 ≤ 65535) (hq1 : 0 ≤ q1 ∧ q1 ≤ 65535) (hT : TS w) :
    Calls Tryz.prog 7 #[pfv C Z, .string raw, .agg #[.int .u16 q0, .int .u16 q1]] w fun e w' => e = .returned (.bool true) ∧ Below w.heap.size w w' := by
  have hz := txt_size C Z hC hZ
  have hr := rd_both (txt C Z) C Z hC hZ (txt_list C Z)
  exact texts_core w C Z q0 q1 raw (txt C Z) hq0 hq1 hraw hz.1 hz.2 (Lib.hid fun W t => sanity_any W t) (Lib.hid fun W t => Text_any W C Z hC hZ t) (Lib.hid fun W t => refText_any W C Z hC hZ t)
    (Lib.hid fun W t => by
      have := Read_big W (txt C Z) (by omega) t
      rwa [hr.1, hr.2] at this)
    (Lib.hid fun t ht => by
      obtain ⟨x, y, hxy⟩ : ∃ x y, rdv t = pfv x y := by
        unfold rdv; split
        · exact ⟨_, _, rfl⟩
        · exact ⟨_, _, rfl⟩
      exact ⟨x, y, rdOk t, fun W k => ⟨by rw [← hxy]; exact Read_big W t ht k, by rw [← hxy]; exact refRead_any W t ht⟩⟩) hT
end Go.Proofs.YtdaicfgoahegpaaGreatDoor.E6
