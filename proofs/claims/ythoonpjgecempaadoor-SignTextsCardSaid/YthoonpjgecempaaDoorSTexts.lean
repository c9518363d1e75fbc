/-
  The walk of the law SignTexts.
-/
import Derived.Test.YthoonpjgecempaaDoorSTxt
import Derived.SizedLaws
import Derived.Deep.DeepCutAuto
import Derived.OwnWalk
import Derived.Lib.UnsafeStr
namespace Go.Proofs.YthoonpjgecempaaDoor.S5
open Go.RowKit GM SH G4 DM
theorem bytes_free (w : World) (s : ByteArray) : ∃ cap w1, (convert 9 30 (.string s)).run Tryd.prog w = .ok (.slice (some ⟨w.heap.size, 0, none⟩) s.size cap) w1 ∧ Below w.heap.size w w1 ∧ w1.heap.size = w.heap.size + 1 ∧ s.size ≤ cap ∧
    (∀ j (h : j < s.size), w1.cell? ⟨w.heap.size, j, none⟩ = some (.int .u8 ((s[j]'h).toNat : Nat))) ∧ (∀ j, j < s.size → w1.frozen? ⟨w.heap.size, j, none⟩ = false) := by
  have h := run_bytes_of_string w 9 30 5 s Tryd.underlying9 Tryd.underlying30 Tryd.underlying5
  obtain ⟨cap, hcap⟩ : ∃ cap, cap = grownCap w s.size 0 5 := ⟨_, rfl⟩
  rw [← hcap] at h
  have hh : (w.drew.alloc (.cells (bytesRow s cap) 5 ((bytesRow s cap).size, (bytesRow s cap).size + 1))).heap[w.heap.size]? = some (.cells (bytesRow s cap) 5 ((bytesRow s cap).size, (bytesRow s cap).size + 1)) := by
    show (w.heap.push _)[w.heap.size]? = _
    simp
  refine ⟨cap, _, h, (Below.refl _ w).drew.alloc (Nat.le_refl _) _, ?_, by rw [hcap]; exact grownCap_ge _ _ _ _, fun j hj => ?_, fun j hj => ?_⟩
  · show (w.heap.push _).size = _
    simp
  · rw [Lib.cell_of_heap hh, bytesRow_at _ _ _ hj]; rfl
  · have hsz : s.size ≤ (bytesRow s cap).size := by
      apply Nat.le_of_not_lt; intro h2
      have h3 := bytesRow_at s cap (bytesRow s cap).size h2
      rw [Array.getElem?_eq_none (Nat.le_refl _)] at h3; cases h3
    unfold World.frozen?
    rw [hh]
    simp
    omega
/-- bytes that lie in a row, as a string again -/
theorem bytes_back (W : World) (p n cap : Nat) (hc : ∀ j, j < n → ∃ b : UInt8, W.cell? ⟨p, j, none⟩ = some (.int .u8 (b.toNat : Nat))) (hp : p < W.heap.size) :
    ∃ S2 : ByteArray, S2.size = n ∧ ∀ W', Below (p+1) W W' → (convert 30 9 (.slice (some ⟨p, 0, none⟩) n cap)).run Tryd.prog W' = .ok (.string S2) W' := by
  have hc2 : ∀ j, ∃ b : UInt8, j < n → W.cell? ⟨p, j, none⟩ = some (.int .u8 (b.toNat : Nat)) := fun j => by
    by_cases h : j < n
    · obtain ⟨b, hb⟩ := hc j h; exact ⟨b, fun _ => hb⟩
    · exact ⟨0, fun h2 => absurd h2 h⟩
  obtain ⟨f, hf⟩ := Classical.axiomOfChoice hc2
  refine ⟨⟨((List.range n).map f).toArray⟩, by show ((List.range n).map f).toArray.size = n; simp, fun W' hB => ?_⟩
  have h := run_convert_bytes_back (P := Tryd.prog) W' 30 9 5 ⟨p, 0, none⟩ cap ((List.range n).map f) Tryd.underlying30 Tryd.underlying5 Tryd.underlying9 (fun j hj => by
    have hj2 : j < n := by simpa using hj
    rw [Lib.add_plain, Nat.zero_add, hB.cell (p := ⟨p, j, none⟩) (Nat.lt_succ_self p), hf j hj2]
    simp)
  rwa [show ((List.range n).map f).length = n by simp] at h
theorem txt_size (x y : Int) (hx : i64 x) (hy : i64 y) : (txt x y).size ≤ 43 ∧ 0 < (txt x y).size := by
  have h1 := dcm_size x hx
  have h2 := dcm_size y hy
  have h3 : (txt x y).size = (dcm x).size + 1 + (dcm y).size := by unfold txt; rw [ByteArray.size_append, ByteArray.size_append]; rfl
  omega
theorem cells6s (w : World) (t : TypeId) (N : Nat) (A B C D E F : ByteArray) (a : A.size ≤ N) (b : B.size ≤ N) (c : C.size ≤ N) (d : D.size ≤ N) (e : E.size ≤ N) (f : F.size ≤ N) : ∀ j, j < 6 → ∃ X : ByteArray, X.size ≤ N ∧
    (w.alloc (.cells #[.string A, .string B, .string C, .string D, .string E, .string F] t)).cell? ⟨w.heap.size, j, none⟩ = some (.string X) := by
  intro j hj
  rw [World.cell?_alloc_at _ _ _ _ rfl]
  match j, hj with
  | 0, _ => exact ⟨A, a, rfl⟩
  | 1, _ => exact ⟨B, b, rfl⟩
  | 2, _ => exact ⟨C, c, rfl⟩
  | 3, _ => exact ⟨D, d, rfl⟩
  | 4, _ => exact ⟨E, e, rfl⟩
  | 5, _ => exact ⟨F, f, rfl⟩
/-- what the walk keeps: the tables, the frame, the box of the change -/
structure TK (w W : World) (p : Nat) (tx : ByteArray) (q0 q1 : Int) : Prop where
  t : TS W
  b : Below w.heap.size w W
  c0 : W.cell? ⟨p, 0, none⟩ = some (.string tx)
  c1 : W.cell? ⟨p, 1, none⟩ = some (.int .i64 q0)
  c2 : W.cell? ⟨p, 2, none⟩ = some (.int .u8 q1)
theorem TK.next {w u v : World} {p : Nat} {tx : ByteArray} {q0 q1 : Int} (h : TK w u p tx q0 q1) (k : Below u.heap.size u v) : TK w v p tx q0 q1 :=
  ⟨h.t.below k, h.b.trans (k.mono h.b.size), (k.cell (p := ⟨p, 0, none⟩) (World.block_lt_of_cell? _ _ h.c0)).trans h.c0, (k.cell (p := ⟨p, 1, none⟩) (World.block_lt_of_cell? _ _ h.c1)).trans h.c1, (k.cell (p := ⟨p, 2, none⟩) (World.block_lt_of_cell? _ _ h.c2)).trans h.c2⟩
theorem tk_start {w : World} (hT : TS w) (tx : ByteArray) (q0 q1 : Int) : TK w (w.alloc (.cells #[.string tx, .int .i64 q0, .int .u8 q1] 23)) w.heap.size tx q0 q1 := by
  have b1 : Below w.heap.size w (w.alloc (.cells #[.string tx, .int .i64 q0, .int .u8 q1] 23)) := (Below.refl _ w).alloc (Nat.le_refl _) _
  exact ⟨hT.below b1, b1, World.cell?_alloc_at _ _ _ _ rfl, World.cell?_alloc_at _ _ _ _ rfl, World.cell?_alloc_at _ _ _ _ rfl⟩
set_option maxRecDepth 100000 in
set_option maxHeartbeats 8000000 in
theorem texts_core (w : World) (C Z q0 q1 : Int) (raw T : ByteArray) (i : Nat) (hi : Int.tmod (Int.tmod q0 (T.size : Int) + (T.size : Int)) (T.size : Int) = (i : Int)) (hiS : i < T.size) (hqr : -(T.size : Int) < Int.tmod q0 (T.size : Int) ∧ Int.tmod q0 (T.size : Int) < (T.size : Int)) (hq1 : 0 ≤ q1 ∧ q1 ≤ 255) (hraw : raw.size ≤ 140737488355300) (hT1 : T.size ≤ 43) (hT0 : 0 < T.size)
    (S0 : Hid (∀ W, TS W → Calls Tryd.prog 4 #[] W fun e w' => e = .returned (.bool true) ∧ Below W.heap.size W w'))
    (X1 : Hid (∀ W, TS W → Calls Tryd.prog 5 #[sgv C Z] W fun e w' => e = .returned (.string T) ∧ Below W.heap.size W w'))
    (X2 : Hid (∀ W, TS W → Calls Tryd.prog 7 #[sgv C Z] W fun e w' => e = .returned (.string T) ∧ Below W.heap.size W w'))
    (R0 : Hid (∀ W, TS W → Calls Tryd.prog 6 #[.string T] W fun e w' => e = .returned (.tuple #[sgv C Z, .bool true]) ∧ Below W.heap.size W w'))
    (RR : Hid (∀ t : ByteArray, t.size ≤ 281474976710656 → ∃ (x y : Int) (o : Bool), ∀ W, TS W → Calls Tryd.prog 6 #[.string t] W (fun e w' => e = .returned (.tuple #[sgv x y, .bool o]) ∧ Below W.heap.size W w') ∧ Calls Tryd.prog 8 #[.string t] W (fun e w' => e = .returned (.tuple #[sgv x y, .bool o]) ∧ Below W.heap.size W w')))
    (hT : TS w) :
    Calls Tryd.prog 3 #[.int .i64 C, .int .i64 Z, .agg #[.string raw, .int .i64 q0, .int .u8 q1]] w fun e w' => e = .returned (.bool true) ∧ Below w.heap.size w w' := by
  have HT := tk_start hT raw q0 q1
  obtain ⟨W, hW⟩ : ∃ W, w.alloc (.cells #[.string raw, .int .i64 q0, .int .u8 q1] 23) = W := ⟨_, rfl⟩
  rw [hW] at HT
  obtain ⟨p, hp⟩ : ∃ p, w.heap.size = p := ⟨_, rfl⟩
  rw [hp] at HT
  have HT := Lib.hid HT
  clear hT
  have hi7 := infoS C Z
  go_enter Tryd.func3, Tryd.ntmps3
  go_upto_region 1 with fail
  clear hW
  go_wp2_with fail
  refine (S0.out _ HT.out.t).mono ?_
  rintro r w1 ⟨rfl, b1⟩
  have K1 := Lib.hid (HT.out.next b1); clear b1 HT
  have m7 := SM.new w1 0 0
  go_upto_region 3 with (refine wpList_store_row rfl 26 (.tmp 8) (.tmp 22) rfl w1.heap.size #[.int .i64 C, .int .i64 Z] rfl rfl 26 _ m7 hi7.out (two_size _ _ _ _) (sg_one _ _) ?_)
  have b3 : Below w1.heap.size w1 ((w1.alloc (.cells #[.int .i64 0, .int .i64 0] 26)).setRow w1.heap.size #[.int .i64 C, .int .i64 Z]) := Below.setRow' ((Below.refl w1.heap.size w1).alloc (Nat.le_refl _) _) (Nat.le_refl _) _
  have m3 : SM ((w1.alloc (.cells #[.int .i64 0, .int .i64 0] 26)).setRow w1.heap.size #[.int .i64 C, .int .i64 Z]) w1.heap.size C Z := setRow_heap _ _ _ _ _ _ m7
  clear m7
  have K2 := Lib.hid (And.intro (K1.out.next b3) m3); clear b3 m3 K1
  try change Code.wp _ _ _ _ ((w1.alloc (.cells #[.int .i64 0, .int .i64 0] 26)).setRow w1.heap.size #[.int .i64 C, .int .i64 Z])
  generalize hq5 : (w1.alloc (.cells #[.int .i64 0, .int .i64 0] 26)).setRow w1.heap.size #[.int .i64 C, .int .i64 Z] = v1 at *
  clear hq5
  generalize w1.heap.size = m1 at *
  have e0 := K2.out.2.c0
  have e1 := K2.out.2.c1
  go_wp2_with fail
  clear e0 e1
  refine (X1.out _ K2.out.1.t).mono ?_
  rintro r w2 ⟨rfl, b1⟩
  have K3 := Lib.hid (And.intro (K2.out.1.next b1) (K2.out.2.next b1)); clear b1 K2
  go_wp2_with fail
  refine (R0.out _ K3.out.1.t).mono ?_
  rintro r w3 ⟨rfl, b1⟩
  have K4 := Lib.hid (And.intro (K3.out.1.next b1) (K3.out.2.next b1)); clear b1 K3
  have m7 := SM.new w3 0 0
  go_upto_region 5 with (refine wpList_store_row rfl 26 (.tmp 10) (.tmp 28) rfl w3.heap.size #[.int .i64 C, .int .i64 Z] rfl rfl 26 _ m7 hi7.out (two_size _ _ _ _) (sg_one _ _) ?_)
  have b3 : Below w3.heap.size w3 ((w3.alloc (.cells #[.int .i64 0, .int .i64 0] 26)).setRow w3.heap.size #[.int .i64 C, .int .i64 Z]) := Below.setRow' ((Below.refl w3.heap.size w3).alloc (Nat.le_refl _) _) (Nat.le_refl _) _
  have m3 : SM ((w3.alloc (.cells #[.int .i64 0, .int .i64 0] 26)).setRow w3.heap.size #[.int .i64 C, .int .i64 Z]) w3.heap.size C Z := setRow_heap _ _ _ _ _ _ m7
  clear m7
  have K5a := Lib.hid (And.intro (K4.out.1.next b3) (And.intro (K4.out.2.next b3) m3)); clear b3 m3 K4
  try change Code.wp _ _ _ _ ((w3.alloc (.cells #[.int .i64 0, .int .i64 0] 26)).setRow w3.heap.size #[.int .i64 C, .int .i64 Z])
  generalize hq5 : (w3.alloc (.cells #[.int .i64 0, .int .i64 0] 26)).setRow w3.heap.size #[.int .i64 C, .int .i64 Z] = v3 at *
  clear hq5
  generalize w3.heap.size = m0 at *
  clear hi7
  have e0 := K5a.out.2.1.c0
  have e1 := K5a.out.2.1.c1
  go_wp2_with fail
  clear e0 e1
  refine (X2.out _ K5a.out.1.t).mono ?_
  rintro r w4 ⟨rfl, b1⟩
  have K5 := Lib.hid (And.intro (K5a.out.1.next b1) (And.intro (K5a.out.2.1.next b1) (K5a.out.2.2.next b1))); clear b1 K5a
  have e0 := K5.out.2.1.c0
  have e1 := K5.out.2.1.c1
  have f0 := K5.out.2.2.c0
  have f1 := K5.out.2.2.c1
  have hz0 : ((T.size : Int) == 0) = false := beq_eq_false_iff_ne.2 (by omega)
  obtain ⟨cap, W5, hcv, hB5, hs5, hcap, hcell, hfree⟩ := bytes_free w4 T
  have K6 := Lib.hid (K5.out.1.next (hB5.mono (Nat.le_refl _)))
  have HC := Lib.hid (And.intro hcell hfree)
  clear hcell hfree
  go_wp2_with fail
  clear e0 e1 f0 f1
  have hci := HC.out.1 i hiS
  have hfi := HC.out.2 i hiS
  have c1 := K6.out.c1
  have c2 := K6.out.c2
  have xs : wrap64 (Int.tmod q0 (T.size : Int) + (T.size : Int)) = Int.tmod q0 (T.size : Int) + (T.size : Int) := by unfold wrap64; omega
  have xs2 : IntKind.i64.wrap (Int.tmod q0 (T.size : Int) + (T.size : Int)) = Int.tmod q0 (T.size : Int) + (T.size : Int) := IntWalk.i64_in _ ⟨by omega, by omega⟩
  have hzn : ¬ T.size = 0 := by omega
  have hzn2 : (T.size == 0) = false := beq_eq_false_iff_ne.2 hzn
  have hi0 : (0 : Int) ≤ (i : Int) := by omega
  have hi1 : (i : Int) < (T.size : Int) := by omega
  have HI := Lib.hid (And.intro hqr hq1); clear hqr hq1
  go_cut [51] from 50 to 65 (fun _ wx => wx = (W5.setCell ⟨w4.heap.size, i, none⟩ (.int .u8 q1)).drew)
  case first => go_region; all_goals (go_wp2_with fail; go_meet; exact rfl)
  case rest =>
  obtain rfl := hcut
  have hB7 : Below w4.heap.size w4 (W5.setCell ⟨w4.heap.size, i, none⟩ (.int .u8 q1)).drew := (hB5.setCell (p := ⟨w4.heap.size, i, none⟩) (Nat.le_refl _) _).drew
  have K7 := Lib.hid (K5.out.1.next hB7)
  obtain ⟨S2, hz2, hS2⟩ := bytes_back (W5.setCell ⟨w4.heap.size, i, none⟩ (.int .u8 q1)).drew w4.heap.size T.size cap (fun j hj => by
    show ∃ b : UInt8, (W5.setCell ⟨w4.heap.size, i, none⟩ (.int .u8 q1)).cell? ⟨w4.heap.size, j, none⟩ = some (.int .u8 (b.toNat : Nat))
    by_cases e : j = i
    · subst e
      refine ⟨UInt8.ofNat q1.toNat, ?_⟩
      rw [World.cell?_setCell_same _ _ _ hci]
      congr 2
      have := HI.out.2
      simp
      omega
    · exact ⟨_, by rw [World.cell?_setCell_other _ _ _ _ (by intro h; injection h with h1 h2; exact e h2.symm)]; exact HC.out.1 j hj⟩) (by show w4.heap.size < (W5.setCell _ _).heap.size; simp; omega)
  have hl7 : w4.heap.size + 1 ≤ (W5.setCell ⟨w4.heap.size, i, none⟩ (.int .u8 q1)).drew.heap.size := by show _ ≤ (W5.setCell _ _).heap.size; simp; omega
  clear hci hfi c1 c2 xs xs2 hi hzn hzn2 hz0 hi0 hi1 hB5 hB7 hs5 hcap HC hcv K5 K6
  generalize (W5.setCell ⟨w4.heap.size, i, none⟩ (.int .u8 q1)).drew = W7 at *
  generalize w4.heap.size = m4 at *
  have hs1 : (1 : Int) ≤ (T.size : Int) := by omega
  have hL1 : (9223372036854775807 < 1 + T.size) = False := eq_false (by omega)
  have hL2 : (9223372036854775807 < T.size + 1) = False := eq_false (by omega)
  have HZ := Lib.hid (And.intro hz2 (And.intro hT1 hraw)); clear hz2 hT1 hraw
  go_wp2_with fail
  have tc := K7.out.c0
  go_region_held3 (fun W => (convert 30 9 (.slice (some ⟨m4, 0, none⟩) T.size cap)).run Tryd.prog W = .ok (.string S2) W ∧ W.cell? ⟨p, 0, none⟩ = some (.string raw)) (first | assumption | exact ⟨hS2 _ ((Below.refl _ _).drew), tc⟩ | exact ⟨hS2 _ (((Below.refl _ _).drew).alloc hl7 _), ((((Below.refl W7.heap.size W7).drew).alloc (Nat.le_refl _) _).cell (p := ⟨p, 0, none⟩) (World.block_lt_of_cell? _ _ tc)).trans tc⟩) (fail)
  clear tc
  have hc8 := cells6s W7 9 281474976710656 raw S2 (T ++ ⟨#[48]⟩) (⟨#[48]⟩ ++ T) (T.extract 1 T.size) (⟨#[46]⟩ ++ T)
    (by have := HZ.out; omega) (by have := HZ.out; omega) (by have := HZ.out; rw [ByteArray.size_append]; show T.size + 1 ≤ _; omega) (by have := HZ.out; rw [ByteArray.size_append]; show 1 + T.size ≤ _; omega) (by have := HZ.out; have := ext_size T 1 T.size; omega) (by have := HZ.out; rw [ByteArray.size_append]; show 1 + T.size ≤ _; omega)
  replace hc8 := fun j hj => (show ∃ X : ByteArray, X.size ≤ 281474976710656 ∧ (W7.alloc (.cells #[.string raw, .string S2, .string (T ++ ⟨#[48]⟩), .string (⟨#[48]⟩ ++ T), .string (T.extract 1 T.size), .string (⟨#[46]⟩ ++ T)] 9)).drew.cell? ⟨W7.heap.size, j, none⟩ = some (.string X) from hc8 j hj)
  have K8 := Lib.hid (K7.out.next (((Below.refl _ W7).alloc (Nat.le_refl _) (.cells #[.string raw, .string S2, .string (T ++ ⟨#[48]⟩), .string (⟨#[48]⟩ ++ T), .string (T.extract 1 T.size), .string (⟨#[46]⟩ ++ T)] 9)).drew))
  have HC8 := Lib.hid hc8
  clear hc8 hs1 hL1 hL2 hS2 hl7 K7 hiS hT0
  generalize (W7.alloc (.cells #[.string raw, .string S2, .string (T ++ ⟨#[48]⟩), .string (⟨#[48]⟩ ++ T), .string (T.extract 1 T.size), .string (⟨#[46]⟩ ++ T)] 9)).drew = W8 at *
  generalize W7.heap.size = g at *
  go_wp2_with fail
  go_loopw [79] (fun i wr => ∃ (j : Nat), j ≤ 6 ∧ i = .int .i64 (j : Int) ∧ Hid (TK w wr p raw q0 q1 ∧ Below W8.heap.size W8 wr)) (fun i _ => 6 - (match i with | .int _ i => i.toNat | _ => 0))
  case atStart => exact ⟨0, by omega, rfl, Lib.hid ⟨K8.out, Below.refl _ _⟩⟩
  case round =>
    obtain ⟨j, hj, rfl, hK⟩ := hrel
    by_cases hlj : j < 6
    · obtain ⟨X, sX, c0⟩ := HC8.out j hlj
      have d0 := (hK.out.2.cell (p := ⟨g, j, none⟩) (World.block_lt_of_cell? _ _ c0)).trans c0
      clear c0
      obtain ⟨x, y, o, hxy⟩ := RR.out X sX
      have N1 := Lib.hid fun W t => (hxy W t).1
      have N2 := Lib.hid fun W t => (hxy W t).2
      clear hxy sX
      go_wp2_with fail
      clear d0
      refine (N1.out _ hK.out.1.t).mono ?_
      rintro e w5 ⟨rfl, b5⟩
      have K9 := Lib.hid (And.intro (hK.out.1.next b5) (hK.out.2.trans (b5.mono hK.out.2.size))); clear b5
      have m7 := SM.new w5 0 0
      have hi7 := infoS x y
      go_upto_region 13 with (refine wpList_store_row rfl 26 (.tmp 15) (.tmp 86) rfl w5.heap.size #[.int .i64 x, .int .i64 y] rfl rfl 26 _ m7 hi7.out (two_size _ _ _ _) (sg_one _ _) ?_)
      have b3 : Below w5.heap.size w5 ((w5.alloc (.cells #[.int .i64 0, .int .i64 0] 26)).setRow w5.heap.size #[.int .i64 x, .int .i64 y]) := Below.setRow' ((Below.refl w5.heap.size w5).alloc (Nat.le_refl _) _) (Nat.le_refl _) _
      have m3 : SM ((w5.alloc (.cells #[.int .i64 0, .int .i64 0] 26)).setRow w5.heap.size #[.int .i64 x, .int .i64 y]) w5.heap.size x y := setRow_heap _ _ _ _ _ _ m7
      have KA := Lib.hid (And.intro (K9.out.1.next b3) (And.intro (K9.out.2.trans (b3.mono K9.out.2.size)) m3)); clear b3 m3 K9 m7
      try change Code.wp _ _ _ _ ((w5.alloc (.cells #[.int .i64 0, .int .i64 0] 26)).setRow w5.heap.size #[.int .i64 x, .int .i64 y])
      generalize hq5 : (w5.alloc (.cells #[.int .i64 0, .int .i64 0] 26)).setRow w5.heap.size #[.int .i64 x, .int .i64 y] = v5 at *
      clear hq5
      generalize w5.heap.size = a1 at *
      go_wp2_with fail
      refine (N2.out _ KA.out.1.t).mono ?_
      rintro e w6 ⟨rfl, b5⟩
      have KB := Lib.hid (And.intro (KA.out.1.next b5) (And.intro (KA.out.2.1.trans (b5.mono KA.out.2.1.size)) (KA.out.2.2.next b5))); clear b5 KA
      have m7 := SM.new w6 0 0
      go_upto_region 14 with (refine wpList_store_row rfl 26 (.tmp 17) (.tmp 91) rfl w6.heap.size #[.int .i64 x, .int .i64 y] rfl rfl 26 _ m7 hi7.out (two_size _ _ _ _) (sg_one _ _) ?_)
      have b3 : Below w6.heap.size w6 ((w6.alloc (.cells #[.int .i64 0, .int .i64 0] 26)).setRow w6.heap.size #[.int .i64 x, .int .i64 y]) := Below.setRow' ((Below.refl w6.heap.size w6).alloc (Nat.le_refl _) _) (Nat.le_refl _) _
      have m3 : SM ((w6.alloc (.cells #[.int .i64 0, .int .i64 0] 26)).setRow w6.heap.size #[.int .i64 x, .int .i64 y]) w6.heap.size x y := setRow_heap _ _ _ _ _ _ m7
      have KC := Lib.hid (And.intro (KB.out.1.next b3) (And.intro (KB.out.2.1.trans (b3.mono KB.out.2.1.size)) (And.intro (KB.out.2.2.next b3) m3))); clear b3 m3 KB m7 hi7
      try change Code.wp _ _ _ _ ((w6.alloc (.cells #[.int .i64 0, .int .i64 0] 26)).setRow w6.heap.size #[.int .i64 x, .int .i64 y])
      generalize hq5 : (w6.alloc (.cells #[.int .i64 0, .int .i64 0] 26)).setRow w6.heap.size #[.int .i64 x, .int .i64 y] = v6 at *
      clear hq5
      generalize w6.heap.size = a2 at *
      have e0 := KC.out.2.2.1.c0
      have e1 := KC.out.2.2.1.c1
      have f0 := KC.out.2.2.2.c0
      have f1 := KC.out.2.2.2.c1
      have KD := Lib.hid (And.intro KC.out.1 KC.out.2.1); clear KC
      go_wp2
      exact ⟨⟨j + 1, by omega, by simp, KD⟩, by simp; omega⟩
    · obtain rfl : j = 6 := by omega
      have hF := Lib.hid hK.out.1.b
      go_wp2
      go_ret
      exact ⟨rfl, hF.out⟩
theorem texts_walk (w : World) (C Z : Int) (tx : ByteArray) (q0 q1 : Int) (hC : i64 C) (hZ : i64 Z) (hraw : tx.size ≤ 140737488355300) (_hq0 : i64 q0) (hq1 : 0 ≤ q1 ∧ q1 ≤ 255) (hT : TS w) :
    Calls Tryd.prog 3 #[.int .i64 C, .int .i64 Z, .agg #[.string tx, .int .i64 q0, .int .u8 q1]] w fun e w' => e = .returned (.bool true) ∧ Below w.heap.size w w' := by
  have hz := txt_size C Z hC hZ
  have hr := rd_both (txt C Z) C Z hC hZ (txt_list C Z)
  have hp : (0 : Int) < ((txt C Z).size : Int) := by omega
  have t1 := Int.lt_tmod_of_pos q0 hp
  have t2 := Int.tmod_lt_of_pos q0 hp
  have t3 : Int.tmod (Int.tmod q0 ((txt C Z).size : Int) + ((txt C Z).size : Int)) ((txt C Z).size : Int) = (Int.tmod q0 ((txt C Z).size : Int) + ((txt C Z).size : Int)) % ((txt C Z).size : Int) := Int.tmod_eq_emod_of_nonneg (by omega)
  have t4 := Int.emod_nonneg (Int.tmod q0 ((txt C Z).size : Int) + ((txt C Z).size : Int)) (show ((txt C Z).size : Int) ≠ 0 by omega)
  have t5 := Int.emod_lt_of_pos (Int.tmod q0 ((txt C Z).size : Int) + ((txt C Z).size : Int)) hp
  exact texts_core w C Z q0 q1 tx (txt C Z) ((Int.tmod q0 ((txt C Z).size : Int) + ((txt C Z).size : Int)) % ((txt C Z).size : Int)).toNat (by rw [t3]; omega) (by omega) ⟨by omega, t2⟩ hq1 hraw hz.1 hz.2 (Lib.hid fun W t => sanity_any W t) (Lib.hid fun W t => Text_any W C Z hC hZ t) (Lib.hid fun W t => refText_any W C Z hC hZ t)
    (Lib.hid fun W t => by
      have := Read_big W (txt C Z) (by omega) t
      rwa [hr.1, hr.2] at this)
    (Lib.hid fun t ht => by
      obtain ⟨x, y, hxy⟩ : ∃ x y, rdv t = sgv x y := by
        unfold rdv; split
        · exact ⟨_, _, rfl⟩
        · exact ⟨_, _, rfl⟩
      exact ⟨x, y, rdOk t, fun W k => ⟨by rw [← hxy]; exact Read_big W t ht k, by rw [← hxy]; exact refRead_any W t ht⟩⟩) hT
/-- a string that is the first field of a struct among the arguments -/
theorem sized_first {H : Type} {P : Program} {ts : List TypeId} {ds : List (DataW H)} (h : (DataW.weightsEach P ts ds).all (· ≤ reachBytes) = true) {j : Nat} {t : TypeId} {bytes : List UInt8} {rest : List (DataW H)} {fs : Array Field} {f0 : Field} {fr : List Field} (ht : ts[j]? = some t) (hd : ds[j]? = some (.agg (.lit (.string bytes) :: rest))) (hu : P.underlying t = some (.struct fs)) (hf : fs.toList = f0 :: fr) : bytes.length ≤ reachBytes := by
  have := List.all_eq_true.1 h _ (DataW.weights_mem_each ht hd bytes.length (by simp [DataW.weights, hu, hf, DataW.weightsEach]))
  simpa using this
end Go.Proofs.YthoonpjgecempaaDoor.S5
