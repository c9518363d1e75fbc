/-
  The walk of digest.next: the state after a block.
-/
import Derived.Test.YtbfplapjjeeceaaGreatDoorSched
import Derived.BigQuiet
namespace Go.Proofs.YtbfplapjjeeceaaGreatDoor
open Go.RowKit SH
/-- the table of the rounds lies in memory -/
def CB (w : World) : Prop := ∀ j, j < 64 → w.cell? ⟨4, j, none⟩ = some (.int .u32 (gw cube j : Nat))
theorem CB.lt {w : World} (h : CB w) : 4 < w.heap.size := World.block_lt_of_cell? _ _ (h 0 (by decide))
theorem CB.below {B : Nat} {u w : World} (h : CB u) (hb : Below B u w) (hB : 4 < B) : CB w := fun j hj => (hb.cell (p := ⟨4, j, none⟩) hB).trans (h j hj)
/-- the value of a state -/
abbrev sv8 (s : St) : Value := .agg #[wd s.a, wd s.b, wd s.c, wd s.d, wd s.e, wd s.f, wd s.g, wd s.h]
theorem wrapAd (a b : Nat) : IntKind.u32.wrap ((a : Int) + (b : Int)) = ((ad a b : Nat) : Int) := by rw [IntKind.wrap_u32']; exact adI a b
theorem not32 (x : Nat) (h : x < M) : bits .xor .u32 4294967295 (x : Int) = ((nt x : Nat) : Int) := by
  have : (4294967295 : Int) = ((4294967295 : Nat) : Int) := rfl
  rw [this, u32_xor_nat _ _ (by decide) h]
  congr 1
  unfold nt
  have h2 : x < 2^32 := h
  apply Nat.eq_of_testBit_eq
  intro i
  rw [Nat.testBit_xor, show (4294967295 : Nat) = 2^32 - 1 by decide, Nat.testBit_two_pow_sub_one, show 2^32 - 1 - x = 2^32 - (x + 1) by omega, Nat.testBit_two_pow_sub_succ h2]
  by_cases hi : i < 32
  · simp [hi]
  · have : x.testBit i = false := Nat.testBit_lt_two_pow (Nat.lt_of_lt_of_le h2 (Nat.pow_le_pow_right (by decide) (by omega)))
    simp [hi, this]
set_option maxRecDepth 100000 in
theorem idx8 (W : World) (t : St) (k : Nat) (h : k < 8) : (Instr.index 133 (sv8 t) (.int .i64 (k : Int))).run Tryz.prog W = .ok (wd (gw t.l k)) W := by
  match k, h with
  | 0, _ => rfl
  | 1, _ => rfl
  | 2, _ => rfl
  | 3, _ => rfl
  | 4, _ => rfl
  | 5, _ => rfl
  | 6, _ => rfl
  | 7, _ => rfl
/-- k words of the sum of two states, then those of the first -/
def AX (s t : St) (k : Nat) (X : List Nat) : Prop := X.length = 8 ∧ ∀ j, j < 8 → gw X j = if j < k then ad (gw s.l j) (gw t.l j) else gw s.l j
theorem AX.start (s t : St) : AX s t 0 s.l := ⟨rfl, fun j _ => by rw [if_neg (by omega)]⟩
theorem AX.step {s t : St} {k : Nat} {X : List Nat} (h : AX s t k X) (hk : k < 8) : AX s t (k+1) (X.set k (ad (gw X k) (gw t.l k))) := by
  refine ⟨by rw [List.length_set]; exact h.1, fun j hj => ?_⟩
  rw [gw_set X _ _ j (by rw [h.1]; omega)]
  split
  · rename_i e; subst e
    rw [if_pos (by omega), h.2 _ hk, if_neg (by omega)]
  · rw [h.2 j hj]
    by_cases hjk : j < k
    · rw [if_pos hjk, if_pos (by omega)]
    · rw [if_neg hjk, if_neg (by omega)]
theorem AX.done {s t : St} {X : List Nat} (h : AX s t 8 X) : X = (s.add t).l := by
  refine list_gw _ _ 8 h.1 rfl fun j hj => ?_
  rw [h.2 j hj, if_pos hj]
  have : j = 0 ∨ j = 1 ∨ j = 2 ∨ j = 3 ∨ j = 4 ∨ j = 5 ∨ j = 6 ∨ j = 7 := by omega
  rcases this with rfl | rfl | rfl | rfl | rfl | rfl | rfl | rfl <;> rfl
theorem not32' (x : Nat) (h : x < M) : bits .xor .u32 (if IntKind.u32.signed = true then -1 else IntKind.u32.max) (x : Int) = ((nt x : Nat) : Int) := not32 x h
/-- what the steps of t come to -/
structure Tq (e f g h k w : Nat) : Prop where
  q1 : bits .xor .u32 ((rr e 6 : Nat) : Int) ((rr e 11 : Nat) : Int) = ((rr e 6 ^^^ rr e 11 : Nat) : Int)
  q2 : bits .xor .u32 ((rr e 6 ^^^ rr e 11 : Nat) : Int) ((rr e 25 : Nat) : Int) = ((S1 e : Nat) : Int)
  q3 : IntKind.u32.wrap ((h : Int) + ((S1 e : Nat) : Int)) = ((ad h (S1 e) : Nat) : Int)
  q4 : bits .and .u32 (e : Int) (f : Int) = ((e &&& f : Nat) : Int)
  q5 : bits .xor .u32 (if IntKind.u32.signed = true then -1 else IntKind.u32.max) (e : Int) = ((nt e : Nat) : Int)
  q6 : bits .and .u32 ((nt e : Nat) : Int) (g : Int) = ((nt e &&& g : Nat) : Int)
  q7 : bits .xor .u32 ((e &&& f : Nat) : Int) ((nt e &&& g : Nat) : Int) = ((ch e f g : Nat) : Int)
  q8 : IntKind.u32.wrap (((ad h (S1 e) : Nat) : Int) + ((ch e f g : Nat) : Int)) = ((ad (ad h (S1 e)) (ch e f g) : Nat) : Int)
  q9 : IntKind.u32.wrap (((ad (ad h (S1 e)) (ch e f g) : Nat) : Int) + (k : Int)) = ((ad (ad (ad h (S1 e)) (ch e f g)) k : Nat) : Int)
theorem Tq.mk' {e f g : Nat} (h k w : Nat) (he : e < M) (hf : f < M) (hg : g < M) : Tq e f g h k w :=
  ⟨xorw _ _ (rr_lt he _) (rr_lt he _), xorw _ _ (xor_lt (rr_lt he _) (rr_lt he _)) (rr_lt he _), wrapAd _ _, andw _ _ he hf, not32' e he, andw _ _ (nt_lt e) hg,
    xorw _ _ (and_lt _ he) (and_lt _ (nt_lt e)), wrapAd _ _, wrapAd _ _⟩
structure Uq (a b c : Nat) : Prop where
  p1 : bits .xor .u32 ((rr a 2 : Nat) : Int) ((rr a 13 : Nat) : Int) = ((rr a 2 ^^^ rr a 13 : Nat) : Int)
  p2 : bits .xor .u32 ((rr a 2 ^^^ rr a 13 : Nat) : Int) ((rr a 22 : Nat) : Int) = ((S0 a : Nat) : Int)
  p3 : bits .and .u32 (a : Int) (b : Int) = ((a &&& b : Nat) : Int)
  p4 : bits .and .u32 (a : Int) (c : Int) = ((a &&& c : Nat) : Int)
  p5 : bits .xor .u32 ((a &&& b : Nat) : Int) ((a &&& c : Nat) : Int) = (((a &&& b) ^^^ (a &&& c) : Nat) : Int)
  p6 : bits .and .u32 (b : Int) (c : Int) = ((b &&& c : Nat) : Int)
  p7 : bits .xor .u32 (((a &&& b) ^^^ (a &&& c) : Nat) : Int) ((b &&& c : Nat) : Int) = ((mj a b c : Nat) : Int)
theorem Uq.mk' {a b c : Nat} (ha : a < M) (hb : b < M) (hc : c < M) : Uq a b c :=
  ⟨xorw _ _ (rr_lt ha _) (rr_lt ha _), xorw _ _ (xor_lt (rr_lt ha _) (rr_lt ha _)) (rr_lt ha _), andw _ _ ha hb, andw _ _ ha hc, xorw _ _ (and_lt _ ha) (and_lt _ ha), andw _ _ hb hc,
    xorw _ _ (xor_lt (and_lt _ ha) (and_lt _ ha)) (and_lt _ hb)⟩
set_option maxRecDepth 100000 in
set_option maxHeartbeats 2000000 in
theorem next_any (w : World) (s : St) (hs : s.Ok) (B : ByteArray) (hB : B.size = 64) (hC : CB w) :
    Calls Tryz.prog 131 #[sv8 s, .string B] w fun e w' => e = .returned (sv8 (block s B.data.toList)) ∧ Below w.heap.size w w' := by
  have hsc := fun W => schedule_any W B hB
  have hg := hC.lt
  obtain ⟨Y, hY⟩ : ∃ Y, sch B.data.toList 64 = Y := ⟨_, rfl⟩
  have hYl : Y.length = 64 := by rw [← hY]; exact sch_length _ _
  rw [hY] at hsc
  have hi : Hid ((Tryz.prog.info? 160).map (·.size) = some (cw Y).size) := Lib.hid (by rw [cw_size, hYl]; kernel_rfl)
  go_enter Tryz.func131, Tryz.ntmps131
  go_wp2_with fail
  refine (hsc _).mono ?_
  rintro e w1 ⟨rfl, b1⟩
  have n1 : w.heap.size + 2 ≤ w1.heap.size := by have := b1.size; simpa using this
  have h0 : Has w1 w.heap.size 133 s.l := (b1.block _ (by simp; omega)).trans (heap_alloc2_old _ _ _)
  have h1 : Has w1 (w.heap.size + 1) 133 (List.replicate 8 0) := (b1.block _ (by simp)).trans (heap_alloc2_new _ _ _)
  have hb : Below w.heap.size w w1 := (((Below.refl w.heap.size w).alloc (Nat.le_refl _) _).alloc (by simp) _).trans (b1.mono (by simp; omega))
  clear b1
  have hn : Has (w1.alloc (.cells (Array.replicate 64 (.int .u32 0)) 160)) w1.heap.size 160 (List.replicate 64 0) := by
    unfold Has; rw [heap_alloc_new, zeros_cw]
  have h0a := h0.alloc (.cells (Array.replicate 64 (.int .u32 0)) 160)
  have h1a := h1.alloc (.cells (Array.replicate 64 (.int .u32 0)) 160)
  have hba := hb.alloc (by omega) (.cells (Array.replicate 64 (.int .u32 0)) 160)
  have hsz : Hid ((cw (List.replicate 64 0)).size = (cw Y).size) := Lib.hid (by rw [cw_size, cw_size, hYl, List.length_replicate])
  clear hsc h0 h1 hb
  have HYY := Lib.hid (And.intro hY hYl); clear hY hYl
  go_wp2_with (refine wpList_store_row rfl 160 (.tmp 5) (.tmp 20) rfl w1.heap.size (cw Y) rfl rfl 160 _ hn hi.out hsz.out (cw_one _) ?_)
  change Code.wp _ _ _ _ ((w1.alloc (.cells (Array.replicate 64 (.int .u32 0)) 160)).setRow w1.heap.size (cw Y))
  have hw : Has ((w1.alloc (.cells (Array.replicate 64 (.int .u32 0)) 160)).setRow w1.heap.size (cw Y)) w1.heap.size 160 Y := setRow_heap _ _ _ _ _ _ hn
  have h0 : Has ((w1.alloc (.cells (Array.replicate 64 (.int .u32 0)) 160)).setRow w1.heap.size (cw Y)) w.heap.size 133 s.l := (setRow_other _ _ _ _ (by omega)).trans h0a
  have h1 : Has ((w1.alloc (.cells (Array.replicate 64 (.int .u32 0)) 160)).setRow w1.heap.size (cw Y)) (w.heap.size + 1) 133 (List.replicate 8 0) := (setRow_other _ _ _ _ (by omega)).trans h1a
  have hb : Below w.heap.size w ((w1.alloc (.cells (Array.replicate 64 (.int .u32 0)) 160)).setRow w1.heap.size (cw Y)) := Below.setRow' hba (by omega) _
  clear h0a h1a hba hn hsz
  generalize (w1.alloc (.cells (Array.replicate 64 (.int .u32 0)) 160)).setRow w1.heap.size (cw Y) = W at *
  generalize w1.heap.size = bw at *
  clear w1
  have hcb : CB W := hC.below hb hg
  clear hC
  have c0 : W.cell? ⟨w.heap.size, 0, none⟩ = some (.int .u32 (s.a : Nat)) := h0.cell 0 (by simp [St.l])
  have c1 : W.cell? ⟨w.heap.size, 1, none⟩ = some (.int .u32 (s.b : Nat)) := h0.cell 1 (by simp [St.l])
  have c2 : W.cell? ⟨w.heap.size, 2, none⟩ = some (.int .u32 (s.c : Nat)) := h0.cell 2 (by simp [St.l])
  have c3 : W.cell? ⟨w.heap.size, 3, none⟩ = some (.int .u32 (s.d : Nat)) := h0.cell 3 (by simp [St.l])
  have c4 : W.cell? ⟨w.heap.size, 4, none⟩ = some (.int .u32 (s.e : Nat)) := h0.cell 4 (by simp [St.l])
  have c5 : W.cell? ⟨w.heap.size, 5, none⟩ = some (.int .u32 (s.f : Nat)) := h0.cell 5 (by simp [St.l])
  have c6 : W.cell? ⟨w.heap.size, 6, none⟩ = some (.int .u32 (s.g : Nat)) := h0.cell 6 (by simp [St.l])
  have c7 : W.cell? ⟨w.heap.size, 7, none⟩ = some (.int .u32 (s.h : Nat)) := h0.cell 7 (by simp [St.l])
  dsimp only [Act.put]
  go_quiet (fail)
  go_wp2
  go_quiet (fail)
  go_wp2
  go_loopw [6, 7, 8, 9, 10, 11, 12, 13, 37] (fun a b c d e f g h i wr => ∃ (k : Nat) (kk : Int) (t : St), k ≤ 64 ∧ kk = (k : Nat) ∧ i = .int .i64 kk ∧ Hid (t = rounds Y s k) ∧ a = wd t.a ∧ b = wd t.b ∧ c = wd t.c ∧ d = wd t.d ∧ e = wd t.e ∧ f = wd t.f ∧ g = wd t.g ∧ h = wd t.h ∧ Has wr bw 160 Y ∧ Has wr w.heap.size 133 s.l ∧ Has wr (w.heap.size + 1) 133 (List.replicate 8 0) ∧ Below w.heap.size w wr ∧ CB wr) (fun _ _ _ _ _ _ _ _ i _ => 64 - (intOf i).toNat)
  case atStart => exact ⟨0, 0, s, by omega, rfl, rfl, Lib.hid rfl, rfl, rfl, rfl, rfl, rfl, rfl, rfl, rfl, hw, h0, h1, hb.trans ⟨rfl, rfl, rfl, Nat.le_refl _, fun _ _ => rfl⟩, hcb⟩
  case round =>
    clear c0 c1 c2 c3 c4 c5 c6 c7 hw h0 h1 hb hcb
    obtain ⟨k, kk, t, hk, hkk, rfl, ht, rfl, rfl, rfl, rfl, rfl, rfl, rfl, rfl, hw, h0, h1, hb, hcb⟩ := hrel
    by_cases hlt : k < 64
    · subst hkk
      have tok : t.Ok := by rw [ht.out]; exact rounds_ok _ hs _
      have hyk : gw Y k < M := by rw [← HYY.out.1]; exact gw_sch_lt _ _ _
      have hck := gw_cube_lt k
      have cy := hw.cell k (by rw [HYY.out.2]; exact hlt)
      have cc := hcb k hlt
      have ⟨q1, q2, q3, q4, q5, q6, q7, q8, q9⟩ := Tq.mk' t.h (gw cube k) (gw Y k) tok.e tok.f tok.g
      have q10 : IntKind.u32.wrap (((ad (ad (ad t.h (S1 t.e)) (ch t.e t.f t.g)) (gw cube k) : Nat) : Int) + ((gw Y k : Nat) : Int)) = ((tt t (gw cube k) (gw Y k) : Nat) : Int) := wrapAd _ _
      have HT := Lib.hid (And.intro tok (And.intro hyk hck)); clear hyk hck tok
      have r0 := fun W => rot_any W _ 6 6 rfl HT.out.1.e (by omega) (by omega)
      have r1 := fun W => rot_any W _ 11 11 rfl HT.out.1.e (by omega) (by omega)
      have r2 := fun W => rot_any W _ 25 25 rfl HT.out.1.e (by omega) (by omega)
      go_wp2
      go_quiet ((go_at_call 152; (first | exact Calls.quiet_of_same (r0 _) | exact Calls.quiet_of_same (r1 _) | exact Calls.quiet_of_same (r2 _))))
      clear q1 q2 q3 q4 q5 q6 q7 q8 q9 q10 r0 r1 r2
      obtain ⟨T, hT⟩ : ∃ T, tt t (gw cube k) (gw Y k) = T := ⟨_, rfl⟩
      rw [hT]
      have ⟨p1, p2, p3, p4, p5, p6, p7⟩ := Uq.mk' HT.out.1.a HT.out.1.b HT.out.1.c
      have p8 := adI (S0 t.a) (mj t.a t.b t.c)
      obtain ⟨U, hU⟩ : ∃ U, ad (S0 t.a) (mj t.a t.b t.c) = U := ⟨_, rfl⟩
      rw [hU] at p8
      have p9 := adI t.d T
      have p10 := adI T U
      have HTT := Lib.hid (And.intro hT hU); clear hT hU
      have r0 := fun W => rot_any W _ 2 2 rfl HT.out.1.a (by omega) (by omega)
      have r1 := fun W => rot_any W _ 13 13 rfl HT.out.1.a (by omega) (by omega)
      have r2 := fun W => rot_any W _ 22 22 rfl HT.out.1.a (by omega) (by omega)
      have hw' : Has (wr.drewN nq) bw 160 Y := hw
      have h0' : Has (wr.drewN nq) w.heap.size 133 s.l := h0
      have h1' : Has (wr.drewN nq) (w.heap.size + 1) 133 (List.replicate 8 0) := h1
      have hb' : Below w.heap.size w (wr.drewN nq) := hb.trans ⟨rfl, rfl, rfl, Nat.le_refl _, fun _ _ => rfl⟩
      have hcb' : CB (wr.drewN nq) := hcb
      clear hw h0 h1 hb hcb cy cc
      generalize wr.drewN nq = wr at *
      go_wp2_with fail
      go_must (go_fit (r0 _))
      rintro e w1 ⟨rfl, rfl⟩
      go_wp2_with fail
      go_must (go_fit (r1 _))
      rintro e w1 ⟨rfl, rfl⟩
      go_wp2_with fail
      go_must (go_fit (r2 _))
      rintro e w1 ⟨rfl, rfl⟩
      go_wp2
      go_roundw
      case rel =>
        refine ⟨k + 1, _, t.step (gw cube k) (gw Y k), by omega, by simp, rfl, Lib.hid (by rw [ht.out]; rfl), ?_, rfl, rfl, rfl, ?_, rfl, rfl, rfl, hw', h0', h1', hb', hcb'⟩
        · unfold St.step; rw [HTT.out.1]; unfold uu; rw [HTT.out.2]; exact congrArg (Value.int .u32) p10
        · unfold St.step; rw [HTT.out.1]; exact congrArg (Value.int .u32) p9
      case measure => (simp [intOf]; try omega)
    · obtain rfl : k = 64 := by omega
      obtain rfl : kk = 64 := by omega
      clear hkk hlt hk
      have hi8 : Hid ((Tryz.prog.info? 133).map (·.size) = some 8) := Lib.hid (by kernel_rfl)
      have HS := Lib.hid h1; clear h1
      have HW := Lib.hid hw; clear hw
      have HC := Lib.hid hcb; clear hcb
      go_wp2
      go_loopw [109] (fun i wr => ∃ (k : Nat) (kk : Int) (X : List Nat), k ≤ 8 ∧ kk = (k : Nat) ∧ i = .int .i64 kk ∧ AX s t k X ∧ Has wr w.heap.size 133 X ∧ Hid (Has wr (w.heap.size + 1) 133 (List.replicate 8 0)) ∧ Below w.heap.size w wr) (fun i _ => 8 - (intOf i).toNat)
      case atStart => exact ⟨0, 0, _, by omega, rfl, rfl, AX.start s t, h0, HS, hb⟩
      case round =>
        clear HS HW HC h0 hb
        obtain ⟨k, kk, X, hk, hkk, rfl, hA, h0, h1, hb⟩ := hrel
        by_cases hlt : k < 8
        · have c := h0.cell k (by rw [hA.1]; exact hlt)
          have hf := h0.free k
          have hs8 := h0.set k (ad (gw X k) (gw t.l k))
          have hA' := hA.step hlt
          have h1' := Lib.hid (h1.out.setOther (c := w.heap.size) (by omega) k (.int .u32 (ad (gw X k) (gw t.l k) : Nat)))
          have hb' := hb.setCell (p := ⟨w.heap.size, k, none⟩) (Nat.le_refl _) (.int .u32 (ad (gw X k) (gw t.l k) : Nat))
          have HH := Lib.hid (And.intro hs8 (And.intro hA' hb')); clear hs8 hA' hb' hA h0 hb
          have pa := adI (gw X k) (gw t.l k)
          have hix := fun W => idx8 W t k hlt
          obtain ⟨x, hx⟩ : ∃ x, gw X k = x := ⟨_, rfl⟩
          obtain ⟨y, hy⟩ : ∃ y, gw t.l k = y := ⟨_, rfl⟩
          obtain ⟨z, hz⟩ : ∃ z, ad x y = z := ⟨_, rfl⟩
          rw [hy] at hix
          rw [hx] at c
          rw [hx, hy] at pa HH h1'
          rw [hz] at pa HH h1'
          clear hx hy hz
          subst hkk
          go_wp2
          go_roundw
          case rel => exact ⟨k + 1, _, X.set k z, by omega, by simp, rfl, HH.out.2.1, HH.out.1, h1', HH.out.2.2⟩
          case measure => (simp [intOf]; try omega)
        · obtain rfl : k = 8 := by omega
          obtain rfl : kk = 8 := by omega
          have e := hA.done
          rw [e] at h0
          clear e hA hkk hlt hk
          have h2 := h1.out
          go_wp2_with (first | (refine wpList_load_row rfl 133 (.tmp 2) rfl w.heap.size rfl 133 (cw (s.add t).l) (0, 0) _ h0 Tryz.underlying133 rfl hi8.out ?_) | (refine wpList_store_row rfl 133 (.tmp 4) (.tmp 120) rfl (w.heap.size + 1) (cw (s.add t).l) rfl rfl 133 _ h2 hi8.out rfl (cw_one _) ?_))
          refine bodyPost_ret (results_cell_row rfl _ _ (w.heap.size + 1) _ (cw (s.add t).l) _ _ rfl (setRow_heap _ _ _ _ _ _ h2) Tryz.underlying133 rfl hi8.out) rfl ?_
          refine ⟨?_, Below.setRow' hb (by omega) _⟩
          rw [ht.out, ← HYY.out.1]; rfl
end Go.Proofs.YtbfplapjjeeceaaGreatDoor
