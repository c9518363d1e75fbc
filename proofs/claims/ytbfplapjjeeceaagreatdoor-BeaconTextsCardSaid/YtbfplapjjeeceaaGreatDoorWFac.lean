/-
  The iterator over the factors of points.
-/
import Derived.Test.YtbfplapjjeeceaaGreatDoorWIter
namespace Go.Proofs.YtbfplapjjeeceaaGreatDoor.W8
open Go.RowKit GM G4 D7P Go.Shelf
attribute [local go_sem] Oper.semAt_some
/-- the factors of points with their places -/
noncomputable def fps (l : List Int) : List (Int × Int) := (ips 0 l).map fun p => (p.1, fx l p.2)
theorem fps_step (l : List Int) (c : Int) (k : Nat) (pre : List (Int × Int)) (h : pre ++ (ips k (l.drop k)).map (fun p => (p.1, fx l p.2)) = fps l) (hc : l[k]? = some c) : pre ++ [((k : Int), fx l c)] ++ (ips (k + 1) (l.drop (k+1))).map (fun p => (p.1, fx l p.2)) = fps l := by
  obtain ⟨hk, rfl⟩ := List.getElem?_eq_some_iff.1 hc
  rw [← h, List.drop_eq_getElem_cons hk]
  simp [ips]
theorem bool_case {A B : Prop} {e : Ending} (h : (e = .returned (.bool true) ∧ A) ∨ (e = .returned (.bool false) ∧ B)) : ∃ b, e = .returned (.bool b) ∧ ((b = true ∧ A) ∨ (b = false ∧ B)) := by
  rcases h with ⟨h1, h2⟩ | ⟨h1, h2⟩
  · exact ⟨true, h1, .inl ⟨rfl, h2⟩⟩
  · exact ⟨false, h1, .inr ⟨rfl, h2⟩⟩
theorem abides_below {β : Type} {B : Nat} {J : β → World → Prop} (h : AbidesFrom B J) {s : β} {A C : World} (hs : J s A) (hb : Below A.heap.size A C) : J s C :=
  h s A C none hs ⟨hb.os, hb.tape, hb.output, hb.size, fun k hk _ => hb.block k hk⟩ (fun r e => by cases e)
theorem factors_any (w : World) (p : Option Addr) (n c : Nat) : Calls Tryz.prog 95 #[.slice p n c] w fun e w' => e = .returned (.func (.func 117) #[] #[.pointer (some ⟨w.heap.size, 0, none⟩)]) ∧ w' = w.alloc (.cells #[.slice p n c] 34) := by
  go_enter Tryz.func95, Tryz.ntmps95
  go_wp2
  go_ret
  exact ⟨rfl, rfl⟩
/-- All, then fold: the box that All makes holds the slice -/
theorem BoxL.box {w : World} {Bl : Nat} {p : Option Addr} {c : Nat} {l : List Int} (h : BoxL w Bl p c l) {N : Nat} (hN : l.length = N) : BoxL (w.alloc (.cells #[.slice p N c] 34)) w.heap.size p c l := by
  have k := h.next ((Below.refl _ w).alloc (Nat.le_refl _) (.cells #[.slice p N c] 34))
  exact ⟨by rw [World.cell?_alloc_at _ _ _ _ rfl, hN]; rfl, k.c, k.r, k.n⟩
theorem bl_fact (l : List Int) (hP : Pts l) (k : Nat) (x : Int) (hx : l[k]? = some x) : ∃ d i : Int, bla (k : Int) x x (ips 0 l) = d ∧ i64 d ∧ IsInv d 1152921504606845789 i true ∧ i64 i ∧ gm (al 1 l) i 1152921504606845789 = fx l x := by
  have hm := List.mem_of_getElem? hx
  have hb := hP.below hm
  have hr := hP.r x hm
  have e := bla_bl k x l hP.d hx l 0 x rfl
  have hi := bl_rng x l x ⟨by omega, by omega⟩
  exact ⟨bl x x l, iv (bl x x l), e, ⟨by omega, by omega⟩, iv_is _ hb, iv_i _ hb, hP.factor hm⟩
set_option maxRecDepth 100000 in
set_option maxHeartbeats 4000000 in
theorem fac_stops (N : Nat) (n : Nat) (hn : 3 ≤ n) (S H Bl : Nat) (p : Option Addr) (c : Nat) (l : List Int) (hN : l.length = N) (w : World) (hH : H ≤ w.heap.size) (hBl : Bl < H) (hSl : Bl ≠ S)
    (hL : BoxL w Bl p c l) (hc : ∀ (b o : Nat), p = some ⟨b, o, none⟩ → 0 < l.length → b < H ∧ b ≠ S) (hP : Pts l) :
    SeqStopsK Fence.wide n Tryz.prog 117 #[.pointer (some ⟨Bl, 0, none⟩)] (encP (n := N)) (KA S H) (fun xs => xs.map Subtype.val = fps l) (fun _ => True) N w := by
  intro lo J Jx W hW hJ hJx hY h0
  have hLW := hL.next hW
  have cl := hLW.h
  have hln := hL.n
  have hHW := Nat.le_trans hH hW.size
  have HX := Lib.hid (And.intro hLW (And.intro hc hP)); clear hL hc hLW hP
  rw [hN] at cl hln
  have HN := Lib.hid hN; clear hN
  have hal := al_rng l 1 (by decide)
  have F0 := Lib.hid fun V (h : BoxL V W.heap.size p c l) => fold_al V 1 W.heap.size p c l h (by decide)
  have FX := Lib.hid (fun (k : Nat) (x : Int) (hx : l[k]? = some x) => bl_fact l HX.out.2.2 k x hx)
  obtain ⟨A, hA⟩ : ∃ A, al 1 l = A := ⟨_, rfl⟩
  rw [hA] at hal F0
  simp only [hA] at FX
  clear hA
  have HYY := Lib.hid (And.intro hY hJ); clear hY hJ hJx
  have mixed : Tryz.prog.follows .mixedOrders = true := by kernel_rfl
  refine callsIn_of_wp Tryz.func117 rfl trivial ?_ rfl
  simp only [Tryz.ntmps117, List.size_toArray, List.length_cons, List.length_nil, Nat.reduceAdd, Nat.reduceSub, Array.replicate_succ, Array.replicate_zero, List.push_toArray, List.append_toArray, List.nil_append, List.cons_append]
  gi_wp2_with (refine ⟨trivial, fun _ => by omega, ?_⟩; refine (callsIn_wide.2 (All_any _ _ _ _)).mono ?_; rintro e w' ⟨rfl, rfl⟩)
  refine ⟨trivial, fun _ => by omega, ?_⟩
  refine (callsIn_wide.2 (F0.out _ (HX.out.1.box HN.out))).mono ?_
  rintro e w2 ⟨rfl, b⟩
  have b2 := ((Below.refl W.heap.size W).alloc (Nat.le_refl _) (.cells #[.slice p N c] 34)).trans (b.mono (by rw [World.size_alloc]; omega)); clear b
  have J2 := abides_below HYY.out.2 h0 b2
  have cl2 : w2.cell? ⟨Bl, 0, none⟩ = some (.slice p N c) := (b2.cell (p := ⟨Bl, 0, none⟩) (World.block_lt_of_cell? _ _ cl)).trans cl
  have KA2 := Lib.hid (show KA S H W w2 from KA.below b2 hHW)
  have HB2 := Lib.hid b2.size
  clear cl h0 b2
  gi_wp2_with fail
  clear cl2
  gi_loopw [14] (fun i wr => ∃ (k : Nat) (pre : List (P2 N)), k ≤ N ∧ i = .int .i64 (k : Int) ∧ pre.length = k ∧ Hid (pre.map Subtype.val ++ (ips k (l.drop k)).map (fun p => (p.1, fx l p.2)) = fps l) ∧ J pre wr ∧ Hid (KA S H W wr) ∧ H ≤ wr.heap.size) (fun i _ => N - (match i with | .int _ i => i.toNat | _ => 0))
  case atStart => exact ⟨0, [], Nat.zero_le _, rfl, rfl, Lib.hid (by simp [fps]), J2, KA2, by have := HB2.out; omega⟩
  case round =>
    obtain ⟨k, pre, hk, rfl, hlen, hp, hJs, hK, hHr⟩ := hrel
    by_cases hlt : k < N
    · obtain ⟨x, hx⟩ : ∃ x, l[k]? = some x := ⟨l[k]'(by rw [HN.out]; exact hlt), List.getElem?_eq_getElem _⟩
      obtain ⟨b, o, hpp, hcy⟩ := HX.out.1.c k x hx
      have hbb := HX.out.2.1 b o hpp (by rw [HN.out]; omega)
      subst hpp
      have hcell := (hK.out.2 b (o + k) hbb.1 hbb.2).trans hcy
      have hix := HX.out.1.r x (List.mem_of_getElem? hx)
      have hik : i64 (k : Int) ∧ 0 ≤ (k : Int) ∧ (k : Int) < (N : Int) := ⟨⟨by omega, by omega⟩, by omega, by omega⟩
      obtain ⟨d, iv, hd, hid, hinv, hii, hfx⟩ := FX.out k x hx
      have hfr := fx_rng l x
      have hif : i64 (fx l x) := ⟨by omega, by omega⟩
      have HS := Lib.hid (fps_step l x k _ hp.out hx)
      clear hfr hp
      obtain ⟨f, hf⟩ : ∃ f, fx l x = f := ⟨_, rfl⟩
      rw [hf] at hif hfx HS
      have HL := Lib.hid hlen
      have cl : wr.cell? ⟨Bl, 0, none⟩ = some (.slice (some ⟨b, o, none⟩) N c) := (hK.out.2 Bl 0 hBl hSl).trans (by rw [← HN.out]; exact HX.out.1.h)
      have BXL : BoxL wr Bl (some ⟨b, o, none⟩) c l := ⟨by rw [HN.out]; exact cl, fun j y hj => by
        obtain ⟨b2, o2, e2, h2⟩ := HX.out.1.c j y hj
        cases e2
        exact ⟨b, o, rfl, (hK.out.2 b (o + j) hbb.1 hbb.2).trans h2⟩, HX.out.1.r, HX.out.1.n⟩
      have HFB := Lib.hid (show ∀ (V : World) (B0 Bi Bx : Nat), BoxL V B0 (some ⟨b, o, none⟩) c l → V.cell? ⟨Bi, 0, none⟩ = some (.int .i64 (k : Int)) → V.cell? ⟨Bx, 0, none⟩ = some (.int .i64 x) →
          Calls Tryz.prog 94 #[.int .i64 x, .func (.func 140) #[] #[.pointer (some ⟨B0, 0, none⟩)], .func (.func 120) #[] #[.pointer (some ⟨Bi, 0, none⟩), .pointer (some ⟨Bx, 0, none⟩)]] V fun e w' => e = .returned (.int .i64 d) ∧ Below V.heap.size V w' from
          fun V B0 Bi Bx h h1 h2 => by rw [← hd]; exact fold_bl V x B0 Bi Bx k x _ c l h hix hik.1 hix h1 h2)
      clear hd
      clear hlen hf hx hcy
      gi_wp2_with fail
      obtain ⟨V, hV⟩ : ∃ V, (wr.alloc (.cells #[.int .i64 (k : Int)] 3)).alloc (.cells #[.int .i64 x] 3) = V := ⟨_, rfl⟩
      rw [hV]
      have bV : Below wr.heap.size wr V := by rw [← hV]; exact ((Below.refl _ wr).alloc (Nat.le_refl _) _).alloc (by simp) _
      have cI : V.cell? ⟨wr.heap.size, 0, none⟩ = some (.int .i64 (k : Int)) := by rw [← hV, World.cell?_alloc_past _ _ _ (by simp), World.cell?_alloc_at _ _ _ _ rfl]; rfl
      have cX : V.cell? ⟨wr.heap.size + 1, 0, none⟩ = some (.int .i64 x) := by rw [← hV, World.cell?_alloc_at _ _ _ _ (by simp)]; rfl
      have BXV := Lib.hid (BXL.next bV)
      have clV : V.cell? ⟨Bl, 0, none⟩ = some (.slice (some ⟨b, o, none⟩) N c) := (bV.cell (p := ⟨Bl, 0, none⟩) (World.block_lt_of_cell? _ _ cl)).trans cl
      have JV := abides_below HYY.out.2 hJs bV
      have hKV := Lib.hid (hK.out.trans (KA.below bV hHr))
      have hHV : H ≤ V.heap.size := Nat.le_trans hHr bV.size
      clear hV bV BXL cl hJs hK hcell
      generalize wr.heap.size = Bi at *
      obtain ⟨U, hU⟩ : ∃ U, (V.alloc (.cells #[.slice (some ⟨b, o, none⟩) N c] 34)).drew = U := ⟨_, rfl⟩
      have bU : Below V.heap.size V U := by rw [← hU]; exact ((Below.refl _ V).alloc (Nat.le_refl _) _).drew
      have FB := Lib.hid (HFB.out U V.heap.size Bi (Bi + 1) (by rw [← hU]; exact (BXV.out.box HN.out).next ((Below.refl _ _).drew)) ((bU.cell (p := ⟨Bi, 0, none⟩) (World.block_lt_of_cell? _ _ cI)).trans cI) ((bU.cell (p := ⟨Bi + 1, 0, none⟩) (World.block_lt_of_cell? _ _ cX)).trans cX))
      have cXU := (bU.cell (p := ⟨Bi + 1, 0, none⟩) (World.block_lt_of_cell? _ _ cX)).trans cX
      rw [← hU] at FB bU cXU
      clear hU
      have cXU2 : (V.alloc (.cells #[.slice (some ⟨b, o, none⟩) N c] 34)).cell? ⟨Bi + 1, 0, none⟩ = some (.int .i64 x) := cXU
      gi_region_with_o (first
        | (refine ⟨trivial, fun _ => by omega, ?_⟩; (with_reducible refine (callsIn_wide.2 (All_any _ _ _ _)).mono ?_); rintro e w' ⟨rfl, rfl⟩)
        | (refine ⟨trivial, fun _ => by omega, ?_⟩; (with_reducible refine (callsIn_wide.2 FB.out).mono ?_); rintro e w3 ⟨rfl, bb⟩; replace bb := bU.trans (bb.mono bU.size)))
      all_goals
        have J3 := abides_below HYY.out.2 JV (by assumption)
        have cI3 : w3.cell? ⟨Bi, 0, none⟩ = some (.int .i64 (k : Int)) := (Below.cell (p := ⟨Bi, 0, none⟩) (by assumption) (World.block_lt_of_cell? _ _ cI)).trans cI
        have HK3 := Lib.hid (hKV.out.trans (KA.below (by assumption) hHV))
        have hH3 : H ≤ w3.heap.size := Nat.le_trans hHV (Below.size (by assumption))
        clear cI cX clV JV hKV hHV FB bU bb cXU cXU2
        have IV := Lib.hid (inv_k w3 d 1152921504606845789 iv true hinv hid.1 hid.2 (by decide))
        gi_wp2_with fail
        refine ⟨trivial, fun _ => by omega, ?_⟩
        refine (callsIn_wide.2 IV.out).mono ?_
        rintro e w4 ⟨rfl, b4⟩
        have J4 := abides_below HYY.out.2 J3 b4
        have cI4 : w4.cell? ⟨Bi, 0, none⟩ = some (.int .i64 (k : Int)) := (b4.cell (p := ⟨Bi, 0, none⟩) (World.block_lt_of_cell? _ _ cI3)).trans cI3
        have HK4 := Lib.hid (HK3.out.trans (KA.below b4 hH3))
        have hH4 : H ≤ w4.heap.size := Nat.le_trans hH3 b4.size
        clear b4 cI3 J3 HK3 hH3 IV
        have MU := Lib.hid fun V => mul_k V A iv 1152921504606845789 f hfx (by omega) (by omega) hii.1 hii.2 (by decide)
        have J5 := abides_below HYY.out.2 J4 (Below.refl _ w4).drew
        obtain ⟨fn, tmps, assign, body, hyy, hR⟩ := HYY.out.1 pre ⟨((k : Int), f), hik, hif⟩ w4.drew J5 (by have := HL.out; omega)
        dsimp only [encP] at hyy
        clear J4 J5
        gi_wp2_with fail
        gi_region_with_o (first
          | (refine ⟨trivial, fun _ => by omega, ?_⟩; (with_reducible refine (callsIn_wide.2 (MU.out _)).mono ?_); rintro e w' ⟨rfl, rfl⟩)
          | (refine ⟨fun _ => by omega, ?_⟩; refine hR.mono ?_; rintro e w6 hcase; obtain ⟨bb, rfl, hb⟩ := bool_case hcase; clear hcase))
        all_goals
          rename_i hb
          rcases hb with ⟨rfl, J6, k6⟩ | ⟨rfl, J6⟩
          · gi_wp2
            go_roundw
            case rel =>
              refine ⟨k + 1, pre ++ [⟨((k : Int), f), hik, hif⟩], hlt, by go_num, by rw [List.length_append, HL.out]; rfl, ?_, J6, Lib.hid ((show KA S H W w4.drew from ⟨HK4.out.1, HK4.out.2⟩).trans k6), ?_⟩
              · refine Lib.hid ?_
                have := HS.out
                simpa using this
              · exact Nat.le_trans hH4 k6.1
            case measure => (simp; try omega)
          · gi_wp2
            refine bodyPost_ret (results_none rfl _ _ _) rfl ?_
            exact ⟨⟨_, rfl⟩, .inr ⟨_, trivial, J6⟩⟩
    · obtain rfl : k = N := by omega
      have HE := Lib.hid (show pre.map Subtype.val = fps l by have := hp.out; rwa [show l.drop k = [] from List.drop_of_length_le (by rw [HN.out]; exact Nat.le_refl _), show ips k [] = [] from rfl, List.map_nil, List.append_nil] at this)
      gi_wp2
      go_end0
      exact ⟨⟨_, rfl⟩, .inl ⟨pre, HE.out, hJs⟩⟩
end Go.Proofs.YtbfplapjjeeceaaGreatDoor.W8
