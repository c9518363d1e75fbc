/-
  The walk of the iterator over the blocks of a seed: where the rounds are bounded, it keeps the word of an iterator without an end.
-/
import Derived.Test.YtkniimhgipdbaaaDoorStreamB
namespace Go.Proofs.YtkniimhgipdbaaaDoor
open Go.RowKit SH Go
set_option maxRecDepth 100000 in
set_option maxHeartbeats 4000000 in
theorem blocks_ends (n n0 N Bs : Nat) (hn : 3 ≤ n) (seed : ByteArray) (hs : seed.size ≤ 1000000) (w0 : World) (hT0 : T3 w0) (hn0 : Tin n0) (hBs0 : Bs < w0.heap.size) (hbox0 : w0.cell? ⟨Bs, 0, none⟩ = some (.string seed)) (hN : N ≤ 2000000) :
    SeqEnds Fence.wide n Tryd.prog 17 #[.pointer (some ⟨Bs, 0, none⟩)] (fun x : H32 => #[hval x.1]) (Kp n0) (fun pre => pre = bks seed pre.length) N w0 := by
  intro l J Jx w hW hJN hY hJ hJx h0
  have hT := hT0.below hW
  have hBs : Bs < w.heap.size := Nat.lt_of_lt_of_le hBs0 hW.size
  have hbox : w.cell? ⟨Bs, 0, none⟩ = some (.string seed) := (hW.cell (p := ⟨Bs, 0, none⟩) hBs0).trans hbox0
  have HY := Lib.hid (And.intro hJN (And.intro hY (And.intro hJ (And.intro hJx h0)))); clear hJN hY hJ hJx h0
  have info10 : Hid ((Tryd.prog.info? 40).map (·.size) = some 10) := Lib.hid (by kernel_rfl)
  clear hbox0 hT0 hW hBs0
  refine callsIn_of_wp Tryd.func17 rfl trivial ?_ rfl
  simp only [Tryd.ntmps17, List.size_toArray, List.length_cons, List.length_nil, Nat.reduceAdd, Nat.reduceSub, Array.replicate_succ, Array.replicate_zero, List.push_toArray, List.append_toArray, List.nil_append, List.cons_append]
  refine wpIn_wide.2 ?_
  go_upto_region 0 with fail
  go_cut [3] from 3 to 9 (fun p wx => ∃ (g : Nat) (r2 : ByteArray), p = .pointer (some ⟨g, 0, none⟩) ∧ r2.data.toList = (L0 seed).drop (64 * ((L0 seed).length / 64)) ∧ w.heap.size ≤ g ∧ MH wx g (blocks square (L0 seed) ((L0 seed).length / 64)) r2 (L0 seed).length ∧ Below w.heap.size w wx)
  case first =>
    refine wp_region_held_drew (S := fun W => Below w.heap.size w W) (by kernel_rfl) ((Below.refl _ w).drew) (fun hS => ?_)
    refine wpAnyH_take (i := 1) (oi := { dst := some 6, op := Op.load 9 (Operand.tmp 1), type := 9, pos := "digest.go:37", after := #[], guard := none }) (v := .string seed) rfl (by kernel_rfl) (by kernel_rfl) (by kernel_rfl) (fun _ _ _ h => h) (Or.inl ⟨by rfl, ?yb1⟩) hS ?rb1
    case yb1 => (intro w' hS; have cf := (Below.cell (p := ⟨Bs, 0, none⟩) hS hBs).trans hbox; go_simp; try with_reducible rfl)
    go_simp
    refine wpAnyH_ready (rs := [0, 4]) (by kernel_rfl) (by simp) ?_
    refine AllReadyH.cons (o := { dst := some 5, op := Op.call { callee := Callee.value (Operand.func 14), args := #[], argTypes := #[] }, type := 40, pos := "digest.go:37", after := #[], guard := none }) rfl (fun K hK => ?_) (AllReadyH.cons (o := { dst := some 3, op := Op.alloc 40, type := 0, pos := "digest.go:37", after := #[], guard := none }) rfl (fun K hK => ?_) AllReadyH.nil)
    · go_simp
      go_at_call 14
      refine (begin_any _ (hT.below hS).sq).mono ?_
      rintro e u0 ⟨rfl, b⟩
      have hS2 := hS.trans (b.mono hS.size)
      clear b hS
      try go_simp
      refine hK.out _ _ hS2 (fun hS => ?_)
      clear hK K hS2
      refine wpAnyH_ready (rs := [2, 4]) (by kernel_rfl) (by simp) ?_
      refine AllReadyH.cons (o := { dst := some 7, op := Op.call { callee := Callee.value (Operand.func 15), args := #[Operand.tmp 5, Operand.tmp 6], argTypes := #[40, 9] }, type := 40, pos := "digest.go:37", after := #[{ on := 0, ground := Ground.data }, { on := 1, ground := Ground.data }, { on := 0, ground := Ground.chain }], guard := none }) rfl (fun K hK => ?_) (AllReadyH.cons (o := { dst := some 3, op := Op.alloc 40, type := 0, pos := "digest.go:37", after := #[], guard := none }) rfl (fun K hK => ?_) AllReadyH.nil)
      · go_simp
        go_at_call 15
        refine (first_any _ seed hs (hT.below hS)).mono ?_
        rintro e u1 ⟨r1, hr1, rfl, b⟩
        have hS2 := hS.trans (b.mono hS.size)
        clear b hS
        try go_simp
        refine hK.out _ _ hS2 (fun hS => ?_)
        clear hK K hS2
        refine wpAnyH_ready (rs := [3, 4]) (by kernel_rfl) (by simp) ?_
        refine AllReadyH.cons (o := { dst := some 8, op := Op.call { callee := Callee.value (Operand.func 15), args := #[Operand.tmp 7, Operand.const (Value.string { data := #[47] })], argTypes := #[40, 9] }, type := 40, pos := "digest.go:37", after := #[{ on := 2, ground := Ground.data }, { on := 2, ground := Ground.chain }], guard := none }) rfl (fun K hK => ?_) (AllReadyH.cons (o := { dst := some 3, op := Op.alloc 40, type := 0, pos := "digest.go:37", after := #[], guard := none }) rfl (fun K hK => ?_) AllReadyH.nil)
        · go_simp
          go_at_call 15
          refine (front_any _ seed hs r1 hr1 (hT.below hS)).mono ?_
          rintro e u2 ⟨r2, hr2, rfl, b⟩
          have hS2 := hS.trans (b.mono hS.size)
          clear b hS
          try go_simp
          refine hK.out _ _ hS2 (fun hS => ?_)
          clear hK K hS2
          refine wpAnyH_ready (rs := [4]) (by kernel_rfl) (by simp) ?_
          refine AllReadyH.cons (o := { dst := some 3, op := Op.alloc 40, type := 0, pos := "digest.go:37", after := #[], guard := none }) rfl (fun K hK => ?_) AllReadyH.nil
          go_simp
          have hge := hS.size
          have hS2 := hS.alloc hge (.cells (mcells ⟨0, 0, 0, 0, 0, 0, 0, 0⟩ ⟨#[]⟩ 0) 40)
          have hrow := new_row hS
          clear hS
          refine hK.out _ _ hS2 (fun hS => ?_)
          clear hK K hS2
          refine wpAnyH_ready (rs := [5]) (by kernel_rfl) (by simp) ?_
          refine AllReadyH.cons (o := { dst := none, op := Op.store 40 (Operand.tmp 3) (Operand.tmp 8), type := 0, pos := "digest.go:37", after := #[{ on := 4, ground := Ground.data }, { on := 3, ground := Ground.data }, { on := 3, ground := Ground.chain }, { on := 0, ground := Ground.phase }, { on := 1, ground := Ground.phase }, { on := 2, ground := Ground.phase }, { on := 3, ground := Ground.phase }, { on := 4, ground := Ground.phase }], guard := none }) rfl (fun K hK => ?_) AllReadyH.nil
          rw [if_pos (by rfl)]
          refine wp_store_row 40 (.tmp 3) (.tmp 8) rfl _ (mcells (blocks square (L0 seed) ((L0 seed).length / 64)) r2 (L0 seed).length) (by first | rfl | (simp [Act.eval])) (by first | rfl | (simp [Act.eval])) 40 (mcells ⟨0, 0, 0, 0, 0, 0, 0, 0⟩ ⟨#[]⟩ 0) hrow info10.out rfl (mcells_one _ _ _) ?_
          have hS2 := Below.setRow' hS hge (mcells (blocks square (L0 seed) ((L0 seed).length / 64)) r2 (L0 seed).length)
          have hrow2 := setRow_heap _ _ _ (mcells (blocks square (L0 seed) ((L0 seed).length / 64)) r2 (L0 seed).length) _ _ hrow
          clear hS
          refine hK.out _ _ hS2 (fun hS => ?_)
          clear hK K hS2 hrow
          refine wpAnyH_done (by kernel_rfl) ?_ _
          go_wp2_with fail
          go_meet
          exact ⟨_, r2, rfl, hr2, hge, hrow2, hS⟩

        · go_simp
          have hge := hS.size
          have hS2 := hS.alloc hge (.cells (mcells ⟨0, 0, 0, 0, 0, 0, 0, 0⟩ ⟨#[]⟩ 0) 40)
          have hrow := new_row hS
          clear hS
          refine hK.out _ _ hS2 (fun hS => ?_)
          clear hK K hS2
          refine wpAnyH_ready (rs := [3]) (by kernel_rfl) (by simp) ?_
          refine AllReadyH.cons (o := { dst := some 8, op := Op.call { callee := Callee.value (Operand.func 15), args := #[Operand.tmp 7, Operand.const (Value.string { data := #[47] })], argTypes := #[40, 9] }, type := 40, pos := "digest.go:37", after := #[{ on := 2, ground := Ground.data }, { on := 2, ground := Ground.chain }], guard := none }) rfl (fun K hK => ?_) AllReadyH.nil
          go_simp
          go_at_call 15
          refine (front_any _ seed hs r1 hr1 (hT.below hS)).mono ?_
          rintro e u2 ⟨r2, hr2, rfl, b⟩
          have hS2 := hS.trans (b.mono hS.size)
          have hrow2 := hrow.below b hrow.lt
          clear hrow
          have hrow := hrow2
          clear hrow2
          clear b hS
          try go_simp
          refine hK.out _ _ hS2 (fun hS => ?_)
          clear hK K hS2
          refine wpAnyH_ready (rs := [5]) (by kernel_rfl) (by simp) ?_
          refine AllReadyH.cons (o := { dst := none, op := Op.store 40 (Operand.tmp 3) (Operand.tmp 8), type := 0, pos := "digest.go:37", after := #[{ on := 4, ground := Ground.data }, { on := 3, ground := Ground.data }, { on := 3, ground := Ground.chain }, { on := 0, ground := Ground.phase }, { on := 1, ground := Ground.phase }, { on := 2, ground := Ground.phase }, { on := 3, ground := Ground.phase }, { on := 4, ground := Ground.phase }], guard := none }) rfl (fun K hK => ?_) AllReadyH.nil
          rw [if_pos (by rfl)]
          refine wp_store_row 40 (.tmp 3) (.tmp 8) rfl _ (mcells (blocks square (L0 seed) ((L0 seed).length / 64)) r2 (L0 seed).length) (by first | rfl | (simp [Act.eval])) (by first | rfl | (simp [Act.eval])) 40 (mcells ⟨0, 0, 0, 0, 0, 0, 0, 0⟩ ⟨#[]⟩ 0) hrow info10.out rfl (mcells_one _ _ _) ?_
          have hS2 := Below.setRow' hS hge (mcells (blocks square (L0 seed) ((L0 seed).length / 64)) r2 (L0 seed).length)
          have hrow2 := setRow_heap _ _ _ (mcells (blocks square (L0 seed) ((L0 seed).length / 64)) r2 (L0 seed).length) _ _ hrow
          clear hS
          refine hK.out _ _ hS2 (fun hS => ?_)
          clear hK K hS2 hrow
          refine wpAnyH_done (by kernel_rfl) ?_ _
          go_wp2_with fail
          go_meet
          exact ⟨_, r2, rfl, hr2, hge, hrow2, hS⟩

      · go_simp
        have hge := hS.size
        have hS2 := hS.alloc hge (.cells (mcells ⟨0, 0, 0, 0, 0, 0, 0, 0⟩ ⟨#[]⟩ 0) 40)
        have hrow := new_row hS
        clear hS
        refine hK.out _ _ hS2 (fun hS => ?_)
        clear hK K hS2
        refine wpAnyH_ready (rs := [2]) (by kernel_rfl) (by simp) ?_
        refine AllReadyH.cons (o := { dst := some 7, op := Op.call { callee := Callee.value (Operand.func 15), args := #[Operand.tmp 5, Operand.tmp 6], argTypes := #[40, 9] }, type := 40, pos := "digest.go:37", after := #[{ on := 0, ground := Ground.data }, { on := 1, ground := Ground.data }, { on := 0, ground := Ground.chain }], guard := none }) rfl (fun K hK => ?_) AllReadyH.nil
        go_simp
        go_at_call 15
        refine (first_any _ seed hs (hT.below hS)).mono ?_
        rintro e u1 ⟨r1, hr1, rfl, b⟩
        have hS2 := hS.trans (b.mono hS.size)
        have hrow2 := hrow.below b hrow.lt
        clear hrow
        have hrow := hrow2
        clear hrow2
        clear b hS
        try go_simp
        refine hK.out _ _ hS2 (fun hS => ?_)
        clear hK K hS2
        refine wpAnyH_ready (rs := [3]) (by kernel_rfl) (by simp) ?_
        refine AllReadyH.cons (o := { dst := some 8, op := Op.call { callee := Callee.value (Operand.func 15), args := #[Operand.tmp 7, Operand.const (Value.string { data := #[47] })], argTypes := #[40, 9] }, type := 40, pos := "digest.go:37", after := #[{ on := 2, ground := Ground.data }, { on := 2, ground := Ground.chain }], guard := none }) rfl (fun K hK => ?_) AllReadyH.nil
        go_simp
        go_at_call 15
        refine (front_any _ seed hs r1 hr1 (hT.below hS)).mono ?_
        rintro e u2 ⟨r2, hr2, rfl, b⟩
        have hS2 := hS.trans (b.mono hS.size)
        have hrow2 := hrow.below b hrow.lt
        clear hrow
        have hrow := hrow2
        clear hrow2
        clear b hS
        try go_simp
        refine hK.out _ _ hS2 (fun hS => ?_)
        clear hK K hS2
        refine wpAnyH_ready (rs := [5]) (by kernel_rfl) (by simp) ?_
        refine AllReadyH.cons (o := { dst := none, op := Op.store 40 (Operand.tmp 3) (Operand.tmp 8), type := 0, pos := "digest.go:37", after := #[{ on := 4, ground := Ground.data }, { on := 3, ground := Ground.data }, { on := 3, ground := Ground.chain }, { on := 0, ground := Ground.phase }, { on := 1, ground := Ground.phase }, { on := 2, ground := Ground.phase }, { on := 3, ground := Ground.phase }, { on := 4, ground := Ground.phase }], guard := none }) rfl (fun K hK => ?_) AllReadyH.nil
        rw [if_pos (by rfl)]
        refine wp_store_row 40 (.tmp 3) (.tmp 8) rfl _ (mcells (blocks square (L0 seed) ((L0 seed).length / 64)) r2 (L0 seed).length) (by first | rfl | (simp [Act.eval])) (by first | rfl | (simp [Act.eval])) 40 (mcells ⟨0, 0, 0, 0, 0, 0, 0, 0⟩ ⟨#[]⟩ 0) hrow info10.out rfl (mcells_one _ _ _) ?_
        have hS2 := Below.setRow' hS hge (mcells (blocks square (L0 seed) ((L0 seed).length / 64)) r2 (L0 seed).length)
        have hrow2 := setRow_heap _ _ _ (mcells (blocks square (L0 seed) ((L0 seed).length / 64)) r2 (L0 seed).length) _ _ hrow
        clear hS
        refine hK.out _ _ hS2 (fun hS => ?_)
        clear hK K hS2 hrow
        refine wpAnyH_done (by kernel_rfl) ?_ _
        go_wp2_with fail
        go_meet
        exact ⟨_, r2, rfl, hr2, hge, hrow2, hS⟩

    · go_simp
      have hge := hS.size
      have hS2 := hS.alloc hge (.cells (mcells ⟨0, 0, 0, 0, 0, 0, 0, 0⟩ ⟨#[]⟩ 0) 40)
      have hrow := new_row hS
      clear hS
      refine hK.out _ _ hS2 (fun hS => ?_)
      clear hK K hS2
      refine wpAnyH_ready (rs := [0]) (by kernel_rfl) (by simp) ?_
      refine AllReadyH.cons (o := { dst := some 5, op := Op.call { callee := Callee.value (Operand.func 14), args := #[], argTypes := #[] }, type := 40, pos := "digest.go:37", after := #[], guard := none }) rfl (fun K hK => ?_) AllReadyH.nil
      go_simp
      go_at_call 14
      refine (begin_any _ (hT.below hS).sq).mono ?_
      rintro e u0 ⟨rfl, b⟩
      have hS2 := hS.trans (b.mono hS.size)
      have hrow2 := hrow.below b hrow.lt
      clear hrow
      have hrow := hrow2
      clear hrow2
      clear b hS
      try go_simp
      refine hK.out _ _ hS2 (fun hS => ?_)
      clear hK K hS2
      refine wpAnyH_ready (rs := [2]) (by kernel_rfl) (by simp) ?_
      refine AllReadyH.cons (o := { dst := some 7, op := Op.call { callee := Callee.value (Operand.func 15), args := #[Operand.tmp 5, Operand.tmp 6], argTypes := #[40, 9] }, type := 40, pos := "digest.go:37", after := #[{ on := 0, ground := Ground.data }, { on := 1, ground := Ground.data }, { on := 0, ground := Ground.chain }], guard := none }) rfl (fun K hK => ?_) AllReadyH.nil
      go_simp
      go_at_call 15
      refine (first_any _ seed hs (hT.below hS)).mono ?_
      rintro e u1 ⟨r1, hr1, rfl, b⟩
      have hS2 := hS.trans (b.mono hS.size)
      have hrow2 := hrow.below b hrow.lt
      clear hrow
      have hrow := hrow2
      clear hrow2
      clear b hS
      try go_simp
      refine hK.out _ _ hS2 (fun hS => ?_)
      clear hK K hS2
      refine wpAnyH_ready (rs := [3]) (by kernel_rfl) (by simp) ?_
      refine AllReadyH.cons (o := { dst := some 8, op := Op.call { callee := Callee.value (Operand.func 15), args := #[Operand.tmp 7, Operand.const (Value.string { data := #[47] })], argTypes := #[40, 9] }, type := 40, pos := "digest.go:37", after := #[{ on := 2, ground := Ground.data }, { on := 2, ground := Ground.chain }], guard := none }) rfl (fun K hK => ?_) AllReadyH.nil
      go_simp
      go_at_call 15
      refine (front_any _ seed hs r1 hr1 (hT.below hS)).mono ?_
      rintro e u2 ⟨r2, hr2, rfl, b⟩
      have hS2 := hS.trans (b.mono hS.size)
      have hrow2 := hrow.below b hrow.lt
      clear hrow
      have hrow := hrow2
      clear hrow2
      clear b hS
      try go_simp
      refine hK.out _ _ hS2 (fun hS => ?_)
      clear hK K hS2
      refine wpAnyH_ready (rs := [5]) (by kernel_rfl) (by simp) ?_
      refine AllReadyH.cons (o := { dst := none, op := Op.store 40 (Operand.tmp 3) (Operand.tmp 8), type := 0, pos := "digest.go:37", after := #[{ on := 4, ground := Ground.data }, { on := 3, ground := Ground.data }, { on := 3, ground := Ground.chain }, { on := 0, ground := Ground.phase }, { on := 1, ground := Ground.phase }, { on := 2, ground := Ground.phase }, { on := 3, ground := Ground.phase }, { on := 4, ground := Ground.phase }], guard := none }) rfl (fun K hK => ?_) AllReadyH.nil
      rw [if_pos (by rfl)]
      refine wp_store_row 40 (.tmp 3) (.tmp 8) rfl _ (mcells (blocks square (L0 seed) ((L0 seed).length / 64)) r2 (L0 seed).length) (by first | rfl | (simp [Act.eval])) (by first | rfl | (simp [Act.eval])) 40 (mcells ⟨0, 0, 0, 0, 0, 0, 0, 0⟩ ⟨#[]⟩ 0) hrow info10.out rfl (mcells_one _ _ _) ?_
      have hS2 := Below.setRow' hS hge (mcells (blocks square (L0 seed) ((L0 seed).length / 64)) r2 (L0 seed).length)
      have hrow2 := setRow_heap _ _ _ (mcells (blocks square (L0 seed) ((L0 seed).length / 64)) r2 (L0 seed).length) _ _ hrow
      clear hS
      refine hK.out _ _ hS2 (fun hS => ?_)
      clear hK K hS2 hrow
      refine wpAnyH_done (by kernel_rfl) ?_ _
      go_wp2_with fail
      go_meet
      exact ⟨_, r2, rfl, hr2, hge, hrow2, hS⟩
  case rest =>
    obtain ⟨g, r2, rfl, hr2, hge, hrow, hB⟩ := hcut
    go_upto_region 1 with fail
    go_wp2_with fail
    have HF := Lib.hid (And.intro hr2 (And.intro hge (FK.mk hrow (hT.below hB)))); clear hr2 hge hrow
    have J0 := HY.out.2.2.1 _ _ _ HY.out.2.2.2.2 hB
    generalize hst : blocks square (L0 seed) ((L0 seed).length / 64) = st at *
    generalize hln : (L0 seed).length = ln at *
    clear hB hbox hBs
    refine (wpIn_wide (n := n)).1 ?_
    gi_loopw [4] (fun p wr => ∃ (k : Nat), p = .int .i64 (k : Int) ∧ J (bks seed k) wr ∧ Hid (FK g st r2 ln wr)) (fun p _ => N - (intOf p).toNat)
    case atStart => exact ⟨0, rfl, J0, Lib.hid HF.out.2.2⟩
    case round =>
      obtain ⟨k, rfl, hJk, hF⟩ := hrel
      have hk : k < N := by have := HY.out.1 _ _ hJk; rwa [bks_len] at this
      have HF2 := Lib.hid (And.intro HF.out.1 HF.out.2.1)
      have hF0 := hF.out.drew
      have J1 := HY.out.2.2.1 _ _ _ hJk (Below.refl _ wr).drew
      have hld := run_loadVar_row wr.drew g 40 40 (mcells st r2 ln) (0, 0) _ hF0.row Tryd.underlying40 rfl info10.out
      clear hJk hF HF J0
      have hmx : Tryd.prog.follows .mixedOrders = true := by kernel_rfl
      have hadd := fun W (h : T3 W) => step_any W seed r2 hs k (by omega) (by rw [hln]; exact HF2.out.1) h
      simp only [hln, hst] at hadd
      clear hln hst
      gi_wp2
      refine wpIn_region_any (by kernel_rfl) ?_
      change wpAnyIn _ _ _ _ _ _ _ _ _ (World.drew wr)
      refine wpAnyIn_take (i := 0) (v := ?v0) rfl rfl (by kernel_rfl) (by kernel_rfl) (by kernel_rfl) (fun _ _ _ h => h) ⟨Or.inl ⟨by rfl, ?y0⟩, fun _ => rfl⟩ ?r0
      case y0 => (intro w; go_simp; try with_reducible rfl)
      refine wpAnyIn_take (i := 2) (v := ?v2) rfl rfl (by kernel_rfl) (by kernel_rfl) (by kernel_rfl) (fun _ _ _ h => h) ⟨Or.inl ⟨by rfl, ?y2⟩, fun _ => rfl⟩ ?r2
      case y2 => (intro w; go_simp; try with_reducible rfl)
      go_simp
      refine wpAnyIn_ready (rs := [1, 3]) (by kernel_rfl) (by simp) ?_
      refine AllReadyIn.cons rfl (fun K hK => ?_) (AllReadyIn.cons rfl (fun K hK => ?_) AllReadyIn.nil)
      · refine in_load (by rfl) 40 (.tmp 3) rfl g (by first | rfl | (simp [Act.eval])) 40 (mcells st r2 ln) (0, 0) _ hF0.row Tryd.underlying40 rfl info10.out ?_
        refine hK _ _ ?_
        clear hK K
        refine wpAnyIn_ready (rs := [3]) (by kernel_rfl) (by simp) ?_
        refine AllReadyIn.cons rfl (fun K hK => ?_) AllReadyIn.nil
        go_simp
        refine ⟨trivial, fun _ => by omega, ?_⟩
        refine (callsIn_wide.2 (itoa_any _ k (by omega) hF0.t)).mono ?_
        rintro e w1 ⟨rfl, b⟩
        have hF1 := hF0.next b
        have J2 := HY.out.2.2.1 _ _ _ J1 b
        clear b
        try go_simp
        refine hK _ _ ?_
        clear hK K
        refine wpAnyIn_ready (rs := [4]) (by kernel_rfl) (by simp) ?_
        refine AllReadyIn.cons rfl (fun K hK => ?_) AllReadyIn.nil
        go_simp
        refine ⟨trivial, fun _ => by omega, ?_⟩
        refine (callsIn_wide.2 (hadd _ hF1.t)).mono ?_
        rintro e w2 ⟨s3, r3, n3, rfl, b, hsum⟩
        have hF3 := hF1.next b
        have J3 := HY.out.2.2.1 _ _ _ J2 b
        clear b
        try go_simp
        refine hK _ _ ?_
        clear hK K
        refine wpAnyIn_ready (rs := [5]) (by kernel_rfl) (by simp) ?_
        refine AllReadyIn.cons rfl (fun K hK => ?_) AllReadyIn.nil
        go_simp
        refine ⟨trivial, fun _ => by omega, ?_⟩
        refine (callsIn_wide.2 (hsum.out _ hF3.t)).mono ?_
        rintro e w3 ⟨rfl, b⟩
        have hF4 := hF3.next b
        have J4 := HY.out.2.2.1 _ _ _ J3 b
        clear b
        obtain ⟨fn, tmps, assign, body, hy, hR⟩ := HY.out.2.1 (bks seed k) (bkH seed k) w3 J4
        change Sem.run _ (Instr.yield l #[hval (bk seed k)]) _ = _ at hy
        try go_simp
        refine hK _ _ ?_
        clear hK K
        refine wpAnyIn_ready (rs := [6]) (by kernel_rfl) (by simp) ?_
        refine AllReadyIn.cons rfl (fun K hK => ?_) AllReadyIn.nil
        go_simp
        refine ⟨fun _ => by omega, ?_⟩
        refine hR.mono ?_
        rintro e w4 hcase
        obtain ⟨b, rfl, hb⟩ := bool_case hcase
        clear hcase
        try go_simp
        refine hK _ _ ?_
        clear hK K
        refine wpAnyIn_take (i := 7) (v := ?v7) rfl rfl (by kernel_rfl) (by kernel_rfl) (by kernel_rfl) (fun _ _ _ h => h) ⟨Or.inl ⟨by rfl, ?y7⟩, fun _ => rfl⟩ ?r7
        case y7 => (intro w; go_simp; try with_reducible rfl)
        go_simp
        refine wpAnyIn_done (by kernel_rfl) ?_ _
        rcases hb with ⟨rfl, J5, hk5⟩ | ⟨rfl, J5⟩
        · gi_wp2
          go_roundw
          case rel =>
            refine ⟨k + 1, by go_num, by rw [bks_snoc]; exact J5, Lib.hid (hF4.kp hn0 hk5)⟩
          case measure => (simp [intOf]; try omega)
        · gi_wp2
          refine bodyPost_ret (results_none rfl _ _ _) rfl ?_
          exact ⟨⟨_, rfl⟩, bks seed k ++ [bkH seed k], by rw [← bks_snoc, bks_len], J5⟩
      · go_simp
        refine ⟨trivial, fun _ => by omega, ?_⟩
        refine (callsIn_wide.2 (itoa_any _ k (by omega) hF0.t)).mono ?_
        rintro e w1 ⟨rfl, b⟩
        have hF1 := hF0.next b
        have J2 := HY.out.2.2.1 _ _ _ J1 b
        clear b
        try go_simp
        refine hK _ _ ?_
        clear hK K
        refine wpAnyIn_ready (rs := [1]) (by kernel_rfl) (by simp) ?_
        refine AllReadyIn.cons rfl (fun K hK => ?_) AllReadyIn.nil
        refine in_load (by rfl) 40 (.tmp 3) rfl g (by first | rfl | (simp [Act.eval])) 40 (mcells st r2 ln) (0, 0) _ hF1.row Tryd.underlying40 rfl info10.out ?_
        refine hK _ _ ?_
        clear hK K
        refine wpAnyIn_ready (rs := [4]) (by kernel_rfl) (by simp) ?_
        refine AllReadyIn.cons rfl (fun K hK => ?_) AllReadyIn.nil
        go_simp
        refine ⟨trivial, fun _ => by omega, ?_⟩
        refine (callsIn_wide.2 (hadd _ hF1.t)).mono ?_
        rintro e w2 ⟨s3, r3, n3, rfl, b, hsum⟩
        have hF3 := hF1.next b
        have J3 := HY.out.2.2.1 _ _ _ J2 b
        clear b
        try go_simp
        refine hK _ _ ?_
        clear hK K
        refine wpAnyIn_ready (rs := [5]) (by kernel_rfl) (by simp) ?_
        refine AllReadyIn.cons rfl (fun K hK => ?_) AllReadyIn.nil
        go_simp
        refine ⟨trivial, fun _ => by omega, ?_⟩
        refine (callsIn_wide.2 (hsum.out _ hF3.t)).mono ?_
        rintro e w3 ⟨rfl, b⟩
        have hF4 := hF3.next b
        have J4 := HY.out.2.2.1 _ _ _ J3 b
        clear b
        obtain ⟨fn, tmps, assign, body, hy, hR⟩ := HY.out.2.1 (bks seed k) (bkH seed k) w3 J4
        change Sem.run _ (Instr.yield l #[hval (bk seed k)]) _ = _ at hy
        try go_simp
        refine hK _ _ ?_
        clear hK K
        refine wpAnyIn_ready (rs := [6]) (by kernel_rfl) (by simp) ?_
        refine AllReadyIn.cons rfl (fun K hK => ?_) AllReadyIn.nil
        go_simp
        refine ⟨fun _ => by omega, ?_⟩
        refine hR.mono ?_
        rintro e w4 hcase
        obtain ⟨b, rfl, hb⟩ := bool_case hcase
        clear hcase
        try go_simp
        refine hK _ _ ?_
        clear hK K
        refine wpAnyIn_take (i := 7) (v := ?v7b) rfl rfl (by kernel_rfl) (by kernel_rfl) (by kernel_rfl) (fun _ _ _ h => h) ⟨Or.inl ⟨by rfl, ?y7b⟩, fun _ => rfl⟩ ?r7b
        case y7b => (intro w; go_simp; try with_reducible rfl)
        go_simp
        refine wpAnyIn_done (by kernel_rfl) ?_ _
        rcases hb with ⟨rfl, J5, hk5⟩ | ⟨rfl, J5⟩
        · gi_wp2
          go_roundw
          case rel =>
            refine ⟨k + 1, by go_num, by rw [bks_snoc]; exact J5, Lib.hid (hF4.kp hn0 hk5)⟩
          case measure => (simp [intOf]; try omega)
        · gi_wp2
          refine bodyPost_ret (results_none rfl _ _ _) rfl ?_
          exact ⟨⟨_, rfl⟩, bks seed k ++ [bkH seed k], by rw [← bks_snoc, bks_len], J5⟩
end Go.Proofs.YtkniimhgipdbaaaDoor
