/-
  Slices that show numbers or strings; the walks of deal.powers and of its iterator.
-/
import Derived.Test.YtjfbpmpdcmealaaGreatDoorDMath
import Derived.Test.YtjfbpmpdcmealaaGreatDoorEBase
import Derived.RangeFuncNested
import Derived.RangeFuncBound
import Derived.RangeFuncCalls
import Derived.RangeFuncLeaves
import Derived.RangeFuncFrom
import Derived.Shelf.Abstract
import Derived.Shelf.RegionOpen
import Derived.OwnWalkIn
import Derived.TacticsInMore
import Derived.LoopNIn
import Derived.LoopIn
namespace Go.Proofs.YtjfbpmpdcmealaaGreatDoor.D7
open Go.RowKit GM SH G4 E6 D7P Go.Shelf
attribute [local go_sem] Oper.semAt_some
/-- a slice shows these values -/
def VL (w : World) (v : Value) (vs : List Value) : Prop := ∃ (p : Option Addr) (c : Nat), v = .slice p vs.length c ∧ ∀ (j : Nat) (x : Value), vs[j]? = some x → ∃ b o, p = some ⟨b, o, none⟩ ∧ w.cell? ⟨b, o + j, none⟩ = some x
theorem VL.below {w w' : World} {v : Value} {vs : List Value} (h : VL w v vs) (k : Below w.heap.size w w') : VL w' v vs := by
  obtain ⟨p, c, h1, h2⟩ := h
  refine ⟨p, c, h1, fun j x hj => ?_⟩
  obtain ⟨b, o, e, hc⟩ := h2 j x hj
  exact ⟨b, o, e, (k.cell (p := ⟨b, o + j, none⟩) (World.block_lt_of_cell? _ _ hc)).trans hc⟩
theorem VL.nil (w : World) (p : Option Addr) (c : Nat) : VL w (.slice p 0 c) [] := ⟨p, c, rfl, fun j x hj => by simp at hj⟩
theorem VL.at (w : World) (b n c : Nat) (vs : List Value) (hn : vs.length = n) (h : ∀ (j : Nat) (x : Value), vs[j]? = some x → w.cell? ⟨b, j, none⟩ = some x) : VL w (.slice (some ⟨b, 0, none⟩) n c) vs := by
  subst hn
  exact ⟨_, c, rfl, fun j x hj => ⟨b, 0, rfl, by rw [Nat.zero_add]; exact h j x hj⟩⟩
/-- a slice shows numbers, strings -/
abbrev SL (w : World) (v : Value) (l : List Int) : Prop := VL w v (l.map (Value.int .i64))
abbrev ZL (w : World) (v : Value) (l : List ByteArray) : Prop := VL w v (l.map Value.string)
theorem SL.form {w : World} {v : Value} {l : List Int} (h : SL w v l) : ∃ (p : Option Addr) (c : Nat), v = .slice p l.length c ∧ ∀ (j : Nat) (x : Int), l[j]? = some x → ∃ b o, p = some ⟨b, o, none⟩ ∧ w.cell? ⟨b, o + j, none⟩ = some (.int .i64 x) := by
  obtain ⟨p, c, h1, h2⟩ := h
  refine ⟨p, c, by rw [h1, List.length_map], fun j x hj => h2 j _ ?_⟩
  rw [List.getElem?_map, hj]; rfl
theorem ZL.form {w : World} {v : Value} {l : List ByteArray} (h : ZL w v l) : ∃ (p : Option Addr) (c : Nat), v = .slice p l.length c ∧ ∀ (j : Nat) (x : ByteArray), l[j]? = some x → ∃ b o, p = some ⟨b, o, none⟩ ∧ w.cell? ⟨b, o + j, none⟩ = some (.string x) := by
  obtain ⟨p, c, h1, h2⟩ := h
  refine ⟨p, c, by rw [h1, List.length_map], fun j x hj => h2 j _ ?_⟩
  rw [List.getElem?_map, hj]; rfl
/-- pairs of numbers, as the iterator passes them on -/
abbrev P2 := {v : Int × Int // i64 v.1 ∧ i64 v.2}
def encP (x : P2) : Array Value := #[.int .i64 x.1.1, .int .i64 x.1.2]
/-- all blocks below H but S keep what they hold -/
def KA (S H : Nat) (A B : World) : Prop := ∀ b o, b < H → b ≠ S → B.cell? ⟨b, o, none⟩ = A.cell? ⟨b, o, none⟩
theorem KA.trans {S H : Nat} {A B C : World} (h : KA S H A B) (k : KA S H B C) : KA S H A C := fun b o hb hs => (k b o hb hs).trans (h b o hb hs)
theorem KA.below {S H : Nat} {A B : World} (h : Below A.heap.size A B) (hH : H ≤ A.heap.size) : KA S H A B := fun b o hb _ => h.cell (p := ⟨b, o, none⟩) (by show b < _; omega)
theorem KA.put {S H : Nat} {w : World} (hH : H ≤ w.heap.size) (W : World) (l : Nat) (o o' : Obj) (hl : w.heap.size ≤ l) (_ : W.heap[l]? = some o) (_ : o.isCells = false) (_ : o.isWalk = false) : KA S H W (W.putObj l o') := fun b _ hb _ =>
  World.cell?_of_block (World.putObj_heap_other (by show b ≠ l; omega))
theorem KA.set {S H : Nat} (W : World) (j : Nat) (v : Value) : KA S H W (W.setCell ⟨S, j, none⟩ v) := fun b o _ hs => by
  rw [World.cell?_setCell_other _ _ _ _ (by intro e; injection e with e1; first | exact hs e1 | exact hs e1.symm)]
theorem powers_any (w : World) (p : Option Addr) (n c : Nat) (x : Int) : Calls Tryz.prog 64 #[.slice p n c, .int .i64 x] w fun e w' => e = .returned (.func (.func 92) #[] #[.pointer (some ⟨w.heap.size, 0, none⟩), .pointer (some ⟨w.heap.size + 1, 0, none⟩)]) ∧ (w.alloc (.cells #[.slice p n c] 22)).alloc (.cells #[.int .i64 x] 3) = w' := by
  go_enter Tryz.func64, Tryz.ntmps64
  go_wp2
  go_ret
  exact ⟨rfl, rfl⟩
theorem mulQ (W : World) (a b r : Int) (h : gm a b 1152921504606845789 = r) (ha : i64 a) (hb : i64 b) :
    Calls Tryz.prog 66 #[.int .i64 a, .int .i64 b, .int .i64 1152921504606845789] W fun e w' => e = .returned (.int .i64 r) ∧ w' = W := mul_k W a b _ r h ha.1 ha.2 hb.1 hb.2 (by decide)
theorem gmQ_i64 (a b : Int) : i64 (gm a b 1152921504606845789) := ⟨by have := mQr a b; omega, by have := mQr a b; omega⟩
theorem gaQ_i64 (a b : Int) : i64 (ga a b 1152921504606845789) := ⟨by have := gQr a b; omega, by have := gQr a b; omega⟩
theorem pws_step (l : List Int) (x m c : Int) (k : Nat) (pre : List (Int × Int)) (h : pre ++ pws (l.drop k) x m = pws l x 1) (hc : l[k]? = some c) : pre ++ [(c, m)] ++ pws (l.drop (k+1)) x (gm m x 1152921504606845789) = pws l x 1 := by
  obtain ⟨hk, rfl⟩ := List.getElem?_eq_some_iff.1 hc
  rw [← h, List.drop_eq_getElem_cons hk]
  simp [pws]
set_option maxRecDepth 100000 in
set_option maxHeartbeats 4000000 in
theorem powers_stops (n : Nat) (hn : 3 ≤ n) (S H Bl Bx : Nat) (p : Option Addr) (c : Nat) (l : List Int) (x : Int) (w : World) (hH : H ≤ w.heap.size) (hBl : Bl < H) (hBx : Bx < H) (hSl : Bl ≠ S) (hSx : Bx ≠ S)
    (hl : w.cell? ⟨Bl, 0, none⟩ = some (.slice p l.length c)) (hx : w.cell? ⟨Bx, 0, none⟩ = some (.int .i64 x)) (hix : i64 x)
    (hc : ∀ (j : Nat) (y : Int), l[j]? = some y → ∃ b o, p = some ⟨b, o, none⟩ ∧ b < H ∧ b ≠ S ∧ w.cell? ⟨b, o + j, none⟩ = some (.int .i64 y)) (hr : ∀ y ∈ l, i64 y) (hln : l.length ≤ 1000000000) :
    SeqStopsK Fence.wide n Tryz.prog 92 #[.pointer (some ⟨Bl, 0, none⟩), .pointer (some ⟨Bx, 0, none⟩)] encP (KA S H) (fun xs => xs.map Subtype.val = pws l x 1) (fun _ => True) l.length w := by
  intro lo J Jx W hW hJ hJx hY h0
  have k0 : KA S H w W := KA.below hW hH
  have cl : W.cell? ⟨Bl, 0, none⟩ = some (.slice p l.length c) := (k0 Bl 0 hBl hSl).trans hl
  have HX := Lib.hid (And.intro hx (And.intro hc hr)); clear hx hc hr hl
  refine callsIn_of_wp Tryz.func92 rfl trivial ?_ rfl
  simp only [Tryz.ntmps92, List.size_toArray, List.length_cons, List.length_nil, Nat.reduceAdd, Nat.reduceSub, Array.replicate_succ, Array.replicate_zero, List.push_toArray, List.append_toArray, List.nil_append, List.cons_append]
  have HY := Lib.hid hY; clear hY
  have HK := Lib.hid k0; clear k0
  obtain ⟨N, hN⟩ : ∃ N, l.length = N := ⟨_, rfl⟩
  rw [hN] at cl HY hln
  have HN := Lib.hid hN; clear hN
  gi_wp2_with fail
  clear cl
  gi_loopw [4, 9] (fun n i wr => ∃ (k : Nat) (pre : List P2) (m : Int), k ≤ N ∧ n = .int .i64 m ∧ i = .int .i64 (k : Int) ∧ pre.length = k ∧ i64 m ∧ Hid (pre.map Subtype.val ++ pws (l.drop k) x m = pws l x 1) ∧ J pre wr ∧ Hid (KA S H w wr)) (fun _ i _ => N - (match i with | .int _ i => i.toNat | _ => 0))
  case atStart => exact ⟨0, [], 1, Nat.zero_le _, rfl, rfl, rfl, by decide, Lib.hid (by simp), h0, HK⟩
  case round =>
    obtain ⟨k, pre, m, hk, rfl, rfl, hlen, him, hp, hJs, hK⟩ := hrel
    by_cases hlt : k < N
    · obtain ⟨y, hy⟩ : ∃ y, l[k]? = some y := ⟨l[k]'(by rw [HN.out]; exact hlt), List.getElem?_eq_getElem _⟩
      obtain ⟨b, o, hpp, hbH, hbS, hcy⟩ := HX.out.2.1 k y hy
      subst hpp
      have hcell := (hK.out b (o + k) hbH hbS).trans hcy
      have hiy := HX.out.2.2 y (List.mem_of_getElem? hy)
      have HS := Lib.hid (pws_step l x m y k _ hp.out hy)
      have HM := Lib.hid fun W => mulQ W m x (gm m x 1152921504606845789) rfl him hix
      have hgm := gmQ_i64 m x
      generalize gm m x 1152921504606845789 = m2 at *
      obtain ⟨fn, tmps, assign, body, hyy, hR⟩ := HY.out pre ⟨(y, m), hiy, him⟩ wr hJs (by omega)
      have HL := Lib.hid hlen
      dsimp only [encP] at hyy
      clear hy hcy hp hlen
      gi_wp2
      clear hcell
      refine ⟨fun _ => by omega, ?_⟩
      refine hR.mono ?_
      rintro e W3 (⟨rfl, hJ3, hk3⟩ | ⟨rfl, hJx3⟩)
      · have HK3 := Lib.hid (hK.out.trans hk3); clear hk3
        have cx : W3.cell? ⟨Bx, 0, none⟩ = some (.int .i64 x) := (HK3.out Bx 0 hBx hSx).trans HX.out.1
        gi_wp2_with (refine ⟨trivial, fun _ => by omega, ?_⟩; refine (callsIn_wide.2 (HM.out _)).mono ?_; rintro e w' ⟨rfl, rfl⟩)
        go_roundw
        case rel =>
          refine ⟨k + 1, pre ++ [⟨(y, m), hiy, him⟩], m2, hlt, rfl, by go_num, by rw [List.length_append, HL.out]; rfl, hgm, ?_, hJ3, HK3⟩
          refine Lib.hid ?_
          have := HS.out
          simpa using this
        case measure => (simp; try omega)
      · gi_wp2
        refine bodyPost_ret (results_none rfl _ _ _) rfl ?_
        exact ⟨⟨_, rfl⟩, .inr ⟨_, trivial, hJx3⟩⟩
    · obtain rfl : k = N := by omega
      have HE := Lib.hid (show pre.map Subtype.val = pws l x 1 by have := hp.out; rwa [← HN.out, List.drop_length, show pws [] x m = [] from rfl, List.append_nil] at this)
      gi_wp2
      go_end0
      exact ⟨⟨_, rfl⟩, .inl ⟨pre, HE.out, hJs⟩⟩
end Go.Proofs.YtjfbpmpdcmealaaGreatDoor.D7
