/-
  The walk of (box).open.
  What a walk keeps: the frame, cells, rows of its own.
-/
import Derived.Test.YtjfbpmpdcmealaaGreatDoorDBox
import Derived.Deep.RegionHeld3
namespace Go.Proofs.YtjfbpmpdcmealaaGreatDoor.D7
open Go.RowKit GM SH G4 E6 D7P
theorem row_string (W : World) (b : Nat) (p : List UInt8) (hp : p.length = 16) (m : BM W b p) :
    (convert 50 9 (.slice (some ⟨b, 8, none⟩) 8 8)).run Tryz.prog W = .ok (.string ⟨(p.drop 8).toArray⟩) W := by
  have h := run_convert_bytes_back (P := Tryz.prog) W 50 9 5 ⟨b, 8, none⟩ 8 (p.drop 8) Tryz.underlying50 Tryz.underlying5 Tryz.underlying9 (fun j hj => by
    have hl : (p.drop 8).length = 8 := by rw [List.length_drop, hp]
    have := m.cell (8 + j) (by omega)
    rw [show ((⟨b, 8, none⟩ : Addr).add j) = ⟨b, 8 + j, none⟩ by simp [Addr.add], this]
    simp [gb, List.getD_eq_getElem?_getD, show 8 + j < p.length by omega])
  rw [show (p.drop 8).length = 8 by rw [List.length_drop, hp]] at h
  exact h
theorem open_len (w : World) (p : List UInt8) (s : ByteArray) (hs : s.size ≠ 16) :
    Calls Tryz.prog 74 #[hval p, .string s] w fun e w' => e = .returned (.tuple #[.int .i64 0, .bool false]) ∧ Below w.heap.size w w' := by
  have B0 := Lib.hid ((Below.refl _ w).alloc (Nat.le_refl _) (.cells (hcells p) 67))
  have h1 : ((s.size : Int) == 16) = false := by simp; omega
  have h2 : ((s.size : Int) != 16) = true := by simp; omega
  have h3 : (s.size == 16) = false := by simp; omega
  clear hs
  go_enter Tryz.func74, Tryz.ntmps74
  go_upto_region 1 with fail
  change Code.wp _ _ _ _ (w.alloc (.cells (hcells p) 67))
  generalize w.alloc (.cells (hcells p) 67) = W at *
  go_wp2
  go_region
  all_goals
    go_wp2
    go_ret2
    exact ⟨rfl, B0.out.drew⟩
theorem ext_tail (s : ByteArray) (h : s.size = 16) : (s.extract 8 16).toList = s.data.toList.drop 8 := by
  rw [ByteArray.toList_eq, show (16 : Nat) = s.size from h.symm]
  exact (ext_drop s 8 (by omega)).1
theorem zip_get (s p : List UInt8) (k : Nat) (hk : k < 8) (hs : s.length = 16) (hp : p.length = 16) : (List.zipWith (· ^^^ ·) (s.take 8) (p.take 8))[k]?.getD 0 = (s[k]'(by omega)) ^^^ (p[k]'(by omega)) := by
  rw [List.getElem?_zipWith, List.getElem?_take_of_lt hk, List.getElem?_take_of_lt hk, List.getElem?_eq_getElem (by omega), List.getElem?_eq_getElem (by omega)]; rfl
set_option maxRecDepth 100000 in
set_option maxHeartbeats 4000000 in
theorem open_any (w : World) (p : List UInt8) (s : ByteArray) (hp : p.length = 16) (hs : s.size = 16) (f : Bool) (hf : (s.data.toList.drop 8 == p.drop 8) = f) :
    Calls Tryz.prog 74 #[hval p, .string s] w fun e w' => e = .returned (.tuple #[.int .i64 (if f then ct s.data.toList p else 0), .bool f]) ∧ Below w.heap.size w w' := by
  have B0 := Lib.hid ((Below.refl _ w).alloc (Nat.le_refl _) (.cells (hcells p) 67))
  have m0 : BM (w.alloc (.cells (hcells p) 67)) w.heap.size p := heap_alloc_new _ _
  have hq : ((s.extract 8 16).toList == p.drop 8) = f := by rw [ext_tail s hs]; exact hf
  have HP := Lib.hid hp
  go_enter Tryz.func74, Tryz.ntmps74
  go_upto_region 1 with fail
  change Code.wp _ _ _ _ (w.alloc (.cells (hcells p) 67))
  generalize w.alloc (.cells (hcells p) 67) = W at *
  have hcv := row_string W.drew w.heap.size p hp m0.drew
  have HM := Lib.hid m0
  clear m0 hp hf
  cases f with
  | false =>
    go_wp2
    go_region
    all_goals
      go_wp2
      go_ret2
      exact ⟨rfl, B0.out.drew⟩
  | true =>
    go_wp2
    go_region
    all_goals
      clear hq hcv
      have HZ := Lib.hid hs
      have HM2 := Lib.hid HM.out.drew
      have B2 := Lib.hid B0.out.drew
      have hds : W.drew.heap.size = W.heap.size := rfl
      clear hds B0 HM
      generalize W.drew = V at *
      obtain ⟨L, hL⟩ : ∃ L, List.zipWith (· ^^^ ·) (s.data.toList.take 8) (p.take 8) = L := ⟨_, rfl⟩
      have HL := Lib.hid hL; clear hL
      go_wp2_with fail
      go_loopw [6, 18] (fun n i wr => ∃ (k : Nat) (U : Int), k ≤ 8 ∧ Hid (U = wrap64 (num L k : Nat)) ∧ n = .int .i64 U ∧ i = .int .i64 (k : Int) ∧ Hid (BM wr w.heap.size p ∧ Below w.heap.size w wr)) (fun _ i _ => 8 - (intOf i).toNat)
      case atStart => exact ⟨0, 0, Nat.zero_le _, Lib.hid (by simp [num, wrap64]), rfl, rfl, Lib.hid ⟨HM2.out, B2.out⟩⟩
      case round =>
        obtain ⟨k, U, hk, hU, rfl, rfl, HB⟩ := hrel
        by_cases hk8 : k < 8
        · have hks : k < s.size := by omega
          have hk16 : k < 16 := by omega
          have hk16i : (k : Int) < 16 := by omega
          have hlp : k < p.length := by have := HP.out; omega
          have c0 : wr.cell? ⟨w.heap.size, k, none⟩ = some (.int .u8 (((p[k]'hlp).toNat : Nat) : Int)) := by
            have := HB.out.1.cell k (by have := HP.out; omega)
            rw [gb_uint, List.getElem?_eq_getElem hlp] at this; exact this
          have X := xor8' (s[k]'hks) (p[k]'hlp)
          have hd : ((s[k]'hks) ^^^ (p[k]'hlp)).toNat < 256 := UInt8.toNat_lt _
          have hgb : gb L k = ((s[k]'hks) ^^^ (p[k]'hlp)).toNat := by
            rw [gb_uint, ← HL.out, zip_get _ _ k hk8 (by rw [← HZ.out]; rfl) HP.out]; rfl
          obtain ⟨d, hdd⟩ : ∃ d, ((s[k]'hks) ^^^ (p[k]'hlp)).toNat = d := ⟨_, rfl⟩
          rw [hdd] at X hd hgb
          have hN := Lib.hid (show bits .or .i64 (wrap64 (U * 256)) (d : Nat) = wrap64 (num L (k+1) : Nat) by rw [hU.out, wrap_in, or_byte _ _ hd]; show wrap64 _ = wrap64 ((num L k * 256 + gb L k : Nat) : Int); rw [hgb])
          clear hdd hgb
          go_wp2
          go_region
          all_goals
            go_wp2
            exact ⟨⟨k + 1, _, by omega, hN, rfl, by go_num, Lib.hid ⟨HB.out.1.drew, HB.out.2.drew⟩⟩, by simp only [intOf]; omega⟩
        · obtain rfl : k = 8 := by omega
          have hN := Lib.hid (show U = ct s.data.toList p by rw [hU.out, ← HL.out]; rfl)
          go_wp2
          go_ret2
          exact ⟨by rw [hN.out]; rfl, HB.out.2⟩
end Go.Proofs.YtjfbpmpdcmealaaGreatDoor.D7
namespace Go.Proofs.YtjfbpmpdcmealaaGreatDoor.D7
open Go.RowKit GM SH G4 E6 D7P
theorem results_row_tmp {P : Program} {fn : Func} {p u : Tmp} {ty : TypeId} (h : fn.results = #[.cell p ty, .tmp u]) (tmps : Array Value) (w : World) (g : Nat) (t : TypeId) (cs : Array Value) (fr : Nat × Nat) (d : TypeDesc)
    (hp : tmps.getD p undef = .pointer (some ⟨g, 0, none⟩)) (hg : w.heap[g]? = some (.cells cs t fr))
    (hu : P.underlying ty = some d) (hd : (match d with | .struct _ | .array _ _ => true | _ => false) = true) (hi : (P.info? ty).map (·.size) = some cs.size) :
    (results fn tmps).run P w = .ok (.tuple #[.agg cs, tmps.getD u undef]) w := by
  have hp' : tmps[p]?.getD undef = .pointer (some ⟨g, 0, none⟩) := by simpa using hp
  simp [results, h, hp', asAddr, run_loadVar_row w g t ty cs fr d hg hu hd hi]
/-- the frame, cells that stay, rows that may be written -/
structure CK (w : World) (L : List (Addr × Value)) (Z : List (Nat × Nat × TypeId)) (W : World) : Prop where
  b : Below w.heap.size w W
  c : ∀ p ∈ L, W.cell? p.1 = some p.2
  z : ∀ p ∈ Z, w.heap.size ≤ p.1 ∧ ∃ cs : Array Value, cs.size = p.2.1 ∧ W.heap[p.1]? = some (.cells cs p.2.2 (0, 0))
theorem CK.next {w u v : World} {L : List (Addr × Value)} {Z : List (Nat × Nat × TypeId)} (h : CK w L Z u) (k : Below u.heap.size u v) : CK w L Z v :=
  ⟨h.b.trans (k.mono h.b.size), fun p hp => (k.cell (p := p.1) (World.block_lt_of_cell? _ _ (h.c p hp))).trans (h.c p hp), fun p hp => by
    obtain ⟨h0, cs, h1, h2⟩ := h.z p hp
    exact ⟨h0, cs, h1, (k.block _ (Array.getElem?_eq_some_iff.1 h2).1).trans h2⟩⟩
theorem CK.drew {w u : World} {L : List (Addr × Value)} {Z : List (Nat × Nat × TypeId)} (h : CK w L Z u) : CK w L Z u.drew := ⟨h.b.drew, fun p hp => h.c p hp, fun p hp => h.z p hp⟩
theorem CK.get {w u : World} {L : List (Addr × Value)} {Z : List (Nat × Nat × TypeId)} (h : CK w L Z u) (p : Addr) (v : Value) (hp : (p, v) ∈ L) : u.cell? p = some v := h.c (p, v) hp
theorem CK.row {w u : World} {L : List (Addr × Value)} {Z : List (Nat × Nat × TypeId)} (h : CK w L Z u) (b n : Nat) (t : TypeId) (hp : (b, n, t) ∈ Z) : ∃ cs : Array Value, cs.size = n ∧ u.heap[b]? = some (.cells cs t (0, 0)) := (h.z _ hp).2
theorem CK.start (w : World) : CK w [] [] w := ⟨Below.refl _ _, fun p hp => (by cases hp), fun p hp => (by cases hp)⟩
/-- cells of a new block -/
theorem CK.new {w u : World} {L : List (Addr × Value)} {Z : List (Nat × Nat × TypeId)} (h : CK w L Z u) (cs : Array Value) (t : TypeId) : CK w L ((u.heap.size, cs.size, t) :: Z) (u.alloc (.cells cs t)) := by
  have k := h.next ((Below.refl _ u).alloc (Nat.le_refl _) (.cells cs t))
  refine ⟨k.b, k.c, fun p hp => ?_⟩
  rcases List.mem_cons.1 hp with rfl | hp
  · exact ⟨h.b.size, cs, rfl, heap_alloc_new _ _⟩
  · exact k.z p hp
theorem CK.cells {w u : World} {L : List (Addr × Value)} {Z : List (Nat × Nat × TypeId)} (h : CK w L Z u) (cs : Array Value) (t : TypeId) (l : List Value) (hl : cs.toList = l) : CK w (l.mapIdx (fun j v => ((⟨u.heap.size, j, none⟩ : Addr), v)) ++ L) Z (u.alloc (.cells cs t)) := by
  have k := h.next ((Below.refl _ u).alloc (Nat.le_refl _) (.cells cs t))
  refine ⟨k.b, fun p hp => ?_, k.z⟩
  rcases List.mem_append.1 hp with hp | hp
  · obtain ⟨j, hj, rfl⟩ := List.mem_mapIdx.1 hp
    rw [World.cell?_alloc_at _ _ _ _ rfl]
    subst hl
    simp at hj
    simp [hj]
  · exact k.c p hp
/-- a row is written -/
theorem CK.store {w u : World} {L : List (Addr × Value)} {Z : List (Nat × Nat × TypeId)} (h : CK w L Z u) (b n : Nat) (t : TypeId) (hp : (b, n, t) ∈ Z) (cs : Array Value) (hn : cs.size = n) (hL : ∀ p ∈ L, p.1.block ≠ b) (hZ : ∀ p ∈ Z, p.1 = b → p = (b, n, t)) : CK w L Z (u.setRow b cs) := by
  obtain ⟨hb, old, h1, h2⟩ := h.z _ hp
  refine ⟨Below.setRow' h.b hb _, fun p hm => ?_, fun p hm => ?_⟩
  · have := h.c p hm
    rw [World.cell?_of_block (setRow_other u b p.1.block cs (hL p hm))]; exact this
  · obtain ⟨k0, cs2, k1, k2⟩ := h.z p hm
    by_cases e : p.1 = b
    · have := hZ p hm e
      subst this
      exact ⟨k0, cs, hn, setRow_heap _ _ _ _ _ _ h2⟩
    · exact ⟨k0, cs2, k1, (setRow_other u b p.1 cs e).trans k2⟩
theorem CK.sub {w u : World} {L M : List (Addr × Value)} {Z Y : List (Nat × Nat × TypeId)} (h : CK w L Z u) (hL : ∀ p ∈ M, p ∈ L) (hZ : ∀ p ∈ Y, p ∈ Z) : CK w M Y u := ⟨h.b, fun p hp => h.c p (hL p hp), fun p hp => h.z p (hZ p hp)⟩
end Go.Proofs.YtjfbpmpdcmealaaGreatDoor.D7
