/-
  The walk of digest.Read.
-/
import Derived.Test.YtcelgajmockpcaaDoorReadMath
namespace Go.Proofs.YtcelgajmockpcaaDoor
open Go.RowKit SH
theorem results_row_tmp {P : Program} {fn : Func} {p u : Tmp} {ty : TypeId} (h : fn.results = #[.cell p ty, .tmp u]) (tmps : Array Value) (w : World) (g : Nat) (t : TypeId) (cs : Array Value) (fr : Nat × Nat) (d : TypeDesc)
    (hp : tmps.getD p undef = .pointer (some ⟨g, 0, none⟩)) (hg : w.heap[g]? = some (.cells cs t fr))
    (hu : P.underlying ty = some d) (hd : (match d with | .struct _ | .array _ _ => true | _ => false) = true) (hi : (P.info? ty).map (·.size) = some cs.size) :
    (results fn tmps).run P w = .ok (.tuple #[.agg cs, tmps.getD u undef]) w := by
  have hp' : tmps[p]?.getD undef = .pointer (some ⟨g, 0, none⟩) := by simpa using hp
  simp [results, h, hp', asAddr, run_loadVar_row w g t ty cs fr d hg hu hd hi]
/-- what Read answers -/
def rdo (l : List UInt8) : Option (List UInt8) := if l.length = 64 then rd l else none
def RDV (l : List UInt8) : Value := match rdo l with
  | some r => .tuple #[hval r, .bool true]
  | none => .tuple #[hval (List.replicate 32 0), .bool false]
theorem RDV_none {l : List UInt8} (h : rdo l = none) : RDV l = .tuple #[hval (List.replicate 32 0), .bool false] := by unfold RDV; rw [h]
theorem RDV_some {l r : List UInt8} (h : rdo l = some r) : RDV l = .tuple #[hval r, .bool true] := by unfold RDV; rw [h]
set_option maxRecDepth 100000 in
set_option maxHeartbeats 2000000 in
theorem Read_short (w : World) (t : ByteArray) (hn : t.size ≠ 64) :
    Calls Tryd.prog 9 #[.string t] w fun e w' => e = .returned (RDV t.data.toList) ∧ Below w.heap.size w w' := by
  have hR := Lib.hid (RDV_none (l := t.data.toList) (by unfold rdo; rw [if_neg (by rw [size_toList]; exact hn)]))
  have hb0 : ((t.size : Int) == 64) = false := beq_eq_false_iff_ne.2 (by omega)
  have hi32 : Hid ((Tryd.prog.info? 23).map (·.size) = some (hcells (List.replicate 32 0)).size) := Lib.hid (by rw [hcells_size]; kernel_rfl)
  obtain ⟨W, hW⟩ : ∃ W, (w.alloc (.cells (hcells (List.replicate 32 0)) 23)).alloc (.cells (hcells (List.replicate 32 0)) 23) = W := ⟨_, rfl⟩
  have h0 : HM W w.heap.size (List.replicate 32 0) := by rw [← hW]; exact heap_alloc2_old _ _ _
  have hb : Below w.heap.size w W := by rw [← hW]; exact ((Below.refl w.heap.size w).alloc (Nat.le_refl _) _).alloc (by simp) _
  have HB := Lib.hid hb; clear hb
  go_enter Tryd.func9, Tryd.ntmps9
  go_upto_region 2 with fail
  change Code.wp _ _ _ _ ((w.alloc (.cells (hcells (List.replicate 32 0)) 23)).alloc (.cells (hcells (List.replicate 32 0)) 23))
  rw [hW]
  clear hW
  go_wp2_with (refine wpList_store_row rfl 23 (.tmp 2) (.tmp 11) rfl w.heap.size (hcells (List.replicate 32 0)) rfl rfl 23 _ h0 hi32.out rfl (hcells_one _) ?_)
  refine bodyPost_ret (results_row_tmp rfl _ _ w.heap.size _ (hcells (List.replicate 32 0)) _ _ rfl (setRow_heap _ _ _ _ _ _ h0) Tryd.underlying23 rfl hi32.out) rfl ?_
  exact ⟨by rw [hR.out]; rfl, Below.setRow' HB.out (Nat.le_refl _) _⟩
theorem take_two (t : ByteArray) (k : Nat) (x y : UInt8) (h0 : 2 * k < t.size) (h1 : 2 * k + 1 < t.size) (hx : t[2 * k]'h0 = x) (hy : t[2 * k + 1]'h1 = y) :
    t.data.toList.take (2 * (k + 1)) = t.data.toList.take (2 * k) ++ [x, y] := by
  have e0 : t.data.toList[2 * k]? = some x := by rw [← hx, List.getElem?_eq_getElem (by rw [size_toList]; exact h0)]; rfl
  have e1 : t.data.toList[2 * k + 1]? = some y := by rw [← hy, List.getElem?_eq_getElem (by rw [size_toList]; exact h1)]; rfl
  rw [show 2 * (k + 1) = 2 * k + 1 + 1 by omega, List.take_add_one, List.take_add_one, e0, e1, List.append_assoc]
  rfl
theorem set_zero (r : List UInt8) (k : Nat) (b : UInt8) (hr : r.length = k) (hk : k < 32) : (r ++ List.replicate (32 - k) 0).set k b = (r ++ [b]) ++ List.replicate (32 - (k + 1)) 0 := by
  rw [List.set_append_right _ _ (by omega), hr, Nat.sub_self, show 32 - k = (32 - (k + 1)) + 1 by omega, List.replicate_succ, List.set_cons_zero, List.append_assoc]
  rfl
theorem ofNat_toNat' (x : UInt8) : x.toNat.toUInt8 = x := by simp
set_option maxRecDepth 100000 in
set_option maxHeartbeats 2000000 in
theorem Read_long (w : World) (t : ByteArray) (hn : t.size = 64) :
    Calls Tryd.prog 9 #[.string t] w fun e w' => e = .returned (RDV t.data.toList) ∧ Below w.heap.size w w' := by
  have hi32 : Hid ((Tryd.prog.info? 23).map (·.size) = some (hcells (List.replicate 32 0)).size) := Lib.hid (by rw [hcells_size]; kernel_rfl)
  obtain ⟨W, hW⟩ : ∃ W, (w.alloc (.cells (hcells (List.replicate 32 0)) 23)).alloc (.cells (hcells (List.replicate 32 0)) 23) = W := ⟨_, rfl⟩
  have h0 : HM W w.heap.size (List.replicate 32 0) := by rw [← hW]; exact heap_alloc2_old _ _ _
  have h1 : HM W (w.heap.size + 1) (List.replicate 32 0) := by rw [← hW]; exact heap_alloc2_new _ _ _
  have hb : Below w.heap.size w W := by rw [← hW]; exact ((Below.refl w.heap.size w).alloc (Nat.le_refl _) _).alloc (by simp) _
  have HB := Lib.hid (And.intro h0 (And.intro h1 hb)); clear h0 h1 hb
  go_enter Tryd.func9, Tryd.ntmps9
  go_upto_region 2 with fail
  change Code.wp _ _ _ _ ((w.alloc (.cells (hcells (List.replicate 32 0)) 23)).alloc (.cells (hcells (List.replicate 32 0)) 23))
  rw [hW]
  clear hW
  go_wp2_with fail
  go_loopw [12] (fun i wr => ∃ (k : Nat) (r : List UInt8), k ≤ 32 ∧ i = .int .i64 k ∧ Hid (rd (t.data.toList.take (2 * k)) = some r) ∧ HM wr (w.heap.size + 1) (r ++ List.replicate (32 - k) 0) ∧ Hid (HM wr w.heap.size (List.replicate 32 0)) ∧ Hid (Below w.heap.size w wr)) (fun i _ => 32 - (intOf i).toNat)
  case atStart => exact ⟨0, [], by omega, rfl, Lib.hid rfl, HB.out.2.1, Lib.hid HB.out.1, Lib.hid HB.out.2.2⟩
  case round =>
    clear HB
    obtain ⟨k, r, hk, rfl, hr, hH, hZ, hb⟩ := hrel
    by_cases hlt : k < 32
    · obtain ⟨x, hx⟩ : ∃ x, (t[2 * k]'(by omega)) = x := ⟨_, rfl⟩
      obtain ⟨y, hy⟩ : ∃ x, (t[2 * k + 1]'(by omega)) = x := ⟨_, rfl⟩
      have hrl := rd_length _ _ hr.out
      have htk : t.data.toList.take (2 * (k + 1)) = t.data.toList.take (2 * k) ++ [x, y] := take_two t k x y (by omega) (by omega) hx hy
      have I1 := fun W => Tryd.strings_IndexByte ⟨#[48, 49, 50, 51, 52, 53, 54, 55, 56, 57, 97, 98, 99, 100, 101, 102]⟩ (x.toNat : Int) W
      have I2 := fun W => Tryd.strings_IndexByte ⟨#[48, 49, 50, 51, 52, 53, 54, 55, 56, 57, 97, 98, 99, 100, 101, 102]⟩ (y.toNat : Int) W
      rw [show Lib.indexByte (ByteArray.mk #[48, 49, 50, 51, 52, 53, 54, 55, 56, 57, 97, 98, 99, 100, 101, 102]).data.toList ((x.toNat : Int).toNat.toUInt8) = ix x by rw [Int.toNat_natCast, ofNat_toNat']; rfl] at I1
      rw [show Lib.indexByte (ByteArray.mk #[48, 49, 50, 51, 52, 53, 54, 55, 56, 57, 97, 98, 99, 100, 101, 102]).data.toList ((y.toNat : Int).toNat.toUInt8) = ix y by rw [Int.toNat_natCast, ofNat_toNat']; rfl] at I2
      have II := Lib.hid (And.intro I1 I2); clear I1 I2
      have ox := ix_or x
      have oy := ix_or y
      by_cases hok : 0 ≤ ix x ∧ 0 ≤ ix y
      · obtain ⟨i, hi⟩ : ∃ i : Nat, ix x = i := ⟨(ix x).toNat, by omega⟩
        obtain ⟨j, hj⟩ : ∃ i : Nat, ix y = i := ⟨(ix y).toNat, by omega⟩
        have hrn : rd (t.data.toList.take (2 * (k + 1))) = some (r ++ [UInt8.ofNat (16 * i + j)]) := by
          rw [htk, rd_append k _ _ (by rw [List.length_take, size_toList]; omega), hr.out]
          simp only [rd, hi, hj]
          rw [if_pos ⟨by omega, by omega⟩]; simp
        rw [hi, hj] at II
        rw [hi] at ox hok; rw [hj] at oy hok
        have i16 : i < 16 := by omega
        have j16 : j < 16 := by omega
        obtain ⟨m, hm⟩ : ∃ m, 16 * i + j = m := ⟨_, rfl⟩
        have hmi : 16 * (i : Int) + (j : Int) = (m : Int) := by omega
        have m256 : m < 256 := by omega
        have hms : (UInt8.ofNat m).toNat = m := by simp; omega
        rw [hm] at hrn
        have hrk : r.length = k := by rw [List.length_take, size_toList] at hrl; omega
        have hH2 := hH.set k (UInt8.ofNat m)
        rw [hms, set_zero r k (UInt8.ofNat m) hrk hlt] at hH2
        have hZ2 := Lib.hid (hZ.out.setOther (c := w.heap.size + 1) (by omega) k (.int .u8 (m : Nat)))
        have hb2 := Lib.hid (hb.out.setCell (p := ⟨w.heap.size + 1, k, none⟩) (by simp) (.int .u8 (m : Nat)))
        have ch := hH.cell k (by rw [List.length_append, List.length_replicate]; omega)
        have fh := hH.free k
        have HN := Lib.hid (And.intro hrn (And.intro hH2 hmi))
        have HM1 := Lib.hid hm
        clear hrn hH2 hH hrl htk hr hok hi hj hm hrk hms
        go_wp2_with fail
        refine (II.out.1 _).mono ?_
        rintro e w2 ⟨rfl, rfl⟩
        go_wp2_with fail
        refine (II.out.2 _).mono ?_
        rintro e w3 ⟨rfl, rfl⟩
        go_wp2
        exact ⟨⟨k + 1, r ++ [UInt8.ofNat m], by omega, by go_num, Lib.hid HN.out.1, HN.out.2.1, hZ2, hb2⟩, by simp only [intOf]; omega⟩
      · have hno := Lib.hid (RDV_none (l := t.data.toList) (by
          unfold rdo; rw [if_pos (by rw [size_toList]; exact hn)]
          rw [show t.data.toList = t.data.toList.take (2 * (k+1)) ++ t.data.toList.drop (2 * (k+1)) from (List.take_append_drop _ _).symm, htk, List.append_assoc, rd_append k _ _ (by rw [List.length_take, size_toList]; omega), hr.out]
          simp only [List.cons_append, List.nil_append, rd]
          rw [if_neg hok]; rfl))
        have hZ0 := hZ.out
        clear hrl htk hr hH
        generalize ix x = i at *
        generalize ix y = j at *
        by_cases hi : i < 0
        · go_wp2_with fail
          refine (II.out.1 _).mono ?_
          rintro e w2 ⟨rfl, rfl⟩
          go_wp2_with fail
          refine (II.out.2 _).mono ?_
          rintro e w3 ⟨rfl, rfl⟩
          go_wp2_with (refine wpList_store_row rfl 23 (.tmp 2) (.tmp 32) rfl w.heap.size (hcells (List.replicate 32 0)) rfl rfl 23 _ hZ0 hi32.out rfl (hcells_one _) ?_)
          refine bodyPost_ret (results_row_tmp rfl _ _ w.heap.size _ (hcells (List.replicate 32 0)) _ _ rfl (setRow_heap _ _ _ _ _ _ hZ0) Tryd.underlying23 rfl hi32.out) rfl ?_
          exact ⟨by rw [hno.out]; rfl, Below.setRow' hb.out (Nat.le_refl _) _⟩
        · have hj : j < 0 := by omega
          go_wp2_with fail
          refine (II.out.1 _).mono ?_
          rintro e w2 ⟨rfl, rfl⟩
          go_wp2_with fail
          refine (II.out.2 _).mono ?_
          rintro e w3 ⟨rfl, rfl⟩
          go_wp2_with (refine wpList_store_row rfl 23 (.tmp 2) (.tmp 32) rfl w.heap.size (hcells (List.replicate 32 0)) rfl rfl 23 _ hZ0 hi32.out rfl (hcells_one _) ?_)
          refine bodyPost_ret (results_row_tmp rfl _ _ w.heap.size _ (hcells (List.replicate 32 0)) _ _ rfl (setRow_heap _ _ _ _ _ _ hZ0) Tryd.underlying23 rfl hi32.out) rfl ?_
          exact ⟨by rw [hno.out]; rfl, Below.setRow' hb.out (Nat.le_refl _) _⟩
    · obtain rfl : k = 32 := by omega
      rw [show t.data.toList.take (2 * 32) = t.data.toList from List.take_of_length_le (by rw [size_toList]; omega)] at hr
      have hyes := Lib.hid (RDV_some (l := t.data.toList) (r := r) (by unfold rdo; rw [if_pos (by rw [size_toList]; exact hn)]; exact hr.out))
      have hrl := rd_length _ _ hr.out
      have hr32 : r.length = 32 := by rw [size_toList] at hrl; omega
      rw [show r ++ List.replicate (32 - 32) 0 = r by simp] at hH
      have hsz : Hid ((Tryd.prog.info? 23).map (·.size) = some (hcells r).size) := Lib.hid (by rw [hcells_size, hr32]; kernel_rfl)
      have hsz2 : Hid ((hcells (List.replicate 32 0)).size = (hcells r).size) := Lib.hid (by rw [hcells_size, hcells_size, hr32]; rfl)
      have hZ0 := hZ.out
      clear hr hrl hr32 hi32
      go_wp2_with (first | (refine wpList_load_row rfl 23 (.tmp 4) rfl (w.heap.size + 1) rfl 23 (hcells r) (0, 0) _ hH Tryd.underlying23 rfl hsz.out ?_) | (refine wpList_store_row rfl 23 (.tmp 2) (.tmp 41) rfl w.heap.size (hcells r) rfl rfl 23 _ hZ0 hsz.out hsz2.out (hcells_one _) ?_))
      refine bodyPost_ret (results_row_tmp rfl _ _ w.heap.size _ (hcells r) _ _ rfl (setRow_heap _ _ _ _ _ _ hZ0) Tryd.underlying23 rfl hsz.out) rfl ?_
      exact ⟨by rw [hyes.out]; rfl, Below.setRow' hb.out (Nat.le_refl _) _⟩
theorem Read_any (w : World) (t : ByteArray) :
    Calls Tryd.prog 9 #[.string t] w fun e w' => e = .returned (RDV t.data.toList) ∧ Below w.heap.size w w' := by
  by_cases h : t.size = 64
  · exact Read_long w t h
  · exact Read_short w t h
end Go.Proofs.YtcelgajmockpcaaDoor
