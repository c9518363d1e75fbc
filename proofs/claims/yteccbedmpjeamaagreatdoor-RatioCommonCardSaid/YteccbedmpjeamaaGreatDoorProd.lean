/-
  The walks of nat.addProduct and nat.product.
  The walk of nat.product.
  The walks of nat.trimZeros and nat.words.
  The walk of nat.number: it writes the bytes of words, and drops the zeros in front.
  The walk of nat.widen: a copy of words in a longer row.
-/
import Derived.Test.YteccbedmpjeamaaGreatDoorBase
import Derived.Test.YteccbedmpjeamaaGreatDoorShelf
import Derived.Lib.TrimByte
import Derived.BigQuiet
import Derived.Laws.CopyOwn
namespace Go.Proofs.YteccbedmpjeamaaGreatDoor
open Go.RowKit NM
def mh64 (x y : Nat) : Nat := x * y / B64
def ml64 (x y : Nat) : Nat := x * y % B64
theorem mul64_any (x y : Nat) (hx : x < 18446744073709551616) (hy : y < 18446744073709551616) (w : World) :
    Calls Tryz.prog 129 #[.int .u64 x, .int .u64 y] w fun e w' => e = .returned (.tuple #[.int .u64 (mh64 x y : Nat), .int .u64 (ml64 x y : Nat)]) ∧ w = w' :=
  (Tryz.bits_Mul64 x y hx hy w).mono fun _ _ ⟨h1, h2⟩ => ⟨h1, h2.symm⟩
/-- a digit of a product, with what is carried and what is there -/
theorem prod_digit (x y d c : Nat) (hx : x < B64) (hy : y < B64) (hd : d < B64) (hc : c < B64) :
    lo64 x (lo64 (ml64 y d) c 0) 0 = (x + y * d + c) % B64 ∧ mh64 y d + hi64 (ml64 y d) c 0 + hi64 x (lo64 (ml64 y d) c 0) 0 = (x + y * d + c) / B64 ∧ (x + y * d + c) / B64 < B64 := by
  have hm := mul_digit x y d c hx hy hd hc
  have e1 := Nat.div_add_mod (y * d) B64
  have e2 := Nat.div_add_mod (y * d % B64 + c + 0) B64
  have e3 := Nat.div_add_mod (x + (y * d % B64 + c + 0) % B64 + 0) B64
  have l3 := Nat.mod_lt (x + (y * d % B64 + c + 0) % B64 + 0) B64_pos
  unfold lo64 hi64 mh64 ml64
  generalize y * d / B64 = a at *
  generalize y * d % B64 = a' at *
  generalize (a' + c + 0) / B64 = f at *
  generalize (a' + c + 0) % B64 = f' at *
  generalize (x + f' + 0) / B64 = g at *
  generalize (x + f' + 0) % B64 = g' at *
  have tot : x + y * d + c = B64 * (a + f + g) + g' := by rw [← e1, Nat.mul_add, Nat.mul_add]; omega
  have q : (x + y * d + c) / B64 = a + f + g := by rw [tot, Nat.mul_add_div B64_pos, Nat.div_eq_of_lt l3, Nat.add_zero]
  have r : (x + y * d + c) % B64 = g' := by rw [tot, Nat.mul_add_mod, Nat.mod_eq_of_lt l3]
  exact ⟨r.symm, q.symm, hm⟩
theorem ml64_lt (x y : Nat) : ml64 x y < B64 := Nat.mod_lt _ B64_pos
def ProdQ (X Y : List Nat) (d b o : Nat) (w : World) (e : Ending) (w' : World) : Prop :=
  ∃ Z, At X.length b o w Z w' ∧ wv Z = wv X + d * wv Y ∧ e = .returned (.tuple #[])
theorem room_carry {Z : List Nat} {n k c V : Nat} (hV : V < B64^n) (hv : wv Z + c * B64^k = V) (hc : c ≠ 0) : k < n := by
  apply Nat.lt_of_not_le; intro h
  have h2 : B64^n ≤ B64^k := Nat.pow_le_pow_right B64_pos h
  have h3 : B64^k ≤ c * B64^k := Nat.le_mul_of_pos_left _ (by omega)
  omega
theorem add64_c0' (x y : Nat) (w : World) :
    (callFunc 126 #[.int .u64 x, .int .u64 y, .int .u64 0]).run Tryz.prog w = .ok (.value (.tuple #[.int .u64 (lo64 x y 0 : Nat), .int .u64 (hi64 x y 0 : Nat)])) w := add64 x y 0 (by omega) w
theorem hi_le (x y : Nat) (hx : x < B64) (hy : y < B64) : hi64 x y 0 ≤ 1 := hi64_le hx hy (by omega)
set_option maxHeartbeats 1000000 in
theorem addProduct_any (w : World) (b o cap b2 o2 cap2 d : Nat) (X Y : List Nat) (hR : Row w b o X) (hS : Row w b2 o2 Y) (hX : Wd X) (hY : Wd Y) (hne : b2 ≠ b) (hb2 : b2 < w.heap.size)
    (hd : d < 18446744073709551616) (hn : X.length ≤ 9223372036854775806) (_hc : X.length ≤ cap) (_hc2 : Y.length ≤ cap2) (hm : Y.length ≤ X.length) (hroom : wv X + d * wv Y < B64^X.length) :
    Calls Tryz.prog 111 #[.slice (some ⟨b, o, none⟩) X.length cap, .slice (some ⟨b2, o2, none⟩) Y.length cap2, .int .u64 (d : Nat)] w (ProdQ X Y d b o w) := by
  have HRoom := Lib.hid hroom; clear hroom
  go_enter Tryz.func111, Tryz.ntmps111
  go_wp2
  go_loopw [6, 15] (fun c i wr => ∃ (k cc : Nat) (Z : List Nat), k ≤ Y.length ∧ cc < 18446744073709551616 ∧ c = .int .u64 (cc : Nat) ∧ i = .int .i64 (k : Nat) ∧ At X.length b o w Z wr ∧ Hid (wv Z + cc * B64^k = wv X + d * wv (Y.take k))) (fun _ i _ => Y.length - (intOf i).toNat)
  case atStart => exact ⟨0, 0, X, Nat.zero_le _, by omega, rfl, rfl, At.start hX hR, by show _ = _; simp [wv]⟩
  case round =>
    obtain ⟨k, cc, Z, hk, hcc, rfl, rfl, hA, hv⟩ := hrel
    by_cases hlt : k < Y.length
    · have hx := hA.row.cell k (by rw [hA.len]; omega)
      have hf := hA.row.free k (by rw [hA.len]; omega)
      have hy := (hA.only.row hS hne hb2).cell k hlt
      obtain ⟨p1, p2, p3⟩ := prod_digit (gd Z k) (gd Y k) d cc (Wd_getD hA.wd k) (Wd_getD hY k) hd hcc
      have b3 : mh64 (gd Y k) d + hi64 (ml64 (gd Y k) d) cc 0 + hi64 (gd Z k) (lo64 (ml64 (gd Y k) d) cc 0) 0 < 18446744073709551616 := by rw [p2]; exact p3
      have P1 := Lib.hid p1; have P2 := Lib.hid p2; clear p1 p2 p3
      have HR := Lib.hid hR; clear hR
      have HS := Lib.hid hS; clear hS
      have gy := gd_lt hY k
      go_wp2_with (first | (go_at_call 129; refine (mul64_any (gd Y k) d gy hd _).mono ?_; rintro e w' ⟨rfl, rfl⟩) | (simp only [add64_c0 (ml64 (gd Y k) d) cc]) | (simp only [add64_c0 (gd Z k) (lo64 (ml64 (gd Y k) d) cc 0)]))
      go_roundw
      case rel => exact ⟨k + 1, mh64 (gd Y k) d + hi64 (ml64 (gd Y k) d) cc 0 + hi64 (gd Z k) (lo64 (ml64 (gd Y k) d) cc 0) 0, Z.set k (lo64 (gd Z k) (lo64 (ml64 (gd Y k) d) cc 0) 0), hlt, b3, by go_num, by go_num, hA.set k _ (by omega) (lo64_lt _ _ _), by
        show _ = _
        rw [P2.out, P1.out]
        exact mulAdd_step Z X Y k cc d (by rw [hA.len]; omega) hlt hv.out⟩
      case measure => (simp [intOf]; try omega)
    · obtain rfl : k = Y.length := by omega
      have hv2 : Hid (wv Z + cc * B64^Y.length = wv X + d * wv Y) := by have := hv.out; rwa [List.take_length] at this
      have HR := Lib.hid hR; clear hR
      have HS := Lib.hid hS; clear hS
      clear hv hlt hk
      go_wp2
      go_loopw [6, 12] (fun c i wr => ∃ (k cc : Nat) (Z : List Nat), Y.length ≤ k ∧ k ≤ X.length ∧ cc < 18446744073709551616 ∧ c = .int .u64 (cc : Nat) ∧ i = .int .i64 (k : Nat) ∧ At X.length b o w Z wr ∧ Hid (wv Z + cc * B64^k = wv X + d * wv Y)) (fun _ i _ => X.length - (intOf i).toNat)
      case atStart => exact ⟨Y.length, cc, Z, Nat.le_refl _, hm, hcc, rfl, rfl, hA, hv2⟩
      case round =>
        clear hv2 hA hcc
        obtain ⟨k, cc, Z, hk, hkn, hcc, rfl, rfl, hA, hv⟩ := hrel
        by_cases h0 : cc = 0
        · subst h0
          go_wp2
          go_end0
          exact ⟨Z, hA, by have := hv.out; omega, rfl⟩
        · have hb0 : ((cc : Int) != 0) = true := by simp; omega
          have hlt : k < X.length := room_carry HRoom.out hv.out h0
          have hx := hA.row.cell k (by rw [hA.len]; omega)
          have hf := hA.row.free k (by rw [hA.len]; omega)
          go_wp2_with (simp only [add64_c0 (gd Z k) cc])
          go_roundw
          case rel => exact ⟨k + 1, hi64 (gd Z k) cc 0, Z.set k (lo64 (gd Z k) cc 0), by omega, by omega, by have := hi_le (gd Z k) cc (Wd_getD hA.wd k) hcc; omega, rfl, by go_num, hA.set k _ (by omega) (lo64_lt _ _ _), by
            show _ = _
            have := (carry_step Z k cc (wv X + d * wv Y) (by rw [hA.len]; omega) hA.wd hcc hv.out).1
            simpa [hi64, lo64, gd] using this⟩
          case measure => (simp [intOf]; try omega)
end Go.Proofs.YteccbedmpjeamaaGreatDoor
namespace Go.Proofs.YteccbedmpjeamaaGreatDoor
open Go.RowKit NM
theorem infoW : (Tryz.prog.info? 95).map (fun i => (i.zero, i.size, i.bytes)) = some (some (.int .u64 0), 1, 8) := by kernel_rfl
/-- make([]uint64, n) -/
theorem make_words (n : Nat) (hn : n ≤ 1099511627776) (u : World) : (Instr.makeSlice 91 (.int .i64 (n : Int)) (.int .i64 (n : Int))).run Tryz.prog u =
    .ok (.slice (some ⟨u.heap.size, 0, none⟩) n n) (u.alloc (.cells (madeCells #[.int .u64 0] n) 95)) := by
  obtain ⟨i0, hi, hz0, hz1, hz2⟩ := info_parts infoW
  have h := run_make (P := Tryz.prog) u 91 95 i0 (.int .u64 0) Tryz.underlying91 hi hz0 .i64 .i64 (n : Int) (n : Int) (by omega) (Int.le_refl _) (by rw [hz2]; omega) (by omega)
  simpa [hz1, Value.cells] using h
theorem row_made (n t : Nat) (u : World) : Row (u.alloc (.cells (madeCells #[.int .u64 0] n) t)) u.heap.size 0 (List.replicate n 0) where
  cell j hj := by
    rw [List.length_replicate] at hj
    rw [Nat.zero_add, World.cell?_alloc_at _ _ _ _ rfl, ← Array.getElem?_toList, toList_madeCells_one, List.getElem?_replicate, if_pos hj]
    simp [gd, hj]
  free j hj := by rw [World.frozen?_alloc_at _ _ _ _ rfl]
theorem Wd_zeros (n : Nat) : Wd (List.replicate n 0) := fun x hx => by rw [(List.mem_replicate.1 hx).2]; exact B64_pos
theorem At.made (n t : Nat) (u : World) : At n u.heap.size 0 (u.alloc (.cells (madeCells #[.int .u64 0] n) t)) (List.replicate n 0) (u.alloc (.cells (madeCells #[.int .u64 0] n) t)) :=
  ⟨List.length_replicate, Wd_zeros n, row_made n t u, Only.refl _ _ _ _⟩
/-- part of the words is turned -/
theorem At.part {n b i : Nat} {w wr w' : World} {Z Z' : List Nat} (h : At n b 0 w Z wr) (hi : i ≤ n) (h' : At (Z.drop i).length b i wr Z' w') : At n b 0 w (Z.take i ++ Z') w' := by
  have hl : Z'.length = n - i := by rw [h'.len, List.length_drop, h.len]
  refine ⟨by rw [List.length_append, List.length_take, hl, h.len]; omega, Wd_append (Wd_take h.wd i) h'.wd, ?_, ?_⟩
  · refine Row.append (h'.only.rowIn (h.row.take i) (.inl (by rw [List.length_take, h.len]; omega))) ?_
    rw [List.length_take, h.len, Nat.zero_add, Nat.min_eq_left hi]; exact h'.row
  · refine h.only.trans (h'.only.wide (by omega) ?_)
    rw [List.length_drop, h.len]; omega
/-- a row of words that the call owns -/
structure Own (B : Nat) (w : World) (b o cap : Nat) (Z : List Nat) : Prop where
  lo : B ≤ b
  lt : b < w.heap.size
  row : Row w b o Z
  wd : Wd Z
  cap : Z.length ≤ cap
def PQ (X Y : List Nat) (w : World) (e : Ending) (w' : World) : Prop :=
  ∃ Z, Own w.heap.size w' w.heap.size 0 (X.length + Y.length) Z ∧ wv Z = wv X * wv Y ∧ Tr Z ∧ Below w.heap.size w w' ∧ e = .returned (.slice (some ⟨w.heap.size, 0, none⟩) Z.length (X.length + Y.length))
set_option maxHeartbeats 1000000 in
theorem product_any (w : World) (b o cap b2 o2 cap2 : Nat) (X Y : List Nat) (hR : Row w b o X) (hS : Row w b2 o2 Y) (hX : Wd X) (hY : Wd Y) (hb : b < w.heap.size) (hb2 : b2 < w.heap.size)
    (hn : X.length + Y.length ≤ 1099511627776) (hc : X.length ≤ cap) (_hc2 : Y.length ≤ cap2) :
    Calls Tryz.prog 87 #[.slice (some ⟨b, o, none⟩) X.length cap, .slice (some ⟨b2, o2, none⟩) Y.length cap2] w (PQ X Y w) := by
  have hmk : ∀ u : World, (Instr.makeSlice 91 (.int .i64 ((X.length : Int) + (Y.length : Int))) (.int .i64 ((X.length : Int) + (Y.length : Int)))).run Tryz.prog u =
    .ok (.slice (some ⟨u.heap.size, 0, none⟩) (X.length + Y.length) (X.length + Y.length)) (u.alloc (.cells (madeCells #[.int .u64 0] (X.length + Y.length)) 95)) := fun u => by
      have := make_words (X.length + Y.length) hn u
      simpa using this
  have hA0 := At.made (X.length + Y.length) 95 w
  have hR1 := hR.alloc hb (.cells (madeCells #[.int .u64 0] (X.length + Y.length)) 95)
  have hS1 := hS.alloc hb2 (.cells (madeCells #[.int .u64 0] (X.length + Y.length)) 95)
  have hB1 := (Below.refl w.heap.size w).alloc (Nat.le_refl _) (.cells (madeCells #[.int .u64 0] (X.length + Y.length)) 95)
  have hz : (w.alloc (.cells (madeCells #[.int .u64 0] (X.length + Y.length)) 95)).heap.size = w.heap.size + 1 := by simp
  clear hR hS
  go_enter Tryz.func87, Tryz.ntmps87
  go_wp2
  generalize w.alloc (.cells (madeCells #[.int .u64 0] (X.length + Y.length)) 95) = w1 at *
  clear hmk
  have HZ := Lib.hid hz; clear hz
  go_loopw [16] (fun i wr => ∃ (k : Nat) (Z : List Nat), k ≤ Y.length ∧ i = .int .i64 (k : Nat) ∧ At (X.length + Y.length) w.heap.size 0 w1 Z wr ∧ Hid (wv Z = wv X * wv (Y.take k))) (fun i _ => Y.length - (intOf i).toNat)
  case atStart => exact ⟨0, _, Nat.zero_le _, rfl, hA0, by show _ = _; simp [wv, wv_replicate]⟩
  case round =>
    obtain ⟨k, Z, hk, rfl, hA, hv⟩ := hrel
    clear hA0
    by_cases hlt : k < Y.length
    · have hy := (hA.only.row hS1 (by omega) (by rw [HZ.out]; omega)).cell k hlt
      have hcall := addProduct_any wr w.heap.size k (X.length + Y.length - k) b o cap (gd Y k) (Z.drop k) X (by have := hA.row.drop k; rwa [Nat.zero_add] at this) (hA.only.row hR1 (by omega) (by rw [HZ.out]; omega)) (Wd_drop hA.wd k) hX (by omega) (by have := hA.only.size; rw [HZ.out] at this; omega)
        (gd_lt hY k) (by rw [List.length_drop, hA.len]; omega) (by rw [List.length_drop, hA.len]; omega) hc (by rw [List.length_drop, hA.len]; omega)
        (by rw [List.length_drop, hA.len, drop_div Z hA.wd]; exact product_room X Y k (gd Y k) (wv Z) _ hX hY hlt (Wd_getD hY k) rfl hv.out)
      have hcall2 : Calls Tryz.prog 111 #[.slice (some ⟨w.heap.size, k, none⟩) (X.length + Y.length - k) (X.length + Y.length - k), .slice (some ⟨b, o, none⟩) X.length cap, .int .u64 (gd Y k : Nat)] wr (ProdQ (Z.drop k) X (gd Y k) w.heap.size k wr) := by
        rw [List.length_drop, hA.len] at hcall; exact hcall
      have HC := Lib.hid hcall2; clear hcall hcall2
      have HR := Lib.hid hR1; clear hR1
      have HS := Lib.hid hS1; clear hS1
      go_wp2_with (refine HC.out.mono ?_; rintro e w' ⟨Z', hA', hZ', rfl⟩)
      go_roundw
      case rel => exact ⟨k + 1, Z.take k ++ Z', hlt, by go_num, hA.part (by omega) hA', by
        show _ = _
        exact product_step X Y Z k Z' hlt (by rw [hA.len]; omega) hv.out hZ'⟩
      case measure => (simp [intOf]; try omega)
    · obtain rfl : k = Y.length := by omega
      have hv2 : wv Z = wv X * wv Y := by have := hv.out; rwa [List.take_length] at this
      have ht := trim_any wr w.heap.size 0 (X.length + Y.length) Z hA.row (by rw [hA.len]; omega) (by rw [hA.len]; omega)
      rw [hA.len] at ht
      have HT := Lib.hid ht; clear ht
      have HV := Lib.hid hv2; clear hv2 hv
      have HR := Lib.hid hR1; clear hR1
      have HS := Lib.hid hS1; clear hS1
      go_wp2_with (refine HT.out.mono ?_; rintro e w' ⟨j, hj, hw, htr, rfl, rfl⟩)
      go_ret
      have hl : (Z.take j).length = j := by rw [List.length_take]; omega
      have hz2 : w.heap.size < wr.heap.size := by have := hA.only.size; have := HZ.out; omega
      refine ⟨Z.take j, ⟨Nat.le_refl _, hz2, hA.row.take j, Wd_take hA.wd j, by rw [hl]; have := hA.len; omega⟩, by rw [hw]; exact HV.out, htr, hB1.trans (hA.only.below (Nat.le_refl _) (by have := HZ.out; omega)), by rw [hl]; rfl⟩
end Go.Proofs.YteccbedmpjeamaaGreatDoor
namespace Go.Proofs.YteccbedmpjeamaaGreatDoor
open Go.RowKit NM
theorem trimLeftB_dz (l : List UInt8) : Lib.trimLeftB l 0 = dz l := by
  induction l with
  | nil => rfl
  | cons x xs ih =>
    unfold dz
    by_cases h : x = 0
    · subst h; simp [Lib.trimLeftB, ← ih]
    · rw [if_neg h]; simp [Lib.trimLeftB, h]
theorem len_size (s : ByteArray) : s.data.toList.length = s.size := by rw [Array.length_toList]; rfl
/-- the bytes of a string without zeros in front -/
def tz (s : ByteArray) : ByteArray := ⟨(dz s.data.toList).toArray⟩
theorem tz_list (s : ByteArray) : (tz s).data.toList = dz s.data.toList := rfl
theorem dz_length_le (l : List UInt8) : (dz l).length ≤ l.length := by
  induction l with
  | nil => simp [dz]
  | cons x xs ih => unfold dz; by_cases h : x = 0 <;> simp [h] <;> omega
theorem tz_size (s : ByteArray) : (tz s).size = (dz s.data.toList).length := by rw [← len_size, tz_list]
theorem tz_size_le (s : ByteArray) : (tz s).size ≤ s.size := by
  rw [tz_size, ← len_size]; exact dz_length_le _
theorem trimZeros_any (s : ByteArray) (w : World) : Calls Tryz.prog 110 #[.string s] w fun e w' => e = .returned (.string (tz s)) ∧ w = w' := by
  have h := Tryz.strings_TrimLeft_one s 0 (by decide) w
  rw [trimLeftB_dz] at h
  have H := Lib.hid h; clear h
  go_enter Tryz.func110, Tryz.ntmps110
  go_wp2_with (go_at_call 130; refine H.out.mono ?_; rintro e w' ⟨rfl, rfl⟩)
  go_ret
  exact ⟨rfl, rfl⟩
theorem words_store (X : List Nat) (V p c : Nat) (hX : Wd X) (hq : p/8 < X.length) (hv : wv X = V * 256^(p+1)) (hc : c < 256) :
    bits BinOp.or IntKind.u64 ((gd X (p/8) : Nat) : Int) (IntKind.u64.wrap (IntKind.u64.wrap (c : Int) * 2^(p%8*8))) = ((gd X (p/8) + c * 2^(p%8*8) : Nat) : Int) := by
  obtain ⟨h1, h2, _⟩ := words_step X V p c hX hq hv hc
  have hlt : c * 2^(p%8*8) < 18446744073709551616 := by
    have : c * 2^(p%8*8) < B64 := by have := Nat.zero_le (X.getD (p/8) 0); omega
    exact this
  have e1 : IntKind.u64.wrap (c : Int) = (c : Int) := IntWalk.u64_in _ ⟨by omega, by omega⟩
  have e2 : ((c : Int) * 2^(p%8*8)) = ((c * 2^(p%8*8) : Nat) : Int) := by rw [Int.natCast_mul, Int.natCast_pow]; rfl
  rw [e1, e2, IntWalk.u64_in _ ⟨by omega, by omega⟩, bits_or_u64_nat _ _ (gd_lt hX _) hlt]
  unfold gd
  rw [h1]
theorem At.drew {n b o : Nat} {w wr : World} {Z : List Nat} (h : At n b o w Z wr) : At n b o w Z wr.drew := ⟨h.len, h.wd, h.row.drew, h.only.drew⟩
theorem take_bv (t : ByteArray) (k : Nat) (h : k < t.size) : bv (t.data.toList.take (k+1)) = 256 * bv (t.data.toList.take k) + (t[k]'h).toNat := by
  rw [List.take_succ_eq_append_getElem (by rw [len_size]; exact h), bv_snoc]; rfl
/-- the number's highest word is not 0 -/
theorem words_Tr (s : ByteArray) (Z : List Nat) (hZ : Wd Z) (hl : Z.length = ((tz s).size + 7) / 8) (hv : wv Z = bv s.data.toList) : Tr Z := by
  unfold Tr
  by_cases h0 : Z.length = 0
  · rw [List.length_eq_zero_iff.1 h0]; simp
  · intro hd
    have hd' : Z.getD (Z.length - 1) 0 = 0 := by
      rw [List.getD_eq_getElem?_getD, List.getElem?_eq_getElem (by omega)] at hd ⊢; exact hd
    have h1 := wv_split Z (Z.length - 1) (by omega)
    rw [wv_drop_cons Z _ (by omega), hd', List.drop_eq_nil_of_le (by omega)] at h1
    simp only [wv, Nat.mul_zero, Nat.add_zero] at h1
    have h2 := wv_lt _ (Wd_take hZ (Z.length - 1))
    rw [List.length_take, Nat.min_eq_left (by omega), ← h1, hv, ← bv_dz] at h2
    have h3 : dz s.data.toList = nb (bv s.data.toList) := dz_eq _
    have h4 : 8 * (Z.length - 1) < (dz s.data.toList).length := by rw [← tz_size]; omega
    rw [h3] at h4
    have h5 := nb_length_lt _ _ h4
    rw [Nat.pow_mul, ← B64_pow256] at h5
    rw [bv_dz] at h2
    omega
def WQ (s : ByteArray) (w : World) (e : Ending) (w' : World) : Prop :=
  ∃ Z, Own w.heap.size w' w.heap.size 0 Z.length Z ∧ wv Z = bv s.data.toList ∧ Tr Z ∧ Below w.heap.size w w' ∧ Z.length = ((tz s).size + 7) / 8 ∧ e = .returned (.slice (some ⟨w.heap.size, 0, none⟩) Z.length Z.length)
set_option maxHeartbeats 1000000 in
theorem words_any (w : World) (s : ByteArray) (hs : s.size ≤ 1099511627776) : Calls Tryz.prog 85 #[.string s] w (WQ s w) := by
  have hts := tz_size_le s
  obtain ⟨t, ht⟩ : ∃ t, t = tz s := ⟨_, rfl⟩
  have htc := trimZeros_any s w
  rw [← ht] at htc hts
  have HT := Lib.hid ht; clear ht
  have HC := Lib.hid htc; clear htc
  obtain ⟨n, hn⟩ : ∃ n, n = (t.size + 7) / 8 := ⟨_, rfl⟩
  have hmk : ∀ u : World, (Instr.makeSlice 91 (.int .i64 (((t.size : Int) + 7) / 8)) (.int .i64 (((t.size : Int) + 7) / 8))).run Tryz.prog u =
    .ok (.slice (some ⟨u.heap.size, 0, none⟩) n n) (u.alloc (.cells (madeCells #[.int .u64 0] n) 95)) := fun u => by
      have := make_words n (by omega) u
      rw [hn] at this ⊢
      simpa using this
  have hA0 := At.made n 95 w
  have hB1 := (Below.refl w.heap.size w).alloc (Nat.le_refl _) (.cells (madeCells #[.int .u64 0] n) 95)
  have hz : (w.alloc (.cells (madeCells #[.int .u64 0] n) 95)).heap.size = w.heap.size + 1 := by simp
  have HN := Lib.hid hn; clear hn
  go_enter Tryz.func85, Tryz.ntmps85
  go_wp2_with (go_at_call 110; refine HC.out.mono ?_; rintro e w' ⟨rfl, rfl⟩)
  generalize w.alloc (.cells (madeCells #[.int .u64 0] n) 95) = w1 at *
  clear hmk HC
  have HZ := Lib.hid hz; clear hz
  go_loopw [15] (fun i wr => ∃ (k : Nat) (Z : List Nat), k ≤ t.size ∧ i = .int .i64 (k : Nat) ∧ At n w.heap.size 0 w1 Z wr ∧ Hid (wv Z = bv (t.data.toList.take k) * 256^(t.size - k))) (fun i _ => t.size - (intOf i).toNat)
  case atStart => exact ⟨0, _, Nat.zero_le _, rfl, hA0, by show _ = _; simp [wv_replicate, bv]⟩
  case round =>
    obtain ⟨k, Z, hk, rfl, hA, hv⟩ := hrel
    clear hA0
    by_cases hlt : k < t.size
    · obtain ⟨p, hp⟩ : ∃ p, p = t.size - 1 - k := ⟨_, rfl⟩
      have e : ((t.size : Int) - 1 - (k : Int)) = (p : Int) := by omega
      have hpn : p / 8 < n := by have := HN.out; omega
      have hx := hA.row.cell (p/8) (by rw [hA.len]; exact hpn)
      have hf := hA.row.free (p/8) (by rw [hA.len]; exact hpn)
      rw [Nat.zero_add] at hx hf
      have hpl : p < t.size := by omega
      have HP := Lib.hid hp; clear hp
      have hc := (t[k]'hlt).toNat_lt
      have hv2 : wv Z = bv (t.data.toList.take k) * 256^(p+1) := by have := hv.out; rw [this]; congr 2; have := HP.out; omega
      have HS := Lib.hid (words_store Z _ p _ hA.wd (by rw [hA.len]; exact hpn) hv2 hc)
      have HV := Lib.hid (words_step Z _ p _ hA.wd (by rw [hA.len]; exact hpn) hv2 hc)
      have HT2 := Lib.hid (take_bv t k hlt)
      clear hv2 hv hc
      go_wp2
      go_region
      go_wp2
      go_roundw
      case rel =>
        obtain ⟨_, v2, v3⟩ := HV.out
        have hA' := (hA.set (p/8) _ hpn v2).drew
        rw [Nat.zero_add] at hA'
        refine ⟨k + 1, _, hlt, by go_num, by rw [HS.out]; exact hA', ?_⟩
        show _ = _
        rw [v3, HT2.out]
        congr 2; have := HP.out; omega
      case measure => (simp [intOf]; try omega)
    · obtain rfl : k = t.size := by omega
      have hl : Z.length = n := hA.len
      have hv2 : wv Z = bv s.data.toList := by
        have := hv.out
        rw [Nat.sub_self, Nat.pow_zero, Nat.mul_one, List.take_of_length_le (by rw [len_size]; exact Nat.le_refl _)] at this
        rw [this, HT.out, tz_list, bv_dz]
      have HV := Lib.hid hv2; clear hv2 hv
      go_wp2
      go_ret
      have hz2 : w.heap.size < wr.heap.size := by have := hA.only.size; have := HZ.out; omega
      refine ⟨Z, ⟨Nat.le_refl _, hz2, hA.row, hA.wd, Nat.le_refl _⟩, HV.out, ?_, hB1.trans (hA.only.below (Nat.le_refl _) (by have := HZ.out; omega)), by rw [hl, HN.out, HT.out], by rw [hl]; rfl⟩
      exact words_Tr s Z hA.wd (by rw [hl, HN.out, HT.out]) HV.out
end Go.Proofs.YteccbedmpjeamaaGreatDoor
namespace Go.Proofs.YteccbedmpjeamaaGreatDoor
open Go.RowKit NM
/-- bytes in memory -/
structure BRow (w : World) (b o : Nat) (X : List Nat) : Prop where
  cell : ∀ j, j < X.length → w.cell? ⟨b, o+j, none⟩ = some (.int .u8 (gd X j : Nat))
  free : ∀ j, j < X.length → w.frozen? ⟨b, o+j, none⟩ = false
theorem BRow.set {w : World} {b o : Nat} {X : List Nat} (h : BRow w b o X) (k v : Nat) (hk : k < X.length) : BRow (w.setCell ⟨b, o+k, none⟩ (.int .u8 (v : Nat))) b o (X.set k v) where
  cell j hj := by
    rw [List.length_set] at hj
    by_cases e : j = k
    · subst e; rw [gd_set_same X j v hj]; exact World.cell?_setCell_same _ _ _ (h.cell j hj)
    · rw [gd_set_other X k j v e, World.cell?_setCell_other]
      · exact h.cell j hj
      · intro e2; simp at e2; try omega
  free j hj := by
    rw [List.length_set] at hj; rw [World.frozen?_setCell]; exact h.free j hj
theorem infoB : (Tryz.prog.info? 5).map (fun i => (i.zero, i.size, i.bytes)) = some (some (.int .u8 0), 1, 1) := by kernel_rfl
theorem make_bytes (n : Nat) (hn : n ≤ 109951162777600) (u : World) : (Instr.makeSlice 57 (.int .i64 (n : Int)) (.int .i64 (n : Int))).run Tryz.prog u =
    .ok (.slice (some ⟨u.heap.size, 0, none⟩) n n) (u.alloc (.cells (madeCells #[.int .u8 0] n) 5)) := by
  obtain ⟨i0, hi, hz0, hz1, hz2⟩ := info_parts infoB
  have h := run_make (P := Tryz.prog) u 57 5 i0 (.int .u8 0) Tryz.underlying57 hi hz0 .i64 .i64 (n : Int) (n : Int) (by omega) (Int.le_refl _) (by rw [hz2]; omega) (by omega)
  simpa [hz1, Value.cells] using h
theorem brow_made (n t : Nat) (u : World) : BRow (u.alloc (.cells (madeCells #[.int .u8 0] n) t)) u.heap.size 0 (List.replicate n 0) where
  cell j hj := by
    rw [List.length_replicate] at hj
    rw [Nat.zero_add, World.cell?_alloc_at _ _ _ _ rfl, ← Array.getElem?_toList, toList_madeCells_one, List.getElem?_replicate, if_pos hj]
    simp [gd, hj]
  free j hj := by rw [World.frozen?_alloc_at _ _ _ _ rfl]
structure BAt (n b : Nat) (w : World) (N k : Nat) (T : List Nat) (wr : World) : Prop where
  len : T.length = n
  row : BRow wr b 0 T
  only : Only b 0 n w wr
  val : ∀ p, p < k → gd T (n - 1 - p) = byteAt N p
theorem BAt.set {n b N k : Nat} {w wr : World} {T : List Nat} (h : BAt n b w N k T wr) (hk : k < n) : BAt n b w N (k+1) (T.set (n-1-k) (byteAt N k)) (wr.setCell ⟨b, n-1-k, none⟩ (.int .u8 (byteAt N k : Nat))) :=
  ⟨by rw [List.length_set]; exact h.len, by have := h.row.set (n-1-k) (byteAt N k) (by rw [h.len]; omega); rwa [Nat.zero_add] at this, h.only.set _ _ (by omega) (by omega), fun p hp => by
    by_cases e : p = k
    · subst e; rw [gd_set_same _ _ _ (by rw [h.len]; omega)]
    · rw [gd_set_other _ _ _ _ (by omega)]; exact h.val p (by omega)⟩
theorem BAt.list {n b N : Nat} {w wr : World} {T : List Nat} (h : BAt n b w N n T wr) : T.map UInt8.ofNat = bytesN n N := by
  apply List.ext_getElem?
  intro j
  by_cases hj : j < n
  · rw [bytesN_get _ _ _ hj, List.getElem?_map, List.getElem?_eq_getElem (by rw [h.len]; exact hj)]
    have := h.val (n-1-j) (by omega)
    rw [show n - 1 - (n - 1 - j) = j by omega] at this
    simp only [Option.map_some, Option.some.injEq]
    rw [← this]; unfold gd; rw [List.getD_eq_getElem?_getD, List.getElem?_eq_getElem (by rw [h.len]; exact hj)]; rfl
  · rw [List.getElem?_eq_none (by rw [List.length_map, h.len]; omega), List.getElem?_eq_none (by rw [bytesN_length]; omega)]
theorem byte_store (X : List Nat) (k : Nat) (hX : Wd X) : ((gd X (k/8) : Nat) : Int) / 2^(k%8*8) % 256 = ((byteAt (wv X) k : Nat) : Int) := by
  rw [← byte_of_word X hX k]
  have e : ((gd X (k/8) : Nat) : Int) / 2^(k%8*8) = ((gd X (k/8) / 2^(k%8*8) : Nat) : Int) := by rw [Int.natCast_ediv, Int.natCast_pow]; rfl
  rw [e]; unfold gd; omega
/-- the right number of a value, as a string -/
def NB (n : Nat) : ByteArray := ⟨(nb n).toArray⟩
theorem NB_list (n : Nat) : (NB n).data.toList = nb n := rfl
theorem drop_zeros (T : List Nat) (f : Nat) (hf : f ≤ T.length) (hz : ∀ j, j < f → gd T j = 0) (he : f = T.length ∨ (gd T f ≠ 0 ∧ gd T f < 256)) :
    (T.drop f).map UInt8.ofNat = dz (T.map UInt8.ofNat) := by
  induction f generalizing T with
  | zero =>
    rw [List.drop_zero]
    cases T with
    | nil => rfl
    | cons x xs =>
      rcases he with he | ⟨he, hlt⟩
      · simp at he
      · have hx : gd (x :: xs) 0 = x := rfl
        rw [hx] at he hlt
        rw [List.map_cons, dz, if_neg]
        intro h
        have := congrArg UInt8.toNat h
        simp at this; omega
  | succ f ih =>
    cases T with
    | nil => simp at hf
    | cons x xs =>
      have hx : x = 0 := hz 0 (by omega)
      subst hx
      rw [List.drop_succ_cons, List.map_cons, dz, if_pos (by rfl)]
      exact ih xs (by simpa using hf) (fun j hj => hz (j+1) (by omega)) (by simpa [gd] using he)
def NQ (X : List Nat) (w : World) (e : Ending) (w' : World) : Prop := e = .returned (.string (NB (wv X))) ∧ Below w.heap.size w w'
theorem fin_number (X T : List Nat) (f n : Nat) (hn : n = 8 * X.length) (hX : Wd X) (hT : T.length = n) (hl : T.map UInt8.ofNat = bytesN n (wv X)) (hf : f ≤ n) (hz : ∀ j, j < f → gd T j = 0) (he : f = n ∨ (gd T f ≠ 0 ∧ gd T f < 256)) :
    (⟨((T.drop f).map UInt8.ofNat).toArray⟩ : ByteArray) = NB (wv X) := by
  rw [drop_zeros T f (by omega) hz (by rw [hT]; exact he), hl, dz_eq, bv_bytesN, Nat.mod_eq_of_lt]
  · rfl
  · have := wv_lt X hX
    rwa [hn, Nat.pow_mul, ← B64_pow256]
set_option maxHeartbeats 1000000 in
theorem number_any (w : World) (b o cap : Nat) (X : List Nat) (hR : Row w b o X) (hX : Wd X) (hb : b < w.heap.size) (hn : X.length ≤ 1099511627776) (_hc : X.length ≤ cap) :
    Calls Tryz.prog 86 #[.slice (some ⟨b, o, none⟩) X.length cap] w (NQ X w) := by
  obtain ⟨m, hm⟩ : ∃ m, m = 8 * X.length := ⟨_, rfl⟩
  have e0 : (8 * (X.length : Int)) = (m : Int) := by omega
  have hmb : m ≤ 8796093022208 := by omega
  have hmk := fun u => make_bytes m (by omega) u
  have hA0 : BAt m w.heap.size (w.alloc (.cells (madeCells #[.int .u8 0] m) 5)) (wv X) 0 (List.replicate m 0) (w.alloc (.cells (madeCells #[.int .u8 0] m) 5)) :=
    ⟨List.length_replicate, brow_made m _ w, Only.refl _ _ _ _, fun p hp => by omega⟩
  have hB1 := (Below.refl w.heap.size w).alloc (Nat.le_refl _) (.cells (madeCells #[.int .u8 0] m) 5)
  have hR1 := hR.alloc hb (.cells (madeCells #[.int .u8 0] m) 5)
  have hz : (w.alloc (.cells (madeCells #[.int .u8 0] m) 5)).heap.size = w.heap.size + 1 := by simp
  have HM := Lib.hid hm; clear hm hR
  go_enter Tryz.func86, Tryz.ntmps86
  go_wp2
  generalize w.alloc (.cells (madeCells #[.int .u8 0] m) 5) = w1 at *
  clear hmk
  have HZ := Lib.hid hz; clear hz
  go_loopw [12] (fun i wr => ∃ (k : Nat) (T : List Nat), k ≤ m ∧ i = .int .i64 (k : Nat) ∧ BAt m w.heap.size w1 (wv X) k T wr) (fun i _ => m - (intOf i).toNat)
  case atStart => exact ⟨0, _, Nat.zero_le _, rfl, hA0⟩
  case round =>
    obtain ⟨k, T, hk, rfl, hA⟩ := hrel
    clear hA0
    by_cases hlt : k < m
    · obtain ⟨p, hp⟩ : ∃ p, p = m - 1 - k := ⟨_, rfl⟩
      have e : ((m : Int) - 1 - (k : Int)) = (p : Int) := by omega
      have hkn : k / 8 < X.length := by have := HM.out; omega
      have hx := (hA.only.row hR1 (by omega) (by rw [HZ.out]; omega)).cell (k/8) hkn
      have hf := hA.row.free p (by rw [hA.len]; omega)
      have ht := hA.row.cell p (by rw [hA.len]; omega)
      rw [Nat.zero_add] at hf ht
      have hpl : p < m := by omega
      have HP := Lib.hid hp; clear hp
      have HR := Lib.hid hR1; clear hR1
      have HS := Lib.hid (byte_store X k hX)
      go_wp2
      go_roundw
      case rel =>
        have hA' := hA.set hlt
        rw [← HP.out] at hA'
        exact ⟨k + 1, _, hlt, by go_num, by rw [HS.out]; exact hA'⟩
      case measure => (simp [intOf]; try omega)
    · obtain rfl : k = m := by omega
      have hl := hA.list
      have HL := Lib.hid hl; clear hl
      have HR := Lib.hid hR1; clear hR1
      clear hlt hk
      go_wp2
      go_loop [5] (fun i => ∃ (f : Nat), f ≤ k ∧ i = .int .i64 (f : Nat) ∧ Hid (∀ j, j < f → gd T j = 0)) (fun i => k - (intOf i).toNat)
      case atStart => exact ⟨0, Nat.zero_le _, rfl, fun j hj => by omega⟩
      case round =>
        obtain ⟨f, hfk, rfl, hz0⟩ := hrel
        by_cases hlt : f < k
        · have hd : decide ((f : Int) < (k : Int)) = true := by simp; omega
          have ht := hA.row.cell f (by rw [hA.len]; exact hlt)
          rw [Nat.zero_add] at ht
          by_cases h0 : gd T f = 0
          · rw [h0] at ht
            have H0 := Lib.hid h0; clear h0
            go_wp2
            go_round
            case rel => exact ⟨f + 1, by omega, by go_num, fun j hj => by
              by_cases ej : j = f
              · rw [ej]; exact H0.out
              · exact hz0.out j (by omega)⟩
            case measure => (simp [intOf]; try omega)
          · have hb0 : ((gd T f : Int) == 0) = false := by simp; omega
            have hg : gd T f < 256 := by
              have h1 := hA.val (k - 1 - f) (by omega)
              rw [show k - 1 - (k - 1 - f) = f by omega] at h1
              rw [h1]; exact Nat.mod_lt _ (by omega)
            have hcv := run_convert_bytes_arg (P := Tryz.prog) wr 57 5 Tryz.underlying57 Tryz.underlying5 w.heap.size f (k - f) (k - f) ((T.drop f).map Int.ofNat) (by rw [List.length_map, List.length_drop, hA.len])
              (fun i hi => by
                have h1 := hA.row.cell (f + i) (by rw [hA.len]; omega)
                rw [Nat.zero_add] at h1
                rw [h1]; congr 2
                simp [gd, List.getD_eq_getElem?_getD, List.getElem?_drop, List.getElem?_eq_getElem (show f + i < T.length by rw [hA.len]; omega)]) 24 Tryz.underlying24
            have he : strOfNums ((T.drop f).map Int.ofNat) = NB (wv X) := by
              rw [← fin_number X T f k HM.out hX hA.len HL.out hfk hz0.out (.inr ⟨h0, hg⟩)]
              simp [strOfNums, List.map_map, Function.comp_def]
            rw [he] at hcv
            have hxx := Lib.hid h0
            clear he hg h0
            set_option maxRecDepth 100000 in
            go_wp2
            go_ret
            exact ⟨rfl, hB1.trans (hA.only.below (Nat.le_refl _) (by have := HZ.out; omega))⟩
        · obtain rfl : f = k := by omega
          have he : (⟨#[]⟩ : ByteArray) = NB (wv X) := by
            rw [← fin_number X T f f HM.out hX hA.len HL.out hfk hz0.out (.inl rfl)]
            rw [List.drop_eq_nil_of_le (by rw [hA.len]; exact Nat.le_refl _)]; rfl
          have hcv : ∀ n, (convert 57 24 (.slice (some ⟨w.heap.size, n, none⟩) 0 0)).run Tryz.prog wr = .ok (.string (NB (wv X))) wr := fun n => by
            rw [← he]
            exact run_convert_bytes_arg (P := Tryz.prog) wr 57 5 Tryz.underlying57 Tryz.underlying5 w.heap.size n 0 0 [] rfl (fun i hi => absurd hi (Nat.not_lt_zero _)) 24 Tryz.underlying24
          clear he
          set_option maxRecDepth 100000 in
          go_wp2
          go_ret
          exact ⟨rfl, hB1.trans (hA.only.below (Nat.le_refl _) (by have := HZ.out; omega))⟩
end Go.Proofs.YteccbedmpjeamaaGreatDoor
namespace Go.Proofs.YteccbedmpjeamaaGreatDoor
open Go.RowKit NM
def wcell (x : Nat) : Value := .int .u64 (x : Nat)
theorem Row.of_heap {w : World} {g t : Nat} {Z : List Nat} (h : w.heap[g]? = some (.cells (Z.map wcell).toArray t (0, 0))) : Row w g 0 Z where
  cell j hj := by simp [World.cell?, h, gd, wcell, hj]
  free j hj := by simp [World.frozen?, h]
def WidQ (X : List Nat) (n : Nat) (w : World) (e : Ending) (w' : World) : Prop :=
  ∃ Z, Own w.heap.size w' w.heap.size 0 n Z ∧ Z.length = n ∧ wv Z = wv X ∧ Below w.heap.size w w' ∧ e = .returned (.slice (some ⟨w.heap.size, 0, none⟩) n n)
set_option maxHeartbeats 1000000 in
theorem widen_any (w : World) (b o cap n : Nat) (X : List Nat) (hR : Row w b o X) (hX : Wd X) (hb : b < w.heap.size) (hn : n ≤ 1099511627776) (hl : X.length ≤ n) :
    Calls Tryz.prog 97 #[.slice (some ⟨b, o, none⟩) X.length cap, .int .i64 (n : Nat)] w (WidQ X n w) := by
  have hmk := fun u => make_words n hn u
  have hB1 := (Below.refl w.heap.size w).alloc (Nat.le_refl _) (.cells (madeCells #[.int .u64 0] n) 95)
  have hR1 := hR.alloc hb (.cells (madeCells #[.int .u64 0] n) 95)
  have hz : (w.alloc (.cells (madeCells #[.int .u64 0] n) 95)).heap.size = w.heap.size + 1 := by simp
  have hh : (w.alloc (.cells (madeCells #[.int .u64 0] n) 95)).heap[w.heap.size]? = some (.cells ((List.replicate n 0).map wcell).toArray 95 (0, 0)) := by
    have e : (madeCells #[Value.int .u64 0] n) = ((List.replicate n 0).map wcell).toArray := by
      apply Array.toList_inj.1
      rw [toList_madeCells_one]; simp [wcell]
    rw [← e]; show (w.heap.push _)[w.heap.size]? = _; rw [Array.getElem?_push_size]
  obtain ⟨C0, hC0⟩ : ∃ C0, C0 = (List.replicate n 0).map wcell := ⟨_, rfl⟩
  obtain ⟨C1, hC1⟩ : ∃ C1, C1 = X.map wcell := ⟨_, rfl⟩
  rw [← hC0] at hh
  have l0 : C0.length = n := by rw [hC0]; simp
  have l1 : C1.length = X.length := by rw [hC1]; simp
  have h1 : ∀ v ∈ C1, v.oneCell' = true := by
    intro v hv; rw [hC1] at hv; obtain ⟨x, _, rfl⟩ := List.mem_map.1 hv; rfl
  have hsrc : ∀ j v, C1[j]? = some v → (w.alloc (.cells (madeCells #[.int .u64 0] n) 95)).cell? ((⟨b, o, none⟩ : Addr).add j) = some v := by
    intro j v hj
    rw [hC1, List.getElem?_map] at hj
    by_cases hjl : j < X.length
    · rw [List.getElem?_eq_getElem hjl] at hj
      simp only [Option.map_some, Option.some.injEq] at hj
      have ha : (⟨b, o, none⟩ : Addr).add j = ⟨b, o + j, none⟩ := by unfold Addr.add; split <;> simp_all
      rw [ha, hR1.cell j hjl, ← hj]
      simp [wcell, gd, hjl]
    · rw [List.getElem?_eq_none (by omega)] at hj; simp at hj
  have H1 := Lib.hid h1; have HS := Lib.hid hsrc; have HH := Lib.hid hh; have L0 := Lib.hid l0; have L1 := Lib.hid l1
  have HC0 := Lib.hid hC0; have HC1 := Lib.hid hC1
  clear h1 hsrc hh l0 l1 hC0 hC1 hR1 hR
  go_enter Tryz.func97, Tryz.ntmps97
  go_wp2_with (with_reducible refine wpList_copy_splice rfl _ _ _ _ rfl 95 Tryz.underlying91 (by kernel_rfl) _ _ _ _ _ _ rfl rfl w.heap.size 0 C0 95 HH.out C1 (by rw [L1.out]; exact (Nat.min_eq_left hl).symm) (fun _ => ⟨rfl, _, rfl, HS.out⟩) (by rw [L0.out, L1.out]; omega) H1.out w.heap.size w hB1 (Nat.le_refl _) ?_; intro w2 HG2 hB2)
  go_ret
  have hg := HG2.out
  have hsp : splice C0 0 C1 = ((X ++ List.replicate (n - X.length) 0).map wcell) := by
    unfold splice
    rw [HC0.out, HC1.out]
    simp
  rw [hsp] at hg
  refine ⟨X ++ List.replicate (n - X.length) 0, ⟨Nat.le_refl _, (Array.getElem?_eq_some_iff.1 hg).1, Row.of_heap hg, Wd_append hX (Wd_zeros _), by simp; omega⟩, by simp; omega, by rw [wv_append, wv_replicate, Nat.mul_zero, Nat.add_zero], hB2, rfl⟩
end Go.Proofs.YteccbedmpjeamaaGreatDoor
