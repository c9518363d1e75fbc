/-
  The walks of nat.addProduct and nat.product.
  The walk of nat.product.
  The walks of nat.trimZeros and nat.words.
  The walk of nat.number: it writes the bytes of words, and drops the zeros in front.
  The walk of nat.widen: a copy of words in a longer row.
-/
import Derived.Test.YtipmoklmolhffaaBase
import Derived.Test.YtipmoklmolhffaaShelf
import Derived.Lib.TrimByte
import Derived.BigQuiet
import Derived.Laws.CopyOwn
namespace Go.Proofs.Ytipmoklmolhffaa
open Go.RowKit NM
def mh64 (x y : Nat) : Nat := x * y / B64
def ml64 (x y : Nat) : Nat := x * y % B64
/-- a digit of a product, with what is carried and what is there -/
theorem prod_digit (x y d c : Nat) (hx : x < B64) (hy : y < B64) (hd : d < B64) (hc : c < B64) :
    lo64 x (lo64 (ml64 y d) c 0) 0 = (x + y * d + c) % B64 ∧ mh64 y d + hi64 (ml64 y d) c 0 + hi64 x (lo64 (ml64 y d) c 0) 0 = (x + y * d + c) / B64 ∧ (x + y * d + c) / B64 < B64 := by
  have hm := mul_digit x y d c hx hy hd hc
  have e1 := Nat.div_add_mod (y * d) B64
  have e2 := Nat.div_add_mod (y * d % B64 + c + 0) B64
  have e3 := Nat.div_add_mod (x + (y * d % B64 + c + 0) % B64 + 0) B64
  have l3 := Nat.mod_lt (x + (y * d % B64 + c + 0) % B64 + 0) B64_pos
  unfold lo64 hi64 mh64 ml64
  generalize y * d / B64 = a at *
  generalize y * d % B64 = a' at *
  generalize (a' + c + 0) / B64 = f at *
  generalize (a' + c + 0) % B64 = f' at *
  generalize (x + f' + 0) / B64 = g at *
  generalize (x + f' + 0) % B64 = g' at *
  have tot : x + y * d + c = B64 * (a + f + g) + g' := by rw [← e1, Nat.mul_add, Nat.mul_add]; omega
  have q : (x + y * d + c) / B64 = a + f + g := by rw [tot, Nat.mul_add_div B64_pos, Nat.div_eq_of_lt l3, Nat.add_zero]
  have r : (x + y * d + c) % B64 = g' := by rw [tot, Nat.mul_add_mod, Nat.mod_eq_of_lt l3]
  exact ⟨r.symm, q.symm, hm⟩
theorem ml64_lt (x y : Nat) : ml64 x y < B64 := Nat.mod_lt _ B64_pos
def ProdQ (X Y : List Nat) (d b o : Nat) (w : World) (e : Ending) (w' : World) : Prop :=
  ∃ Z, At X.length b o w Z w' ∧ wv Z = wv X + d * wv Y ∧ e = .returned (.tuple #[])
theorem room_carry {Z : List Nat} {n k c V : Nat} (hV : V < B64^n) (hv : wv Z + c * B64^k = V) (hc : c ≠ 0) : k < n := by
  apply Nat.lt_of_not_le; intro h
  have h2 : B64^n ≤ B64^k := Nat.pow_le_pow_right B64_pos h
  have h3 : B64^k ≤ c * B64^k := Nat.le_mul_of_pos_left _ (by omega)
  omega
theorem hi_le (x y : Nat) (hx : x < B64) (hy : y < B64) : hi64 x y 0 ≤ 1 := hi64_le hx hy (by omega)
end Go.Proofs.Ytipmoklmolhffaa
namespace Go.Proofs.Ytipmoklmolhffaa
open Go.RowKit NM
theorem infoW : (Try.prog.info? 54).map (fun i => (i.zero, i.size, i.bytes)) = some (some (.int .u64 0), 1, 8) := by kernel_rfl
theorem row_made (n t : Nat) (u : World) : Row (u.alloc (.cells (madeCells #[.int .u64 0] n) t)) u.heap.size 0 (List.replicate n 0) where
  cell j hj := by
    rw [List.length_replicate] at hj
    rw [Nat.zero_add, World.cell?_alloc_at _ _ _ _ rfl, ← Array.getElem?_toList, toList_madeCells_one, List.getElem?_replicate, if_pos hj]
    simp [gd, hj]
  free j hj := by rw [World.frozen?_alloc_at _ _ _ _ rfl]
theorem Wd_zeros (n : Nat) : Wd (List.replicate n 0) := fun x hx => by rw [(List.mem_replicate.1 hx).2]; exact B64_pos
theorem At.made (n t : Nat) (u : World) : At n u.heap.size 0 (u.alloc (.cells (madeCells #[.int .u64 0] n) t)) (List.replicate n 0) (u.alloc (.cells (madeCells #[.int .u64 0] n) t)) :=
  ⟨List.length_replicate, Wd_zeros n, row_made n t u, Only.refl _ _ _ _⟩
/-- part of the words is turned -/
theorem At.part {n b i : Nat} {w wr w' : World} {Z Z' : List Nat} (h : At n b 0 w Z wr) (hi : i ≤ n) (h' : At (Z.drop i).length b i wr Z' w') : At n b 0 w (Z.take i ++ Z') w' := by
  have hl : Z'.length = n - i := by rw [h'.len, List.length_drop, h.len]
  refine ⟨by rw [List.length_append, List.length_take, hl, h.len]; omega, Wd_append (Wd_take h.wd i) h'.wd, ?_, ?_⟩
  · refine Row.append (h'.only.rowIn (h.row.take i) (.inl (by rw [List.length_take, h.len]; omega))) ?_
    rw [List.length_take, h.len, Nat.zero_add, Nat.min_eq_left hi]; exact h'.row
  · refine h.only.trans (h'.only.wide (by omega) ?_)
    rw [List.length_drop, h.len]; omega
/-- a row of words that the call owns -/
structure Own (B : Nat) (w : World) (b o cap : Nat) (Z : List Nat) : Prop where
  lo : B ≤ b
  lt : b < w.heap.size
  row : Row w b o Z
  wd : Wd Z
  cap : Z.length ≤ cap
def PQ (X Y : List Nat) (w : World) (e : Ending) (w' : World) : Prop :=
  ∃ Z, Own w.heap.size w' w.heap.size 0 (X.length + Y.length) Z ∧ wv Z = wv X * wv Y ∧ Tr Z ∧ Below w.heap.size w w' ∧ e = .returned (.slice (some ⟨w.heap.size, 0, none⟩) Z.length (X.length + Y.length))
end Go.Proofs.Ytipmoklmolhffaa
namespace Go.Proofs.Ytipmoklmolhffaa
open Go.RowKit NM
theorem trimLeftB_dz (l : List UInt8) : Lib.trimLeftB l 0 = dz l := by
  induction l with
  | nil => rfl
  | cons x xs ih =>
    unfold dz
    by_cases h : x = 0
    · subst h; simp [Lib.trimLeftB, ← ih]
    · rw [if_neg h]; simp [Lib.trimLeftB, h]
theorem len_size (s : ByteArray) : s.data.toList.length = s.size := by rw [Array.length_toList]; rfl
/-- the bytes of a string without zeros in front -/
def tz (s : ByteArray) : ByteArray := ⟨(dz s.data.toList).toArray⟩
theorem tz_list (s : ByteArray) : (tz s).data.toList = dz s.data.toList := rfl
theorem dz_length_le (l : List UInt8) : (dz l).length ≤ l.length := by
  induction l with
  | nil => simp [dz]
  | cons x xs ih => unfold dz; by_cases h : x = 0 <;> simp [h] <;> omega
theorem tz_size (s : ByteArray) : (tz s).size = (dz s.data.toList).length := by rw [← len_size, tz_list]
theorem tz_size_le (s : ByteArray) : (tz s).size ≤ s.size := by
  rw [tz_size, ← len_size]; exact dz_length_le _
theorem words_store (X : List Nat) (V p c : Nat) (hX : Wd X) (hq : p/8 < X.length) (hv : wv X = V * 256^(p+1)) (hc : c < 256) :
    bits BinOp.or IntKind.u64 ((gd X (p/8) : Nat) : Int) (IntKind.u64.wrap (IntKind.u64.wrap (c : Int) * 2^(p%8*8))) = ((gd X (p/8) + c * 2^(p%8*8) : Nat) : Int) := by
  obtain ⟨h1, h2, _⟩ := words_step X V p c hX hq hv hc
  have hlt : c * 2^(p%8*8) < 18446744073709551616 := by
    have : c * 2^(p%8*8) < B64 := by have := Nat.zero_le (X.getD (p/8) 0); omega
    exact this
  have e1 : IntKind.u64.wrap (c : Int) = (c : Int) := IntWalk.u64_in _ ⟨by omega, by omega⟩
  have e2 : ((c : Int) * 2^(p%8*8)) = ((c * 2^(p%8*8) : Nat) : Int) := by rw [Int.natCast_mul, Int.natCast_pow]; rfl
  rw [e1, e2, IntWalk.u64_in _ ⟨by omega, by omega⟩, bits_or_u64_nat _ _ (gd_lt hX _) hlt]
  unfold gd
  rw [h1]
theorem At.drew {n b o : Nat} {w wr : World} {Z : List Nat} (h : At n b o w Z wr) : At n b o w Z wr.drew := ⟨h.len, h.wd, h.row.drew, h.only.drew⟩
theorem take_bv (t : ByteArray) (k : Nat) (h : k < t.size) : bv (t.data.toList.take (k+1)) = 256 * bv (t.data.toList.take k) + (t[k]'h).toNat := by
  rw [List.take_succ_eq_append_getElem (by rw [len_size]; exact h), bv_snoc]; rfl
/-- the number's highest word is not 0 -/
theorem words_Tr (s : ByteArray) (Z : List Nat) (hZ : Wd Z) (hl : Z.length = ((tz s).size + 7) / 8) (hv : wv Z = bv s.data.toList) : Tr Z := by
  unfold Tr
  by_cases h0 : Z.length = 0
  · rw [List.length_eq_zero_iff.1 h0]; simp
  · intro hd
    have hd' : Z.getD (Z.length - 1) 0 = 0 := by
      rw [List.getD_eq_getElem?_getD, List.getElem?_eq_getElem (by omega)] at hd ⊢; exact hd
    have h1 := wv_split Z (Z.length - 1) (by omega)
    rw [wv_drop_cons Z _ (by omega), hd', List.drop_eq_nil_of_le (by omega)] at h1
    simp only [wv, Nat.mul_zero, Nat.add_zero] at h1
    have h2 := wv_lt _ (Wd_take hZ (Z.length - 1))
    rw [List.length_take, Nat.min_eq_left (by omega), ← h1, hv, ← bv_dz] at h2
    have h3 : dz s.data.toList = nb (bv s.data.toList) := dz_eq _
    have h4 : 8 * (Z.length - 1) < (dz s.data.toList).length := by rw [← tz_size]; omega
    rw [h3] at h4
    have h5 := nb_length_lt _ _ h4
    rw [Nat.pow_mul, ← B64_pow256] at h5
    rw [bv_dz] at h2
    omega
def WQ (s : ByteArray) (w : World) (e : Ending) (w' : World) : Prop :=
  ∃ Z, Own w.heap.size w' w.heap.size 0 Z.length Z ∧ wv Z = bv s.data.toList ∧ Tr Z ∧ Below w.heap.size w w' ∧ Z.length = ((tz s).size + 7) / 8 ∧ e = .returned (.slice (some ⟨w.heap.size, 0, none⟩) Z.length Z.length)
end Go.Proofs.Ytipmoklmolhffaa
namespace Go.Proofs.Ytipmoklmolhffaa
open Go.RowKit NM
/-- bytes in memory -/
structure BRow (w : World) (b o : Nat) (X : List Nat) : Prop where
  cell : ∀ j, j < X.length → w.cell? ⟨b, o+j, none⟩ = some (.int .u8 (gd X j : Nat))
  free : ∀ j, j < X.length → w.frozen? ⟨b, o+j, none⟩ = false
theorem BRow.set {w : World} {b o : Nat} {X : List Nat} (h : BRow w b o X) (k v : Nat) (hk : k < X.length) : BRow (w.setCell ⟨b, o+k, none⟩ (.int .u8 (v : Nat))) b o (X.set k v) where
  cell j hj := by
    rw [List.length_set] at hj
    by_cases e : j = k
    · subst e; rw [gd_set_same X j v hj]; exact World.cell?_setCell_same _ _ _ (h.cell j hj)
    · rw [gd_set_other X k j v e, World.cell?_setCell_other]
      · exact h.cell j hj
      · intro e2; simp at e2; try omega
  free j hj := by
    rw [List.length_set] at hj; rw [World.frozen?_setCell]; exact h.free j hj
theorem infoB : (Try.prog.info? 5).map (fun i => (i.zero, i.size, i.bytes)) = some (some (.int .u8 0), 1, 1) := by kernel_rfl
theorem make_bytes (n : Nat) (hn : n ≤ 109951162777600) (u : World) : (Instr.makeSlice 42 (.int .i64 (n : Int)) (.int .i64 (n : Int))).run Try.prog u =
    .ok (.slice (some ⟨u.heap.size, 0, none⟩) n n) (u.alloc (.cells (madeCells #[.int .u8 0] n) 5)) := by
  obtain ⟨i0, hi, hz0, hz1, hz2⟩ := info_parts infoB
  have h := run_make (P := Try.prog) u 42 5 i0 (.int .u8 0) Try.underlying42 hi hz0 .i64 .i64 (n : Int) (n : Int) (by omega) (Int.le_refl _) (by rw [hz2]; omega) (by omega)
  simpa [hz1, Value.cells] using h
theorem brow_made (n t : Nat) (u : World) : BRow (u.alloc (.cells (madeCells #[.int .u8 0] n) t)) u.heap.size 0 (List.replicate n 0) where
  cell j hj := by
    rw [List.length_replicate] at hj
    rw [Nat.zero_add, World.cell?_alloc_at _ _ _ _ rfl, ← Array.getElem?_toList, toList_madeCells_one, List.getElem?_replicate, if_pos hj]
    simp [gd, hj]
  free j hj := by rw [World.frozen?_alloc_at _ _ _ _ rfl]
structure BAt (n b : Nat) (w : World) (N k : Nat) (T : List Nat) (wr : World) : Prop where
  len : T.length = n
  row : BRow wr b 0 T
  only : Only b 0 n w wr
  val : ∀ p, p < k → gd T (n - 1 - p) = byteAt N p
theorem BAt.set {n b N k : Nat} {w wr : World} {T : List Nat} (h : BAt n b w N k T wr) (hk : k < n) : BAt n b w N (k+1) (T.set (n-1-k) (byteAt N k)) (wr.setCell ⟨b, n-1-k, none⟩ (.int .u8 (byteAt N k : Nat))) :=
  ⟨by rw [List.length_set]; exact h.len, by have := h.row.set (n-1-k) (byteAt N k) (by rw [h.len]; omega); rwa [Nat.zero_add] at this, h.only.set _ _ (by omega) (by omega), fun p hp => by
    by_cases e : p = k
    · subst e; rw [gd_set_same _ _ _ (by rw [h.len]; omega)]
    · rw [gd_set_other _ _ _ _ (by omega)]; exact h.val p (by omega)⟩
theorem BAt.list {n b N : Nat} {w wr : World} {T : List Nat} (h : BAt n b w N n T wr) : T.map UInt8.ofNat = bytesN n N := by
  apply List.ext_getElem?
  intro j
  by_cases hj : j < n
  · rw [bytesN_get _ _ _ hj, List.getElem?_map, List.getElem?_eq_getElem (by rw [h.len]; exact hj)]
    have := h.val (n-1-j) (by omega)
    rw [show n - 1 - (n - 1 - j) = j by omega] at this
    simp only [Option.map_some, Option.some.injEq]
    rw [← this]; unfold gd; rw [List.getD_eq_getElem?_getD, List.getElem?_eq_getElem (by rw [h.len]; exact hj)]; rfl
  · rw [List.getElem?_eq_none (by rw [List.length_map, h.len]; omega), List.getElem?_eq_none (by rw [bytesN_length]; omega)]
theorem byte_store (X : List Nat) (k : Nat) (hX : Wd X) : ((gd X (k/8) : Nat) : Int) / 2^(k%8*8) % 256 = ((byteAt (wv X) k : Nat) : Int) := by
  rw [← byte_of_word X hX k]
  have e : ((gd X (k/8) : Nat) : Int) / 2^(k%8*8) = ((gd X (k/8) / 2^(k%8*8) : Nat) : Int) := by rw [Int.natCast_ediv, Int.natCast_pow]; rfl
  rw [e]; unfold gd; omega
/-- the right number of a value, as a string -/
def NB (n : Nat) : ByteArray := ⟨(nb n).toArray⟩
theorem NB_list (n : Nat) : (NB n).data.toList = nb n := rfl
theorem drop_zeros (T : List Nat) (f : Nat) (hf : f ≤ T.length) (hz : ∀ j, j < f → gd T j = 0) (he : f = T.length ∨ (gd T f ≠ 0 ∧ gd T f < 256)) :
    (T.drop f).map UInt8.ofNat = dz (T.map UInt8.ofNat) := by
  induction f generalizing T with
  | zero =>
    rw [List.drop_zero]
    cases T with
    | nil => rfl
    | cons x xs =>
      rcases he with he | ⟨he, hlt⟩
      · simp at he
      · have hx : gd (x :: xs) 0 = x := rfl
        rw [hx] at he hlt
        rw [List.map_cons, dz, if_neg]
        intro h
        have := congrArg UInt8.toNat h
        simp at this; omega
  | succ f ih =>
    cases T with
    | nil => simp at hf
    | cons x xs =>
      have hx : x = 0 := hz 0 (by omega)
      subst hx
      rw [List.drop_succ_cons, List.map_cons, dz, if_pos (by rfl)]
      exact ih xs (by simpa using hf) (fun j hj => hz (j+1) (by omega)) (by simpa [gd] using he)
def NQ (X : List Nat) (w : World) (e : Ending) (w' : World) : Prop := e = .returned (.string (NB (wv X))) ∧ Below w.heap.size w w'
theorem fin_number (X T : List Nat) (f n : Nat) (hn : n = 8 * X.length) (hX : Wd X) (hT : T.length = n) (hl : T.map UInt8.ofNat = bytesN n (wv X)) (hf : f ≤ n) (hz : ∀ j, j < f → gd T j = 0) (he : f = n ∨ (gd T f ≠ 0 ∧ gd T f < 256)) :
    (⟨((T.drop f).map UInt8.ofNat).toArray⟩ : ByteArray) = NB (wv X) := by
  rw [drop_zeros T f (by omega) hz (by rw [hT]; exact he), hl, dz_eq, bv_bytesN, Nat.mod_eq_of_lt]
  · rfl
  · have := wv_lt X hX
    rwa [hn, Nat.pow_mul, ← B64_pow256]
end Go.Proofs.Ytipmoklmolhffaa
namespace Go.Proofs.Ytipmoklmolhffaa
open Go.RowKit NM
def wcell (x : Nat) : Value := .int .u64 (x : Nat)
theorem Row.of_heap {w : World} {g t : Nat} {Z : List Nat} (h : w.heap[g]? = some (.cells (Z.map wcell).toArray t (0, 0))) : Row w g 0 Z where
  cell j hj := by simp [World.cell?, h, gd, wcell, hj]
  free j hj := by simp [World.frozen?, h]
def WidQ (X : List Nat) (n : Nat) (w : World) (e : Ending) (w' : World) : Prop :=
  ∃ Z, Own w.heap.size w' w.heap.size 0 n Z ∧ Z.length = n ∧ wv Z = wv X ∧ Below w.heap.size w w' ∧ e = .returned (.slice (some ⟨w.heap.size, 0, none⟩) n n)
end Go.Proofs.Ytipmoklmolhffaa
