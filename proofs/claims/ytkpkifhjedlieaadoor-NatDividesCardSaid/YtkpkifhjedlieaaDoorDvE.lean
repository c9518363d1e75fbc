/-
  nat.estimate on rows; what the loop of nat.divide keeps.
-/
import Derived.Test.YtkpkifhjedlieaaDoorEst3
import Derived.Test.YtkpkifhjedlieaaDoorQuo
import Derived.Test.YtkpkifhjedlieaaDoorAdd
namespace Go.Proofs.YtkpkifhjedlieaaDoor
open Go.RowKit NM
def EstRQ (P Y : List Nat) (w : World) (e : Ending) (w' : World) : Prop :=
  ∃ d : Nat, e = .returned (.int .u64 (d : Nat)) ∧ Quiet w w' ∧ d < 18446744073709551616 ∧ wv P / wv Y ≤ d ∧ d ≤ wv P / wv Y + 1
theorem estimate_any (w : World) (b o cap b2 o2 cap2 n N : Nat) (P Y : List Nat) (hR : Row w b o P) (hS : Row w b2 o2 Y) (hP : Wd P) (hY : Wd Y) (lP : P.length = N) (lY : Y.length = n) (hN : N = n + 1)
    (hn : 2 ≤ n) (hn2 : N ≤ 9223372036854775806) (hc : N ≤ cap) (hc2 : n ≤ cap2) (htop : 9223372036854775808 ≤ gd Y (n-1)) (hu : wv P < wv Y * B64) :
    Calls Tryd.prog 52 #[.slice (some ⟨b, o, none⟩) N cap, .slice (some ⟨b2, o2, none⟩) n cap2] w (EstRQ P Y w) := by
  obtain ⟨m, rfl⟩ : ∃ m, n = m + 2 := ⟨n - 2, by omega⟩
  refine (estimate_walk w b o cap b2 o2 cap2 (m+2) N (gd P (m+2)) (gd P (m+1)) (gd P m) (gd Y (m+1)) (gd Y m) hn (by omega) hn2 hc hc2 (hR.cell _ (by omega)) (hR.cell (m+1) (by omega)) (hR.cell m (by omega)) (hS.cell (m+1) (by omega)) (hS.cell m (by omega))
    (gd_lt hP _) (gd_lt hP _) (gd_lt hP _) (gd_lt hY _) (gd_lt hY _)).mono ?_
  rintro e w' ⟨d, rfl, hq, hd, h1, h2⟩
  have h := est_fit P Y m d hP hY (by omega) lY htop hu hd h1 h2
  exact ⟨d, rfl, hq, hd, h.1, h.2⟩
/-- a part of a row is turned -/
theorem Row.part {w w' : World} {b i n : Nat} {L Z : List Nat} (h : Row w b 0 L) (hl : i + n + 1 ≤ L.length) (a : At (n+1) b i w Z w') : Row w' b 0 (L.take i ++ (Z ++ L.drop (i+n+1))) := by
  have l1 : (L.take i).length = i := by rw [List.length_take]; omega
  refine Row.append (a.only.rowIn (h.take i) (.inl (by omega))) ?_
  rw [l1, Nat.zero_add]
  refine Row.append a.row ?_
  rw [a.len]
  have hd := h.drop (i+n+1)
  rw [Nat.zero_add] at hd
  exact a.only.rowIn hd (.inr (by omega))
theorem Row.pt {w : World} {b i n : Nat} {L : List Nat} (h : Row w b 0 L) : Row w b i (pt L i n) := by
  have := (h.drop i).take (n+1)
  rwa [Nat.zero_add] at this
theorem Wd_pt {L : List Nat} (h : Wd L) (i n : Nat) : Wd (pt L i n) := Wd_take (Wd_drop h i) (n+1)
theorem len_part (L Z : List Nat) (i n : Nat) (h : i + n + 1 ≤ L.length) (hZ : Z.length = n + 1) : (L.take i ++ (Z ++ L.drop (i+n+1))).length = L.length := by
  rw [List.length_append, List.length_append, List.length_take, List.length_drop, hZ]; omega
/-- what the loop of divide keeps -/
structure DvI (B bl bq bd N M v W0 : Nat) (D : List Nat) (w : World) (k : Nat) (L Q : List Nat) (wr : World) : Prop where
  rL : Row wr bl 0 L
  wL : Wd L
  lL : L.length = N
  rQ : Row wr bq 0 Q
  wQ : Wd Q
  lQ : Q.length = M
  rD : Row wr bd 0 D
  bel : Below B w wr
  sz : bl < wr.heap.size ∧ bq < wr.heap.size ∧ bd < wr.heap.size
  val : wv (Q.drop k) * v * B64^k + wv L = W0
  lt : wv L < v * B64^k
theorem DvI.quiet {B bl bq bd N M v W0 : Nat} {D : List Nat} {w wr w' : World} {k : Nat} {L Q : List Nat} (h : DvI B bl bq bd N M v W0 D w k L Q wr) (q : Quiet wr w') : DvI B bl bq bd N M v W0 D w k L Q w' :=
  ⟨q.row h.rL, h.wL, h.lL, q.row h.rQ, h.wQ, h.lQ, q.row h.rD, h.bel.trans (q.below _), by rw [q.heap]; exact h.sz, h.val, h.lt⟩
/-- a round: the part is turned into its rest, the digit is stored -/
theorem DvI.step {B bl bq bd N M v W0 n : Nat} {D : List Nat} {w wr w2 : World} {k : Nat} {L Q Z : List Nat} (h : DvI B bl bq bd N M v W0 D w (k+1) L Q wr) (hl : k + n + 1 ≤ N) (hk : k < M) (a : At (n+1) bl k wr Z w2)
    (hv : v < B64^n) (hv0 : 0 < v) (hZ : wv Z = wv (pt L k n) % v) (h1 : bq ≠ bl) (h2 : bd ≠ bl) (h3 : bd ≠ bq) (h4 : bl ≠ bq) (hB : B ≤ bl) (hB2 : B ≤ bq) (hq : wv (pt L k n) / v < B64) :
    DvI B bl bq bd N M v W0 D w k (L.take k ++ (Z ++ L.drop (k+n+1))) (Q.set k (wv (pt L k n) / v)) (w2.setCell ⟨bq, k, none⟩ (.int .u64 (wv (pt L k n) / v : Nat))) := by
  have hs := dv_step L Z k n v h.wL (by rw [h.lL]; exact hl) h.lt hv hv0 a.len hZ
  have rQ2 := a.only.row h.rQ h1 h.sz.2.1
  have hsz := a.only.size
  have o2 : Only bq 0 M w2 (w2.setCell ⟨bq, k, none⟩ (.int .u64 (wv (pt L k n) / v : Nat))) := (Only.refl _ _ _ _).set k _ (Nat.zero_le _) hk
  have rL2 := h.rL.part (by rw [h.lL]; exact hl) a
  refine ⟨o2.row rL2 h4 (Nat.lt_of_lt_of_le h.sz.1 hsz), ?_, by rw [len_part _ _ _ _ (by rw [h.lL]; exact hl) a.len, h.lL], ?_, Wd_set h.wQ k _ hq, by rw [List.length_set, h.lQ], ?_, ?_, ?_, ?_, hs.2⟩
  · exact Wd_append (Wd_take h.wL _) (Wd_append a.wd (Wd_drop h.wL _))
  · have := rQ2.set k (wv (pt L k n) / v) (by rw [h.lQ]; exact hk)
    rwa [Nat.zero_add] at this
  · exact o2.row (a.only.row h.rD h2 h.sz.2.2) h3 (Nat.lt_of_lt_of_le h.sz.2.2 hsz)
  · exact (h.bel.trans (a.only.below hB (by have := h.bel.size; have := h.sz; omega))).trans (o2.below hB2 (by have := h.sz; omega))
  · have := o2.size; have := h.sz; omega
  · exact dq_step Q k _ v (wv L) _ W0 (by rw [h.lQ]; exact hk) h.val hs.1
theorem only_of_below {B b lo hi : Nat} {u w : World} (h : Below B u w) (hB : u.heap.size ≤ B) (hb : b < u.heap.size) : Only b lo hi u w :=
  ⟨h.os, h.tape, h.output, h.size, fun k _ hk => h.block k (Nat.lt_of_lt_of_le hk hB), fun _ _ => World.cell?_of_block (h.block b (Nat.lt_of_lt_of_le hb hB)), fun _ => World.frozen?_of_block (h.block b (Nat.lt_of_lt_of_le hb hB))⟩
theorem takeP_n (w : World) (b o cap b2 o2 cap2 d n N : Nat) (P Y : List Nat) (hR : Row w b o P) (hS : Row w b2 o2 Y) (hP : Wd P) (hY : Wd Y) (lP : P.length = N) (lY : Y.length = n) (hN : N = n + 1) (hne : b2 ≠ b) (hb2 : b2 < w.heap.size)
    (hd : d < 18446744073709551616) (hn2 : N ≤ 9223372036854775806) (hc : N ≤ cap) (hc2 : n ≤ cap2) :
    Calls Tryd.prog 53 #[.slice (some ⟨b, o, none⟩) N cap, .slice (some ⟨b2, o2, none⟩) n cap2, .int .u64 (d : Nat)] w (TakeQ P Y d b o w) := by
  subst lP; subst lY
  exact takeProduct_any w b o cap b2 o2 cap2 d P Y hR hS hP hY hne hb2 hd hn2 hc hc2 (by omega)
theorem addP_n (w : World) (b o cap b2 o2 cap2 n N : Nat) (P Y : List Nat) (hR : Row w b o P) (hS : Row w b2 o2 Y) (hP : Wd P) (hY : Wd Y) (lP : P.length = N) (lY : Y.length = n) (hN : N = n + 1) (hne : b2 ≠ b) (hb2 : b2 < w.heap.size)
    (hn2 : N ≤ 9223372036854775806) (hc : N ≤ cap) (hc2 : n ≤ cap2) :
    Calls Tryd.prog 28 #[.slice (some ⟨b, o, none⟩) N cap, .slice (some ⟨b2, o2, none⟩) n cap2] w (AddQ P Y b o w) := by
  subst lP; subst lY
  exact add_any w b o cap b2 o2 cap2 P Y hR hS hP hY hne hb2 hn2 hc hc2 (by omega)
end Go.Proofs.YtkpkifhjedlieaaDoor
