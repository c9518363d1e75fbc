/-
  The walks of nat.appendPiece and nat.Parse.
-/
import Derived.Test.YteccbedmpjeamaaGreatDoorDecimal
namespace Go.Proofs.YteccbedmpjeamaaGreatDoor
open Go.RowKit NM
def uv (l : List Nat) : List Value := l.map fun (d : Nat) => Value.int .u64 (d : Int)
theorem uv_snoc (l : List Nat) (d : Nat) : uv (l ++ [d]) = uv l ++ [.int .u64 (d : Int)] := by simp [uv]
theorem uv_set (l : List Nat) (k d : Nat) : uv (l.set k d) = (uv l).set k (.int .u64 (d : Int)) := by unfold uv; rw [List.map_set]
theorem uv_get (l : List Nat) (j : Nat) (h : j < l.length) : (uv l)[j]? = some (.int .u64 (gd l j : Nat)) := by
  unfold uv gd
  rw [List.getElem?_map, List.getElem?_eq_getElem h, List.getD_eq_getElem?_getD, List.getElem?_eq_getElem h]
  rfl
theorem one_cell64 (W : World) (d : Int) (t : TypeId) : ∀ (j : Nat) (u : Value), [Value.int .u64 d][j]? = some u → (W.alloc (.cells #[.int .u64 d] t)).cell? ((⟨W.heap.size, 0, none⟩ : Addr).add j) = some u := by
  intro j u hj
  match j, hj with
  | 0, hj => simp at hj; subst hj; simp [Addr.add]
theorem one_one64 (d : Int) : ∀ u, u ∈ [Value.int .u64 d] → u.oneCell' = true := by
  intro u hu; simp at hu; subst hu; rfl
theorem piece_digit (y d c : Nat) (hy : y < B64) (hd : d < B64) (hc : c < B64) :
    lo64 (ml64 y d) c 0 = (y * d + c) % B64 ∧ mh64 y d + hi64 (ml64 y d) c 0 = (y * d + c) / B64 ∧ (y * d + c) / B64 < B64 := by
  have hm := mul_digit 0 y d c B64_pos hy hd hc
  rw [Nat.zero_add] at hm
  have e1 := Nat.div_add_mod (y * d) B64
  have e2 := Nat.div_add_mod (y * d % B64 + c + 0) B64
  have l2 := Nat.mod_lt (y * d % B64 + c + 0) B64_pos
  unfold lo64 hi64 mh64 ml64
  generalize y * d / B64 = a at *
  generalize y * d % B64 = a' at *
  generalize (a' + c + 0) / B64 = f at *
  generalize (a' + c + 0) % B64 = f' at *
  have tot : y * d + c = B64 * (a + f) + f' := by rw [← e1, Nat.mul_add]; omega
  have q : (y * d + c) / B64 = a + f := by rw [tot, Nat.mul_add_div B64_pos, Nat.div_eq_of_lt l2, Nat.add_zero]
  have r : (y * d + c) % B64 = f' := by rw [tot, Nat.mul_add_mod, Nat.mod_eq_of_lt l2]
  exact ⟨r.symm, q.symm, hm⟩
theorem piece_step (Z X : List Nat) (k c P r q N : Nat) (hk : k < Z.length) (hkx : k < X.length) (hr : r = (gd X k * P + c) % B64) (hq : q = (gd X k * P + c) / B64) (h : wv (Z.take k) + c * B64^k = wv (X.take k) * P + N) :
    wv ((Z.set k r).take (k+1)) + q * B64^(k+1) = wv (X.take (k+1)) * P + N := by
  have e1 : (Z.set k r).take (k+1) = Z.take k ++ [r] := by
    rw [List.take_add_one, List.take_set_of_le (Nat.le_refl _), List.getElem?_set_self hk]; rfl
  rw [e1, wv_snoc, List.length_take, Nat.min_eq_left (Nat.le_of_lt hk), wv_take_succ X k hkx]
  have h2 := Nat.div_add_mod (gd X k * P + c) B64
  rw [← hr, ← hq] at h2
  rw [← gd_eq, Nat.pow_succ]
  generalize gd X k = x at *
  generalize B64^k = A at *
  generalize wv (Z.take k) = U at *
  generalize wv (X.take k) = V at *
  generalize B64 = C at *
  clear hr hq e1 hk hkx
  grind
def PieceQ (B : Nat) (X : List Nat) (N : Nat) (w : World) (e : Ending) (w' : World) : Prop :=
  ∃ v Z, e = .returned v ∧ w'.ownsRow B 95 1 v Z.length (uv Z) ∧ Wd Z ∧ Z.length = X.length + 1 ∧ wv Z = wv X * 10000000000000000000 + N ∧ Below B w w'
set_option maxRecDepth 100000 in
set_option maxHeartbeats 8000000 in
theorem appendPiece_any (w : World) (B : Nat) (v : Value) (X : List Nat) (N : Nat) (hown : w.ownsRow B 95 1 v X.length (uv X)) (hX : Wd X) (hB : B ≤ w.heap.size) (hN : N < 18446744073709551616) (hl : X.length ≤ 1000000) :
    Calls Tryz.prog 107 #[v, .int .u64 (N : Nat)] w (PieceQ B X N w) := by
  obtain ⟨i0, hi, hz0, hz1, hz2⟩ := info_parts info64
  have hown0 := hown
  rcases hown.2 with ⟨rfl, hn0⟩ | ⟨g, cap, cur, rfl, hbg, hg, hnc, hcm, hcs, htk⟩
  · have hX0 : X = [] := List.length_eq_zero_iff.1 hn0
    subst hX0
    clear hown hn0
    go_enter Tryz.func107, Tryz.ntmps107
    go_wp2
    go_loop [5, 14] (fun c i => c = .int .u64 (N : Nat) ∧ i = .int .i64 0) (fun _ _ => 0)
    case atStart => exact ⟨rfl, rfl⟩
    case round =>
      obtain ⟨rfl, rfl⟩ := hrel
      go_wp2_with (at_builtin; refine wpList_append_own _ rfl _ _ 91 rfl B 95 i0 (.int .u64 0) 1 8 Tryz.underlying91 hi hz0 hz1 hz2 rfl (by decide) _ _ _ rfl (hown0.alloc _) ⟨w.heap.size, 0, none⟩ 1 1 [.int .u64 (N : Int)] rfl rfl (one_cell64 _ _ _) (one_one64 _) ?c3 ?c4 ?c5 ?_)
      case c3 => unfold maxLen; simp
      case c5 => first | omega | (simp; omega)
      intro v' w2 hown' hgrow _
      rw [← uv_snoc] at hown'
      have hBn : Below B w w2 := ((Below.refl B w).alloc hB (.cells #[.int .u64 (N : Int)] 95)).grown hgrow (by simp; omega) (fun k hk => by cases hk)
      go_wp2
      go_ret
      exact ⟨v', [N], rfl, hown', fun x hx => by rw [List.mem_singleton.1 hx]; exact hN, rfl, by simp [wv], hBn⟩
  · obtain ⟨n, hn⟩ : ∃ n, n = X.length := ⟨_, rfl⟩
    rw [← hn] at hown0 hnc hl ⊢
    have hgl : g < w.heap.size := (Array.getElem?_eq_some_iff.1 hg).1
    have HN := Lib.hid hn
    have HO := Lib.hid hown0
    clear hown hg hcm hcs htk hn hown0 cur
    go_enter Tryz.func107, Tryz.ntmps107
    go_wp2
    go_loopw [5, 14] (fun cv kv wr => ∃ (k c : Nat) (Z : List Nat), cv = .int .u64 (c : Nat) ∧ kv = .int .i64 (k : Nat) ∧ k ≤ n ∧ c < 18446744073709551616 ∧ Hid (Z.length = n) ∧ Hid (Wd Z) ∧ wr.ownsRow B 95 1 (.slice (some ⟨g, 0, none⟩) n cap) n (uv Z) ∧ Hid (∀ j, k ≤ j → gd Z j = gd X j) ∧ Hid (wv (Z.take k) + c * B64^k = wv (X.take k) * 10000000000000000000 + N) ∧ Below B w wr) (fun _ kv _ => n - (intOf kv).toNat)
    case atStart => exact ⟨0, N, X, rfl, rfl, Nat.zero_le _, hN, Lib.hid HN.out.symm, Lib.hid hX, HO.out, Lib.hid (fun _ _ => rfl), Lib.hid (by simp [wv]), Below.refl _ _⟩
    case round =>
      obtain ⟨k, c, Z, rfl, rfl, hk, hc, hzl, hzw, hown, heq, hval, hBr⟩ := hrel
      have hszr := hBr.size
      by_cases hlt : k < n
      · have hx : wr.cell? ⟨g, k, none⟩ = some (.int .u64 (gd X k : Nat)) := by
          rw [hown.cellAt k (by omega), uv_get Z k (by rw [hzl.out]; exact hlt), heq.out k (Nat.le_refl _)]
        have hf := hown.frozenAt k
        have gx : gd X k < 18446744073709551616 := gd_lt hX k
        obtain ⟨p1, p2, p3⟩ := piece_digit (gd X k) 10000000000000000000 c gx (by decide) hc
        obtain ⟨r, hr⟩ : ∃ r, r = lo64 (ml64 (gd X k) 10000000000000000000) c 0 := ⟨_, rfl⟩
        obtain ⟨q, hq⟩ : ∃ q, q = mh64 (gd X k) 10000000000000000000 + hi64 (ml64 (gd X k) 10000000000000000000) c 0 := ⟨_, rfl⟩
        have hr64 : r < B64 := by rw [hr]; exact lo64_lt _ _ _
        have hq64 : q < 18446744073709551616 := by rw [hq, p2]; exact p3
        have hst := piece_step Z X k c 10000000000000000000 r q N (by rw [hzl.out]; exact hlt) (by rw [← HN.out]; exact hlt) (by rw [hr, p1]) (by rw [hq, p2]) hval.out
        have xq : IntKind.u64.wrap ((mh64 (gd X k) 10000000000000000000 : Int) + (hi64 (ml64 (gd X k) 10000000000000000000) c 0 : Int)) = (q : Int) := by rw [IntKind.wrap_u64]; omega
        obtain ⟨hs1, hs2⟩ := hown.stored k (.int .u64 (r : Nat))
        rw [← uv_set] at hs1
        have hlz : (Z.set k r).length = n := by rw [List.length_set]; exact hzl.out
        have hwz : Wd (Z.set k r) := Wd_set hzw.out k r hr64
        have hez : ∀ j, k + 1 ≤ j → gd (Z.set k r) j = gd X j := fun j hj => by rw [gd_set_other _ _ _ _ (by omega)]; exact heq.out j (by omega)
        have hBs : Below B w (wr.setCell ⟨g, k, none⟩ (.int .u64 (r : Nat))) := hBr.grown hs2 (by omega) (fun j hj => by injection hj with hj; omega)
        have HZ := Lib.hid (And.intro hlz (And.intro hwz (And.intro hez (And.intro hst (And.intro hs1 hBs))))); clear hlz hwz hez hst hs1 hs2 hBs p1 p2 p3 hown hzl hzw heq hval
        have HR := Lib.hid hr
        have M1 := Lib.hid (fun W => mul64_any (gd X k) 10000000000000000000 gx (by omega) W)
        have M2 : ∀ W, (callFunc 126 #[.int .u64 (ml64 (gd X k) 10000000000000000000 : Nat), .int .u64 (c : Nat), .int .u64 0]).run Tryz.prog W = .ok (.value (.tuple #[.int .u64 (r : Nat), .int .u64 (hi64 (ml64 (gd X k) 10000000000000000000) c 0 : Nat)])) W := fun W => by rw [hr]; exact add64_c0 _ c W
        clear hr hq
        go_wp2_with (first | (go_at_call 129; refine (M1.out _).mono ?_; rintro e w' ⟨rfl, rfl⟩) | (simp only [M2]))
        refine ⟨⟨k + 1, q, Z.set k r, rfl, by go_num, by omega, hq64, Lib.hid HZ.out.1, Lib.hid HZ.out.2.1, HZ.out.2.2.2.2.1, Lib.hid HZ.out.2.2.1, Lib.hid HZ.out.2.2.2.1, HZ.out.2.2.2.2.2⟩, by (simp [intOf]; try omega)⟩
      · obtain rfl : k = n := by omega
        have hfin : wv (Z ++ [c]) = wv X * 10000000000000000000 + N := by
          have h := hval.out
          rw [List.take_of_length_le (by rw [hzl.out]; exact Nat.le_refl _), List.take_of_length_le (by rw [← HN.out]; exact Nat.le_refl _)] at h
          rw [wv_snoc, hzl.out, Nat.mul_comm]; exact h
        have hlen : (Z ++ [c]).length = k + 1 := by rw [List.length_append, hzl.out]; rfl
        have hwd : Wd (Z ++ [c]) := Wd_append hzw.out (fun x hx => by rw [List.mem_singleton.1 hx]; exact hc)
        have HF := Lib.hid (And.intro hfin (And.intro hlen hwd)); clear hfin hlen hwd hzl hzw heq hval
        go_wp2_with (at_builtin; refine wpList_append_own _ rfl _ _ 91 rfl B 95 i0 (.int .u64 0) 1 8 Tryz.underlying91 hi hz0 hz1 hz2 rfl (by decide) _ _ _ rfl (hown.alloc _) ⟨wr.heap.size, 0, none⟩ 1 1 [.int .u64 (c : Int)] rfl rfl (one_cell64 _ _ _) (one_one64 _) ?d3 ?d4 ?d5 ?_)
        case d3 => unfold maxLen; omega
        case d4 => omega
        case d5 => first | omega | (simp; omega)
        intro v' w2 hown' hgrow _
        rw [← uv_snoc] at hown'
        have hBn : Below B w w2 := (hBr.alloc (by omega) (.cells #[.int .u64 (c : Int)] 95)).grown hgrow (by simp; omega) (fun j hj => (hown.lt j hj).1)
        go_wp2
        go_ret
        exact ⟨v', Z ++ [c], rfl, by rw [HF.out.2.1]; exact hown', HF.out.2.2, by rw [HF.out.2.1, HN.out], HF.out.1, hBn⟩
theorem own_below {w W : World} {B : Nat} {t : TypeId} {v : Value} {n : Nat} {xs : List Value} (h : w.ownsRow B t 1 v n xs) (hb : Below w.heap.size w W) : W.ownsRow B t 1 v n xs := by
  refine ⟨h.1, h.2.imp id fun ⟨g, cap, cur, h1, h2, h3, h4⟩ => ⟨g, cap, cur, h1, h2, ?_, h4⟩⟩
  rw [hb.block g (Array.getElem?_eq_some_iff.1 h3).1]; exact h3
theorem dval_foldl (b : List UInt8) : ∀ a, b.foldl (fun n c => 10 * n + (c.toNat - 48)) a = a * 10^b.length + dval b := by
  induction b with
  | nil => intro a; simp [dval]
  | cons c b ih =>
    intro a
    rw [List.foldl_cons, ih, List.length_cons, Nat.pow_succ]
    have h : dval (c :: b) = (10 * 0 + (c.toNat - 48)) * 10^b.length + dval b := by
      show (c :: b).foldl _ 0 = _
      rw [List.foldl_cons, ih]
    rw [h, Nat.add_mul, Nat.mul_zero, Nat.zero_add, Nat.mul_comm 10 a, Nat.mul_assoc, Nat.mul_comm 10]
    omega
theorem dval_append (a b : List UInt8) : dval (a ++ b) = dval a * 10^b.length + dval b := by
  show (a ++ b).foldl _ 0 = _
  rw [List.foldl_append]; exact dval_foldl b _
theorem dval_two (l : List UInt8) (i c : Nat) (h : i + c ≤ l.length) : dval (l.take (i+c)) = dval (l.take i) * 10^c + dval ((l.drop i).take c) := by
  have e : l.take (i+c) = l.take i ++ (l.drop i).take c := List.take_add
  rw [e, dval_append, List.length_take, List.length_drop, Nat.min_eq_left (by omega)]
theorem ext_take (t : ByteArray) (c : Nat) (h : c ≤ t.size) : (t.extract 0 c).data.toList = t.data.toList.take c ∧ (t.extract 0 c).size = c := by
  constructor
  · rw [ByteArray.data_extract]; simp
  · rw [ByteArray.size_extract]; omega
theorem ext_drop (t : ByteArray) (c : Nat) (h : c ≤ t.size) : (t.extract c t.size).data.toList = t.data.toList.drop c ∧ (t.extract c t.size).size = t.size - c := by
  constructor
  · rw [ByteArray.data_extract, Array.toList_extract, List.extract_eq_take_drop]
    rw [List.take_of_length_le]
    rw [List.length_drop, show t.data.toList.length = t.size from Array.length_toList]; exact Nat.le_refl _
  · rw [ByteArray.size_extract]; omega
theorem row_uv {w : World} {B g cap n : Nat} {X : List Nat} (h : w.ownsRow B 95 1 (.slice (some ⟨g, 0, none⟩) n cap) n (uv X)) (hn : n = X.length) : Row w g 0 X :=
  ⟨fun j hj => by rw [Nat.zero_add, h.cellAt j (by omega), uv_get X j hj], fun j hj => h.frozenAt _⟩
end Go.Proofs.YteccbedmpjeamaaGreatDoor
