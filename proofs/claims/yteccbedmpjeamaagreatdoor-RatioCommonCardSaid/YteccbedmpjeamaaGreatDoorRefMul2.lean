/-
  The digits of the reference, to the base 2^24: what they denote, and the walk of its of.
  The walk of the reference's number.
  The walks of the reference's small and Mul.
  Arithmetic of the digits of the reference: sums, differences, products by a digit, order, long division.
  The walk of the reference's Mul.
-/
import Derived.Test.YteccbedmpjeamaaGreatDoorRefInt
import Derived.Deep.AppendLies
import Derived.Deep.RegionLaw
namespace Go.Proofs.YteccbedmpjeamaaGreatDoor
open Go.RowKit NM
def C24 : Nat := 16777216
theorem C24_pos : 0 < C24 := by decide
def dv : List Nat → Nat
  | [] => 0
  | x :: xs => x + C24 * dv xs
def D24 (l : List Nat) : Prop := ∀ x ∈ l, x < C24
theorem D24_nil : D24 [] := fun _ h => by cases h
theorem D24_snoc {l : List Nat} {d : Nat} (h : D24 l) (hd : d < C24) : D24 (l ++ [d]) := fun x hx => by
  rcases List.mem_append.1 hx with h1 | h1
  · exact h x h1
  · rw [List.mem_singleton.1 h1]; exact hd
theorem D24_gd {l : List Nat} (h : D24 l) (k : Nat) : gd l k < C24 := by
  unfold gd
  rw [List.getD_eq_getElem?_getD]
  by_cases hk : k < l.length
  · rw [List.getElem?_eq_getElem hk]; exact h _ (List.getElem_mem hk)
  · rw [List.getElem?_eq_none (by omega)]; exact C24_pos
theorem dv_append (a b : List Nat) : dv (a ++ b) = dv a + C24^a.length * dv b := by
  induction a with
  | nil => simp [dv]
  | cons x xs ih =>
    rw [List.cons_append, dv, dv, ih, List.length_cons, Nat.pow_succ, Nat.mul_add, Nat.mul_comm (C24^xs.length) C24, Nat.mul_assoc]; omega
theorem dv_snoc (a : List Nat) (d : Nat) : dv (a ++ [d]) = dv a + C24^a.length * d := by rw [dv_append]; simp [dv]
theorem dv_lt (l : List Nat) (h : D24 l) : dv l < C24^l.length := by
  induction l with
  | nil => simp [dv]
  | cons x xs ih =>
    have h1 := ih (fun y hy => h y (List.mem_cons_of_mem _ hy))
    have h2 := h x (List.mem_cons_self ..)
    rw [dv, List.length_cons, Nat.pow_succ]
    have h3 : C24 * (dv xs + 1) ≤ C24 * C24^xs.length := Nat.mul_le_mul_left _ h1
    rw [Nat.mul_comm (C24^xs.length)]
    rw [Nat.mul_add] at h3
    omega
def iv (l : List Nat) : List Value := l.map fun (d : Nat) => Value.int .i64 (d : Int)
theorem iv_length (l : List Nat) : (iv l).length = l.length := by simp [iv]
theorem iv_snoc (l : List Nat) (d : Nat) : iv (l ++ [d]) = iv l ++ [.int .i64 (d : Int)] := by simp [iv]
theorem iv_get (l : List Nat) (j : Nat) (h : j < l.length) : (iv l)[j]? = some (.int .i64 (gd l j : Nat)) := by
  unfold iv gd
  rw [List.getElem?_map, List.getElem?_eq_getElem h, List.getD_eq_getElem?_getD, List.getElem?_eq_getElem h]
  rfl
theorem infoI : (Tryz.prog.info? 3).map (fun i => (i.zero, i.size, i.bytes)) = some (some (.int .i64 0), 1, 8) := by kernel_rfl
theorem pow_3 (j : Nat) : 256^(3*j) = C24^j := by rw [Nat.pow_mul]; rfl
theorem seg_succ (l : List UInt8) (s k : Nat) (x : UInt8) (hs : s ≤ k) (h : l[k]? = some x) : bv ((l.drop s).take (k+1-s)) = 256 * bv ((l.drop s).take (k-s)) + x.toNat := by
  rw [show k + 1 - s = (k - s) + 1 by omega]
  exact bv_take_succ (l.drop s) (k-s) x (by rw [List.getElem?_drop, show s + (k - s) = k by omega]; exact h)
theorem seg_lt (l : List UInt8) (s k : Nat) (h : k ≤ s + 3) : bv ((l.drop s).take (k-s)) < C24 := by
  have h1 := bv_lt ((l.drop s).take (k-s))
  have h2 : ((l.drop s).take (k-s)).length ≤ 3 := by rw [List.length_take]; omega
  have h3 : 256^((l.drop s).take (k-s)).length ≤ 256^3 := Nat.pow_le_pow_right (by omega) h2
  have : (256:Nat)^3 = C24 := by decide
  omega
/-- one more digit -/
theorem of_step (l : List UInt8) (ds : List Nat) (n j E s : Nat) (hn : l.length = n) (hE : E + 3 * j = n) (hE0 : 0 < E) (hs : s = E - 3) (hd : ds.length = j) (hv : dv ds = bv (l.drop E)) :
    dv (ds ++ [bv ((l.drop s).take (E-s))]) = bv (l.drop s) := by
  rw [dv_snoc, hv, hd]
  have h1 := bv_append ((l.drop s).take (E-s)) ((l.drop s).drop (E-s))
  rw [List.take_append_drop, List.drop_drop, show s + (E - s) = E by omega, List.length_drop, show l.length - E = 3 * j by omega, pow_3] at h1
  rw [h1, Nat.mul_comm]; omega
def OfQ (a : ByteArray) (w : World) (e : Ending) (w' : World) : Prop :=
  ∃ v ds, e = .returned v ∧ w'.ownsRow w.heap.size 3 1 v ds.length (iv ds) ∧ D24 ds ∧ dv ds = sv a ∧ ds.length = ((tz a).size + 2) / 3 ∧ Below w.heap.size w w'
set_option maxRecDepth 100000 in
set_option maxHeartbeats 2000000 in
theorem of_any (w : World) (a : ByteArray) (ha : a.size ≤ 4294967296) :
    Calls Tryz.prog 80 #[.string a] w (OfQ a w) := by
  have hc := Canon_any w a ha
  have hv := sv_tz a
  have hts := tz_size_le a
  obtain ⟨i0, hi, hz0, hz1, hz2⟩ := info_parts infoI
  obtain ⟨t, ht⟩ : ∃ t, t = tz a := ⟨_, rfl⟩
  rw [← ht] at hc hv hts
  have hlen := len_size t
  have HC := Lib.hid hc; have HV := Lib.hid hv; have HT := Lib.hid ht; clear hc hv ht
  have hn : t.size ≤ 4294967296 := by omega
  generalize hl : t.data.toList = l at *
  have HLL := Lib.hid (And.intro hl hlen); clear hl hlen
  go_enter Tryz.func80, Tryz.ntmps80
  go_wp2_with fail
  refine HC.out.mono ?_
  rintro e w1 ⟨rfl, rfl⟩
  go_wp2_with fail
  go_loopw [3, 4] (fun out en wr => ∃ (j : Nat) (ds : List Nat) (v : Value) (ee : Int), out = v ∧ en = .int .i64 ee ∧ Hid (ee = (t.size : Int) - 3 * (j : Int)) ∧ Hid (3 * j < t.size + 3) ∧ Hid (ds.length = j) ∧ wr.ownsRow w.heap.size 3 1 v j (iv ds) ∧ Hid (D24 ds) ∧ Hid (dv ds = bv (l.drop (t.size - 3 * j))) ∧ Below w.heap.size w wr) (fun _ en _ => (intOf en + 3).toNat)
  case atStart => exact ⟨0, [], _, (t.size : Int), rfl, rfl, Lib.hid (by omega), Lib.hid (by omega), Lib.hid rfl, World.ownsRow_nil _ _ _ _, Lib.hid D24_nil, Lib.hid (by
    rw [List.drop_eq_nil_of_le (by rw [HLL.out.2]; omega)]; rfl), Below.refl _ _⟩
  case round =>
    obtain ⟨j, ds, v, ee, rfl, rfl, hee, hj3, hdl, hown, hD, hdv, hB⟩ := hrel
    by_cases hlt : 0 < ee
    · have hsz := hB.size
      obtain ⟨E, hE⟩ : ∃ E : Nat, ee = (E : Int) := ⟨ee.toNat, by omega⟩
      subst hE
      obtain ⟨s, hs⟩ : ∃ s, s = E - 3 := ⟨_, rfl⟩
      have hmax : max ((E : Int) - 3) 0 = (s : Int) := by omega
      have hsE : s < E := by omega
      have hEn : E ≤ t.size := by have := hee.out; omega
      have HS := Lib.hid hs; clear hs
      have hse : E ≤ s + 3 := by have := HS.out; omega
      go_wp2_with fail
      go_loop [5, 6] (fun d k => ∃ kk : Nat, s ≤ kk ∧ kk ≤ E ∧ d = .int .i64 (bv ((l.drop s).take (kk-s)) : Nat) ∧ k = .int .i64 (kk : Nat)) (fun _ k => E - (intOf k).toNat)
      case atStart => exact ⟨s, Nat.le_refl _, by omega, by rw [Nat.sub_self]; rfl, rfl⟩
      case round =>
        obtain ⟨kk, hk1, hk2, rfl, rfl⟩ := hrel
        by_cases hlk : kk < E
        · have hdk : decide ((kk : Int) < (E : Int)) = true := by simp; omega
          have hkt : kk < t.size := by omega
          have hbj := byte_at t kk hkt
          rw [HLL.out.1] at hbj
          have hst := seg_succ l s kk _ hk1 hbj
          have hle := seg_lt l s (kk+1) (by omega)
          generalize bv ((l.drop s).take (kk-s)) = N at *
          generalize hM : bv ((l.drop s).take (kk+1-s)) = M at *
          have hM24 : M < 16777216 := hle
          have hNb : N < 65536 := by omega
          have HSS := Lib.hid (And.intro hst (And.intro hM hM24)); clear hst hle hM hM24 hbj
          go_wp2
          refine ⟨⟨kk + 1, by omega, by omega, ?_, by go_num⟩, by simp [intOf]; omega⟩
          obtain ⟨k1, k2, k3⟩ := HSS.out
          rw [k2, k1]
          generalize (t[kk]'hkt).toNat = c at *
          rw [w64_id (c : Int) (by omega), w64_id _ (by omega)]
          congr 1; omega
        · obtain rfl : kk = E := by omega
          have hd24 := seg_lt l s kk hse
          go_wp2_with (at_builtin; refine wpList_append_own _ rfl _ _ 84 rfl w.heap.size 3 i0 (.int .i64 0) 1 8 Tryz.underlying84 hi hz0 hz1 hz2 rfl (by decide) _ _ _ rfl (hown.alloc _) ⟨wr.heap.size, 0, none⟩ 1 1 [.int .i64 ((bv ((l.drop s).take (kk-s)) : Nat) : Int)] rfl rfl ?c1 ?c2 ?c3 ?c4 ?c5 ?_)
          case c2 => first | rfl | (intro u hu; simp at hu; subst hu; rfl)
          case c3 => unfold maxLen; have := hj3.out; omega
          case c4 => have := hj3.out; omega
          case c5 => first | omega | (simp; omega)
          intro v' w2 hown' hgrow _
          rw [← iv_snoc] at hown'
          go_wp2
          refine ⟨⟨j + 1, _, v', (kk : Int) - 3, rfl, rfl, Lib.hid (by have := hee.out; omega), Lib.hid (by have := hee.out; omega), Lib.hid (by rw [List.length_append, hdl.out]; rfl), hown', Lib.hid (D24_snoc hD.out hd24), Lib.hid ?_, (hB.alloc hsz _).grown hgrow (by simp; omega) (fun k hk => (hown.lt k hk).1)⟩, by simp [intOf]; omega⟩
          have h2 := hee.out
          rw [of_step l ds t.size j kk s (HLL.out.2) (by omega) (by omega) HS.out hdl.out (by rw [hdv.out]; congr 2; omega)]
          congr 2
          have := HS.out
          omega
    · have hd : decide (0 < ee) = false := by simp; omega
      have hj3' := hj3.out
      have hee' := hee.out
      have hfin : dv ds = sv a := by
        rw [hdv.out, show t.size - 3 * j = 0 by omega, List.drop_zero, HV.out]
      have hjj : j = ((tz a).size + 2) / 3 := by rw [← HT.out]; omega
      have HF := Lib.hid (And.intro hfin hjj); clear hfin hjj hj3' hee'
      go_wp2
      go_ret
      have hdl' := hdl.out
      exact ⟨_, ds, rfl, by rw [hdl']; exact hown, hD.out, HF.out.1, by rw [hdl']; exact HF.out.2, hB⟩
end Go.Proofs.YteccbedmpjeamaaGreatDoor
namespace Go.Proofs.YteccbedmpjeamaaGreatDoor
open Go.RowKit NM
/-- ints X lie in block b from place o on -/
structure RowI (w : World) (b o : Nat) (X : List Nat) : Prop where
  cell : ∀ j, j < X.length → w.cell? ⟨b, o+j, none⟩ = some (.int .i64 (gd X j : Nat))
theorem RowI.below {b B o : Nat} {u w : World} {X : List Nat} (r : RowI u b o X) (h : Below B u w) (hb : b < B) : RowI w b o X :=
  ⟨fun j hj => (World.cell?_of_block (h.block b hb)).trans (r.cell j hj)⟩
/-- a slice of ints -/
def IntsAt (W : World) (v : Value) (ds : List Nat) : Prop :=
  (v = .slice none 0 0 ∧ ds = []) ∨ ∃ b o cap, v = .slice (some ⟨b, o, none⟩) ds.length cap ∧ b < W.heap.size ∧ RowI W b o ds ∧ ds.length ≤ cap
theorem IntsAt.below {u w : World} {v : Value} {ds : List Nat} (h : IntsAt u v ds) (hb : Below u.heap.size u w) : IntsAt w v ds :=
  h.imp id fun ⟨b, o, cap, h1, h2, h3, h4⟩ => ⟨b, o, cap, h1, Nat.lt_of_lt_of_le h2 hb.size, h3.below hb h2, h4⟩
theorem IntsAt.of_own {w : World} {B : Nat} {v : Value} {ds : List Nat} (h : w.ownsRow B 3 1 v ds.length (iv ds)) : IntsAt w v ds := by
  rcases h.2 with ⟨hv, h0⟩ | ⟨g, cap, cur, hv, hb, hg, hc, _⟩
  · left
    refine ⟨hv, ?_⟩
    have : ds.length = 0 := by simpa using h0
    exact List.length_eq_zero_iff.1 this
  · right
    subst hv
    refine ⟨g, 0, cap, rfl, ?_, ⟨fun j hj => ?_⟩, hc⟩
    · rcases Nat.lt_or_ge g w.heap.size with hlt | hge
      · exact hlt
      · rw [Array.getElem?_eq_none hge] at hg; cases hg
    · have := World.ownsRow.cellAt h j (by omega)
      rw [Nat.zero_add, this, iv_get ds j hj]
def d3 (d : Nat) : List UInt8 := [UInt8.ofNat (d / 65536), UInt8.ofNat (d / 256 % 256), UInt8.ofNat (d % 256)]
theorem bv_d3 (d : Nat) (h : d < C24) : bv (d3 d) = d := by
  have h' : d < 16777216 := h
  unfold d3
  simp only [bv_cons, List.length_cons, List.length_nil, bv_nil]
  simp
  omega
theorem cells_d3 (d : Nat) (h : d < C24) : Lib.byteCells (d3 d) = [.int .u8 ((d / 65536 : Nat) : Int), .int .u8 ((d / 256 % 256 : Nat) : Int), .int .u8 ((d % 256 : Nat) : Int)] := by
  have h' : d < 16777216 := h
  simp [Lib.byteCells, d3]
  omega
theorem dv_drop_cons (l : List Nat) (k : Nat) (h : k < l.length) : dv (l.drop k) = gd l k + C24 * dv (l.drop (k+1)) := by
  rw [List.drop_eq_getElem_cons h, dv]
  unfold gd
  rw [List.getD_eq_getElem?_getD, List.getElem?_eq_getElem h]; rfl
theorem num_step (ds : List Nat) (bs : List UInt8) (m : Nat) (hD : D24 ds) (hm : m < ds.length) (hl : bs.length = 3 * (ds.length - (m+1))) (hv : bv bs = dv (ds.drop (m+1))) :
    bv (bs ++ d3 (gd ds m)) = dv (ds.drop m) ∧ (bs ++ d3 (gd ds m)).length = 3 * (ds.length - m) := by
  constructor
  · rw [bv_append, hv, bv_d3 _ (D24_gd hD m), dv_drop_cons ds m hm]
    show _ * 256^3 + _ = _
    rw [show (256:Nat)^3 = C24 by decide, Nat.mul_comm]; omega
  · rw [List.length_append, hl]; show _ + 3 = _; omega
/-- bytes that the call owns, as a string -/
theorem conv_own {wr : World} {B : Nat} {v : Value} {bs : List UInt8} (h : wr.ownsRow B t8 1 v bs.length (Lib.byteCells bs)) :
    (convert 57 24 v).run Tryz.prog wr = .ok (.string ⟨bs.toArray⟩) wr := by
  rcases h.2 with ⟨hv, h0⟩ | ⟨g, cap, cur, hv, _⟩
  · subst hv
    have hb : bs = [] := List.length_eq_zero_iff.1 h0
    subst hb
    exact run_convert_bytes_nil (P := Tryz.prog) wr 57 5 Tryz.underlying57 Tryz.underlying5 0 0 24 Tryz.underlying24
  · subst hv
    exact run_convert_bytes_back (P := Tryz.prog) wr 57 24 5 ⟨g, 0, none⟩ cap bs Tryz.underlying57 Tryz.underlying5 Tryz.underlying24 (fun j hj => World.ownsRow.cells h (g := g) rfl j (.int .u8 (bs[j].toNat : Int)) (by simp [Lib.byteCells, hj]))
theorem bytes_size (bs : List UInt8) (h : bs.length ≤ 4294967296) : (ByteArray.mk bs.toArray).size ≤ 4294967296 := by
  show bs.toArray.size ≤ _
  rw [List.size_toArray]; exact h
set_option maxRecDepth 100000 in
set_option maxHeartbeats 4000000 in
theorem RefNum_row (w : World) (b o cap : Nat) (ds : List Nat) (hb : b < w.heap.size) (hR : RowI w b o ds) (_hc : ds.length ≤ cap) (hD : D24 ds) (hl : ds.length ≤ 1000000000) :
    Calls Tryz.prog 81 #[.slice (some ⟨b, o, none⟩) ds.length cap] w fun e w' => e = .returned (.string (NB (dv ds))) ∧ Below w.heap.size w w' := by
  obtain ⟨i0, hi, hz0, hz1, hz2⟩ := info_parts info8
  obtain ⟨n, hn⟩ : ∃ n, n = ds.length := ⟨_, rfl⟩
  rw [← hn] at hl ⊢
  have HN := Lib.hid hn; clear hn
  go_enter Tryz.func81, Tryz.ntmps81
  go_wp2_with fail
  go_loopw [3, 4] (fun out k wr => ∃ (j : Nat) (bs : List UInt8) (v : Value), out = v ∧ k = .int .i64 ((j : Int) - 1) ∧ j ≤ n ∧ wr.ownsRow w.heap.size t8 1 v bs.length (Lib.byteCells bs) ∧ Hid (bs.length = 3 * (n - j)) ∧ Hid (bv bs = dv (ds.drop j)) ∧ Below w.heap.size w wr) (fun _ k _ => (intOf k + 1).toNat)
  case atStart => exact ⟨n, [], _, rfl, rfl, Nat.le_refl _, World.ownsRow_nil _ _ _ _, Lib.hid (by simp), Lib.hid (by rw [List.drop_eq_nil_of_le (by rw [← HN.out]; exact Nat.le_refl _)]; rfl), Below.refl _ _⟩
  case round =>
    obtain ⟨j, bs, v, rfl, rfl, hj, hown, hbl, hbv, hB⟩ := hrel
    have hsz := hB.size
    by_cases h0 : j = 0
    · subst h0
      have hcv := conv_own hown
      have hbl' := hbl.out
      have hn0 := HN.out
      have hC := Canon_any wr ⟨bs.toArray⟩ (bytes_size bs (by omega))
      have hsv : tz ⟨bs.toArray⟩ = NB (dv ds) := by
        rw [tz_NB, show sv ⟨bs.toArray⟩ = dv ds from (by show bv bs = _; rw [hbv.out, List.drop_zero])]
      rw [hsv] at hC
      have HC := Lib.hid hC; clear hC hbl' hn0 hsv
      go_wp2_with fail
      refine HC.out.mono ?_
      rintro e w2 ⟨rfl, rfl⟩
      go_wp2
      go_ret
      exact ⟨rfl, hB⟩
    · obtain ⟨m, rfl⟩ : ∃ m, j = m + 1 := ⟨j - 1, by omega⟩
      rw [show (((m + 1 : Nat) : Int) - 1) = (m : Int) by omega]
      have hx := (hR.below hB hb).cell m (by have := HN.out; omega)
      have d24 : gd ds m < 16777216 := D24_gd hD m
      have hmn : m < n := by omega
      generalize hd : gd ds m = d at *
      obtain ⟨e1, he1⟩ : ∃ e1, e1 = d / 65536 := ⟨_, rfl⟩
      obtain ⟨e2, he2⟩ : ∃ e2, e2 = d / 256 % 256 := ⟨_, rfl⟩
      obtain ⟨e3, he3⟩ : ∃ e3, e3 = d % 256 := ⟨_, rfl⟩
      have x1 : IntKind.u8.wrap ((d : Int) / 65536) = (e1 : Int) := by rw [IntKind.wrap_u8]; omega
      have x2 : IntKind.u8.wrap ((d : Int) / 256) = (e2 : Int) := by rw [IntKind.wrap_u8]; omega
      have x3 : IntKind.u8.wrap ((d : Int)) = (e3 : Int) := by rw [IntKind.wrap_u8]; omega
      have hnews : ∀ j u, (Lib.byteCells (d3 d))[j]? = some u → ((wr.drew).alloc (.cells #[.int .u8 (e1 : Int), .int .u8 (e2 : Int), .int .u8 (e3 : Int)] t8)).cell? ((⟨wr.heap.size, 0, none⟩ : Addr).add j) = some u := by
        rw [cells_d3 d d24, ← he1, ← he2, ← he3]
        exact World.news_of_block (heap_alloc_new wr.drew _)
      have hone : ∀ u ∈ Lib.byteCells (d3 d), u.oneCell' = true := by intro u hu; obtain ⟨x, _, rfl⟩ := List.mem_map.1 hu; rfl
      have hlen3 : (Lib.byteCells (d3 d)).length = 3 * 1 := rfl
      have hb1 : bs.length + 3 ≤ maxLen := by unfold maxLen; have := hbl.out; omega
      have hb2 : (bs.length + 3) * 1 ≤ 140737488355328 := by have := hbl.out; omega
      have hb3 : w.heap.size ≤ ((wr.drew).alloc (.cells #[.int .u8 (e1 : Int), .int .u8 (e2 : Int), .int .u8 (e3 : Int)] t8)).heap.size := by simp; exact Nat.le_succ_of_le hsz
      have HA := Lib.hid (And.intro hnews (And.intro hone (And.intro hlen3 (And.intro hb1 (And.intro hb2 hb3))))); clear hnews hone hlen3 hb1 hb2 hb3
      have HE := Lib.hid (And.intro he1 (And.intro he2 he3)); clear he1 he2 he3
      have HD := Lib.hid (And.intro d24 hd); clear d24 hd
      go_wp2_with fail
      go_region_law ((refine step_append_lies _ rfl (.tmp 12) (.tmp 30) 57 rfl w.heap.size t8 i0 (.int .u8 0) 1 1 Tryz.underlying57 hi hz0 hz1 hz2 rfl (by decide) u3 bs.length (Lib.byteCells bs) (by simp [Act.eval]) (hown.drew.alloc _) ⟨wr.heap.size, 0, none⟩ 3 3 (Lib.byteCells (d3 d)) (by simp [Act.eval]) HA.out.2.2.1 HA.out.1 HA.out.2.1 (by omega) HA.out.2.2.2.1 HA.out.2.2.2.2.1 HA.out.2.2.2.2.2 _ rfl ?_; intro g9 c9 w9 hown9 hgrow9 hat9 hlt9))
      all_goals
        go_wp2
        go_roundw
        case rel =>
          obtain ⟨hD1, hD2⟩ := HD.out
          have hst := num_step ds bs m hD (by rw [← HN.out]; exact hmn) (by rw [← HN.out]; exact hbl.out) hbv.out
          rw [hD2] at hst
          refine ⟨m, bs ++ d3 d, _, rfl, by go_num, by omega, ?_, Lib.hid (by rw [HN.out]; exact hst.2), Lib.hid hst.1, ?_⟩
          · rw [Lib.byteCells_append]
            exact (show (bs ++ d3 d).length = bs.length + 3 by rw [List.length_append]; rfl) ▸ hown9
          · exact ((hB.alloc hsz _).drew).grown hgrow9 (by simp; omega) (fun k hk => (hown.lt k hk).1)
        case measure => (simp [intOf]; try omega)
end Go.Proofs.YteccbedmpjeamaaGreatDoor
namespace Go.Proofs.YteccbedmpjeamaaGreatDoor
open Go.RowKit NM
theorem dv_set (l : List Nat) (k v : Nat) (h : k < l.length) : dv (l.set k v) + C24^k * l.getD k 0 = dv l + C24^k * v := by
  induction l generalizing k with
  | nil => simp at h
  | cons x xs ih =>
    cases k with
    | zero => simp [dv]; omega
    | succ k =>
      have := ih k (by simpa using h)
      simp only [List.set_cons_succ, dv, List.getD_cons_succ, Nat.pow_succ]
      have e1 : C24^k * C24 * xs.getD k 0 = C24 * (C24^k * xs.getD k 0) := by rw [Nat.mul_comm (C24^k), Nat.mul_assoc]
      have e2 : C24^k * C24 * v = C24 * (C24^k * v) := by rw [Nat.mul_comm (C24^k), Nat.mul_assoc]
      rw [e1, e2]
      have := congrArg (C24 * ·) this
      simp only [Nat.mul_add] at this
      omega
theorem dv_take_succ (l : List Nat) (k : Nat) (h : k < l.length) : dv (l.take (k+1)) = dv (l.take k) + C24^k * gd l k := by
  rw [List.take_add_one, List.getElem?_eq_getElem h]
  show dv (l.take k ++ [l[k]]) = _
  rw [dv_snoc, List.length_take, Nat.min_eq_left (by omega)]
  unfold gd
  rw [List.getD_eq_getElem?_getD, List.getElem?_eq_getElem h]; rfl
theorem D24_set {l : List Nat} (h : D24 l) (k v : Nat) (hv : v < C24) : D24 (l.set k v) := fun x hx => by
  rcases List.mem_or_eq_of_mem_set hx with h1 | h1
  · exact h x h1
  · rw [h1]; exact hv
theorem dv_replicate (n : Nat) : dv (List.replicate n 0) = 0 := by
  induction n with
  | zero => rfl
  | succ n ih => rw [List.replicate_succ, dv, ih]; rfl
theorem D24_zeros (n : Nat) : D24 (List.replicate n 0) := fun x hx => by rw [(List.mem_replicate.1 hx).2]; exact C24_pos
/-- ints that may be written -/
structure RowJ (w : World) (b o : Nat) (X : List Nat) : Prop where
  cell : ∀ j, j < X.length → w.cell? ⟨b, o+j, none⟩ = some (.int .i64 (gd X j : Nat))
  free : ∀ j, j < X.length → w.frozen? ⟨b, o+j, none⟩ = false
theorem RowJ.set {w : World} {b o : Nat} {X : List Nat} (h : RowJ w b o X) (k v : Nat) (hk : k < X.length) : RowJ (w.setCell ⟨b, o+k, none⟩ (.int .i64 (v : Nat))) b o (X.set k v) where
  cell j hj := by
    rw [List.length_set] at hj
    by_cases e : j = k
    · subst e; rw [gd_set_same X j v hj]; exact World.cell?_setCell_same _ _ _ (h.cell j hj)
    · rw [gd_set_other X k j v e, World.cell?_setCell_other]
      · exact h.cell j hj
      · intro e2; simp at e2; try omega
  free j hj := by
    rw [List.length_set] at hj; rw [World.frozen?_setCell]; exact h.free j hj
theorem RowJ.drew {w : World} {b o : Nat} {X : List Nat} (h : RowJ w b o X) : RowJ w.drew b o X := ⟨h.cell, h.free⟩
structure AtI (n b o : Nat) (w : World) (Z : List Nat) (wr : World) : Prop where
  len : Z.length = n
  dig : D24 Z
  row : RowJ wr b o Z
  only : Only b o (o+n) w wr
theorem AtI.set {n b o : Nat} {w wr : World} {Z : List Nat} (h : AtI n b o w Z wr) (k v : Nat) (hk : k < n) (hv : v < C24) : AtI n b o w (Z.set k v) (wr.setCell ⟨b, o+k, none⟩ (.int .i64 (v : Nat))) :=
  ⟨by rw [List.length_set]; exact h.len, D24_set h.dig k v hv, h.row.set k v (by rw [h.len]; exact hk), h.only.set _ _ (by omega) (by omega)⟩
theorem AtI.drew {n b o : Nat} {w wr : World} {Z : List Nat} (h : AtI n b o w Z wr) : AtI n b o w Z wr.drew := ⟨h.len, h.dig, h.row.drew, h.only.drew⟩
theorem make_ints (n : Nat) (hn : n ≤ 1099511627776) (u : World) : (Instr.makeSlice 84 (.int .i64 (n : Int)) (.int .i64 (n : Int))).run Tryz.prog u =
    .ok (.slice (some ⟨u.heap.size, 0, none⟩) n n) (u.alloc (.cells (madeCells #[.int .i64 0] n) 3)) := by
  obtain ⟨i0, hi, hz0, hz1, hz2⟩ := info_parts infoI
  have h := run_make (P := Tryz.prog) u 84 3 i0 (.int .i64 0) Tryz.underlying84 hi hz0 .i64 .i64 (n : Int) (n : Int) (by omega) (Int.le_refl _) (by rw [hz2]; omega) (by omega)
  simpa [hz1, Value.cells] using h
theorem AtI.made (n t : Nat) (u : World) : AtI n u.heap.size 0 (u.alloc (.cells (madeCells #[.int .i64 0] n) t)) (List.replicate n 0) (u.alloc (.cells (madeCells #[.int .i64 0] n) t)) :=
  ⟨List.length_replicate, D24_zeros n, ⟨fun j hj => by
    rw [List.length_replicate] at hj
    rw [Nat.zero_add, World.cell?_alloc_at _ _ _ _ rfl, ← Array.getElem?_toList, toList_madeCells_one, List.getElem?_replicate, if_pos hj]
    simp [gd, hj], fun j hj => by rw [World.frozen?_alloc_at _ _ _ _ rfl]⟩, Only.refl _ _ _ _⟩
/-- small -/
def SmallV (a : ByteArray) (k : Nat) : Value := if (tz a).size ≤ k then .tuple #[.int .i64 (sv a : Nat), .bool true] else .tuple #[.int .i64 0, .bool false]
theorem sv_small {a : ByteArray} {k : Nat} (h : (tz a).size ≤ k) : sv a < 256^k := Nat.lt_of_lt_of_le (tz_lt a) (Nat.pow_le_pow_right (by omega) h)
set_option maxRecDepth 100000 in
set_option maxHeartbeats 1000000 in
theorem rsmall_any (w : World) (a : ByteArray) (k : Nat) (hk : k ≤ 7) (ha : a.size ≤ 4294967296) :
    Calls Tryz.prog 79 #[.string a, .int .i64 (k : Nat)] w fun e w' => e = .returned (SmallV a k) ∧ w = w' := by
  have hc := Canon_any w a ha
  have hi := RefInt_any w a ha
  have hts := tz_size_le a
  by_cases h : (tz a).size ≤ k
  · have hS : SmallV a k = .tuple #[.int .i64 (sv a : Nat), .bool true] := by unfold SmallV; rw [if_pos h]
    have hI : IntV a = .tuple #[.int .i64 (sv a : Nat), .bool true] := by
      have h1 := sv_small h
      have h2 : 256^k ≤ 256^7 := Nat.pow_le_pow_right (by omega) hk
      show (if sv a < 9223372036854775808 then _ else _) = _
      rw [if_pos (by omega)]
    rw [hI] at hi
    rw [hS]
    generalize tz a = t at *
    generalize sv a = x at *
    have HC := Lib.hid hc; have HI := Lib.hid hi; clear hc hi hS hI
    have hd : decide ((k : Int) < (t.size : Int)) = false := by simp; omega
    go_enter Tryz.func79, Tryz.ntmps79
    go_wp2_with fail
    refine HC.out.mono ?_
    rintro e w1 ⟨rfl, rfl⟩
    go_wp2_with fail
    refine HI.out.mono ?_
    rintro e w1 ⟨rfl, rfl⟩
    go_wp2
    go_ret2
    exact ⟨rfl, rfl⟩
  · have hS : SmallV a k = .tuple #[.int .i64 0, .bool false] := by unfold SmallV; rw [if_neg h]
    rw [hS]
    generalize tz a = t at *
    have HC := Lib.hid hc; clear hc hi hS
    have hd : decide ((k : Int) < (t.size : Int)) = true := by simp; omega
    go_enter Tryz.func79, Tryz.ntmps79
    go_wp2_with fail
    refine HC.out.mono ?_
    rintro e w1 ⟨rfl, rfl⟩
    go_wp2
    go_ret2
    exact ⟨rfl, rfl⟩
/-- one step of the inner loop -/
theorem mul_inner (O u v : List Nat) (i j m c P : Nat) (hO : D24 O) (hu : D24 u) (hv : D24 v) (hc : c < C24) (hm : m = v.length) (hj : j < m) (hij : i + j < O.length)
    (h : dv O + c * C24^(i+j) = P + gd u i * dv (v.take j) * C24^i) :
    dv (O.set (i+j) ((gd O (i+j) + gd u i * gd v j + c) % C24)) + (gd O (i+j) + gd u i * gd v j + c) / C24 * C24^(i+(j+1)) = P + gd u i * dv (v.take (j+1)) * C24^i ∧
    (gd O (i+j) + gd u i * gd v j + c) / C24 < C24 ∧ gd O (i+j) + gd u i * gd v j + c < C24 * C24 := by
  have g1 := D24_gd hO (i+j)
  have g2 := D24_gd hu i
  have g3 := D24_gd hv j
  have h1 := dv_set O (i+j) ((gd O (i+j) + gd u i * gd v j + c) % C24) hij
  rw [← gd_eq] at h1
  have h2 := dv_take_succ v j (by omega)
  have h3 : gd u i * gd v j ≤ (C24 - 1) * (C24 - 1) := Nat.mul_le_mul (by omega) (by omega)
  have hb : gd O (i+j) + gd u i * gd v j + c < C24 * C24 := by
    have : (C24 - 1) * (C24 - 1) + (C24 - 1) + (C24 - 1) < C24 * C24 := by decide
    omega
  refine ⟨?_, (Nat.div_lt_iff_lt_mul C24_pos).2 hb, hb⟩
  have h4 := Nat.div_add_mod (gd O (i+j) + gd u i * gd v j + c) C24
  rw [h2]
  generalize (gd O (i+j) + gd u i * gd v j + c) / C24 = q at *
  generalize hr : (gd O (i+j) + gd u i * gd v j + c) % C24 = r at *
  generalize dv (O.set (i+j) r) = D at *
  generalize gd O (i+j) = o1 at *
  generalize gd v j = y at *
  generalize gd u i = x at *
  generalize dv (v.take j) = T at *
  generalize dv O = V at *
  rw [← Nat.add_assoc i j 1, Nat.pow_succ]
  have e : C24^(i+j) = C24^i * C24^j := Nat.pow_add ..
  rw [e] at h1 h ⊢
  clear e
  generalize C24^i = A at *
  generalize C24^j = B at *
  clear hO hu hv hc hj hij g1 g2 g3 h3 hb h2 hr hm
  generalize C24 = C at *
  grind
/-- the end of the inner loop -/
theorem mul_outer (O u v : List Nat) (i m c : Nat) (_hm : m = v.length) (hi : i < u.length) (him : i + m < O.length) (h0 : gd O (i+m) = 0)
    (h : dv O + c * C24^(i+m) = dv (u.take i) * dv v + gd u i * dv v * C24^i) :
    dv (O.set (i+m) c) = dv (u.take (i+1)) * dv v := by
  have h1 := dv_set O (i+m) c him
  rw [← gd_eq, h0, Nat.mul_zero, Nat.add_zero] at h1
  rw [h1, dv_take_succ u i hi, Nat.add_mul, Nat.mul_comm (C24^(i+m)), h]
  rw [Nat.mul_comm (C24^i), Nat.mul_right_comm]
end Go.Proofs.YteccbedmpjeamaaGreatDoor
namespace Go.Proofs.YteccbedmpjeamaaGreatDoor
open Go.RowKit NM
theorem gd_over (l : List Nat) (k : Nat) (h : l.length ≤ k) : gd l k = 0 := by
  unfold gd; rw [List.getD_eq_getElem?_getD, List.getElem?_eq_none h]; rfl
theorem dv_take_next (l : List Nat) (k : Nat) : dv (l.take (k+1)) = dv (l.take k) + C24^k * gd l k := by
  by_cases h : k < l.length
  · exact dv_take_succ l k h
  · rw [gd_over l k (by omega), List.take_of_length_le (by omega), List.take_of_length_le (by omega), Nat.mul_zero, Nat.add_zero]
theorem dv_take_all (l : List Nat) (k : Nat) (h : l.length ≤ k) : dv (l.take k) = dv l := by rw [List.take_of_length_le h]
theorem dv_split (l : List Nat) (k : Nat) (h : k ≤ l.length) : dv l = dv (l.take k) + C24^k * dv (l.drop k) := by
  have h1 := dv_append (l.take k) (l.drop k)
  rw [List.take_append_drop, List.length_take, Nat.min_eq_left h] at h1
  exact h1
/-- no zero at the end -/
def T24 (l : List Nat) : Prop := l.length = 0 ∨ gd l (l.length - 1) ≠ 0
theorem T24_low {l : List Nat} {n : Nat} (h : T24 l) (hl : l.length = n + 1) : C24^n ≤ dv l := by
  have h1 := dv_take_next l n
  rw [dv_take_all l (n+1) (by omega)] at h1
  rcases h with h | h
  · omega
  · rw [hl, Nat.add_sub_cancel] at h
    rw [h1]
    have := Nat.le_mul_of_pos_right (C24^n) (Nat.pos_of_ne_zero h)
    omega
theorem T24_zero {l : List Nat} (h : T24 l) (h0 : dv l = 0) : l.length = 0 := by
  rcases Nat.eq_zero_or_pos l.length with h1 | h1
  · exact h1
  · have := T24_low (n := l.length - 1) h (by omega)
    have := Nat.pow_pos (n := l.length - 1) C24_pos
    omega
theorem T24_lt {u v : List Nat} (hu : D24 u) (hv : T24 v) (h : u.length < v.length) : dv u < dv v := by
  have h1 := dv_lt u hu
  have h2 := T24_low (n := v.length - 1) hv (by omega)
  have h3 : C24^u.length ≤ C24^(v.length-1) := Nat.pow_le_pow_right C24_pos (by omega)
  omega
/-- the highest place where two differ decides -/
theorem dv_lt_at (u v : List Nat) (m n : Nat) (hu : u.length = n) (hv : v.length = n) (hm : m < n) (Du : D24 u) (hd : dv (u.drop (m+1)) = dv (v.drop (m+1))) (h : gd u m < gd v m) : dv u < dv v := by
  rw [dv_split u m (by omega), dv_split v m (by omega), dv_drop_cons u m (by omega), dv_drop_cons v m (by omega), hd]
  have h1 := dv_lt (u.take m) (fun x hx => Du x (List.mem_of_mem_take hx))
  rw [List.length_take, Nat.min_eq_left (by omega)] at h1
  have h2 : C24^m * (gd u m + C24 * dv (v.drop (m+1)) + 1) ≤ C24^m * (gd v m + C24 * dv (v.drop (m+1))) := Nat.mul_le_mul_left _ (by omega)
  rw [Nat.mul_add _ (_ + _) 1] at h2
  omega
theorem drop_step (u v : List Nat) (m n : Nat) (hu : u.length = n) (hv : v.length = n) (hm : m < n) (hd : dv (u.drop (m+1)) = dv (v.drop (m+1))) (h : gd u m = gd v m) : dv (u.drop m) = dv (v.drop m) := by
  rw [dv_drop_cons u m (by omega), dv_drop_cons v m (by omega), hd, h]
/-- one more digit of a sum -/
theorem radd_step (ds us vs : List Nat) (k c s : Nat) (hl : ds.length = k) (hs : s = c + gd us k + gd vs k) (h : dv ds + c * C24^k = dv (us.take k) + dv (vs.take k)) :
    dv (ds ++ [s % C24]) + (s / C24) * C24^(k+1) = dv (us.take (k+1)) + dv (vs.take (k+1)) := by
  rw [dv_snoc, dv_take_next, dv_take_next, hl, Nat.pow_succ]
  have h1 := Nat.div_add_mod s C24
  generalize s / C24 = q at *
  generalize s % C24 = r at *
  generalize C24^k = A at *
  generalize dv (us.take k) = U at *
  generalize dv (vs.take k) = V at *
  generalize gd us k = x at *
  generalize gd vs k = y at *
  generalize dv ds = D at *
  generalize C24 = C at *
  clear hl
  grind
/-- one more digit of a difference -/
theorem rsub_step (ds us vs : List Nat) (k b d b2 : Nat) (hl : ds.length = k) (hs : d + b + gd vs k = gd us k + b2 * C24) (h : dv ds + dv (vs.take k) = dv (us.take k) + b * C24^k) :
    dv (ds ++ [d]) + dv (vs.take (k+1)) = dv (us.take (k+1)) + b2 * C24^(k+1) := by
  rw [dv_snoc, dv_take_next, dv_take_next, hl, Nat.pow_succ]
  generalize C24^k = A at *
  generalize dv (us.take k) = U at *
  generalize dv (vs.take k) = V at *
  generalize gd us k = x at *
  generalize gd vs k = y at *
  generalize dv ds = D at *
  generalize C24 = C at *
  clear hl
  grind
theorem sub_end (ds us vs : List Nat) (n b : Nat) (hu : us.length = n) (hl : ds.length = n) (Dd : D24 ds) (Du : D24 us) (hle : dv vs ≤ dv us) (h : dv ds + dv (vs.take n) = dv (us.take n) + b * C24^n) : dv ds = dv us - dv vs := by
  rw [dv_take_all us n (by omega)] at h
  have h1 := dv_lt ds Dd
  rw [hl] at h1
  have h2 := dv_lt us Du
  rw [hu] at h2
  have h3 : dv (vs.take n) = dv vs := by
    by_cases hv : vs.length ≤ n
    · exact dv_take_all vs n hv
    · have h4 := dv_split vs n (by omega)
      rcases Nat.eq_zero_or_pos (dv (vs.drop n)) with h0 | h0
      · rw [h4, h0, Nat.mul_zero, Nat.add_zero]
      · have := Nat.le_mul_of_pos_right (C24^n) h0
        omega
  rw [h3] at h
  rcases Nat.eq_zero_or_pos b with h0 | h0
  · rw [h0, Nat.zero_mul] at h; omega
  · have := Nat.le_mul_of_pos_left (C24^n) h0
    omega
/-- one more digit of a product by a digit -/
theorem times_step (ds us : List Nat) (k c d s : Nat) (hl : ds.length = k) (hs : s = gd us k * d + c) (h : dv ds + c * C24^k = dv (us.take k) * d) :
    dv (ds ++ [s % C24]) + (s / C24) * C24^(k+1) = dv (us.take (k+1)) * d := by
  rw [dv_snoc, dv_take_next, hl, Nat.pow_succ]
  have h1 := Nat.div_add_mod s C24
  generalize s / C24 = q at *
  generalize s % C24 = r at *
  generalize C24^k = A at *
  generalize dv (us.take k) = U at *
  generalize gd us k = x at *
  generalize dv ds = D at *
  generalize C24 = C at *
  clear hl
  grind
theorem times_lt (u d c : Nat) (hu : u < C24) (hd : d < C24) (hc : c < C24) : u * d + c < C24 * C24 ∧ (u * d + c) / C24 < C24 := by
  have h3 : u * d ≤ (C24 - 1) * (C24 - 1) := Nat.mul_le_mul (by omega) (by omega)
  have hb : u * d + c < C24 * C24 := by
    have : (C24 - 1) * (C24 - 1) + (C24 - 1) < C24 * C24 := by decide
    omega
  exact ⟨hb, (Nat.div_lt_iff_lt_mul C24_pos).2 hb⟩
theorem dv_trim (l : List Nat) (n : Nat) (hl : l.length = n + 1) (h : gd l n = 0) : dv (l.take n) = dv l := by
  have h1 := dv_take_next l n
  rw [dv_take_all l (n+1) (by omega), h, Nat.mul_zero, Nat.add_zero] at h1
  exact h1.symm
theorem D24_take {l : List Nat} (h : D24 l) (n : Nat) : D24 (l.take n) := fun x hx => h x (List.mem_of_mem_take hx)
/-- a step of the long division -/
theorem quo_step (X x V R q : Nat) (hV : 0 < V) (hR : R = X % V) (hq : q = (x + C24 * R) / V) :
    (x + C24 * X) / V = q + C24 * (X / V) ∧ (x + C24 * X) % V = x + C24 * R - V * q := by
  have h1 := Nat.div_add_mod X V
  have e : x + C24 * X = (x + C24 * R) + V * (C24 * (X / V)) := by
    rw [hR]
    have : C24 * X = C24 * (V * (X / V)) + C24 * (X % V) := by rw [← Nat.mul_add, h1]
    rw [this, ← Nat.mul_assoc C24, Nat.mul_comm C24 V, Nat.mul_assoc]; omega
  rw [e, Nat.add_mul_div_left _ _ hV, Nat.add_mul_mod_self_left, ← hq]
  refine ⟨rfl, ?_⟩
  have h2 := Nat.div_add_mod (x + C24 * R) V
  rw [← hq] at h2
  omega
theorem quo_digit (x V R : Nat) (hx : x < C24) (hR : R < V) : (x + C24 * R) / V < C24 := by
  rw [Nat.div_lt_iff_lt_mul (by omega)]
  have : C24 * (R + 1) ≤ C24 * V := Nat.mul_le_mul_left _ hR
  rw [Nat.mul_add] at this
  omega
end Go.Proofs.YteccbedmpjeamaaGreatDoor
namespace Go.Proofs.YteccbedmpjeamaaGreatDoor
open Go.RowKit NM
/-- a slice of ints, as the walk wants it: the address is looked at only where there is an element -/
theorem IntsAt.form {W : World} {v : Value} {ds : List Nat} (h : IntsAt W v ds) :
    ∃ p cap, v = .slice p ds.length cap ∧ ds.length ≤ cap ∧ (0 < ds.length → ∃ b o, p = some ⟨b, o, none⟩ ∧ b < W.heap.size ∧ RowI W b o ds) := by
  rcases h with ⟨rfl, rfl⟩ | ⟨b, o, cap, rfl, hb, hr, hc⟩
  · exact ⟨none, 0, rfl, Nat.le_refl _, fun h => absurd h (Nat.lt_irrefl 0)⟩
  · exact ⟨_, cap, rfl, hc, fun _ => ⟨b, o, rfl, hb, hr⟩⟩
theorem gd_zeros (n k : Nat) : gd (List.replicate n 0) k = 0 := by
  unfold gd; rw [List.getD_eq_getElem?_getD, List.getElem?_replicate]; split <;> rfl
theorem RowI.only {b lo hi b' o : Nat} {u w : World} {X : List Nat} (r : RowI u b' o X) (h : Only b lo hi u w) (hne : b' ≠ b) (hlt : b' < u.heap.size) : RowI w b' o X :=
  ⟨fun j hj => (World.cell?_of_block (h.blk b' hne hlt)).trans (r.cell j hj)⟩
set_option maxRecDepth 100000 in
set_option maxHeartbeats 4000000 in
theorem RefMul_any (w : World) (a b : ByteArray) (ha : a.size ≤ 1000000000) (hb : b.size ≤ 1000000000) :
    Calls Tryz.prog 45 #[.string a, .string b] w fun e w' => e = .returned (.string (NB (sv a * sv b))) ∧ Below w.heap.size w w' := by
  have hsa := rsmall_any w a 3 (by omega) (by omega)
  have hsb := rsmall_any w b 4 (by omega) (by omega)
  by_cases hp : (tz a).size ≤ 3 ∧ (tz b).size ≤ 4
  · rw [show SmallV a 3 = .tuple #[.int .i64 (sv a : Nat), .bool true] by unfold SmallV; rw [if_pos hp.1]] at hsa
    rw [show SmallV b 4 = .tuple #[.int .i64 (sv b : Nat), .bool true] by unfold SmallV; rw [if_pos hp.2]] at hsb
    have h1 := sv_small hp.1
    have h2 := sv_small hp.2
    obtain ⟨x, hx⟩ : ∃ x, x = sv a := ⟨_, rfl⟩
    obtain ⟨y, hy⟩ : ∃ y, y = sv b := ⟨_, rfl⟩
    rw [← hx] at h1 hsa ⊢
    rw [← hy] at h2 hsb ⊢
    obtain ⟨z, hz⟩ : ∃ z, z = x * y := ⟨_, rfl⟩
    have hzb : z < 256^7 := by
      rw [hz, show (256:Nat)^7 = 256^3 * 256^4 by decide]; exact Nat.mul_lt_mul'' h1 h2
    have hw : IntKind.i64.wrap ((x : Int) * (y : Int)) = (z : Int) := by
      rw [show ((x : Int) * (y : Int)) = (z : Int) by rw [hz, Int.natCast_mul]]
      exact IntWalk.i64_in _ ⟨by omega, by omega⟩
    have ho := RefOf_any w (z : Int) (by omega) (by omega)
    rw [Int.toNat_natCast] at ho
    rw [← hz]
    have HSA := Lib.hid hsa; have HSB := Lib.hid hsb; have HO := Lib.hid ho
    have HH := Lib.hid (And.intro hx (And.intro hy (And.intro hz (And.intro h1 h2))))
    clear hsa hsb ho hx hy hz h1 h2 hp hzb
    go_enter Tryz.func45, Tryz.ntmps45
    go_wp2_with fail
    refine HSA.out.mono ?_
    rintro e w1 ⟨rfl, rfl⟩
    go_wp2_with fail
    refine HSB.out.mono ?_
    rintro e w1 ⟨rfl, rfl⟩
    go_wp2_with fail
    refine HO.out.mono ?_
    rintro e w1 ⟨rfl, hB⟩
    go_wp2
    go_ret
    exact ⟨rfl, hB⟩
  · obtain ⟨pa, xa, hsa', hpx⟩ : ∃ (pa : Bool) (xa : Int), SmallV a 3 = .tuple #[.int .i64 xa, .bool pa] ∧ (pa = true → (tz a).size ≤ 3) := by
      unfold SmallV; split
      · exact ⟨true, _, rfl, fun _ => by assumption⟩
      · exact ⟨false, _, rfl, fun h => by cases h⟩
    obtain ⟨pb, xb, hsb', hpy⟩ : ∃ (pb : Bool) (xb : Int), SmallV b 4 = .tuple #[.int .i64 xb, .bool pb] ∧ (pb = true → (tz b).size ≤ 4) := by
      unfold SmallV; split
      · exact ⟨true, _, rfl, fun _ => by assumption⟩
      · exact ⟨false, _, rfl, fun h => by cases h⟩
    rw [hsa'] at hsa
    rw [hsb'] at hsb
    have hpp : pa = true → pb = false := fun h => by
      cases pb with
      | false => rfl
      | true => exact absurd ⟨hpx h, hpy rfl⟩ hp
    have HSA := Lib.hid hsa; have HSB := Lib.hid hsb; clear hsa hsb hsa' hsb' hpx hpy hp
    have hta := tz_size_le a
    have htb := tz_size_le b
    have key : pa = false ∨ (pa = true ∧ pb = false) := by
      cases pa with
      | false => exact .inl rfl
      | true => exact .inr ⟨rfl, hpp rfl⟩
    have HA := Lib.hid (And.intro ha hb)
    clear hpp
    rcases key with rfl | ⟨rfl, rfl⟩
    all_goals
      go_enter Tryz.func45, Tryz.ntmps45
      go_wp2_with fail
      refine HSA.out.mono ?_
      rintro e w1 ⟨rfl, rfl⟩
      go_wp2_with fail
      refine HSB.out.mono ?_
      rintro e w1 ⟨rfl, rfl⟩
      go_wp2_with fail
      refine (of_any _ a (by omega)).mono ?_
      rintro e w1 ⟨vu, us, rfl, ou, du, eu, lu, B1⟩
      go_wp2_with fail
      refine (of_any _ b (by omega)).mono ?_
      rintro e w2 ⟨vv, vs, rfl, ov, dvs, ev, lv, B2⟩
      obtain ⟨pu, cu, rfl, hcu, fu⟩ := ((IntsAt.of_own ou).below B2).form
      obtain ⟨pv, cv, rfl, hcv, fv⟩ := (IntsAt.of_own ov).form
      obtain ⟨n, hn⟩ : ∃ n, n = us.length := ⟨_, rfl⟩
      obtain ⟨m, hm⟩ : ∃ m, m = vs.length := ⟨_, rfl⟩
      have hnb : n ≤ 400000000 := by omega
      have hmb : m ≤ 400000000 := by omega
      rw [← hn] at hcu fu
      rw [← hm] at hcv fv
      simp only [← hn, ← hm]
      have HN := Lib.hid (And.intro hn (And.intro hm (And.intro lu lv))); clear hn hm lu lv ou ov hta htb
      have hmk : ∀ u : World, (Instr.makeSlice 84 (.int .i64 ((n : Int) + (m : Int))) (.int .i64 ((n : Int) + (m : Int)))).run Tryz.prog u =
        .ok (.slice (some ⟨u.heap.size, 0, none⟩) (n + m) (n + m)) (u.alloc (.cells (madeCells #[.int .i64 0] (n + m)) 3)) := fun u => by
          have := make_ints (n + m) (by omega) u
          rw [show ((n + m : Nat) : Int) = (n : Int) + (m : Int) by omega] at this
          exact this
      have hB2 : Below w.heap.size w w2 := B1.trans (B2.mono B1.size)
      have hsz2 := hB2.size
      have hA0 := AtI.made (n + m) 3 w2
      have hB3 := hB2.alloc hsz2 (.cells (madeCells #[.int .i64 0] (n + m)) 3)
      have hz : (w2.alloc (.cells (madeCells #[.int .i64 0] (n + m)) 3)).heap.size = w2.heap.size + 1 := by simp
      have fu3 : 0 < n → ∃ b o, pu = some ⟨b, o, none⟩ ∧ b < w2.heap.size ∧ RowI (w2.alloc (.cells (madeCells #[.int .i64 0] (n + m)) 3)) b o us := fun h => by
        obtain ⟨b, o, h1, h2, h3⟩ := fu h
        exact ⟨b, o, h1, h2, h3.below ((Below.refl w2.heap.size w2).alloc (Nat.le_refl _) _) h2⟩
      have fv3 : 0 < m → ∃ b o, pv = some ⟨b, o, none⟩ ∧ b < w2.heap.size ∧ RowI (w2.alloc (.cells (madeCells #[.int .i64 0] (n + m)) 3)) b o vs := fun h => by
        obtain ⟨b, o, h1, h2, h3⟩ := fv h
        exact ⟨b, o, h1, h2, h3.below ((Below.refl w2.heap.size w2).alloc (Nat.le_refl _) _) h2⟩
      clear fu fv B1 B2 hB2
      go_wp2
      generalize w2.alloc (.cells (madeCells #[.int .i64 0] (n + m)) 3) = w3 at *
      generalize w2.heap.size = bo at *
      clear hmk
      have HF := Lib.hid (And.intro fu3 fv3); clear fu3 fv3
      have HA3 := Lib.hid hA0; have HB3 := Lib.hid (And.intro hB3 hz); clear hA0 hB3 hz
      go_loopw [12] (fun iv wr => ∃ (i : Nat) (O : List Nat), iv = .int .i64 (i : Nat) ∧ i ≤ n ∧ AtI (n + m) bo 0 w3 O wr ∧ Hid (dv O = dv (us.take i) * dv vs) ∧ Hid (∀ k, i + m ≤ k → gd O k = 0)) (fun iv _ => n - (intOf iv).toNat)
      case atStart => exact ⟨0, _, rfl, Nat.zero_le _, HA3.out, Lib.hid (by rw [dv_replicate, List.take_zero]; simp [dv]), Lib.hid (fun k _ => gd_zeros _ k)⟩
      case round =>
        obtain ⟨i, O, rfl, hin, hO, hdv, hz⟩ := hrel
        by_cases hlt : i < n
        · obtain ⟨b1, o1, rfl, hb1, r1⟩ := HF.out.1 (by omega)
          go_wp2
          go_loopw [13, 14] (fun cv jv wr2 => ∃ (j c : Nat) (O2 : List Nat), cv = .int .i64 (c : Nat) ∧ jv = .int .i64 (j : Nat) ∧ j ≤ m ∧ c < 16777216 ∧ AtI (n + m) bo 0 w3 O2 wr2 ∧ Hid (dv O2 + c * C24^(i+j) = dv (us.take i) * dv vs + gd us i * dv (vs.take j) * C24^i) ∧ Hid (∀ k, i + m ≤ k → gd O2 k = 0)) (fun _ jv _ => m - (intOf jv).toNat)
          case atStart => exact ⟨0, 0, O, rfl, rfl, Nat.zero_le _, by omega, hO, Lib.hid (by rw [hdv.out, List.take_zero]; simp [dv]), hz⟩
          case round =>
            clear hO hdv hz
            obtain ⟨j, c, O2, rfl, rfl, hjm, hc, hO, hdv, hz⟩ := hrel
            by_cases hlj : j < m
            · obtain ⟨b2, o2, rfl, hb2, r2⟩ := HF.out.2 (by omega)
              have hnl := HN.out.1
              have hml := HN.out.2.1
              have h3s := HB3.out.2
              have rx := (r1.only hO.only (by omega) (by omega)).cell i (by omega)
              have ry := (r2.only hO.only (by omega) (by omega)).cell j (by omega)
              obtain ⟨K, hK⟩ : ∃ K, K = i + j := ⟨_, rfl⟩
              have hKb : K < n + m := by omega
              have ro := hO.row.cell K (by rw [hO.len]; omega)
              have rf := hO.row.free K (by rw [hO.len]; omega)
              have g := mul_inner O2 us vs i j m c _ hO.dig du dvs hc hml hlj (by rw [hO.len]; omega) hdv.out
              have gx := D24_gd du i
              have gy := D24_gd dvs j
              rw [← hK] at g
              generalize gd us i = x at *
              generalize gd vs j = y at *
              generalize gd O2 K = z at *
              obtain ⟨p, hp⟩ : ∃ p, p = x * y := ⟨_, rfl⟩
              obtain ⟨q, hq⟩ : ∃ q, q = z + p := ⟨_, rfl⟩
              obtain ⟨t, ht⟩ : ∃ t, t = q + c := ⟨_, rfl⟩
              rw [← hp, ← hq, ← ht] at g
              have htb : t < 281474976710656 := g.2.2
              have x1 : IntKind.i64.wrap ((i : Int) + (j : Int)) = (K : Int) := by rw [hK]; exact IntWalk.i64_in _ ⟨by omega, by omega⟩
              have x2 : IntKind.i64.wrap ((x : Int) * (y : Int)) = (p : Int) := by rw [hp, ← Int.natCast_mul]; exact IntWalk.i64_in _ ⟨by omega, by omega⟩
              have x3 : IntKind.i64.wrap ((z : Int) + (p : Int)) = (q : Int) := by rw [hq]; exact IntWalk.i64_in _ ⟨by omega, by omega⟩
              have x4 : IntKind.i64.wrap ((q : Int) + (c : Int)) = (t : Int) := by rw [ht]; exact IntWalk.i64_in _ ⟨by omega, by omega⟩
              have HG := Lib.hid (And.intro g (And.intro hK (And.intro hp (And.intro hq ht)))); clear g hK hp hq ht
              clear hnl hml h3s gx gy
              rw [Nat.zero_add] at ro rf
              have hKi : (K : Int) < (n : Int) + (m : Int) := by omega
              go_wp2
              go_region
              all_goals go_wp2
              all_goals go_roundw
              case rel =>
                obtain ⟨⟨g1, g2, g3⟩, hK, hp, hq, ht⟩ := HG.out
                refine ⟨j + 1, t / C24, O2.set K (t % C24), ?_, by go_num, by omega, g2, ?_, Lib.hid g1, Lib.hid (fun k hk => by rw [gd_set_other _ _ _ _ (by omega)]; exact hz.out k hk)⟩
                · rw [show (16777216 : Int) = ((C24 : Nat) : Int) from rfl, ← Int.natCast_ediv]
                · have h := hO.drew.set K (t % C24) hKb (Nat.mod_lt _ C24_pos)
                  rw [Nat.zero_add] at h
                  exact h
              case measure => (simp [intOf]; try omega)
            · obtain rfl : j = m := by omega
              have ro := hO.row.cell (i+j) (by rw [hO.len]; omega)
              have rf := hO.row.free (i+j) (by rw [hO.len]; omega)
              rw [Nat.zero_add] at ro rf
              have g := mul_outer O2 us vs i j c HN.out.2.1 (by have := HN.out.1; omega) (by rw [hO.len]; omega) (hz.out _ (Nat.le_refl _)) (by
                have h := hdv.out
                rwa [show vs.take j = vs from List.take_of_length_le (by have := HN.out.2.1; omega)] at h)
              have hset := hO.set (i+j) c (by omega) hc
              rw [Nat.zero_add] at hset
              have HG := Lib.hid g; have HS := Lib.hid hset; clear g hset hdv hO
              go_wp2
              refine ⟨⟨i + 1, _, by go_num, by omega, HS.out, HG, Lib.hid (fun k hk => by rw [gd_set_other _ _ _ _ (by omega)]; exact hz.out k (by omega))⟩, by (simp [intOf]; try omega)⟩
        · obtain rfl : i = n := by omega
          have hlen := hO.len
          have hrow : RowI wr bo 0 O := ⟨hO.row.cell⟩
          have hbw : bo < wr.heap.size := by have := hO.only.size; have := HB3.out.2; omega
          have hN := RefNum_row wr bo 0 (i + m) O hbw hrow (by omega) hO.dig (by omega)
          have e1 : dv O = sv a * sv b := by rw [hdv.out, List.take_of_length_le (by have := HN.out.1; omega), eu, ev]
          have hB := HB3.out.1.trans (hO.only.below hsz2 HB3.out.1.size)
          rw [e1, hlen] at hN
          have HNum := Lib.hid hN; clear hN hrow hO hdv hz e1
          go_wp2_with fail
          refine HNum.out.mono ?_
          rintro e w4 ⟨rfl, B4⟩
          go_wp2
          go_ret
          exact ⟨rfl, hB.trans (B4.mono hB.size)⟩
end Go.Proofs.YteccbedmpjeamaaGreatDoor
