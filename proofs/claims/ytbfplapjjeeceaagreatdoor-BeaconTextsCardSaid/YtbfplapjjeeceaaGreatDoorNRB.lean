/-
  The reference of natural numbers: texts of numbers.
-/
import Derived.Test.YtbfplapjjeeceaaGreatDoorNRA
import Derived.Deep.AppendLies
import Derived.Deep.RegionLaw
namespace Go.Proofs.YtbfplapjjeeceaaGreatDoor
open Go.RowKit NM
def C24 : Nat := 16777216
theorem C24_pos : 0 < C24 := by decide
def dv : List Nat → Nat
  | [] => 0
  | x :: xs => x + C24 * dv xs
def D24 (l : List Nat) : Prop := ∀ x ∈ l, x < C24
theorem D24_nil : D24 [] := fun _ h => by cases h
theorem D24_snoc {l : List Nat} {d : Nat} (h : D24 l) (hd : d < C24) : D24 (l ++ [d]) := fun x hx => by
  rcases List.mem_append.1 hx with h1 | h1
  · exact h x h1
  · rw [List.mem_singleton.1 h1]; exact hd
theorem D24_gd {l : List Nat} (h : D24 l) (k : Nat) : gd l k < C24 := by
  unfold gd
  rw [List.getD_eq_getElem?_getD]
  by_cases hk : k < l.length
  · rw [List.getElem?_eq_getElem hk]; exact h _ (List.getElem_mem hk)
  · rw [List.getElem?_eq_none (by omega)]; exact C24_pos
theorem dv_append (a b : List Nat) : dv (a ++ b) = dv a + C24^a.length * dv b := by
  induction a with
  | nil => simp [dv]
  | cons x xs ih =>
    rw [List.cons_append, dv, dv, ih, List.length_cons, Nat.pow_succ, Nat.mul_add, Nat.mul_comm (C24^xs.length) C24, Nat.mul_assoc]; omega
theorem dv_snoc (a : List Nat) (d : Nat) : dv (a ++ [d]) = dv a + C24^a.length * d := by rw [dv_append]; simp [dv]
theorem dv_lt (l : List Nat) (h : D24 l) : dv l < C24^l.length := by
  induction l with
  | nil => simp [dv]
  | cons x xs ih =>
    have h1 := ih (fun y hy => h y (List.mem_cons_of_mem _ hy))
    have h2 := h x (List.mem_cons_self ..)
    rw [dv, List.length_cons, Nat.pow_succ]
    have h3 : C24 * (dv xs + 1) ≤ C24 * C24^xs.length := Nat.mul_le_mul_left _ h1
    rw [Nat.mul_comm (C24^xs.length)]
    rw [Nat.mul_add] at h3
    omega
def iv (l : List Nat) : List Value := l.map fun (d : Nat) => Value.int .i64 (d : Int)
theorem iv_length (l : List Nat) : (iv l).length = l.length := by simp [iv]
theorem iv_snoc (l : List Nat) (d : Nat) : iv (l ++ [d]) = iv l ++ [.int .i64 (d : Int)] := by simp [iv]
theorem iv_get (l : List Nat) (j : Nat) (h : j < l.length) : (iv l)[j]? = some (.int .i64 (gd l j : Nat)) := by
  unfold iv gd
  rw [List.getElem?_map, List.getElem?_eq_getElem h, List.getD_eq_getElem?_getD, List.getElem?_eq_getElem h]
  rfl
theorem infoI : (Tryz.prog.info? 3).map (fun i => (i.zero, i.size, i.bytes)) = some (some (.int .i64 0), 1, 8) := by kernel_rfl
theorem pow_3 (j : Nat) : 256^(3*j) = C24^j := by rw [Nat.pow_mul]; rfl
theorem seg_succ (l : List UInt8) (s k : Nat) (x : UInt8) (hs : s ≤ k) (h : l[k]? = some x) : bv ((l.drop s).take (k+1-s)) = 256 * bv ((l.drop s).take (k-s)) + x.toNat := by
  rw [show k + 1 - s = (k - s) + 1 by omega]
  exact bv_take_succ (l.drop s) (k-s) x (by rw [List.getElem?_drop, show s + (k - s) = k by omega]; exact h)
theorem seg_lt (l : List UInt8) (s k : Nat) (h : k ≤ s + 3) : bv ((l.drop s).take (k-s)) < C24 := by
  have h1 := bv_lt ((l.drop s).take (k-s))
  have h2 : ((l.drop s).take (k-s)).length ≤ 3 := by rw [List.length_take]; omega
  have h3 : 256^((l.drop s).take (k-s)).length ≤ 256^3 := Nat.pow_le_pow_right (by omega) h2
  have : (256:Nat)^3 = C24 := by decide
  omega
/-- one more digit -/
theorem of_step (l : List UInt8) (ds : List Nat) (n j E s : Nat) (hn : l.length = n) (hE : E + 3 * j = n) (hE0 : 0 < E) (hs : s = E - 3) (hd : ds.length = j) (hv : dv ds = bv (l.drop E)) :
    dv (ds ++ [bv ((l.drop s).take (E-s))]) = bv (l.drop s) := by
  rw [dv_snoc, hv, hd]
  have h1 := bv_append ((l.drop s).take (E-s)) ((l.drop s).drop (E-s))
  rw [List.take_append_drop, List.drop_drop, show s + (E - s) = E by omega, List.length_drop, show l.length - E = 3 * j by omega, pow_3] at h1
  rw [h1, Nat.mul_comm]; omega
def OfQ (a : ByteArray) (w : World) (e : Ending) (w' : World) : Prop :=
  ∃ v ds, e = .returned v ∧ w'.ownsRow w.heap.size 3 1 v ds.length (iv ds) ∧ D24 ds ∧ dv ds = sv a ∧ ds.length = ((tz a).size + 2) / 3 ∧ Below w.heap.size w w'
set_option maxRecDepth 100000 in
set_option maxHeartbeats 2000000 in
theorem of_any (w : World) (a : ByteArray) (ha : a.size ≤ 4294967296) :
    Calls Tryz.prog 159 #[.string a] w (OfQ a w) := by
  have hc := Canon_any w a ha
  have hv := sv_tz a
  have hts := tz_size_le a
  obtain ⟨i0, hi, hz0, hz1, hz2⟩ := info_parts infoI
  obtain ⟨t, ht⟩ : ∃ t, t = tz a := ⟨_, rfl⟩
  rw [← ht] at hc hv hts
  have hlen := len_size t
  have HC := Lib.hid hc; have HV := Lib.hid hv; have HT := Lib.hid ht; clear hc hv ht
  have hn : t.size ≤ 4294967296 := by omega
  generalize hl : t.data.toList = l at *
  have HLL := Lib.hid (And.intro hl hlen); clear hl hlen
  go_enter Tryz.func159, Tryz.ntmps159
  go_wp2_with fail
  refine HC.out.mono ?_
  rintro e w1 ⟨rfl, rfl⟩
  go_wp2_with fail
  go_loopw [3, 4] (fun out en wr => ∃ (j : Nat) (ds : List Nat) (v : Value) (ee : Int), out = v ∧ en = .int .i64 ee ∧ Hid (ee = (t.size : Int) - 3 * (j : Int)) ∧ Hid (3 * j < t.size + 3) ∧ Hid (ds.length = j) ∧ wr.ownsRow w.heap.size 3 1 v j (iv ds) ∧ Hid (D24 ds) ∧ Hid (dv ds = bv (l.drop (t.size - 3 * j))) ∧ Below w.heap.size w wr) (fun _ en _ => (intOf en + 3).toNat)
  case atStart => exact ⟨0, [], _, (t.size : Int), rfl, rfl, Lib.hid (by omega), Lib.hid (by omega), Lib.hid rfl, World.ownsRow_nil _ _ _ _, Lib.hid D24_nil, Lib.hid (by
    rw [List.drop_eq_nil_of_le (by rw [HLL.out.2]; omega)]; rfl), Below.refl _ _⟩
  case round =>
    obtain ⟨j, ds, v, ee, rfl, rfl, hee, hj3, hdl, hown, hD, hdv, hB⟩ := hrel
    by_cases hlt : 0 < ee
    · have hsz := hB.size
      obtain ⟨E, hE⟩ : ∃ E : Nat, ee = (E : Int) := ⟨ee.toNat, by omega⟩
      subst hE
      obtain ⟨s, hs⟩ : ∃ s, s = E - 3 := ⟨_, rfl⟩
      have hmax : max ((E : Int) - 3) 0 = (s : Int) := by omega
      have hsE : s < E := by omega
      have hEn : E ≤ t.size := by have := hee.out; omega
      have HS := Lib.hid hs; clear hs
      have hse : E ≤ s + 3 := by have := HS.out; omega
      go_wp2_with fail
      go_loop [5, 6] (fun d k => ∃ kk : Nat, s ≤ kk ∧ kk ≤ E ∧ d = .int .i64 (bv ((l.drop s).take (kk-s)) : Nat) ∧ k = .int .i64 (kk : Nat)) (fun _ k => E - (intOf k).toNat)
      case atStart => exact ⟨s, Nat.le_refl _, by omega, by rw [Nat.sub_self]; rfl, rfl⟩
      case round =>
        obtain ⟨kk, hk1, hk2, rfl, rfl⟩ := hrel
        by_cases hlk : kk < E
        · have hdk : decide ((kk : Int) < (E : Int)) = true := by simp; omega
          have hkt : kk < t.size := by omega
          have hbj := byte_at t kk hkt
          rw [HLL.out.1] at hbj
          have hst := seg_succ l s kk _ hk1 hbj
          have hle := seg_lt l s (kk+1) (by omega)
          generalize bv ((l.drop s).take (kk-s)) = N at *
          generalize hM : bv ((l.drop s).take (kk+1-s)) = M at *
          have hM24 : M < 16777216 := hle
          have hNb : N < 65536 := by omega
          have HSS := Lib.hid (And.intro hst (And.intro hM hM24)); clear hst hle hM hM24 hbj
          go_wp2
          refine ⟨⟨kk + 1, by omega, by omega, ?_, by go_num⟩, by simp [intOf]; omega⟩
          obtain ⟨k1, k2, k3⟩ := HSS.out
          rw [k2, k1]
          generalize (t[kk]'hkt).toNat = c at *
          rw [w64_id (c : Int) (by omega), w64_id _ (by omega)]
          congr 1; omega
        · obtain rfl : kk = E := by omega
          have hd24 := seg_lt l s kk hse
          go_wp2_with (at_builtin; refine wpList_append_own _ rfl _ _ 34 rfl w.heap.size 3 i0 (.int .i64 0) 1 8 Tryz.underlying34 hi hz0 hz1 hz2 rfl (by decide) _ _ _ rfl (hown.alloc _) ⟨wr.heap.size, 0, none⟩ 1 1 [.int .i64 ((bv ((l.drop s).take (kk-s)) : Nat) : Int)] rfl rfl ?c1 ?c2 ?c3 ?c4 ?c5 ?_)
          case c2 => first | rfl | (intro u hu; simp at hu; subst hu; rfl)
          case c3 => unfold maxLen; have := hj3.out; omega
          case c4 => have := hj3.out; omega
          case c5 => first | omega | (simp; omega)
          intro v' w2 hown' hgrow _
          rw [← iv_snoc] at hown'
          go_wp2
          refine ⟨⟨j + 1, _, v', (kk : Int) - 3, rfl, rfl, Lib.hid (by have := hee.out; omega), Lib.hid (by have := hee.out; omega), Lib.hid (by rw [List.length_append, hdl.out]; rfl), hown', Lib.hid (D24_snoc hD.out hd24), Lib.hid ?_, (hB.alloc hsz _).grown hgrow (by simp; omega) (fun k hk => (hown.lt k hk).1)⟩, by simp [intOf]; omega⟩
          have h2 := hee.out
          rw [of_step l ds t.size j kk s (HLL.out.2) (by omega) (by omega) HS.out hdl.out (by rw [hdv.out]; congr 2; omega)]
          congr 2
          have := HS.out
          omega
    · have hd : decide (0 < ee) = false := by simp; omega
      have hj3' := hj3.out
      have hee' := hee.out
      have hfin : dv ds = sv a := by
        rw [hdv.out, show t.size - 3 * j = 0 by omega, List.drop_zero, HV.out]
      have hjj : j = ((tz a).size + 2) / 3 := by rw [← HT.out]; omega
      have HF := Lib.hid (And.intro hfin hjj); clear hfin hjj hj3' hee'
      go_wp2
      go_ret
      have hdl' := hdl.out
      exact ⟨_, ds, rfl, by rw [hdl']; exact hown, hD.out, HF.out.1, by rw [hdl']; exact HF.out.2, hB⟩
end Go.Proofs.YtbfplapjjeeceaaGreatDoor
namespace Go.Proofs.YtbfplapjjeeceaaGreatDoor
open Go.RowKit NM
/-- ints X lie in block b from place o on -/
structure RowI (w : World) (b o : Nat) (X : List Nat) : Prop where
  cell : ∀ j, j < X.length → w.cell? ⟨b, o+j, none⟩ = some (.int .i64 (gd X j : Nat))
theorem RowI.below {b B o : Nat} {u w : World} {X : List Nat} (r : RowI u b o X) (h : Below B u w) (hb : b < B) : RowI w b o X :=
  ⟨fun j hj => (World.cell?_of_block (h.block b hb)).trans (r.cell j hj)⟩
/-- a slice of ints -/
def IntsAt (W : World) (v : Value) (ds : List Nat) : Prop :=
  (v = .slice none 0 0 ∧ ds = []) ∨ ∃ b o cap, v = .slice (some ⟨b, o, none⟩) ds.length cap ∧ b < W.heap.size ∧ RowI W b o ds ∧ ds.length ≤ cap
theorem IntsAt.below {u w : World} {v : Value} {ds : List Nat} (h : IntsAt u v ds) (hb : Below u.heap.size u w) : IntsAt w v ds :=
  h.imp id fun ⟨b, o, cap, h1, h2, h3, h4⟩ => ⟨b, o, cap, h1, Nat.lt_of_lt_of_le h2 hb.size, h3.below hb h2, h4⟩
theorem IntsAt.of_own {w : World} {B : Nat} {v : Value} {ds : List Nat} (h : w.ownsRow B 3 1 v ds.length (iv ds)) : IntsAt w v ds := by
  rcases h.2 with ⟨hv, h0⟩ | ⟨g, cap, cur, hv, hb, hg, hc, _⟩
  · left
    refine ⟨hv, ?_⟩
    have : ds.length = 0 := by simpa using h0
    exact List.length_eq_zero_iff.1 this
  · right
    subst hv
    refine ⟨g, 0, cap, rfl, ?_, ⟨fun j hj => ?_⟩, hc⟩
    · rcases Nat.lt_or_ge g w.heap.size with hlt | hge
      · exact hlt
      · rw [Array.getElem?_eq_none hge] at hg; cases hg
    · have := World.ownsRow.cellAt h j (by omega)
      rw [Nat.zero_add, this, iv_get ds j hj]
def d3 (d : Nat) : List UInt8 := [UInt8.ofNat (d / 65536), UInt8.ofNat (d / 256 % 256), UInt8.ofNat (d % 256)]
theorem bv_d3 (d : Nat) (h : d < C24) : bv (d3 d) = d := by
  have h' : d < 16777216 := h
  unfold d3
  simp only [bv_cons, List.length_cons, List.length_nil, bv_nil]
  simp
  omega
theorem cells_d3 (d : Nat) (h : d < C24) : Lib.byteCells (d3 d) = [.int .u8 ((d / 65536 : Nat) : Int), .int .u8 ((d / 256 % 256 : Nat) : Int), .int .u8 ((d % 256 : Nat) : Int)] := by
  have h' : d < 16777216 := h
  simp [Lib.byteCells, d3]
  omega
theorem dv_drop_cons (l : List Nat) (k : Nat) (h : k < l.length) : dv (l.drop k) = gd l k + C24 * dv (l.drop (k+1)) := by
  rw [List.drop_eq_getElem_cons h, dv]
  unfold gd
  rw [List.getD_eq_getElem?_getD, List.getElem?_eq_getElem h]; rfl
theorem num_step (ds : List Nat) (bs : List UInt8) (m : Nat) (hD : D24 ds) (hm : m < ds.length) (hl : bs.length = 3 * (ds.length - (m+1))) (hv : bv bs = dv (ds.drop (m+1))) :
    bv (bs ++ d3 (gd ds m)) = dv (ds.drop m) ∧ (bs ++ d3 (gd ds m)).length = 3 * (ds.length - m) := by
  constructor
  · rw [bv_append, hv, bv_d3 _ (D24_gd hD m), dv_drop_cons ds m hm]
    show _ * 256^3 + _ = _
    rw [show (256:Nat)^3 = C24 by decide, Nat.mul_comm]; omega
  · rw [List.length_append, hl]; show _ + 3 = _; omega
/-- bytes that the call owns, as a string -/
theorem conv_own {wr : World} {B : Nat} {v : Value} {bs : List UInt8} (h : wr.ownsRow B t8n 1 v bs.length (Lib.byteCells bs)) :
    (convert 33 147 v).run Tryz.prog wr = .ok (.string ⟨bs.toArray⟩) wr := by
  rcases h.2 with ⟨hv, h0⟩ | ⟨g, cap, cur, hv, _⟩
  · subst hv
    have hb : bs = [] := List.length_eq_zero_iff.1 h0
    subst hb
    exact run_convert_bytes_nil (P := Tryz.prog) wr 33 5 Tryz.underlying33 Tryz.underlying5 0 0 147 Tryz.underlying147
  · subst hv
    exact run_convert_bytes_back (P := Tryz.prog) wr 33 147 5 ⟨g, 0, none⟩ cap bs Tryz.underlying33 Tryz.underlying5 Tryz.underlying147 (fun j hj => World.ownsRow.cells h (g := g) rfl j (.int .u8 (bs[j].toNat : Int)) (by simp [Lib.byteCells, hj]))
theorem bytes_size (bs : List UInt8) (h : bs.length ≤ 4294967296) : (ByteArray.mk bs.toArray).size ≤ 4294967296 := by
  show bs.toArray.size ≤ _
  rw [List.size_toArray]; exact h
set_option maxRecDepth 100000 in
set_option maxHeartbeats 4000000 in
theorem RefNum_row (w : World) (b o cap : Nat) (ds : List Nat) (hb : b < w.heap.size) (hR : RowI w b o ds) (_hc : ds.length ≤ cap) (hD : D24 ds) (hl : ds.length ≤ 1000000000) :
    Calls Tryz.prog 165 #[.slice (some ⟨b, o, none⟩) ds.length cap] w fun e w' => e = .returned (.string (NB (dv ds))) ∧ Below w.heap.size w w' := by
  obtain ⟨i0, hi, hz0, hz1, hz2⟩ := info_parts info8n
  obtain ⟨n, hn⟩ : ∃ n, n = ds.length := ⟨_, rfl⟩
  rw [← hn] at hl ⊢
  have HN := Lib.hid hn; clear hn
  go_enter Tryz.func165, Tryz.ntmps165
  go_wp2_with fail
  go_loopw [3, 4] (fun out k wr => ∃ (j : Nat) (bs : List UInt8) (v : Value), out = v ∧ k = .int .i64 ((j : Int) - 1) ∧ j ≤ n ∧ wr.ownsRow w.heap.size t8n 1 v bs.length (Lib.byteCells bs) ∧ Hid (bs.length = 3 * (n - j)) ∧ Hid (bv bs = dv (ds.drop j)) ∧ Below w.heap.size w wr) (fun _ k _ => (intOf k + 1).toNat)
  case atStart => exact ⟨n, [], _, rfl, rfl, Nat.le_refl _, World.ownsRow_nil _ _ _ _, Lib.hid (by simp), Lib.hid (by rw [List.drop_eq_nil_of_le (by rw [← HN.out]; exact Nat.le_refl _)]; rfl), Below.refl _ _⟩
  case round =>
    obtain ⟨j, bs, v, rfl, rfl, hj, hown, hbl, hbv, hB⟩ := hrel
    have hsz := hB.size
    by_cases h0 : j = 0
    · subst h0
      have hcv := conv_own hown
      have hbl' := hbl.out
      have hn0 := HN.out
      have hC := Canon_any wr ⟨bs.toArray⟩ (bytes_size bs (by omega))
      have hsv : tz ⟨bs.toArray⟩ = NB (dv ds) := by
        rw [tz_NB, show sv ⟨bs.toArray⟩ = dv ds from (by show bv bs = _; rw [hbv.out, List.drop_zero])]
      rw [hsv] at hC
      have HC := Lib.hid hC; clear hC hbl' hn0 hsv
      go_wp2_with fail
      refine HC.out.mono ?_
      rintro e w2 ⟨rfl, rfl⟩
      go_wp2
      go_ret
      exact ⟨rfl, hB⟩
    · obtain ⟨m, rfl⟩ : ∃ m, j = m + 1 := ⟨j - 1, by omega⟩
      rw [show (((m + 1 : Nat) : Int) - 1) = (m : Int) by omega]
      have hx := (hR.below hB hb).cell m (by have := HN.out; omega)
      have d24 : gd ds m < 16777216 := D24_gd hD m
      have hmn : m < n := by omega
      generalize hd : gd ds m = d at *
      obtain ⟨e1, he1⟩ : ∃ e1, e1 = d / 65536 := ⟨_, rfl⟩
      obtain ⟨e2, he2⟩ : ∃ e2, e2 = d / 256 % 256 := ⟨_, rfl⟩
      obtain ⟨e3, he3⟩ : ∃ e3, e3 = d % 256 := ⟨_, rfl⟩
      have x1 : IntKind.u8.wrap ((d : Int) / 65536) = (e1 : Int) := by rw [IntKind.wrap_u8]; omega
      have x2 : IntKind.u8.wrap ((d : Int) / 256) = (e2 : Int) := by rw [IntKind.wrap_u8]; omega
      have x3 : IntKind.u8.wrap ((d : Int)) = (e3 : Int) := by rw [IntKind.wrap_u8]; omega
      have hnews : ∀ j u, (Lib.byteCells (d3 d))[j]? = some u → ((wr.drew).alloc (.cells #[.int .u8 (e1 : Int), .int .u8 (e2 : Int), .int .u8 (e3 : Int)] t8n)).cell? ((⟨wr.heap.size, 0, none⟩ : Addr).add j) = some u := by
        rw [cells_d3 d d24, ← he1, ← he2, ← he3]
        exact World.news_of_block (heap_alloc_new wr.drew _)
      have hone : ∀ u ∈ Lib.byteCells (d3 d), u.oneCell' = true := by intro u hu; obtain ⟨x, _, rfl⟩ := List.mem_map.1 hu; rfl
      have hlen3 : (Lib.byteCells (d3 d)).length = 3 * 1 := rfl
      have hb1 : bs.length + 3 ≤ maxLen := by unfold maxLen; have := hbl.out; omega
      have hb2 : (bs.length + 3) * 1 ≤ 140737488355328 := by have := hbl.out; omega
      have hb3 : w.heap.size ≤ ((wr.drew).alloc (.cells #[.int .u8 (e1 : Int), .int .u8 (e2 : Int), .int .u8 (e3 : Int)] t8n)).heap.size := by simp; exact Nat.le_succ_of_le hsz
      have HA := Lib.hid (And.intro hnews (And.intro hone (And.intro hlen3 (And.intro hb1 (And.intro hb2 hb3))))); clear hnews hone hlen3 hb1 hb2 hb3
      have HE := Lib.hid (And.intro he1 (And.intro he2 he3)); clear he1 he2 he3
      have HD := Lib.hid (And.intro d24 hd); clear d24 hd
      go_wp2_with fail
      go_region_law ((refine step_append_lies _ rfl (.tmp 12) (.tmp 30) 33 rfl w.heap.size t8n i0 (.int .u8 0) 1 1 Tryz.underlying33 hi hz0 hz1 hz2 rfl (by decide) u3 bs.length (Lib.byteCells bs) (by simp [Act.eval]) (hown.drew.alloc _) ⟨wr.heap.size, 0, none⟩ 3 3 (Lib.byteCells (d3 d)) (by simp [Act.eval]) HA.out.2.2.1 HA.out.1 HA.out.2.1 (by omega) HA.out.2.2.2.1 HA.out.2.2.2.2.1 HA.out.2.2.2.2.2 _ rfl ?_; intro g9 c9 w9 hown9 hgrow9 hat9 hlt9))
      all_goals
        go_wp2
        go_roundw
        case rel =>
          obtain ⟨hD1, hD2⟩ := HD.out
          have hst := num_step ds bs m hD (by rw [← HN.out]; exact hmn) (by rw [← HN.out]; exact hbl.out) hbv.out
          rw [hD2] at hst
          refine ⟨m, bs ++ d3 d, _, rfl, by go_num, by omega, ?_, Lib.hid (by rw [HN.out]; exact hst.2), Lib.hid hst.1, ?_⟩
          · rw [Lib.byteCells_append]
            exact (show (bs ++ d3 d).length = bs.length + 3 by rw [List.length_append]; rfl) ▸ hown9
          · exact ((hB.alloc hsz _).drew).grown hgrow9 (by simp; omega) (fun k hk => (hown.lt k hk).1)
        case measure => (simp [intOf]; try omega)
end Go.Proofs.YtbfplapjjeeceaaGreatDoor
namespace Go.Proofs.YtbfplapjjeeceaaGreatDoor
open Go.RowKit NM
theorem dv_take_succ (l : List Nat) (k : Nat) (h : k < l.length) : dv (l.take (k+1)) = dv (l.take k) + C24^k * gd l k := by
  rw [List.take_add_one, List.getElem?_eq_getElem h]
  show dv (l.take k ++ [l[k]]) = _
  rw [dv_snoc, List.length_take, Nat.min_eq_left (by omega)]
  unfold gd
  rw [List.getD_eq_getElem?_getD, List.getElem?_eq_getElem h]; rfl
theorem D24_set {l : List Nat} (h : D24 l) (k v : Nat) (hv : v < C24) : D24 (l.set k v) := fun x hx => by
  rcases List.mem_or_eq_of_mem_set hx with h1 | h1
  · exact h x h1
  · rw [h1]; exact hv
theorem D24_zeros (n : Nat) : D24 (List.replicate n 0) := fun x hx => by rw [(List.mem_replicate.1 hx).2]; exact C24_pos
/-- ints that may be written -/
structure RowJ (w : World) (b o : Nat) (X : List Nat) : Prop where
  cell : ∀ j, j < X.length → w.cell? ⟨b, o+j, none⟩ = some (.int .i64 (gd X j : Nat))
  free : ∀ j, j < X.length → w.frozen? ⟨b, o+j, none⟩ = false
theorem RowJ.set {w : World} {b o : Nat} {X : List Nat} (h : RowJ w b o X) (k v : Nat) (hk : k < X.length) : RowJ (w.setCell ⟨b, o+k, none⟩ (.int .i64 (v : Nat))) b o (X.set k v) where
  cell j hj := by
    rw [List.length_set] at hj
    by_cases e : j = k
    · subst e; rw [gd_set_same X j v hj]; exact World.cell?_setCell_same _ _ _ (h.cell j hj)
    · rw [gd_set_other X k j v e, World.cell?_setCell_other]
      · exact h.cell j hj
      · intro e2; simp at e2; try omega
  free j hj := by
    rw [List.length_set] at hj; rw [World.frozen?_setCell]; exact h.free j hj
theorem RowJ.drew {w : World} {b o : Nat} {X : List Nat} (h : RowJ w b o X) : RowJ w.drew b o X := ⟨h.cell, h.free⟩
structure AtI (n b o : Nat) (w : World) (Z : List Nat) (wr : World) : Prop where
  len : Z.length = n
  dig : D24 Z
  row : RowJ wr b o Z
  only : Only b o (o+n) w wr
theorem AtI.set {n b o : Nat} {w wr : World} {Z : List Nat} (h : AtI n b o w Z wr) (k v : Nat) (hk : k < n) (hv : v < C24) : AtI n b o w (Z.set k v) (wr.setCell ⟨b, o+k, none⟩ (.int .i64 (v : Nat))) :=
  ⟨by rw [List.length_set]; exact h.len, D24_set h.dig k v hv, h.row.set k v (by rw [h.len]; exact hk), h.only.set _ _ (by omega) (by omega)⟩
theorem AtI.drew {n b o : Nat} {w wr : World} {Z : List Nat} (h : AtI n b o w Z wr) : AtI n b o w Z wr.drew := ⟨h.len, h.dig, h.row.drew, h.only.drew⟩
theorem make_ints (n : Nat) (hn : n ≤ 1099511627776) (u : World) : (Instr.makeSlice 34 (.int .i64 (n : Int)) (.int .i64 (n : Int))).run Tryz.prog u =
    .ok (.slice (some ⟨u.heap.size, 0, none⟩) n n) (u.alloc (.cells (madeCells #[.int .i64 0] n) 3)) := by
  obtain ⟨i0, hi, hz0, hz1, hz2⟩ := info_parts infoI
  have h := run_make (P := Tryz.prog) u 34 3 i0 (.int .i64 0) Tryz.underlying34 hi hz0 .i64 .i64 (n : Int) (n : Int) (by omega) (Int.le_refl _) (by rw [hz2]; omega) (by omega)
  simpa [hz1, Value.cells] using h
theorem AtI.made (n t : Nat) (u : World) : AtI n u.heap.size 0 (u.alloc (.cells (madeCells #[.int .i64 0] n) t)) (List.replicate n 0) (u.alloc (.cells (madeCells #[.int .i64 0] n) t)) :=
  ⟨List.length_replicate, D24_zeros n, ⟨fun j hj => by
    rw [List.length_replicate] at hj
    rw [Nat.zero_add, World.cell?_alloc_at _ _ _ _ rfl, ← Array.getElem?_toList, toList_madeCells_one, List.getElem?_replicate, if_pos hj]
    simp [gd, hj], fun j hj => by rw [World.frozen?_alloc_at _ _ _ _ rfl]⟩, Only.refl _ _ _ _⟩
/-- small -/
def SmallV (a : ByteArray) (k : Nat) : Value := if (tz a).size ≤ k then .tuple #[.int .i64 (sv a : Nat), .bool true] else .tuple #[.int .i64 0, .bool false]
theorem sv_small {a : ByteArray} {k : Nat} (h : (tz a).size ≤ k) : sv a < 256^k := Nat.lt_of_lt_of_le (tz_lt a) (Nat.pow_le_pow_right (by omega) h)
set_option maxRecDepth 100000 in
set_option maxHeartbeats 1000000 in
theorem rsmall_any (w : World) (a : ByteArray) (k : Nat) (hk : k ≤ 7) (ha : a.size ≤ 4294967296) :
    Calls Tryz.prog 158 #[.string a, .int .i64 (k : Nat)] w fun e w' => e = .returned (SmallV a k) ∧ w = w' := by
  have hc := Canon_any w a ha
  have hi := RefInt_any w a ha
  have hts := tz_size_le a
  by_cases h : (tz a).size ≤ k
  · have hS : SmallV a k = .tuple #[.int .i64 (sv a : Nat), .bool true] := by unfold SmallV; rw [if_pos h]
    have hI : IntV a = .tuple #[.int .i64 (sv a : Nat), .bool true] := by
      have h1 := sv_small h
      have h2 : 256^k ≤ 256^7 := Nat.pow_le_pow_right (by omega) hk
      show (if sv a < 9223372036854775808 then _ else _) = _
      rw [if_pos (by omega)]
    rw [hI] at hi
    rw [hS]
    generalize tz a = t at *
    generalize sv a = x at *
    have HC := Lib.hid hc; have HI := Lib.hid hi; clear hc hi hS hI
    have hd : decide ((k : Int) < (t.size : Int)) = false := by simp; omega
    go_enter Tryz.func158, Tryz.ntmps158
    go_wp2_with fail
    refine HC.out.mono ?_
    rintro e w1 ⟨rfl, rfl⟩
    go_wp2_with fail
    refine HI.out.mono ?_
    rintro e w1 ⟨rfl, rfl⟩
    go_wp2
    go_ret2
    exact ⟨rfl, rfl⟩
  · have hS : SmallV a k = .tuple #[.int .i64 0, .bool false] := by unfold SmallV; rw [if_neg h]
    rw [hS]
    generalize tz a = t at *
    have HC := Lib.hid hc; clear hc hi hS
    have hd : decide ((k : Int) < (t.size : Int)) = true := by simp; omega
    go_enter Tryz.func158, Tryz.ntmps158
    go_wp2_with fail
    refine HC.out.mono ?_
    rintro e w1 ⟨rfl, rfl⟩
    go_wp2
    go_ret2
    exact ⟨rfl, rfl⟩
end Go.Proofs.YtbfplapjjeeceaaGreatDoor
namespace Go.Proofs.YtbfplapjjeeceaaGreatDoor
open Go.RowKit NM
theorem gd_over (l : List Nat) (k : Nat) (h : l.length ≤ k) : gd l k = 0 := by
  unfold gd; rw [List.getD_eq_getElem?_getD, List.getElem?_eq_none h]; rfl
theorem dv_take_next (l : List Nat) (k : Nat) : dv (l.take (k+1)) = dv (l.take k) + C24^k * gd l k := by
  by_cases h : k < l.length
  · exact dv_take_succ l k h
  · rw [gd_over l k (by omega), List.take_of_length_le (by omega), List.take_of_length_le (by omega), Nat.mul_zero, Nat.add_zero]
theorem dv_take_all (l : List Nat) (k : Nat) (h : l.length ≤ k) : dv (l.take k) = dv l := by rw [List.take_of_length_le h]
theorem dv_split (l : List Nat) (k : Nat) (h : k ≤ l.length) : dv l = dv (l.take k) + C24^k * dv (l.drop k) := by
  have h1 := dv_append (l.take k) (l.drop k)
  rw [List.take_append_drop, List.length_take, Nat.min_eq_left h] at h1
  exact h1
/-- no zero at the end -/
def T24 (l : List Nat) : Prop := l.length = 0 ∨ gd l (l.length - 1) ≠ 0
theorem T24_low {l : List Nat} {n : Nat} (h : T24 l) (hl : l.length = n + 1) : C24^n ≤ dv l := by
  have h1 := dv_take_next l n
  rw [dv_take_all l (n+1) (by omega)] at h1
  rcases h with h | h
  · omega
  · rw [hl, Nat.add_sub_cancel] at h
    rw [h1]
    have := Nat.le_mul_of_pos_right (C24^n) (Nat.pos_of_ne_zero h)
    omega
theorem T24_lt {u v : List Nat} (hu : D24 u) (hv : T24 v) (h : u.length < v.length) : dv u < dv v := by
  have h1 := dv_lt u hu
  have h2 := T24_low (n := v.length - 1) hv (by omega)
  have h3 : C24^u.length ≤ C24^(v.length-1) := Nat.pow_le_pow_right C24_pos (by omega)
  omega
/-- the highest place where two differ decides -/
theorem dv_lt_at (u v : List Nat) (m n : Nat) (hu : u.length = n) (hv : v.length = n) (hm : m < n) (Du : D24 u) (hd : dv (u.drop (m+1)) = dv (v.drop (m+1))) (h : gd u m < gd v m) : dv u < dv v := by
  rw [dv_split u m (by omega), dv_split v m (by omega), dv_drop_cons u m (by omega), dv_drop_cons v m (by omega), hd]
  have h1 := dv_lt (u.take m) (fun x hx => Du x (List.mem_of_mem_take hx))
  rw [List.length_take, Nat.min_eq_left (by omega)] at h1
  have h2 : C24^m * (gd u m + C24 * dv (v.drop (m+1)) + 1) ≤ C24^m * (gd v m + C24 * dv (v.drop (m+1))) := Nat.mul_le_mul_left _ (by omega)
  rw [Nat.mul_add _ (_ + _) 1] at h2
  omega
theorem drop_step (u v : List Nat) (m n : Nat) (hu : u.length = n) (hv : v.length = n) (hm : m < n) (hd : dv (u.drop (m+1)) = dv (v.drop (m+1))) (h : gd u m = gd v m) : dv (u.drop m) = dv (v.drop m) := by
  rw [dv_drop_cons u m (by omega), dv_drop_cons v m (by omega), hd, h]
/-- one more digit of a difference -/
theorem rsub_step (ds us vs : List Nat) (k b d b2 : Nat) (hl : ds.length = k) (hs : d + b + gd vs k = gd us k + b2 * C24) (h : dv ds + dv (vs.take k) = dv (us.take k) + b * C24^k) :
    dv (ds ++ [d]) + dv (vs.take (k+1)) = dv (us.take (k+1)) + b2 * C24^(k+1) := by
  rw [dv_snoc, dv_take_next, dv_take_next, hl, Nat.pow_succ]
  generalize C24^k = A at *
  generalize dv (us.take k) = U at *
  generalize dv (vs.take k) = V at *
  generalize gd us k = x at *
  generalize gd vs k = y at *
  generalize dv ds = D at *
  generalize C24 = C at *
  clear hl
  grind
theorem sub_end (ds us vs : List Nat) (n b : Nat) (hu : us.length = n) (hl : ds.length = n) (Dd : D24 ds) (Du : D24 us) (hle : dv vs ≤ dv us) (h : dv ds + dv (vs.take n) = dv (us.take n) + b * C24^n) : dv ds = dv us - dv vs := by
  rw [dv_take_all us n (by omega)] at h
  have h1 := dv_lt ds Dd
  rw [hl] at h1
  have h2 := dv_lt us Du
  rw [hu] at h2
  have h3 : dv (vs.take n) = dv vs := by
    by_cases hv : vs.length ≤ n
    · exact dv_take_all vs n hv
    · have h4 := dv_split vs n (by omega)
      rcases Nat.eq_zero_or_pos (dv (vs.drop n)) with h0 | h0
      · rw [h4, h0, Nat.mul_zero, Nat.add_zero]
      · have := Nat.le_mul_of_pos_right (C24^n) h0
        omega
  rw [h3] at h
  rcases Nat.eq_zero_or_pos b with h0 | h0
  · rw [h0, Nat.zero_mul] at h; omega
  · have := Nat.le_mul_of_pos_left (C24^n) h0
    omega
/-- one more digit of a product by a digit -/
theorem times_step (ds us : List Nat) (k c d s : Nat) (hl : ds.length = k) (hs : s = gd us k * d + c) (h : dv ds + c * C24^k = dv (us.take k) * d) :
    dv (ds ++ [s % C24]) + (s / C24) * C24^(k+1) = dv (us.take (k+1)) * d := by
  rw [dv_snoc, dv_take_next, hl, Nat.pow_succ]
  have h1 := Nat.div_add_mod s C24
  generalize s / C24 = q at *
  generalize s % C24 = r at *
  generalize C24^k = A at *
  generalize dv (us.take k) = U at *
  generalize gd us k = x at *
  generalize dv ds = D at *
  generalize C24 = C at *
  clear hl
  grind
theorem times_lt (u d c : Nat) (hu : u < C24) (hd : d < C24) (hc : c < C24) : u * d + c < C24 * C24 ∧ (u * d + c) / C24 < C24 := by
  have h3 : u * d ≤ (C24 - 1) * (C24 - 1) := Nat.mul_le_mul (by omega) (by omega)
  have hb : u * d + c < C24 * C24 := by
    have : (C24 - 1) * (C24 - 1) + (C24 - 1) < C24 * C24 := by decide
    omega
  exact ⟨hb, (Nat.div_lt_iff_lt_mul C24_pos).2 hb⟩
theorem dv_trim (l : List Nat) (n : Nat) (hl : l.length = n + 1) (h : gd l n = 0) : dv (l.take n) = dv l := by
  have h1 := dv_take_next l n
  rw [dv_take_all l (n+1) (by omega), h, Nat.mul_zero, Nat.add_zero] at h1
  exact h1.symm
theorem D24_take {l : List Nat} (h : D24 l) (n : Nat) : D24 (l.take n) := fun x hx => h x (List.mem_of_mem_take hx)
/-- a step of the long division -/
theorem quo_step (X x V R q : Nat) (hV : 0 < V) (hR : R = X % V) (hq : q = (x + C24 * R) / V) :
    (x + C24 * X) / V = q + C24 * (X / V) ∧ (x + C24 * X) % V = x + C24 * R - V * q := by
  have h1 := Nat.div_add_mod X V
  have e : x + C24 * X = (x + C24 * R) + V * (C24 * (X / V)) := by
    rw [hR]
    have : C24 * X = C24 * (V * (X / V)) + C24 * (X % V) := by rw [← Nat.mul_add, h1]
    rw [this, ← Nat.mul_assoc C24, Nat.mul_comm C24 V, Nat.mul_assoc]; omega
  rw [e, Nat.add_mul_div_left _ _ hV, Nat.add_mul_mod_self_left, ← hq]
  refine ⟨rfl, ?_⟩
  have h2 := Nat.div_add_mod (x + C24 * R) V
  rw [← hq] at h2
  omega
theorem quo_digit (x V R : Nat) (hx : x < C24) (hR : R < V) : (x + C24 * R) / V < C24 := by
  rw [Nat.div_lt_iff_lt_mul (by omega)]
  have : C24 * (R + 1) ≤ C24 * V := Nat.mul_le_mul_left _ hR
  rw [Nat.mul_add] at this
  omega
end Go.Proofs.YtbfplapjjeeceaaGreatDoor
namespace Go.Proofs.YtbfplapjjeeceaaGreatDoor
open Go.RowKit NM
/-- a slice of ints, as the walk wants it: the address is looked at only where there is an element -/
theorem IntsAt.form {W : World} {v : Value} {ds : List Nat} (h : IntsAt W v ds) :
    ∃ p cap, v = .slice p ds.length cap ∧ ds.length ≤ cap ∧ (0 < ds.length → ∃ b o, p = some ⟨b, o, none⟩ ∧ b < W.heap.size ∧ RowI W b o ds) := by
  rcases h with ⟨rfl, rfl⟩ | ⟨b, o, cap, rfl, hb, hr, hc⟩
  · exact ⟨none, 0, rfl, Nat.le_refl _, fun h => absurd h (Nat.lt_irrefl 0)⟩
  · exact ⟨_, cap, rfl, hc, fun _ => ⟨b, o, rfl, hb, hr⟩⟩
theorem gd_zeros (n k : Nat) : gd (List.replicate n 0) k = 0 := by
  unfold gd; rw [List.getD_eq_getElem?_getD, List.getElem?_replicate]; split <;> rfl
theorem RowI.only {b lo hi b' o : Nat} {u w : World} {X : List Nat} (r : RowI u b' o X) (h : Only b lo hi u w) (hne : b' ≠ b) (hlt : b' < u.heap.size) : RowI w b' o X :=
  ⟨fun j hj => (World.cell?_of_block (h.blk b' hne hlt)).trans (r.cell j hj)⟩
end Go.Proofs.YtbfplapjjeeceaaGreatDoor
namespace Go.Proofs.YtbfplapjjeeceaaGreatDoor
open Go.RowKit NM
theorem RowI.take {w : World} {b o : Nat} {X : List Nat} (h : RowI w b o X) (k : Nat) (hk : k ≤ X.length) : RowI w b o (X.take k) :=
  ⟨fun j hj => by
    rw [List.length_take, Nat.min_eq_left hk] at hj
    rw [h.cell j (by omega)]
    unfold gd
    rw [List.getD_eq_getElem?_getD, List.getD_eq_getElem?_getD, List.getElem?_take_of_lt hj]⟩
theorem gd_take (X : List Nat) (k j : Nat) (h : j < k) : gd (X.take k) j = gd X j := by
  unfold gd
  rw [List.getD_eq_getElem?_getD, List.getD_eq_getElem?_getD, List.getElem?_take_of_lt h]
/-- where it lies -/
def From (B : Nat) : Value → Prop
  | .slice (some a) _ _ => B ≤ a.block
  | _ => True
def RTrimQ (v0 : Value) (ds : List Nat) (w : World) (e : Ending) (w' : World) : Prop :=
  ∃ v, e = .returned v ∧ w = w' ∧ ∃ k, k ≤ ds.length ∧ IntsAt w v (ds.take k) ∧ T24 (ds.take k) ∧ dv (ds.take k) = dv ds ∧ ∀ B, From B v0 → From B v
set_option maxRecDepth 100000 in
set_option maxHeartbeats 2000000 in
theorem trim_ref (w : World) (v : Value) (ds : List Nat) (h : IntsAt w v ds) (hn : ds.length ≤ 1099511627776) :
    Calls Tryz.prog 160 #[v] w (RTrimQ v ds w) := by
  rcases h with ⟨rfl, rfl⟩ | ⟨b, o, cap, rfl, hb, hr, hc⟩
  · go_enter Tryz.func160, Tryz.ntmps160
    go_wp2
    go_loop [0] (fun l => l = .slice none 0 0) (fun _ => 0)
    case atStart => rfl
    case round =>
      obtain rfl := hrel
      go_wp2
      go_ret
      exact ⟨_, rfl, rfl, 0, Nat.le_refl _, .inl ⟨rfl, rfl⟩, .inl rfl, rfl, fun _ h => h⟩
  · obtain ⟨n, hnl⟩ : ∃ n, n = ds.length := ⟨_, rfl⟩
    rw [← hnl] at hc hn ⊢
    have HN := Lib.hid hnl; clear hnl
    go_enter Tryz.func160, Tryz.ntmps160
    go_wp2
    go_loop [0] (fun l => ∃ j : Nat, j ≤ n ∧ l = .slice (some ⟨b, o, none⟩) j cap ∧ Hid (dv (ds.take j) = dv ds)) (fun l => match l with | .slice _ j _ => j | _ => 0)
    case atStart => exact ⟨n, Nat.le_refl _, rfl, Lib.hid (by rw [HN.out, List.take_length])⟩
    case round =>
      obtain ⟨j, hj, rfl, hv⟩ := hrel
      by_cases h0 : j = 0
      · subst h0
        go_wp2
        go_ret
        exact ⟨_, rfl, rfl, 0, Nat.zero_le _, .inr ⟨b, o, cap, rfl, hb, hr.take 0 (Nat.zero_le _), Nat.zero_le _⟩, .inl rfl, hv.out, fun _ h => h⟩
      · obtain ⟨k, hk⟩ : ∃ k, j = k + 1 := ⟨j - 1, by omega⟩
        have hx := hr.cell k (by have := HN.out; omega)
        have e1 : IntKind.i64.wrap ((j : Int) - 1) = (k : Int) := by rw [show ((j : Int) - 1) = (k : Int) by omega]; exact IntWalk.i64_in _ ⟨by omega, by omega⟩
        have e2 : decide ((0 : Int) < (j : Int)) = true := by simp; omega
        have e3 : (k : Int) < (j : Int) := by omega
        have e4 : k ≤ cap := by omega
        have HK := Lib.hid hk; clear hk
        by_cases hz : gd ds k = 0
        · rw [hz] at hx
          have HZ := Lib.hid hz; clear hz
          go_wp2
          refine ⟨⟨k, by omega, rfl, Lib.hid ?_⟩, by show k < j; omega⟩
          have h1 := dv_take_next ds k
          rw [HZ.out, Nat.mul_zero] at h1
          have h2 : dv (ds.take (k+1)) = dv (ds.take k) := h1
          rw [← h2, ← HK.out]; exact hv.out
        · have hzb : (((gd ds k : Nat) : Int) == 0) = false := beq_eq_false_iff_ne.2 (by omega)
          have HZ := Lib.hid hz; clear hz
          generalize gd ds k = x at hx hzb
          have hl : (ds.take j).length = j := by rw [List.length_take, Nat.min_eq_left (by rw [← HN.out]; exact hj)]
          have hat : IntsAt w (.slice (some ⟨b, o, none⟩) j cap) (ds.take j) := .inr ⟨b, o, cap, by rw [hl], hb, hr.take j (by rw [← HN.out]; exact hj), by rw [hl]; omega⟩
          have HAT := Lib.hid hat; clear hat
          go_wp2
          go_ret
          refine ⟨_, rfl, rfl, j, by rw [← HN.out]; exact hj, HAT.out, .inr ?_, hv.out, fun _ h => h⟩
          rw [hl, HK.out, Nat.add_sub_cancel, gd_take _ _ _ (Nat.lt_succ_self _)]
          exact HZ.out
end Go.Proofs.YtbfplapjjeeceaaGreatDoor
namespace Go.Proofs.YtbfplapjjeeceaaGreatDoor
open Go.RowKit NM
/-- digits that a call has made -/
def DigQ (P : List Nat → Prop) (w : World) (e : Ending) (w' : World) : Prop :=
  ∃ v ds, e = .returned v ∧ IntsAt w' v ds ∧ D24 ds ∧ T24 ds ∧ P ds ∧ Below w.heap.size w w' ∧ From w.heap.size v
theorem From.of_own {w : World} {B : Nat} {t : TypeId} {v : Value} {n : Nat} {xs : List Value} (h : w.ownsRow B t 1 v n xs) : From B v := by
  rcases h.2 with ⟨rfl, _⟩ | ⟨g, cap, cur, rfl, hb, _⟩
  · trivial
  · exact hb
theorem IntsAt.drew {w : World} {v : Value} {ds : List Nat} (h : IntsAt w v ds) : IntsAt w.drew v ds :=
  h.imp id fun ⟨b, o, cap, h1, h2, h3, h4⟩ => ⟨b, o, cap, h1, h2, ⟨h3.cell⟩, h4⟩
theorem one_cell (W : World) (d : Int) (t : TypeId) : ∀ (j : Nat) (u : Value), [Value.int .i64 d][j]? = some u → (W.alloc (.cells #[.int .i64 d] t)).cell? ((⟨W.heap.size, 0, none⟩ : Addr).add j) = some u := by
  intro j u hj
  match j, hj with
  | 0, hj => simp at hj; subst hj; simp [Addr.add]
theorem one_one (d : Int) : ∀ u, u ∈ [Value.int .i64 d] → u.oneCell' = true := by
  intro u hu; simp at hu; subst hu; rfl
set_option maxRecDepth 100000 in
set_option maxHeartbeats 4000000 in
theorem minus_ref (w : World) (v1 v2 : Value) (us vs : List Nat) (h1 : IntsAt w v1 us) (h2 : IntsAt w v2 vs) (Du : D24 us) (Dv : D24 vs) (hn : us.length ≤ 1000000000) (hm : vs.length ≤ 1000000000) (hle : dv vs ≤ dv us) :
    Calls Tryz.prog 163 #[v1, v2] w (DigQ (fun ds => dv ds = dv us - dv vs ∧ ds.length ≤ us.length) w) := by
  obtain ⟨i0, hi, hz0, hz1, hz2⟩ := info_parts infoI
  obtain ⟨pu, cu, rfl, hcu, fu⟩ := h1.form
  obtain ⟨pv, cv, rfl, hcv, fv⟩ := h2.form
  obtain ⟨n, hnl⟩ : ∃ n, n = us.length := ⟨_, rfl⟩
  obtain ⟨m, hml⟩ : ∃ m, m = vs.length := ⟨_, rfl⟩
  rw [← hnl] at hcu fu hn ⊢
  rw [← hml] at hcv fv hm ⊢
  have HF := Lib.hid (And.intro fu fv); clear fu fv h1 h2
  have HN := Lib.hid (And.intro hnl (And.intro hml hle)); clear hnl hml hle
  go_enter Tryz.func163, Tryz.ntmps163
  go_wp2
  go_loopw [5, 6, 7] (fun out br kv wr => ∃ (k bb : Nat) (ds : List Nat) (v : Value), out = v ∧ br = .int .i64 (bb : Nat) ∧ kv = .int .i64 (k : Nat) ∧ k ≤ n ∧ bb ≤ 1 ∧ wr.ownsRow w.heap.size 3 1 v k (iv ds) ∧ Hid (ds.length = k) ∧ Hid (D24 ds) ∧ Hid (dv ds + dv (vs.take k) = dv (us.take k) + bb * C24^k) ∧ Below w.heap.size w wr) (fun _ _ kv _ => n - (intOf kv).toNat)
  case atStart => exact ⟨0, 0, [], _, rfl, rfl, rfl, Nat.zero_le _, by omega, World.ownsRow_nil _ _ _ _, Lib.hid rfl, Lib.hid D24_nil, Lib.hid (by simp [dv]), Below.refl _ _⟩
  case round =>
    obtain ⟨k, bb, ds, v, rfl, rfl, rfl, hk, hbb, hown, hdl, hD, hdv, hB⟩ := hrel
    have hsz := hB.size
    by_cases hlt : k < n
    · obtain ⟨b1, o1, rfl, hb1, r1⟩ := HF.out.1 (by omega)
      have hx := (r1.below hB hb1).cell k (by have := HN.out.1; omega)
      have gx := D24_gd Du k
      have gy := D24_gd Dv k
      have gx' : gd us k < 16777216 := gx
      have gy' : gd vs k < 16777216 := gy
      have key : ∃ (d b2 : Nat), b2 ≤ 1 ∧ d < 16777216 ∧ d + bb + gd vs k = gd us k + b2 * 16777216 ∧ ((b2 = 0 ∧ bb + gd vs k ≤ gd us k) ∨ (b2 = 1 ∧ gd us k < bb + gd vs k)) := by
        by_cases h : bb + gd vs k ≤ gd us k
        · exact ⟨gd us k - (bb + gd vs k), 0, by omega, by omega, by omega, .inl ⟨rfl, h⟩⟩
        · exact ⟨gd us k + 16777216 - (bb + gd vs k), 1, by omega, by omega, by omega, .inr ⟨rfl, by omega⟩⟩
      obtain ⟨d, b2, hb2, hd, heq, hcase⟩ := key
      have hst := rsub_step ds us vs k bb d b2 hdl.out heq hdv.out
      have HST := Lib.hid (And.intro hst hd); clear hst
      by_cases hkm : k < m
      · obtain ⟨b3, o3, rfl, hb3, r3⟩ := HF.out.2 (by omega)
        have hy := (r3.below hB hb3).cell k (by have := HN.out.2.1; omega)
        generalize gd us k = x at *
        generalize gd vs k = y at *
        have e0 : decide ((k : Int) < (m : Int)) = true := by simp; omega
        obtain ⟨d1, hd1⟩ : ∃ d1 : Int, d1 = (x : Int) - (bb : Int) := ⟨_, rfl⟩
        have e1 : IntKind.i64.wrap ((x : Int) - (bb : Int)) = d1 := by rw [hd1]; exact IntWalk.i64_in _ ⟨by omega, by omega⟩
        rcases hcase with ⟨rfl, hc⟩ | ⟨rfl, hc⟩
        · have e2 : IntKind.i64.wrap (d1 - (y : Int)) = (d : Int) := by rw [show d1 - (y : Int) = (d : Int) by omega]; exact IntWalk.i64_in _ ⟨by omega, by omega⟩
          clear hd1 hc heq gx gy gx' gy' hd
          go_wp2_with (at_builtin; refine wpList_append_own _ rfl _ _ 34 rfl w.heap.size 3 i0 (.int .i64 0) 1 8 Tryz.underlying34 hi hz0 hz1 hz2 rfl (by decide) _ _ _ rfl (hown.alloc _) ⟨wr.heap.size, 0, none⟩ 1 1 [.int .i64 (d : Int)] rfl rfl (one_cell _ _ _) (one_one _) ?c3 ?c4 ?c5 ?_)
          case c3 => unfold maxLen; omega
          case c4 => omega
          case c5 => first | omega | (simp; omega)
          intro v' w2 hown' hgrow _
          rw [← iv_snoc] at hown'
          go_wp2
          have z1 : Hid ((ds ++ [d]).length = k + 1) := Lib.hid (by rw [List.length_append, hdl.out]; rfl)
          have z2 : Hid (D24 (ds ++ [d])) := Lib.hid (D24_snoc hD.out HST.out.2)
          have z3 : Below w.heap.size w w2 := (hB.alloc hsz _).grown hgrow (by simp; omega) (fun k hk => (hown.lt k hk).1)
          refine ⟨⟨k + 1, 0, ds ++ [d], v', rfl, ?q1, ?q2, ?q3, ?q4, hown', z1, z2, ?q5, z3⟩, ?q6⟩
          case q1 => rfl
          case q2 => go_num
          case q3 => omega
          case q4 => omega
          case q6 => (simp [intOf]; try omega)
          case q5 => exact Lib.hid HST.out.1
        · obtain ⟨d2, hd2⟩ : ∃ d2 : Int, d2 = d1 - (y : Int) := ⟨_, rfl⟩
          have e2 : IntKind.i64.wrap (d1 - (y : Int)) = d2 := by rw [hd2]; exact IntWalk.i64_in _ ⟨by omega, by omega⟩
          have e3 : decide (d2 < 0) = true := by simp; omega
          have e4 : IntKind.i64.wrap (d2 + 16777216) = (d : Int) := by rw [show d2 + 16777216 = (d : Int) by omega]; exact IntWalk.i64_in _ ⟨by omega, by omega⟩
          clear hd1 hd2 hc heq gx gy gx' gy' hd
          go_wp2_with (at_builtin; refine wpList_append_own _ rfl _ _ 34 rfl w.heap.size 3 i0 (.int .i64 0) 1 8 Tryz.underlying34 hi hz0 hz1 hz2 rfl (by decide) _ _ _ rfl (hown.alloc _) ⟨wr.heap.size, 0, none⟩ 1 1 [.int .i64 (d : Int)] rfl rfl (one_cell _ _ _) (one_one _) ?c3 ?c4 ?c5 ?_)
          case c3 => unfold maxLen; omega
          case c4 => omega
          case c5 => first | omega | (simp; omega)
          intro v' w2 hown' hgrow _
          rw [← iv_snoc] at hown'
          go_wp2
          have z1 : Hid ((ds ++ [d]).length = k + 1) := Lib.hid (by rw [List.length_append, hdl.out]; rfl)
          have z2 : Hid (D24 (ds ++ [d])) := Lib.hid (D24_snoc hD.out HST.out.2)
          have z3 : Below w.heap.size w w2 := (hB.alloc hsz _).grown hgrow (by simp; omega) (fun k hk => (hown.lt k hk).1)
          refine ⟨⟨k + 1, 1, ds ++ [d], v', rfl, ?q1, ?q2, ?q3, ?q4, hown', z1, z2, ?q5, z3⟩, ?q6⟩
          case q1 => rfl
          case q2 => go_num
          case q3 => omega
          case q4 => omega
          case q6 => (simp [intOf]; try omega)
          case q5 => exact Lib.hid HST.out.1
      · have hy0 : gd vs k = 0 := gd_over vs k (by have := HN.out.2.1; omega)
        rw [hy0] at heq hcase
        generalize gd us k = x at *
        have e0 : decide ((k : Int) < (m : Int)) = false := by simp; omega
        rcases hcase with ⟨rfl, hc⟩ | ⟨rfl, hc⟩
        · have e1 : IntKind.i64.wrap ((x : Int) - (bb : Int)) = (d : Int) := by rw [show (x : Int) - (bb : Int) = (d : Int) by omega]; exact IntWalk.i64_in _ ⟨by omega, by omega⟩
          clear hc heq gx gy gx' gy' hd hy0
          go_wp2_with (at_builtin; refine wpList_append_own _ rfl _ _ 34 rfl w.heap.size 3 i0 (.int .i64 0) 1 8 Tryz.underlying34 hi hz0 hz1 hz2 rfl (by decide) _ _ _ rfl (hown.alloc _) ⟨wr.heap.size, 0, none⟩ 1 1 [.int .i64 (d : Int)] rfl rfl (one_cell _ _ _) (one_one _) ?c3 ?c4 ?c5 ?_)
          case c3 => unfold maxLen; omega
          case c4 => omega
          case c5 => first | omega | (simp; omega)
          intro v' w2 hown' hgrow _
          rw [← iv_snoc] at hown'
          go_wp2
          have z1 : Hid ((ds ++ [d]).length = k + 1) := Lib.hid (by rw [List.length_append, hdl.out]; rfl)
          have z2 : Hid (D24 (ds ++ [d])) := Lib.hid (D24_snoc hD.out HST.out.2)
          have z3 : Below w.heap.size w w2 := (hB.alloc hsz _).grown hgrow (by simp; omega) (fun k hk => (hown.lt k hk).1)
          refine ⟨⟨k + 1, 0, ds ++ [d], v', rfl, ?q1, ?q2, ?q3, ?q4, hown', z1, z2, ?q5, z3⟩, ?q6⟩
          case q1 => rfl
          case q2 => go_num
          case q3 => omega
          case q4 => omega
          case q6 => (simp [intOf]; try omega)
          case q5 => exact Lib.hid HST.out.1
        · obtain ⟨d2, hd2⟩ : ∃ d2 : Int, d2 = (x : Int) - (bb : Int) := ⟨_, rfl⟩
          have e1 : IntKind.i64.wrap ((x : Int) - (bb : Int)) = d2 := by rw [hd2]; exact IntWalk.i64_in _ ⟨by omega, by omega⟩
          have e3 : decide (d2 < 0) = true := by simp; omega
          have e4 : IntKind.i64.wrap (d2 + 16777216) = (d : Int) := by rw [show d2 + 16777216 = (d : Int) by omega]; exact IntWalk.i64_in _ ⟨by omega, by omega⟩
          clear hd2 hc heq gx gy gx' gy' hd hy0
          go_wp2_with (at_builtin; refine wpList_append_own _ rfl _ _ 34 rfl w.heap.size 3 i0 (.int .i64 0) 1 8 Tryz.underlying34 hi hz0 hz1 hz2 rfl (by decide) _ _ _ rfl (hown.alloc _) ⟨wr.heap.size, 0, none⟩ 1 1 [.int .i64 (d : Int)] rfl rfl (one_cell _ _ _) (one_one _) ?c3 ?c4 ?c5 ?_)
          case c3 => unfold maxLen; omega
          case c4 => omega
          case c5 => first | omega | (simp; omega)
          intro v' w2 hown' hgrow _
          rw [← iv_snoc] at hown'
          go_wp2
          have z1 : Hid ((ds ++ [d]).length = k + 1) := Lib.hid (by rw [List.length_append, hdl.out]; rfl)
          have z2 : Hid (D24 (ds ++ [d])) := Lib.hid (D24_snoc hD.out HST.out.2)
          have z3 : Below w.heap.size w w2 := (hB.alloc hsz _).grown hgrow (by simp; omega) (fun k hk => (hown.lt k hk).1)
          refine ⟨⟨k + 1, 1, ds ++ [d], v', rfl, ?q1, ?q2, ?q3, ?q4, hown', z1, z2, ?q5, z3⟩, ?q6⟩
          case q1 => rfl
          case q2 => go_num
          case q3 => omega
          case q4 => omega
          case q6 => (simp [intOf]; try omega)
          case q5 => exact Lib.hid HST.out.1
    · obtain rfl : k = n := by omega
      have hfin := sub_end ds us vs k bb HN.out.1.symm hdl.out hD.out Du HN.out.2.2 hdv.out
      have hat : IntsAt wr u5 ds := IntsAt.of_own (by have := hdl.out; rw [this]; exact hown)
      have hT := trim_ref wr u5 ds hat (by have := hdl.out; omega)
      have HT := Lib.hid hT; have HFin := Lib.hid hfin; clear hT hfin hat
      go_wp2_with fail
      refine HT.out.mono ?_
      rintro e w3 ⟨v3, rfl, rfl, j, hj, hat, htr, hdd, hfr⟩
      go_wp2
      go_ret
      exact ⟨_, _, rfl, hat, D24_take hD.out j, htr, ⟨by rw [hdd, HFin.out], by rw [List.length_take]; have := hdl.out; omega⟩, hB, hfr _ (From.of_own hown)⟩
end Go.Proofs.YtbfplapjjeeceaaGreatDoor
namespace Go.Proofs.YtbfplapjjeeceaaGreatDoor
open Go.RowKit NM
set_option maxRecDepth 100000 in
set_option maxHeartbeats 4000000 in
theorem times_ref (w : World) (v1 : Value) (us : List Nat) (y : Nat) (h1 : IntsAt w v1 us) (Du : D24 us) (hn : us.length ≤ 1000000000) (hy : y < C24) :
    Calls Tryz.prog 164 #[v1, .int .i64 (y : Nat)] w (DigQ (fun ds => dv ds = dv us * y ∧ ds.length ≤ us.length + 1) w) := by
  obtain ⟨i0, hi, hz0, hz1, hz2⟩ := info_parts infoI
  obtain ⟨pu, cu, rfl, hcu, fu⟩ := h1.form
  obtain ⟨n, hnl⟩ : ∃ n, n = us.length := ⟨_, rfl⟩
  rw [← hnl] at hcu fu hn ⊢
  have HF := Lib.hid fu; clear fu h1
  have HN := Lib.hid hnl; clear hnl
  have hy' : y < 16777216 := hy
  have HY := Lib.hid hy; clear hy
  go_enter Tryz.func164, Tryz.ntmps164
  go_wp2
  go_loopw [5, 6, 7] (fun out cr kv wr => ∃ (k c : Nat) (ds : List Nat) (v : Value), out = v ∧ cr = .int .i64 (c : Nat) ∧ kv = .int .i64 (k : Nat) ∧ k ≤ n ∧ c < 16777216 ∧ wr.ownsRow w.heap.size 3 1 v k (iv ds) ∧ Hid (ds.length = k) ∧ Hid (D24 ds) ∧ Hid (dv ds + c * C24^k = dv (us.take k) * y) ∧ Below w.heap.size w wr) (fun _ _ kv _ => n - (intOf kv).toNat)
  case atStart => exact ⟨0, 0, [], _, rfl, rfl, rfl, Nat.zero_le _, by omega, World.ownsRow_nil _ _ _ _, Lib.hid rfl, Lib.hid D24_nil, Lib.hid (by simp [dv]), Below.refl _ _⟩
  case round =>
    obtain ⟨k, c, ds, v, rfl, rfl, rfl, hk, hc, hown, hdl, hD, hdv, hB⟩ := hrel
    have hsz := hB.size
    by_cases hlt : k < n
    · obtain ⟨b1, o1, rfl, hb1, r1⟩ := HF.out (by omega)
      have hx := (r1.below hB hb1).cell k (by have := HN.out; omega)
      have gx : gd us k < 16777216 := D24_gd Du k
      have hst := times_step ds us k c y _ hdl.out rfl hdv.out
      have hlt2 := times_lt (gd us k) y c gx HY.out hc
      generalize gd us k = x at *
      obtain ⟨p, hp⟩ : ∃ p, p = x * y := ⟨_, rfl⟩
      rw [← hp] at hst hlt2
      obtain ⟨s, hs⟩ : ∃ s, s = p + c := ⟨_, rfl⟩
      rw [← hs] at hst hlt2
      have hsb : s < 281474976710656 := hlt2.1
      obtain ⟨r, hr⟩ : ∃ r, r = s % C24 := ⟨_, rfl⟩
      obtain ⟨q, hq⟩ : ∃ q, q = s / C24 := ⟨_, rfl⟩
      rw [← hr, ← hq] at hst
      have hq2 : q < 16777216 := by rw [hq]; exact hlt2.2
      have hr2 : r < C24 := by rw [hr]; exact Nat.mod_lt _ C24_pos
      have hr' : r = s % 16777216 := hr
      have hq' : q = s / 16777216 := hq
      have x1 : IntKind.i64.wrap ((x : Int) * (y : Int)) = (p : Int) := by rw [hp, ← Int.natCast_mul]; exact IntWalk.i64_in _ ⟨by omega, by omega⟩
      have x2 : IntKind.i64.wrap ((p : Int) + (c : Int)) = (s : Int) := by rw [hs]; exact IntWalk.i64_in _ ⟨by omega, by omega⟩
      have x3 : (s : Int) % 16777216 = (r : Int) := by omega
      have x4 : (s : Int) / 16777216 = (q : Int) := by omega
      have HST := Lib.hid (And.intro hst hr2); clear hst hr2
      clear hlt2 hr hq hr' hq' hp hs gx
      go_wp2_with (at_builtin; refine wpList_append_own _ rfl _ _ 34 rfl w.heap.size 3 i0 (.int .i64 0) 1 8 Tryz.underlying34 hi hz0 hz1 hz2 rfl (by decide) _ _ _ rfl (hown.alloc _) ⟨wr.heap.size, 0, none⟩ 1 1 [.int .i64 (r : Int)] rfl rfl (one_cell _ _ _) (one_one _) ?c3 ?c4 ?c5 ?_)
      case c3 => unfold maxLen; omega
      case c4 => omega
      case c5 => first | omega | (simp; omega)
      intro v' w2 hown' hgrow _
      rw [← iv_snoc] at hown'
      go_wp2
      have z1 : Hid ((ds ++ [r]).length = k + 1) := Lib.hid (by rw [List.length_append, hdl.out]; rfl)
      have z2 : Hid (D24 (ds ++ [r])) := Lib.hid (D24_snoc hD.out HST.out.2)
      have z3 : Below w.heap.size w w2 := (hB.alloc hsz _).grown hgrow (by simp; omega) (fun k hk => (hown.lt k hk).1)
      refine ⟨⟨k + 1, q, ds ++ [r], v', rfl, ?q1, ?q2, ?q3, ?q4, hown', z1, z2, ?q5, z3⟩, ?q6⟩
      case q1 => rfl
      case q2 => go_num
      case q3 => omega
      case q4 => exact hq2
      case q6 => (simp [intOf]; try omega)
      case q5 => exact Lib.hid HST.out.1
    · obtain rfl : k = n := by omega
      have hfin : dv (ds ++ [c]) = dv us * y := by
        have h := hdv.out
        rw [dv_take_all us k (by rw [← HN.out]; exact Nat.le_refl _)] at h
        rw [dv_snoc, hdl.out, Nat.mul_comm]; exact h
      have hDc : D24 (ds ++ [c]) := D24_snoc hD.out hc
      have hlen : (ds ++ [c]).length = k + 1 := by rw [List.length_append, hdl.out]; rfl
      have HFin := Lib.hid (And.intro hfin (And.intro hDc hlen)); clear hfin hDc hlen
      go_wp2_with (at_builtin; refine wpList_append_own _ rfl _ _ 34 rfl w.heap.size 3 i0 (.int .i64 0) 1 8 Tryz.underlying34 hi hz0 hz1 hz2 rfl (by decide) _ _ _ rfl (hown.alloc _) ⟨wr.heap.size, 0, none⟩ 1 1 [.int .i64 (c : Int)] rfl rfl (one_cell _ _ _) (one_one _) ?c3 ?c4 ?c5 ?_)
      case c3 => unfold maxLen; omega
      case c4 => omega
      case c5 => first | omega | (simp; omega)
      intro v' w2 hown' hgrow _
      rw [← iv_snoc] at hown'
      have z3 : Below w.heap.size w w2 := (hB.alloc hsz _).grown hgrow (by simp; omega) (fun k hk => (hown.lt k hk).1)
      have hat : IntsAt w2 v' (ds ++ [c]) := IntsAt.of_own (by have := HFin.out.2.2; rw [this]; exact hown')
      have HT := Lib.hid (trim_ref w2 v' (ds ++ [c]) hat (by have := HFin.out.2.2; omega)); clear hat
      have HFR := Lib.hid (From.of_own hown')
      clear hown hown' hgrow hB
      go_wp2_with fail
      refine HT.out.mono ?_
      rintro e w3 ⟨v3, rfl, rfl, j, hj, hat, htr, hdd, hfr⟩
      go_wp2
      go_ret
      exact ⟨_, _, rfl, hat, D24_take HFin.out.2.1 j, htr, ⟨by rw [hdd, HFin.out.1], by rw [List.length_take]; have := HFin.out.2.2; omega⟩, z3, hfr _ HFR.out⟩
/-- the order of two numbers in digits, by a sign -/
def CmpI (us vs : List Nat) (w : World) (e : Ending) (w' : World) : Prop :=
  ∃ z : Int, e = .returned (.int .i64 z) ∧ (z < 0 ↔ dv us < dv vs) ∧ (0 < z ↔ dv vs < dv us) ∧ Quiet w w'
theorem Quiet.ints {u w : World} (h : Quiet u w) {v : Value} {ds : List Nat} (k : IntsAt u v ds) : IntsAt w v ds := k.below (h.below _)
theorem Quiet.rowI {u w : World} (h : Quiet u w) {b o : Nat} {X : List Nat} (r : RowI u b o X) : RowI w b o X :=
  ⟨fun j hj => (World.cell?_of_block (by rw [h.heap])).trans (r.cell j hj)⟩
set_option maxRecDepth 100000 in
set_option maxHeartbeats 2000000 in
theorem cmp_ref (w : World) (v1 v2 : Value) (us vs : List Nat) (h1 : IntsAt w v1 us) (h2 : IntsAt w v2 vs) (Du : D24 us) (Dv : D24 vs) (Tu : T24 us) (Tv : T24 vs) (hn : us.length ≤ 1000000001) (hm : vs.length ≤ 1000000001) :
    Calls Tryz.prog 161 #[v1, v2] w (CmpI us vs w) := by
  obtain ⟨pu, cu, rfl, hcu, fu⟩ := h1.form
  obtain ⟨pv, cv, rfl, hcv, fv⟩ := h2.form
  by_cases hl : us.length = vs.length
  · obtain ⟨n, hXn⟩ : ∃ n, n = us.length := ⟨_, rfl⟩
    have hYn : n = vs.length := by omega
    rw [← hXn] at hcu fu hn ⊢
    rw [← hYn] at hcv fv hm ⊢
    have HF := Lib.hid (And.intro fu fv); clear fu fv h1 h2 Tu Tv
    have HX := Lib.hid hXn; have HY := Lib.hid hYn; clear hXn hYn hl
    go_enter Tryz.func161, Tryz.ntmps161
    go_wp2
    go_loopw [5] (fun i wr => ∃ k : Nat, k ≤ n ∧ i = .int .i64 ((k : Int) - 1) ∧ Hid (dv (us.drop k) = dv (vs.drop k)) ∧ Quiet w wr) (fun i _ => (intOf i + 1).toNat)
    case atStart => exact ⟨n, Nat.le_refl _, rfl, Lib.hid (by rw [List.drop_eq_nil_of_le (by rw [← HX.out]; exact Nat.le_refl _), List.drop_eq_nil_of_le (by rw [← HY.out]; exact Nat.le_refl _)]), Quiet.refl _⟩
    case round =>
      obtain ⟨k, hk, rfl, HD, hq⟩ := hrel
      by_cases h0 : k = 0
      · subst h0
        go_wp2
        go_ret
        have := HD.out
        simp only [List.drop_zero] at this
        exact ⟨0, rfl, by omega, by omega, hq⟩
      · obtain ⟨m, rfl⟩ : ∃ m, k = m + 1 := ⟨k - 1, by omega⟩
        rw [show (((m + 1 : Nat) : Int) - 1) = (m : Int) by omega]
        obtain ⟨b1, o1, rfl, hb1, r1⟩ := HF.out.1 (by omega)
        obtain ⟨b2, o2, rfl, hb2, r2⟩ := HF.out.2 (by omega)
        have hx := (hq.rowI r1).cell m (by have := HX.out; omega)
        have hy := (hq.rowI r2).cell m (by have := HY.out; omega)
        have gx : gd us m < 16777216 := D24_gd Du m
        have gy : gd vs m < 16777216 := D24_gd Dv m
        have HQ := Lib.hid hq; clear hq
        have HR := Lib.hid (And.intro r1 r2); clear r1 r2
        have hmn : m < n := by omega
        have lo := dv_lt_at us vs m n HX.out.symm HY.out.symm hmn Du HD.out
        have hi := dv_lt_at vs us m n HY.out.symm HX.out.symm hmn Dv HD.out.symm
        have eq := drop_step us vs m n HX.out.symm HY.out.symm hmn HD.out
        generalize gd us m = x at *
        generalize gd vs m = y at *
        by_cases h : x = y
        · subst h
          have HE := Lib.hid (eq rfl); clear eq lo hi
          go_wp2
          go_region
          all_goals go_wp2
          all_goals go_roundw
          case rel => exact ⟨m, by omega, rfl, HE, HQ.out.drew⟩
          case measure => (simp [intOf]; try omega)
        · have hne : ((x : Int) != (y : Int)) = true := by simp; omega
          have hne2 : (x != y) = true := by simp; omega
          have hne3 : ((x : Int) == (y : Int)) = false := beq_eq_false_iff_ne.2 (by omega)
          obtain ⟨z, hz⟩ : ∃ z : Int, z = (x : Int) - (y : Int) := ⟨_, rfl⟩
          have ew : IntKind.i64.wrap ((x : Int) - (y : Int)) = z := by rw [hz]; exact IntWalk.i64_in _ ⟨by omega, by omega⟩
          have key : (z < 0 ↔ dv us < dv vs) ∧ (0 < z ↔ dv vs < dv us) := by
            rcases Nat.lt_or_gt_of_ne h with h3 | h3
            · have := lo h3; constructor <;> constructor <;> omega
            · have := hi h3; constructor <;> constructor <;> omega
          have HK := Lib.hid key; clear key lo hi eq hz h
          go_wp2
          go_region
          all_goals go_wp2
          all_goals go_region
          all_goals go_wp2
          all_goals go_ret
          all_goals exact ⟨z, rfl, HK.out.1, HK.out.2, HQ.out.drew.drew⟩
  · have hne : ((us.length : Int) == (vs.length : Int)) = false := by simp; omega
    obtain ⟨z, hz⟩ : ∃ z : Int, z = (us.length : Int) - (vs.length : Int) := ⟨_, rfl⟩
    have ew : IntKind.i64.wrap ((us.length : Int) - (vs.length : Int)) = z := by rw [hz]; exact IntWalk.i64_in _ ⟨by omega, by omega⟩
    have key : (z < 0 ↔ dv us < dv vs) ∧ (0 < z ↔ dv vs < dv us) := by
      rcases Nat.lt_or_gt_of_ne hl with h | h
      · have := T24_lt Du Tv h; constructor <;> constructor <;> omega
      · have := T24_lt Dv Tu h; constructor <;> constructor <;> omega
    generalize us.length = n at *
    generalize vs.length = m at *
    have HK := Lib.hid key; clear key hz
    go_enter Tryz.func161, Tryz.ntmps161
    go_wp2
    go_ret
    exact ⟨z, rfl, HK.out.1, HK.out.2, Quiet.refl _⟩
end Go.Proofs.YtbfplapjjeeceaaGreatDoor
namespace Go.Proofs.YtbfplapjjeeceaaGreatDoor
open Go.RowKit NM
theorem sv_lt_size (s : ByteArray) : sv s < 256^s.size := by
  have h := bv_lt s.data.toList
  rwa [show s.data.toList.length = s.size from Array.length_toList] at h
end Go.Proofs.YtbfplapjjeeceaaGreatDoor
namespace Go.Proofs.YtbfplapjjeeceaaGreatDoor
open Go.RowKit NM
set_option maxRecDepth 100000 in
set_option maxHeartbeats 1000000 in
theorem RefNum_any (w : World) (v : Value) (ds : List Nat) (h : IntsAt w v ds) (hD : D24 ds) (hl : ds.length ≤ 1000000000) :
    Calls Tryz.prog 165 #[v] w fun e w' => e = .returned (.string (NB (dv ds))) ∧ Below w.heap.size w w' := by
  rcases h with ⟨rfl, rfl⟩ | ⟨b, o, cap, rfl, hb, hr, hc⟩
  · have hcv := run_convert_bytes_nil (P := Tryz.prog) w 33 5 Tryz.underlying33 Tryz.underlying5 0 0 147 Tryz.underlying147
    go_enter Tryz.func165, Tryz.ntmps165
    go_wp2_with fail
    go_loop [3, 4] (fun b k => b = .slice none 0 0 ∧ k = .int .i64 (-1)) (fun _ _ => 0)
    case atStart => exact ⟨rfl, rfl⟩
    case round =>
      obtain ⟨rfl, rfl⟩ := hrel
      go_wp2_with fail
      refine (Canon_any _ ByteArray.empty (by decide)).mono ?_
      rintro e w1 ⟨rfl, rfl⟩
      go_wp2
      go_ret
      exact ⟨by rw [tz_NB]; rfl, Below.refl _ _⟩
  · exact RefNum_row w b o cap ds hb hr hc hD hl
end Go.Proofs.YtbfplapjjeeceaaGreatDoor
