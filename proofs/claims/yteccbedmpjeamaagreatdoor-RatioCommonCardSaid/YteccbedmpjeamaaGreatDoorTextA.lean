/-
  Decimal texts in pieces of 19 digits.
  The walk of nat.Text, all numbers that are not 0.
-/
import Derived.Test.YteccbedmpjeamaaGreatDoorParseA
import Derived.Test.YteccbedmpjeamaaGreatDoorGcdB
import Derived.Lib.ItoaNum
import Derived.Test.YteccbedmpjeamaaGreatDoorRefText
namespace Go.Proofs.YteccbedmpjeamaaGreatDoor
open Go.RowKit NM
def PP : Nat := 10000000000000000000
/-- the value of pieces, the lowest first -/
def pv : List Nat → Nat
  | [] => 0
  | x :: xs => x + PP * pv xs
theorem pv_append (a b : List Nat) : pv (a ++ b) = pv a + PP^a.length * pv b := by
  induction a with
  | nil => simp [pv]
  | cons x xs ih =>
    rw [List.cons_append, pv, pv, ih, List.length_cons, Nat.pow_succ, Nat.mul_add, Nat.mul_comm (PP^xs.length) PP, Nat.mul_assoc]; omega
theorem pv_snoc (a : List Nat) (d : Nat) : pv (a ++ [d]) = pv a + PP^a.length * d := by rw [pv_append]; simp [pv]
theorem pv_drop (l : List Nat) (k : Nat) (h : k < l.length) : pv (l.drop k) = gd l k + PP * pv (l.drop (k+1)) := by
  rw [List.drop_eq_getElem_cons h, pv]
  unfold gd
  rw [List.getD_eq_getElem?_getD, List.getElem?_eq_getElem h]; rfl
/-- exactly k digits -/
def padk : Nat → Nat → List UInt8
  | 0, _ => []
  | k+1, p => padk k (p / 10) ++ [UInt8.ofNat (48 + p % 10)]
theorem dec_pad (k : Nat) : ∀ p q, 0 < q → p < 10^k → Lib.decDigits (p + 10^k * q) = Lib.decDigits q ++ padk k p := by
  induction k with
  | zero => intro p q hq hp; simp at hp; subst hp; simp [padk]
  | succ k ih =>
    intro p q hq hp
    have h10 : ¬ p + 10^(k+1) * q < 10 := by
      have h1 : 1 ≤ 10^k * q := Nat.mul_pos (Nat.pow_pos (by omega)) hq
      rw [Nat.pow_succ, Nat.mul_comm (10^k) 10, Nat.mul_assoc]; omega
    rw [Lib.decDigits, dif_neg h10]
    have e1 : (p + 10^(k+1) * q) / 10 = p / 10 + 10^k * q := by
      rw [Nat.pow_succ, Nat.mul_comm (10^k) 10, Nat.mul_assoc]; omega
    have e2 : (p + 10^(k+1) * q) % 10 = p % 10 := by
      rw [Nat.pow_succ, Nat.mul_comm (10^k) 10, Nat.mul_assoc]; omega
    rw [e1, e2, ih (p / 10) q hq (by rw [Nat.pow_succ] at hp; omega), padk, List.append_assoc]
theorem padk_zero (k : Nat) : padk k 0 = List.replicate k 48 := by
  induction k with
  | zero => rfl
  | succ k ih => rw [padk, Nat.zero_div, ih, List.replicate_succ']; rfl
theorem padk_eq (k : Nat) : ∀ p, 1 ≤ k → p < 10^k → (Lib.decDigits p).length ≤ k ∧ padk k p = List.replicate (k - (Lib.decDigits p).length) 48 ++ Lib.decDigits p := by
  induction k with
  | zero => intro p h; omega
  | succ k ih =>
    intro p _ hp
    by_cases h : p < 10
    · rw [Lib.decDigits_one h, padk, Nat.div_eq_of_lt h, padk_zero, Nat.mod_eq_of_lt h]
      exact ⟨by simp, by simp⟩
    · have hk : 1 ≤ k := by
        rcases Nat.eq_zero_or_pos k with h0 | h0
        · subst h0; simp at hp; omega
        · exact h0
      obtain ⟨i1, i2⟩ := ih (p / 10) hk (by rw [Nat.pow_succ] at hp; omega)
      have hdec : Lib.decDigits p = Lib.decDigits (p / 10) ++ [UInt8.ofNat (48 + p % 10)] := by
        conv => lhs; rw [Lib.decDigits, dif_neg h]
      rw [hdec, List.length_append, List.length_singleton]
      refine ⟨by omega, ?_⟩
      rw [padk, i2, List.append_assoc, Nat.add_sub_add_right]
theorem PP_eq : PP = 10^19 := by decide
/-- one more piece of a text -/
theorem text_step (p q : Nat) (hq : 0 < q) (hp : p < PP) : (Lib.decDigits p).length ≤ 19 ∧ Lib.decDigits (p + PP * q) = Lib.decDigits q ++ (List.replicate (19 - (Lib.decDigits p).length) 48 ++ Lib.decDigits p) := by
  rw [PP_eq] at hp ⊢
  obtain ⟨h1, h2⟩ := padk_eq 19 p (by omega) hp
  exact ⟨h1, by rw [dec_pad 19 p q hq hp, h2]⟩
theorem own_only {b lo hi : Nat} {w W : World} {B : Nat} {t : TypeId} {v : Value} {n : Nat} {xs : List Value} (h : w.ownsRow B t 1 v n xs) (ho : Only b lo hi w W) (hb : b < B) : W.ownsRow B t 1 v n xs := by
  refine ⟨h.1, h.2.imp id fun ⟨g, cap, cur, h1, h2, h3, h4⟩ => ⟨g, cap, cur, h1, h2, ?_, h4⟩⟩
  rw [ho.blk g (by omega) (Array.getElem?_eq_some_iff.1 h3).1]; exact h3
end Go.Proofs.YteccbedmpjeamaaGreatDoor
namespace Go.Proofs.YteccbedmpjeamaaGreatDoor
open Go.RowKit NM
theorem rep48 (c : Nat) : Lib.repeatL [48] c = List.replicate c 48 := by
  induction c with
  | zero => rfl
  | succ c ih => rw [Lib.repeatL, ih, List.replicate_succ]; rfl
theorem builder_below {B b : Nat} {p : Value} {bs : List Value} {w W : World} (h : Lib.BuilderAt tB t8 B b p bs w) (hb : Below w.heap.size w W) : Lib.BuilderAt tB t8 B b p bs W := by
  have hlt := h.lt
  obtain ⟨h1, v, h2, h3, h4⟩ := h
  exact ⟨h1, v, (hb.block b hlt).trans h2, own_below h3 hb, h4⟩
theorem pv_lt (l : List Nat) (h : ∀ x ∈ l, x < PP) : pv l < PP^l.length := by
  induction l with
  | nil => simp [pv]
  | cons x xs ih =>
    have h1 := ih (fun y hy => h y (List.mem_cons_of_mem _ hy))
    have h2 := h x (List.mem_cons_self ..)
    rw [pv, List.length_cons, Nat.pow_succ]
    have h3 : PP * (pv xs + 1) ≤ PP * PP^xs.length := Nat.mul_le_mul_left _ h1
    rw [Nat.mul_comm (PP^xs.length)]
    rw [Nat.mul_add] at h3
    omega
theorem pv_len (ps : List Nat) (j n : Nat) (h : ∀ x ∈ ps, x < PP) (hn : ps.length ≤ n) : (Lib.decDigits (pv (ps.drop j))).length ≤ 19 * n + 1 := by
  refine dec_len _ _ (by omega) ?_
  have h1 := pv_lt (ps.drop j) (fun x hx => h x (List.mem_of_mem_drop hx))
  rw [PP_eq, ← Nat.pow_mul] at h1
  refine Nat.lt_of_lt_of_le h1 (Nat.pow_le_pow_right (by omega) ?_)
  rw [List.length_drop]; omega
/-- the pieces made so far, and what is left -/
structure TSt (N b0 nX c0 : Nat) (w w1 wr : World) (L ps : List Nat) (v : Value) : Prop where
  rl : Row wr b0 0 L
  wl : Wd L
  tl : Tr L
  ll : L.length ≤ nX
  own : wr.ownsRow w1.heap.size 95 1 v ps.length (uv ps)
  pp : ∀ x ∈ ps, x < PP
  val : N = pv ps + PP^ps.length * wv L
  top : wv L ≠ 0 ∨ ∃ qs x, ps = qs ++ [x] ∧ x ≠ 0
  bl : Below w.heap.size w wr
  sz : w1.heap.size ≤ wr.heap.size
  pl : ps.length ≤ 100001
theorem pieces_few {a : ByteArray} {k l p : Nat} (hl : l ≠ 0) (h : p + PP^k * l = sv a) (ha : a.size ≤ 100000) : k < 100001 := by
  have h1 := sv_lt_size a
  have h2 : PP^k ≤ PP^k * l := Nat.le_mul_of_pos_right _ (Nat.pos_of_ne_zero hl)
  have h3 : 256^k ≤ PP^k := Nat.pow_le_pow_left (by decide) _
  apply Nat.lt_of_not_le; intro h4
  have h5 : 256^a.size ≤ 256^k := Nat.pow_le_pow_right (by omega) (by omega)
  omega
set_option maxRecDepth 100000 in
set_option maxHeartbeats 8000000 in
theorem Text_any (w : World) (a : ByteArray) (ha : a.size ≤ 100000) (h0 : sv a ≠ 0) (hg : 4 < w.heap.size) (ht : P10 w) :
    Calls Tryz.prog 59 #[.string a] w fun e w' => e = .returned (.string (dtext (sv a))) ∧ Below w.heap.size w w' := by
  obtain ⟨i0, hi, hz0, hz1, hz2⟩ := info_parts info64
  obtain ⟨N, hN⟩ : ∃ N, N = sv a := ⟨_, rfl⟩
  rw [← hN] at h0 ⊢
  have HN := Lib.hid (And.intro hN h0); clear hN h0
  go_enter Tryz.func59, Tryz.ntmps59
  go_wp2_with fail
  refine (words_any _ a (by omega)).mono ?_
  rintro e w1 ⟨X, oX, vX, tX, bX, lX, rfl⟩
  replace vX : wv X = sv a := vX
  have hwl := words_len lX (show a.size ≤ 4294967296 by omega)
  have hlt := oX.lt
  have hs1 := bX.size
  have st0 : TSt N w.heap.size X.length X.length w w1 w1 X [] (.slice none 0 0) :=
    ⟨oX.row, oX.wd, tX, Nat.le_refl _, World.ownsRow_nil _ _ _ _, (fun x hx => by cases hx), by simp [pv]; rw [vX, HN.out.1], .inl (by rw [vX, ← HN.out.1]; exact HN.out.2), bX, Nat.le_refl _, Nat.zero_le _⟩
  obtain ⟨nX, hnX⟩ : ∃ n, n = X.length := ⟨_, rfl⟩
  rw [← hnX] at st0 ⊢
  have HX := Lib.hid hnX
  have HS0 := Lib.hid st0; clear st0 oX tX lX vX
  obtain ⟨b0, hb0⟩ : ∃ b, b = w.heap.size := ⟨_, rfl⟩
  rw [← hb0] at HS0
  rw [← hb0]
  rw [← hnX] at hwl
  have HB0 := Lib.hid hb0
  have hb1 : b0 < w1.heap.size := by omega
  clear hnX hb0 hlt
  go_wp2_with fail
  go_loopw [4, 3] (fun lv pw wr => ∃ (kl : Nat) (L ps : List Nat) (v : Value), lv = .slice (some ⟨b0, 0, none⟩) kl nX ∧ pw = v ∧ Hid (kl = L.length) ∧ Hid (TSt N b0 nX nX w w1 wr L ps v)) (fun lv _ wr => rvl wr lv)
  case atStart => exact ⟨nX, X, [], _, rfl, rfl, HX, HS0⟩
  case round =>
    clear HS0
    obtain ⟨kl, L, ps, v, rfl, rfl, hkl, hS⟩ := hrel
    by_cases hk0 : kl = 0
    · subst hk0
      have hL : L = [] := List.length_eq_zero_iff.1 hkl.out.symm
      subst hL
      have hval : N = pv ps := by have := hS.out.val; simpa [wv] using this
      obtain ⟨qs, x, hps, hx0⟩ : ∃ qs x, ps = qs ++ [x] ∧ x ≠ 0 := by
        rcases hS.out.top with h | h
        · exact absurd rfl h
        · exact h
      obtain ⟨m, hm⟩ : ∃ m, m = qs.length := ⟨_, rfl⟩
      have hml : ps.length = m + 1 := by rw [hps, List.length_append, hm]; rfl
      obtain ⟨g, cap, hu, hbg, hgl⟩ := hS.out.own.form (by omega)
      subst hu
      have hrow := row_uv hS.out.own rfl
      have hpp := hS.out.pp
      have hBw := hS.out.bl
      have hm1 : m ≤ 100000 := by have := hS.out.pl; omega
      -- what the pieces from j on say
      have hpos : ∀ j, j ≤ m → 0 < pv (ps.drop j) := fun j hj => by
        have h1 : ps.drop j = qs.drop j ++ [x] := by rw [hps, List.drop_append_of_le_length (by omega)]
        rw [h1, pv_snoc]
        have h2 : 1 ≤ PP^(qs.drop j).length := Nat.pow_pos (by decide)
        have h3 := Nat.mul_le_mul h2 (show 1 ≤ x by omega)
        omega
      have hstep : ∀ j, j < m → (Lib.decDigits (gd ps j)).length ≤ 19 ∧ Lib.decDigits (pv (ps.drop j)) = Lib.decDigits (pv (ps.drop (j+1))) ++ (List.replicate (19 - (Lib.decDigits (gd ps j)).length) 48 ++ Lib.decDigits (gd ps j)) := fun j hj => by
        rw [pv_drop ps j (by omega)]
        exact text_step _ _ (hpos (j+1) (by omega)) (hpp _ (by
          unfold gd; rw [List.getD_eq_getElem?_getD, List.getElem?_eq_getElem (by omega)]; exact List.getElem_mem _))
      have hlast : pv (ps.drop m) = gd ps m := by
        rw [pv_drop ps m (by omega), List.drop_eq_nil_of_le (by omega)]; rfl
      have hfirst : pv (ps.drop 0) = N := by rw [List.drop_zero, hval]
      have hgd : ∀ j, gd ps j < 18446744073709551616 := fun j => by
        by_cases h : j < ps.length
        · have : gd ps j < PP := hpp _ (by unfold gd; rw [List.getD_eq_getElem?_getD, List.getElem?_eq_getElem h]; exact List.getElem_mem _)
          have h2 : PP < 18446744073709551616 := by decide
          omega
        · have : gd ps j = 0 := by unfold gd; rw [List.getD_eq_getElem?_getD, List.getElem?_eq_none (by omega)]; rfl
          omega
      have HP := Lib.hid (And.intro hpos (And.intro hstep (And.intro hlast (And.intro hfirst (And.intro hgd (And.intro hml hpp)))))); clear hpos hstep hlast hfirst hgd hpp hval hx0 hps
      have HM := Lib.hid hm
      obtain ⟨np, hnp⟩ : ∃ np, np = ps.length := ⟨_, rfl⟩
      rw [← hnp]
      rw [← hnp] at hml
      have hne0 : ((np : Int) == 0) = false := beq_eq_false_iff_ne.2 (by omega)
      have xnp : IntKind.i64.wrap ((np : Int) - 1) = (m : Int) := by rw [show ((np : Int) - 1) = (m : Int) by omega]; exact IntWalk.i64_in _ ⟨by omega, by omega⟩
      have HNP := Lib.hid hml
      clear hml hm hnp
      have hal : Below wr.heap.size wr (wr.alloc (.cells #[.pointer none, .slice none 0 0] 100)) := (Below.refl _ wr).alloc (Nat.le_refl _) _
      have hb9 : (wr.alloc (.cells #[.pointer none, .slice none 0 0] 100)).heap[wr.heap.size]? = some (.cells #[.pointer none, .slice none 0 0] tB (0, 0)) := by unfold World.alloc; simp
      have hlt9 : wr.heap.size < (wr.alloc (.cells #[.pointer none, .slice none 0 0] 100)).heap.size := by simp
      have hrow9 := hrow.below hal hgl
      have hBw9 := hBw.trans (hal.mono hBw.size)
      have htB : P10 (wr.alloc (.cells #[.pointer none, .slice none 0 0] 100)) := ht.below hBw9 hg
      have hwle := hBw.size
      have HH := Lib.hid (And.intro hrow9 (And.intro htB (And.intro hb9 hBw9))); clear hrow9 htB hb9 hal hrow hBw9 hBw hS hkl
      have hbB : wr.heap.size = wr.heap.size := rfl
      obtain ⟨b, hb⟩ : ∃ b, b = wr.heap.size := ⟨_, rfl⟩
      rw [← hb] at hlt9 hgl HH
      clear hbB
      go_wp2_with fail
      rw [← hb]
      generalize wr.alloc (.cells #[.pointer none, .slice none 0 0] 100) = wB at *
      have hbw : w.heap.size ≤ b := by omega
      clear hb
      go_loopw [7] (fun iv W => ∃ j : Nat, j ≤ m + 1 ∧ iv = .int .i64 ((j : Int) - 1) ∧ Hid (if j = m + 1 then Lib.BuilderAt tB t8 b b (.pointer none) [] W else Lib.BuilderAt tB t8 b b (.pointer (some ⟨b, 0, none⟩)) (Lib.byteCells (Lib.decDigits (pv (ps.drop j)))) W) ∧ Below b wB W) (fun iv _ => (intOf iv + 1).toNat)
      case atStart => exact ⟨m + 1, Nat.le_refl _, by first | rfl | go_num | (congr 1; omega) | (rw [show (((m + 1 : Nat) : Int) - 1) = (m : Int) by omega]), Lib.hid (by rw [if_pos rfl]; exact ⟨Nat.le_refl _, .slice none 0 0, HH.out.2.2.1, World.ownsRow_nil _ _ _ _, by simp [Value.ownBlock]⟩), Below.refl _ _⟩
      case round =>
        obtain ⟨j, hj, rfl, hbd, hBW⟩ := hrel
        have hszW := hBW.size
        by_cases hj0 : j = 0
        · subst hj0
          have hbd0 := hbd.out
          rw [if_neg (by omega), HP.out.2.2.2.1] at hbd0
          have hne : Lib.decDigits N ≠ [] := by
            intro h
            have h2 := congrArg List.length h
            rw [Lib.decDigits_length, List.length_nil] at h2
            have h3 := Lib.lt_pow_nDigits N
            rw [h2] at h3
            simp at h3
            exact HN.out.2 h3
          have hS := Tryz.Builder_String b b (Lib.decDigits N) wr (.inr hbd0) hne
          have HS := Lib.hid hS; clear hS hbd0 hne hbd
          go_wp2_with fail
          refine HS.out.mono ?_
          rintro e w6 ⟨rfl, b6⟩
          go_wp2
          go_ret
          exact ⟨rfl, HH.out.2.2.2.trans ((hBW.trans b6).mono hbw)⟩
        · obtain ⟨k, rfl⟩ : ∃ k, j = k + 1 := ⟨j - 1, by omega⟩
          rw [show (((k + 1 : Nat) : Int) - 1) = (k : Int) by omega]
          have hx := (HH.out.1.below hBW hgl).cell k (by rw [HP.out.2.2.2.2.2.1]; omega)
          rw [Nat.zero_add] at hx
          have hF := FormatUint_any (gd ps k) (HP.out.2.2.2.2.1 k) wr (HH.out.2.1.below hBW (by omega))
          have HF := Lib.hid hF; clear hF
          have hkm : (k : Int) < (np : Int) := by have := HNP.out; omega
          by_cases hkl : k = m
          · subst hkl
            have hbd0 := hbd.out
            rw [if_pos rfl] at hbd0
            have hlt0 : decide ((k : Int) < (k : Int)) = false := by simp
            have HB := Lib.hid hbd0; clear hbd0 hbd
            go_wp2_with fail
            refine HF.out.mono ?_
            rintro e w5 ⟨rfl, b5⟩
            have hb5 := builder_below HB.out b5
            have hs5 := b5.size
            have hlen : (ByteArray.mk (Lib.decDigits (gd ps k)).toArray).size ≤ 100 := by
              show (Lib.decDigits (gd ps k)).toArray.size ≤ 100
              rw [List.size_toArray]
              exact Nat.le_trans (dec_len 20 _ (by omega) (Nat.lt_trans (HP.out.2.2.2.2.1 k) (by decide))) (by omega)
            have hW := WriteString_any b b [] ⟨(Lib.decDigits (gd ps k)).toArray⟩ w5 (.inl hb5) (by simp; omega) (by omega)
            have HW := Lib.hid hW; clear hW hlen hb5
            have HBW := Lib.hid (hBW.trans (b5.mono (by omega))); clear hBW b5
            go_wp2_with fail
            refine HW.out.mono ?_
            rintro e w6 ⟨rfl, hb6, b6⟩
            go_wp2
            go_roundw
            case rel =>
              refine ⟨k, by omega, rfl, Lib.hid ?_, HBW.out.trans b6⟩
              rw [if_neg (by omega), HP.out.2.2.1]
              rw [List.nil_append] at hb6
              exact hb6
            case measure => (simp [intOf]; try omega)
          · have hkm2 : k < m := by omega
            have hlt0 : decide ((k : Int) < (m : Int)) = true := by simp; omega
            have hbd0 := hbd.out
            rw [if_neg (by omega)] at hbd0
            obtain ⟨hl19, htx⟩ := HP.out.2.1 k hkm2
            obtain ⟨D, hD⟩ : ∃ D, D = Lib.decDigits (gd ps k) := ⟨_, rfl⟩
            rw [← hD] at hl19 htx HF
            obtain ⟨c, hc⟩ : ∃ c, c = 19 - D.length := ⟨_, rfl⟩
            rw [← hc] at htx
            have hc19 : c ≤ 19 := by omega
            have xc : IntKind.i64.wrap (19 - (D.length : Int)) = (c : Int) := by rw [show (19 - (D.length : Int)) = (c : Int) by omega]; exact IntWalk.i64_in _ ⟨by omega, by omega⟩
            have hpvl := pv_len ps (k+1) 100001 (HP.out.2.2.2.2.2.2) (by have := HP.out.2.2.2.2.2.1; omega)
            have HB := Lib.hid hbd0; have HTX := Lib.hid (And.intro htx (And.intro hl19 hpvl)); clear hbd0 hbd htx hc hpvl hD hl19
            go_wp2_with fail
            refine HF.out.mono ?_
            rintro e w5 ⟨rfl, b5⟩
            have hb5 := builder_below HB.out b5
            have hs5 := b5.size
            have hR := Tryz.strings_Repeat ⟨#[48]⟩ c w5 (by omega) (by show 1 * c ≤ _; omega)
            rw [show (ByteArray.mk #[48]).data.toList = [48] from rfl, rep48] at hR
            have HR := Lib.hid hR; clear hR
            have HB5 := Lib.hid hb5; clear hb5
            have HBW := Lib.hid (hBW.trans (b5.mono (by omega))); clear hBW b5
            go_wp2_with fail
            refine HR.out.mono ?_
            rintro e w6 ⟨rfl, b6⟩
            have hb6 := builder_below HB5.out b6
            have hs6 := b6.size
            have hW := WriteString_any b b _ ⟨(List.replicate c (48 : UInt8)).toArray⟩ w6 (.inr hb6) (by
              rw [show (ByteArray.mk (List.replicate c (48 : UInt8)).toArray).size = c by show (List.replicate c (48 : UInt8)).toArray.size = c; rw [List.size_toArray, List.length_replicate]]
              have h1 : (Lib.byteCells (Lib.decDigits (pv (ps.drop (k+1))))).length = (Lib.decDigits (pv (ps.drop (k+1)))).length := by simp [Lib.byteCells]
              have := HTX.out.2.2; omega) (by omega)
            have HW := Lib.hid hW; clear hW hb6
            have HBW6 := Lib.hid (HBW.out.trans (b6.mono (by omega))); clear b6
            go_wp2_with fail
            refine HW.out.mono ?_
            rintro e w7 ⟨rfl, hb7, b7⟩
            have hs7 := b7.size
            have hW2 := WriteString_any b b _ ⟨D.toArray⟩ w7 (.inr hb7) (by
              rw [List.length_append, show (ByteArray.mk D.toArray).size = D.length from List.size_toArray]
              have h1 : (Lib.byteCells (Lib.decDigits (pv (ps.drop (k+1))))).length = (Lib.decDigits (pv (ps.drop (k+1)))).length := by simp [Lib.byteCells]
              have h2 : (Lib.strCells ⟨(List.replicate c (48 : UInt8)).toArray⟩).length = c := by simp [Lib.strCells, Lib.byteCells]
              have := HTX.out.2.2; have := HTX.out.2.1; omega) (by omega)
            have HW2 := Lib.hid hW2; clear hW2 hb7
            have HBW7 := Lib.hid (HBW6.out.trans b7); clear b7
            go_wp2_with fail
            refine HW2.out.mono ?_
            rintro e w8 ⟨rfl, hb8, b8⟩
            go_wp2
            go_roundw
            case rel =>
              refine ⟨k, by omega, rfl, Lib.hid ?_, HBW7.out.trans b8⟩
              rw [if_neg (by omega), HTX.out.1, Lib.byteCells_append, Lib.byteCells_append]
              rw [List.append_assoc] at hb8
              exact hb8
            case measure => (simp [intOf]; try omega)
    · have hklX : kl ≤ nX := by rw [hkl.out]; exact hS.out.ll
      have hL0 : wv L ≠ 0 := fun h => by
        have h2 := (wv_zero_iff hS.out.tl).1 h
        rw [h2] at hkl; exact hk0 hkl.out
      have hdw := divideWord_any wr b0 0 nX 10000000000000000000 L hS.out.rl hS.out.wl (by rw [← hkl.out]; omega) (by rw [← hkl.out]; exact hklX) (by omega) (by omega)
      rw [← hkl.out] at hdw
      have HDW := Lib.hid hdw; clear hdw
      have hd0 : decide ((0 : Int) < (kl : Int)) = true := by simp; omega
      go_wp2_with fail
      refine HDW.out.mono ?_
      rintro e w2 ⟨Z, k, hA, hk, hT, hv, rfl⟩
      obtain ⟨r, hr⟩ : ∃ r, r = wv L % 10000000000000000000 := ⟨_, rfl⟩
      rw [← hr]
      have hsz2 := hA.only.size
      have hown2 := own_only hS.out.own hA.only (show b0 < w1.heap.size by omega)
      have hszr := hS.out.sz
      have hpl : ps.length < 100001 := pieces_few hL0 (by rw [← hS.out.val, HN.out.1]) ha
      have HZ := Lib.hid (And.intro hA (And.intro hk (And.intro hT (And.intro hv hr)))); clear hA hk hT hv hr HDW
      go_wp2_with (at_builtin; refine wpList_append_own _ rfl _ _ 91 rfl w1.heap.size 95 i0 (.int .u64 0) 1 8 Tryz.underlying91 hi hz0 hz1 hz2 rfl (by decide) _ _ _ rfl (hown2.alloc _) ⟨w2.heap.size, 0, none⟩ 1 1 [.int .u64 (r : Int)] rfl rfl (one_cell64 _ _ _) (one_one64 _) ?c3 ?c4 ?c5 ?_)
      case c3 => unfold maxLen; omega
      case c4 => omega
      case c5 => first | omega | (simp; omega)
      intro v' w3 hown' hgrow _
      rw [← uv_snoc] at hown'
      have hB3 : Below w1.heap.size w2 w3 := ((Below.refl w1.heap.size w2).alloc (by omega) (.cells #[.int .u64 (r : Int)] 95)).grown hgrow (by simp; omega) (fun j hj => (hown2.lt j hj).1)
      have hlp : (ps ++ [r]).length = ps.length + 1 := by simp
      have hmod := Nat.div_add_mod (wv L) 10000000000000000000
      rw [← HZ.out.2.2.2.2, ← HZ.out.2.2.2.1] at hmod
      have hrl : r < 10000000000000000000 := by rw [HZ.out.2.2.2.2]; exact Nat.mod_lt _ (by omega)
      have hst : TSt N b0 nX nX w w1 w3 (Z.take k) (ps ++ [r]) v' := {
        rl := (HZ.out.1.row.take k).below hB3 hb1
        wl := Wd_take HZ.out.1.wd k
        tl := HZ.out.2.2.1
        ll := by rw [List.length_take]; have := HZ.out.2.1; have := hkl.out; omega
        own := by rw [hlp]; exact hown'
        pp := fun x hx => by
          rcases List.mem_append.1 hx with h | h
          · exact hS.out.pp x h
          · rw [List.mem_singleton.1 h]; exact hrl
        val := by
          rw [pv_snoc, hlp, Nat.pow_succ, hS.out.val, ← hmod]
          show pv ps + PP^ps.length * (10000000000000000000 * wv (Z.take k) + r) = pv ps + PP^ps.length * r + PP^ps.length * 10000000000000000000 * wv (Z.take k)
          rw [Nat.mul_add, Nat.mul_assoc (PP^ps.length)]; omega
        top := by
          by_cases h : wv (Z.take k) = 0
          · right; refine ⟨ps, r, rfl, fun h2 => hL0 ?_⟩
            rw [← hmod, h, h2]
          · exact .inl h
        bl := (hS.out.bl.trans (HZ.out.1.only.below (by have := HB0.out; omega) (by have := hS.out.bl.size; omega))).trans (hB3.mono (by omega))
        sz := by have := hB3.size; omega
        pl := by rw [hlp]; exact hpl }
      have hl8 : k = (Z.take k).length := by rw [List.length_take, HZ.out.1.len]; have := HZ.out.2.1; omega
      have hm1 : rvl w3 (.slice (some ⟨b0, 0, none⟩) k nX) = wv (Z.take k) := rvl_row ((HZ.out.1.row.take k).below hB3 hb1) hl8
      have hm2 : rvl wr (.slice (some ⟨b0, 0, none⟩) kl nX) = wv L := rvl_row hS.out.rl hkl.out
      have HF := Lib.hid (And.intro hst (And.intro hl8 (And.intro hm1 (And.intro hm2 (And.intro hmod hrl))))); clear hst hl8 hm1 hm2 hmod hrl hown' hgrow hB3 hlp
      go_wp2
      refine ⟨⟨k, Z.take k, ps ++ [r], v', rfl, rfl, Lib.hid HF.out.2.1, Lib.hid HF.out.1⟩, ?_⟩
      show rvl w3 _ < rvl wr _
      rw [HF.out.2.2.1, HF.out.2.2.2.1]
      have := HF.out.2.2.2.2.1
      omega
end Go.Proofs.YteccbedmpjeamaaGreatDoor
