/-
  The walk of deal.Deal.
  The walk of deal.Deal for arguments that are not permitted.
-/
import Derived.Test.YtjfbpmpdcmealaaGreatDoorDTxtB
import Derived.Deep.RegionLaw
namespace Go.Proofs.YtjfbpmpdcmealaaGreatDoor.D7
open Go.RowKit GM SH G4 E6 D7P
theorem infoI : (Tryz.prog.info? 3).map (fun i => (i.zero, i.size, i.bytes)) = some (some (.int .i64 0), 1, 8) := by kernel_rfl
theorem infoZ : (Tryz.prog.info? 9).map (fun i => (i.zero, i.size, i.bytes)) = some (some (.string ⟨#[]⟩), 1, 16) := by kernel_rfl
theorem infoD (a b c : Value) : Hid ((Tryz.prog.info? 34).map (·.size) = some (#[a, b, c]).size) := Lib.hid (by show _ = some 3; kernel_rfl)
theorem three_size (a b c x y z : Value) : (#[a, b, c]).size = (#[x, y, z]).size := by simp
/-- a box of a dealing -/
def dbx (coefs keys : List Int) (K : Int) (i : Nat) : ByteArray := ⟨(bx (vl coefs ((i : Int) + 1)) (pd (pp (keys[i]?.getD 0) K) i)).toArray⟩
def dbs (coefs keys : List Int) (K : Int) (n : Nat) : List ByteArray := (List.range n).map (dbx coefs keys K)
theorem dbs_succ (coefs keys : List Int) (K : Int) (n : Nat) : dbs coefs keys K (n+1) = dbs coefs keys K n ++ [dbx coefs keys K n] := by
  unfold dbs; rw [List.range_succ, List.map_append]; rfl
theorem dbs_len (coefs keys : List Int) (K : Int) (n : Nat) : (dbs coefs keys K n).length = n := by simp [dbs]
/-- the word of a dealing's number -/
def wP (s : ByteArray) : ByteArray := (⟨#[112, 111, 105, 110, 116, 47]⟩ : ByteArray) ++ s
def dk (s : ByteArray) : Int := sc (wP s)
theorem dk_rng (s : ByteArray) : 0 ≤ dk s ∧ dk s < 1152921504606845789 := sc_rng _
theorem dk_i64 (s : ByteArray) : i64 (dk s) := ⟨by have := dk_rng s; omega, by have := dk_rng s; omega⟩
/-- what Deal answers: the dealing, in blocks of the call's own -/
def DealtQ (w : World) (C : List Int) (pt : Int) (B : List ByteArray) (e : Ending) (w' : World) : Prop :=
  ∃ cv bv, e = .returned (.tuple #[.agg #[cv, .int .i64 pt, bv], .bool true]) ∧ w'.ownsRow w.heap.size 3 1 cv C.length (C.map (Value.int .i64)) ∧ w'.ownsRow w.heap.size 9 1 bv B.length (B.map Value.string) ∧
    (∀ g, cv.ownBlock = some g → bv.ownBlock ≠ some g) ∧ Below w.heap.size w w'
def gd (coefs keys : List Int) : Bool := !decide (60 < keys.length) && !decide (coefs.length < 1) && !decide (keys.length < coefs.length) && coefs.all inQ && keys.all mem
theorem ds_start (w W : World) (pt : Int) (h : Below w.heap.size w W) (hz : W.heap[w.heap.size]? = some (.cells #[.slice none 0 0, .int .i64 0, .slice none 0 0] 34 (0, 0))) : DS w W.heap.size pt (.slice none 0 0) (.slice none 0 0) [] [] (W.alloc (.cells #[.slice none 0 0, .int .i64 pt, .slice none 0 0] 34)) :=
  ⟨heap_alloc_new _ _, (Array.getElem?_eq_some_iff.1 hz).1, (heap_alloc_old _ _ (Array.getElem?_eq_some_iff.1 hz).1).trans hz, World.ownsRow_nil _ _ _ _, World.ownsRow_nil _ _ _ _, fun g e => (by cases e), h.alloc h.size _⟩
theorem take_snoc {α : Type} (l : List α) (k : Nat) (x : α) (h : l[k]? = some x) : l.take (k+1) = l.take k ++ [x] := by
  rw [List.take_add_one, h]; rfl
theorem news_one (W : World) (v : Value) (t : TypeId) : ∀ j u, [v][j]? = some u → (W.alloc (.cells #[v] t)).cell? ((⟨W.heap.size, 0, none⟩ : Addr).add j) = some u := fun j u hu =>
  World.news_of_block (cs := #[v]) (heap_alloc_new W (.cells #[v] t)) j u hu
theorem own_row {w : World} {base : Nat} {e : TypeId} {size : Nat} {v : Value} {n : Nat} {xs : List Value} (h : w.ownsRow base e size v n xs) (d : Nat) (cs : Array Value) (hd : d < base) : (w.setRow d cs).ownsRow base e size v n xs := by
  refine ⟨h.1, ?_⟩
  rcases h.2 with h2 | ⟨g, cap, cur, h1, h2, h3, h4⟩
  · exact .inl h2
  · exact .inr ⟨g, cap, cur, h1, h2, (setRow_other w d g cs (by omega)).trans h3, h4⟩
set_option maxRecDepth 100000 in
set_option maxHeartbeats 8000000 in
theorem Deal_core (w : World) (p q : Option Addr) (n c m e : Nat) (coefs keys : List Int) (seed : ByteArray) (K pt : Int) (CC : List Int) (BB : Nat → ByteArray) (ps : Nat → Value) (ks : Nat → Int) (vs : Nat → Int)
    (hn : coefs.length = n) (hm : keys.length = m) (h60 : m ≤ 60) (h1 : 1 ≤ n) (hnm : n ≤ m) (hsz : seed.size ≤ 140737488355300)
    (hC : Hid (∀ (j : Nat) (x : Int), coefs[j]? = some x → ∃ b o, p = some ⟨b, o, none⟩ ∧ w.cell? ⟨b, o + j, none⟩ = some (.int .i64 x)))
    (hKy : Hid (∀ (j : Nat) (x : Int), keys[j]? = some x → ∃ b o, q = some ⟨b, o, none⟩ ∧ w.cell? ⟨b, o + j, none⟩ = some (.int .i64 x)))
    (A1 : Hid (∀ W, Below w.heap.size w W → Calls Tryz.prog 32 #[.slice p n c, .func (.func 33) #[] #[]] W fun e w' => e = .returned (.bool true) ∧ Below W.heap.size W w'))
    (A2 : Hid (∀ W, Below w.heap.size w W → Calls Tryz.prog 32 #[.slice q m e, .func (.func 34) #[] #[]] W fun e w' => e = .returned (.bool true) ∧ Below W.heap.size W w'))
    (S1 : Hid (∀ W, Below w.heap.size w W → Calls Tryz.prog 35 #[.string ((⟨#[112, 111, 105, 110, 116, 47]⟩ : ByteArray) ++ seed)] W fun e w' => e = .returned (.int .i64 K) ∧ Below W.heap.size W w'))
    (P0 : Hid (∀ W, Calls Tryz.prog 36 #[.int .i64 4, .int .i64 K] W fun e w' => e = .returned (.int .i64 pt) ∧ Below W.heap.size W w'))
    (PC : Hid (∀ (j : Nat) (x : Int), coefs[j]? = some x → ∃ y, CC[j]? = some y ∧ ∀ W, Calls Tryz.prog 36 #[.int .i64 4, .int .i64 x] W fun e w' => e = .returned (.int .i64 y) ∧ Below W.heap.size W w'))
    (PK : Hid (∀ (j : Nat) (x : Int), keys[j]? = some x → ∀ W, Calls Tryz.prog 36 #[.int .i64 x, .int .i64 K] W fun e w' => e = .returned (.int .i64 (ks j)) ∧ Below W.heap.size W w'))
    (PP : Hid (∀ (j : Nat), j < m → ∀ W, Below w.heap.size w W → Calls Tryz.prog 37 #[.int .i64 (ks j), .int .i64 (j : Int)] W fun e w' => e = .returned (ps j) ∧ Below W.heap.size W w'))
    (PV : Hid (∀ (j : Nat), j < m → ∀ W, Below w.heap.size w W → Calls Tryz.prog 29 #[.slice p n c, .int .i64 ((j : Int) + 1)] W fun e w' => e = .returned (.int .i64 (vs j)) ∧ Below W.heap.size W w'))
    (PS : Hid (∀ (j : Nat), j < m → ∀ W, Calls Tryz.prog 38 #[ps j, .int .i64 (vs j)] W fun e w' => e = .returned (.string (BB j)) ∧ Below W.heap.size W w'))
    (hCC : CC.length = n) :
    Calls Tryz.prog 11 #[.slice p n c, .slice q m e, .string seed] w (DealtQ w CC pt ((List.range m).map BB)) := by
  obtain ⟨i0, hi, hz0, hz1, hz2⟩ := info_parts infoI
  obtain ⟨j0, hj, hy0, hy1, hy2⟩ := info_parts infoZ
  obtain ⟨W, hW⟩ : ∃ W, w.alloc (.cells #[.slice none 0 0, .int .i64 0, .slice none 0 0] 34) = W := ⟨_, rfl⟩
  have HB0 := Lib.hid (show Below w.heap.size w W by rw [← hW]; exact (Below.refl _ w).alloc (Nat.le_refl _) _)
  have HR0 := Lib.hid (show W.heap[w.heap.size]? = some (.cells #[.slice none 0 0, .int .i64 0, .slice none 0 0] 34 (0, 0)) by rw [← hW]; exact heap_alloc_new _ _)
  have t1 : (9223372036854775807 < 6 + seed.size) = False := eq_false (by omega)
  have HL := Lib.hid (And.intro hn (And.intro hm hCC)); clear hn hm hCC
  have d1 : decide (60 < (m : Int)) = false := decide_eq_false (by omega)
  have d2 : decide ((n : Int) < 1) = false := decide_eq_false (by omega)
  go_enter Tryz.func11, Tryz.ntmps11
  go_upto_region 1 with fail
  clear hW
  go_wp2_with fail
  refine (A1.out _ HB0.out).mono ?_
  rintro e w1 ⟨rfl, b1⟩
  have HB1 := Lib.hid (HB0.out.trans (b1.mono HB0.out.size))
  have HR1 := Lib.hid ((b1.block _ (Array.getElem?_eq_some_iff.1 HR0.out).1).trans HR0.out)
  clear b1 HB0 HR0
  go_wp2_with fail
  refine (A2.out _ HB1.out).mono ?_
  rintro e w2 ⟨rfl, b2⟩
  have HB2 := Lib.hid (HB1.out.trans (b2.mono HB1.out.size))
  have HR2 := Lib.hid ((b2.block _ (Array.getElem?_eq_some_iff.1 HR1.out).1).trans HR1.out)
  clear b2 HB1 HR1
  go_wp2_with fail
  refine (S1.out _ HB2.out).mono ?_
  rintro e w3 ⟨rfl, b3⟩
  have HB3 := Lib.hid (HB2.out.trans (b3.mono HB2.out.size))
  have HR3 := Lib.hid ((b3.block _ (Array.getElem?_eq_some_iff.1 HR2.out).1).trans HR2.out)
  clear b3 HB2 HR2
  go_wp2_with fail
  refine (P0.out _).mono ?_
  rintro e w4 ⟨rfl, b4⟩
  have HB4 := Lib.hid (HB3.out.trans (b4.mono HB3.out.size))
  have HR4 := Lib.hid ((b4.block _ (Array.getElem?_eq_some_iff.1 HR3.out).1).trans HR3.out)
  clear b4 HB3 HR3 t1
  have HD := Lib.hid (ds_start w w4 pt HB4.out HR4.out)
  have hw4 : w.heap.size < w4.heap.size := (Array.getElem?_eq_some_iff.1 HR4.out).1
  go_upto_region 5 with fail
  clear d1 d2
  obtain ⟨d, hd⟩ : ∃ d, w4.heap.size = d := ⟨_, rfl⟩
  rw [hd] at HD hw4
  have HD4 := Lib.hid hd; clear hd
  rw [HD4.out]
  change Code.wp _ _ _ _ (w4.alloc (.cells #[.slice none 0 0, .int .i64 pt, .slice none 0 0] 34))
  clear HB4 HR4
  generalize w4.alloc (.cells #[.slice none 0 0, .int .i64 pt, .slice none 0 0] 34) = W5 at *
  clear HD4
  go_wp2_with fail
  go_loopw [48] (fun i wr => ∃ (k : Nat) (cv : Value), k ≤ n ∧ i = .int .i64 (k : Int) ∧ Hid (DS w d pt cv (.slice none 0 0) (CC.take k) [] wr)) (fun i _ => n - (match i with | .int _ i => i.toNat | _ => 0))
  case atStart => exact ⟨0, _, Nat.zero_le _, rfl, HD⟩
  case round =>
    obtain ⟨k, cv, hk, rfl, HS⟩ := hrel
    by_cases hlt : k < n
    · obtain ⟨x, hx⟩ : ∃ x, coefs[k]? = some x := ⟨coefs[k]'(by rw [HL.out.1]; exact hlt), List.getElem?_eq_getElem _⟩
      obtain ⟨b, o, hp, hcx⟩ := hC.out k x hx
      subst hp
      obtain ⟨y, hy, hpow⟩ := PC.out k x hx
      have hcell := (HS.out.b.cell (p := ⟨b, o + k, none⟩) (World.block_lt_of_cell? _ _ hcx)).trans hcx
      have HP := Lib.hid hpow
      have c0 := HS.out.drew.c0
      have HT := Lib.hid (And.intro (take_snoc CC k y hy) (show (CC.take k).length = k by rw [List.length_take, HL.out.2.2]; omega))
      clear hx hcx hy hpow
      obtain ⟨l, hl⟩ : ∃ l, CC.take k = l := ⟨_, rfl⟩
      rw [hl] at HS HT
      have HS2 := HS.out.drew
      go_wp2_with fail
      clear hcell
      go_region_law (first
        | (refine step_append_lies _ rfl (.tmp 53) (.tmp 56) 22 rfl (d+1) 3 i0 (.int .i64 0) 1 8 Tryz.underlying22 hi hz0 hz1 hz2 rfl (by decide) cv l.length (l.map (Value.int .i64)) (by simp [Act.eval, Act.put]) (HS3.alloc _).oc ⟨w'.heap.size, 0, none⟩ 1 1 [.int .i64 y] (by simp [Act.eval, Act.put]) rfl (news_one _ _ _) (by simp [Value.oneCell']) (by omega) (by have := HT.out.2; unfold maxLen; omega) (by have := HT.out.2; omega) (by have := HS3.lt; simp; omega) _ rfl ?_; intro g9 c9 w9 hown9 hgrow9 hat9 hlt9; obtain ⟨e0, f0, S9⟩ := (HS3.alloc _).appC y rfl hown9 hgrow9 hat9)
        | (rw [if_pos (by rfl)]; go_simp; (with_reducible refine (HP.out _).mono ?_); rintro e w' ⟨rfl, b⟩; have HS3 := HS2.next b; have c1 := HS3.c0; have c2 := (HS3.alloc (.cells #[.int .i64 y] 3)).c0))
      all_goals
        have S10 := Lib.hid (show DS w d pt (.slice (some ⟨g9, 0, none⟩) (l.length + 1) c9) (.slice none 0 0) (CC.take (k+1)) [] (w9.setCell ⟨d, 0, none⟩ (.slice (some ⟨g9, 0, none⟩) (l.length + 1) c9)) by rw [HT.out.1]; exact S9)
        clear S9 e0 f0 hown9 hgrow9 hat9 hlt9
        go_wp2
        exact ⟨⟨k + 1, _, by omega, by go_num, S10⟩, by simp; omega⟩
    · obtain rfl : k = n := by omega
      have hC2 := Lib.hid (show CC.take k = CC from List.take_of_length_le (by rw [HL.out.2.2]; exact Nat.le_refl _))
      rw [hC2.out] at HS
      clear PC P0 S1 A1 A2 hC2
      obtain ⟨cp, cc, hcv⟩ := own_nil cv HS.out.oc
      subst hcv
      go_wp2_with fail
      go_loopw [62] (fun i wr => ∃ (j : Nat) (bv : Value), j ≤ m ∧ i = .int .i64 (j : Int) ∧ Hid (DS w d pt (.slice cp CC.length cc) bv CC ((List.range j).map BB) wr)) (fun i _ => m - (match i with | .int _ i => i.toNat | _ => 0))
      case atStart => exact ⟨0, _, Nat.zero_le _, rfl, HS⟩
      case round =>
        clear HS HD
        obtain ⟨j, bv, hjm, rfl, HS⟩ := hrel
        by_cases hlt2 : j < m
        · obtain ⟨x, hx⟩ : ∃ x, keys[j]? = some x := ⟨keys[j]'(by rw [HL.out.2.1]; exact hlt2), List.getElem?_eq_getElem _⟩
          obtain ⟨b, o, hp, hcx⟩ := hKy.out j x hx
          subst hp
          have hcell := (HS.out.b.cell (p := ⟨b, o + j, none⟩) (World.block_lt_of_cell? _ _ hcx)).trans hcx
          have X1 := Lib.hid (PK.out j x hx)
          have X2 := Lib.hid (PP.out j hlt2)
          have X3 := Lib.hid (PV.out j hlt2)
          have X4 := Lib.hid (PS.out j hlt2)
          have HT := Lib.hid (And.intro (show (List.range (j+1)).map BB = (List.range j).map BB ++ [BB j] by rw [List.range_succ, List.map_append]; rfl) (show ((List.range j).map BB).length = j by simp))
          clear hx hcx
          obtain ⟨l, hl⟩ : ∃ l, (List.range j).map BB = l := ⟨_, rfl⟩
          rw [hl] at HS HT
          generalize BB j = y at *
          generalize ks j = xk at *
          generalize ps j = xp at *
          generalize vs j = xv at *
          have HS2 := HS.out.drew
          have c0 := HS.out.drew.c2
          go_wp2_with fail
          clear hcell
          have HA := Lib.hid (And.intro (show ∀ u ∈ [Value.string y], u.oneCell' = true by simp [Value.oneCell']) (And.intro (show l.length + 1 ≤ maxLen by have := HT.out.2; unfold maxLen; omega) (show (l.length + 1) * 16 ≤ 140737488355328 by have := HT.out.2; omega)))
          have x1 : IntKind.i64.wrap ((j : Int) + 1) = (j : Int) + 1 := IntWalk.i64_in _ ⟨by omega, by omega⟩
          have x2 : wrap64 ((j : Int) + 1) = (j : Int) + 1 := by unfold wrap64; omega
          go_region_law (first
            | (refine step_append_lies _ rfl (.tmp 68) (.tmp 79) 32 rfl (d+1) 9 j0 (.string ⟨#[]⟩) 1 16 Tryz.underlying32 hj hy0 hy1 hy2 rfl (by decide) bv l.length (l.map Value.string) (by simp [Act.eval, Act.put]) (HS3.alloc _).ob ⟨w'.heap.size, 0, none⟩ 1 1 [.string y] (by simp [Act.eval, Act.put]) rfl (news_one _ _ _) HA.out.1 Nat.zero_lt_one HA.out.2.1 HA.out.2.2 (by rw [World.size_alloc]; exact Nat.le_succ_of_le HS3.lt) _ rfl ?_; intro g9 c9 w9 hown9 hgrow9 hat9 hlt9; obtain ⟨e0, f0, S9⟩ := (HS3.alloc _).appB y rfl hown9 hgrow9 hat9)
            | (rw [if_pos (by rfl)]; go_simp; (with_reducible refine (X1.out _).mono ?_); rintro e w' ⟨rfl, b⟩; have HS3 := DS.next (w := w) (d := d) (pt := pt) (cv := .slice cp CC.length cc) (bv := bv) (C := CC) (B := l) (by assumption) b; have c1 := HS3.c2; clear b)
            | (rw [if_pos (by rfl)]; go_simp; (with_reducible refine (X2.out _ (DS.b (d := d) (pt := pt) (cv := .slice cp CC.length cc) (bv := bv) (C := CC) (B := l) (by assumption))).mono ?_); rintro e w' ⟨rfl, b⟩; have HS3 := DS.next (w := w) (d := d) (pt := pt) (cv := .slice cp CC.length cc) (bv := bv) (C := CC) (B := l) (by assumption) b; have c1 := HS3.c2; clear b)
            | (rw [if_pos (by rfl)]; go_simp; (with_reducible refine (X3.out _ (DS.b (d := d) (pt := pt) (cv := .slice cp CC.length cc) (bv := bv) (C := CC) (B := l) (by assumption))).mono ?_); rintro e w' ⟨rfl, b⟩; have HS3 := DS.next (w := w) (d := d) (pt := pt) (cv := .slice cp CC.length cc) (bv := bv) (C := CC) (B := l) (by assumption) b; have c1 := HS3.c2; clear b)
            | (rw [if_pos (by rfl)]; go_simp; (with_reducible refine (X4.out _).mono ?_); rintro e w' ⟨rfl, b⟩; have HS3 := DS.next (w := w) (d := d) (pt := pt) (cv := .slice cp CC.length cc) (bv := bv) (C := CC) (B := l) (by assumption) b; have c1 := HS3.c2; have c2 := (HS3.alloc (.cells #[.string y] 9)).c2; clear b))
          all_goals
            have S10 := Lib.hid (show DS w d pt (.slice cp CC.length cc) (.slice (some ⟨g9, 0, none⟩) (l.length + 1) c9) CC ((List.range (j+1)).map BB) (w9.setCell ⟨d, 2, none⟩ (.slice (some ⟨g9, 0, none⟩) (l.length + 1) c9)) by rw [HT.out.1]; exact S9)
            clear S9 e0 f0 hown9 hgrow9 hat9 hlt9 x1 x2
            go_wp2
            exact ⟨⟨j + 1, _, by omega, by go_num, S10⟩, by simp; omega⟩
        · obtain rfl : j = m := by omega
          obtain ⟨bp, bc, hbv⟩ := own_nil bv HS.out.ob
          rw [show ((List.range j).map BB).length = j by simp] at hbv
          subst hbv
          have hrow := HS.out.row
          have hz := HS.out.z
          have hi3 := infoD (.slice cp CC.length cc) (.int .i64 pt) (.slice bp j bc)
          go_wp2_with (first | (refine wpList_load_row rfl 34 (.tmp 9) rfl d rfl 34 #[.slice cp CC.length cc, .int .i64 pt, .slice bp j bc] (0, 0) _ hrow Tryz.underlying34 rfl hi3.out ?_) | (refine wpList_store_row rfl 34 (.tmp 6) (.tmp 83) rfl w.heap.size #[.slice cp CC.length cc, .int .i64 pt, .slice bp j bc] rfl rfl 34 #[.slice none 0 0, .int .i64 0, .slice none 0 0] hz hi3.out (three_size _ _ _ _ _ _) (by simp [Value.oneCell']) ?_))
          refine bodyPost_ret (results_row_tmp rfl _ _ w.heap.size _ #[.slice cp CC.length cc, .int .i64 pt, .slice bp j bc] _ _ rfl (setRow_heap _ _ _ _ _ _ hz) Tryz.underlying34 rfl hi3.out) rfl ?_
          have hne := HS.out.hd
          have o1 := own_base (base' := w.heap.size) (own_row HS.out.oc w.heap.size #[.slice cp CC.length cc, .int .i64 pt, .slice bp j bc] (by omega)) (by omega)
          have o2 := own_base (base' := w.heap.size) (own_row HS.out.ob w.heap.size #[.slice cp CC.length cc, .int .i64 pt, .slice bp j bc] (by omega)) (by omega)
          exact ⟨_, _, rfl, o1, o2, HS.out.ne, Below.setRow' HS.out.b (Nat.le_refl _) _⟩
theorem seed_size (s : ByteArray) (h : s.size ≤ 140737488355300) : (wP s).size ≤ 140737488355306 := by
  unfold wP; rw [ByteArray.size_append]; show 6 + s.size ≤ _; omega
theorem Deal_yes (w : World) (cv kv : Value) (coefs keys : List Int) (seed : ByteArray) (hC : SL w cv coefs) (hK : SL w kv keys) (hrc : ∀ x ∈ coefs, i64 x) (hrk : ∀ x ∈ keys, i64 x) (hsz : seed.size ≤ 140737488355300) (h60 : keys.length ≤ 60) (h1 : 1 ≤ coefs.length) (hnm : coefs.length ≤ keys.length) (hq : coefs.all inQ = true) (hm : keys.all mem = true) (hT : TS w) :
    Calls Tryz.prog 11 #[cv, kv, .string seed] w (DealtQ w (coefs.map (pp 4)) (pp 4 (dk seed)) (dbs coefs keys (dk seed) keys.length)) := by
  have hC' := hC; have hK' := hK
  obtain ⟨p, c, rfl, hc⟩ := hC.form
  obtain ⟨q, e, rfl, hk⟩ := hK.form
  have hPad : ∀ (j : Nat), j < keys.length → ∀ W, Below w.heap.size w W → Calls Tryz.prog 37 #[.int .i64 (pp (keys[j]?.getD 0) (dk seed)), .int .i64 (j : Int)] W fun e w' => e = .returned (hval (pd (pp (keys[j]?.getD 0) (dk seed)) j)) ∧ Below W.heap.size W w' := fun j hj W hb => pad_any W _ j (pp_i _ _) ⟨by omega, by omega⟩ (hT.below hb)
  refine Deal_core w p q coefs.length c keys.length e coefs keys seed (dk seed) (pp 4 (dk seed)) (coefs.map (pp 4)) (dbx coefs keys (dk seed)) (fun j => hval (pd (pp (keys[j]?.getD 0) (dk seed)) j)) (fun j => pp (keys[j]?.getD 0) (dk seed)) (fun j => vl coefs ((j : Int) + 1)) rfl rfl h60 h1 hnm hsz (Lib.hid hc) (Lib.hid hk)
    (Lib.hid fun W b => all_exponents W _ coefs true hq (hC'.below b) hrc (by omega)) (Lib.hid fun W b => all_members W _ keys true hm (hK'.below b) hrk (by omega))
    (Lib.hid fun W b => Scalar_any W (wP seed) (by have := seed_size seed hsz; omega) (hT.below b).tb.sq (hT.below b).tb.cb) (Lib.hid fun W => power_c W 4 _ _ rfl (by decide) (dk_i64 _))
    (Lib.hid fun j x hx => ⟨pp 4 x, by rw [List.getElem?_map, hx]; rfl, fun W => power_c W 4 x _ rfl (by decide) (hrc x (List.mem_of_getElem? hx))⟩)
    (Lib.hid fun j x hx W => power_c W x (dk seed) _ (by rw [hx]; rfl) (hrk x (List.mem_of_getElem? hx)) (dk_i64 _)) (Lib.hid hPad)
    (Lib.hid fun j hj W b => Value_any W _ coefs _ (hC'.below b) hrc ⟨by omega, by omega⟩ (by omega)) (Lib.hid fun j hj W => seal_any W _ _ (pd_len _ _) (vl_i64 _ _)) (by simp)
end Go.Proofs.YtjfbpmpdcmealaaGreatDoor.D7
namespace Go.Proofs.YtjfbpmpdcmealaaGreatDoor.D7
open Go.RowKit GM SH G4 E6 D7P
/-- what Deal answers where it refuses -/
def NoQ (w : World) (e : Ending) (w' : World) : Prop := e = .returned (.tuple #[.agg #[.slice none 0 0, .int .i64 0, .slice none 0 0], .bool false]) ∧ Below w.heap.size w w'
set_option maxRecDepth 100000 in
set_option maxHeartbeats 4000000 in
theorem Deal_no60 (w : World) (p q : Option Addr) (n c m e : Nat) (seed : ByteArray) (h60 : 60 < m) :
    Calls Tryz.prog 11 #[.slice p n c, .slice q m e, .string seed] w (NoQ w) := by
  obtain ⟨W, hW⟩ : ∃ W, w.alloc (.cells #[.slice none 0 0, .int .i64 0, .slice none 0 0] 34) = W := ⟨_, rfl⟩
  have HB := Lib.hid (show Below w.heap.size w W by rw [← hW]; exact (Below.refl _ w).alloc (Nat.le_refl _) _)
  have HR := Lib.hid (show W.heap[w.heap.size]? = some (.cells #[.slice none 0 0, .int .i64 0, .slice none 0 0] 34 (0, 0)) by rw [← hW]; exact heap_alloc_new _ _)
  have d1 : decide (60 < (m : Int)) = true := decide_eq_true (by omega)
  go_enter Tryz.func11, Tryz.ntmps11
  go_upto_region 1 with fail
  clear hW
  have hz := HR.out
  have h0 := infoD (.slice none 0 0) (.int .i64 0) (.slice none 0 0)
  go_wp2_with (refine wpList_store_row rfl 34 (.tmp 6) (.tmp 39) rfl w.heap.size #[.slice none 0 0, .int .i64 0, .slice none 0 0] rfl rfl 34 #[.slice none 0 0, .int .i64 0, .slice none 0 0] hz h0.out (three_size _ _ _ _ _ _) (by simp [Value.oneCell']) ?_)
  refine bodyPost_ret (results_row_tmp rfl _ _ w.heap.size _ #[.slice none 0 0, .int .i64 0, .slice none 0 0] _ _ rfl (setRow_heap _ _ _ _ _ _ hz) Tryz.underlying34 rfl h0.out) rfl ?_
  exact ⟨rfl, Below.setRow' HB.out (Nat.le_refl _) _⟩
set_option maxRecDepth 100000 in
set_option maxHeartbeats 4000000 in
theorem Deal_no1 (w : World) (p q : Option Addr) (n c m e : Nat) (seed : ByteArray) (h60 : m ≤ 60) (h1 : n < 1) :
    Calls Tryz.prog 11 #[.slice p n c, .slice q m e, .string seed] w (NoQ w) := by
  obtain ⟨W, hW⟩ : ∃ W, w.alloc (.cells #[.slice none 0 0, .int .i64 0, .slice none 0 0] 34) = W := ⟨_, rfl⟩
  have HB := Lib.hid (show Below w.heap.size w W by rw [← hW]; exact (Below.refl _ w).alloc (Nat.le_refl _) _)
  have HR := Lib.hid (show W.heap[w.heap.size]? = some (.cells #[.slice none 0 0, .int .i64 0, .slice none 0 0] 34 (0, 0)) by rw [← hW]; exact heap_alloc_new _ _)
  have d1 : decide (60 < (m : Int)) = false := decide_eq_false (by omega)
  have d2 : decide ((n : Int) < 1) = true := decide_eq_true (by omega)
  go_enter Tryz.func11, Tryz.ntmps11
  go_upto_region 1 with fail
  clear hW
  have hz := HR.out
  have h0 := infoD (.slice none 0 0) (.int .i64 0) (.slice none 0 0)
  go_wp2_with (refine wpList_store_row rfl 34 (.tmp 6) (.tmp 39) rfl w.heap.size #[.slice none 0 0, .int .i64 0, .slice none 0 0] rfl rfl 34 #[.slice none 0 0, .int .i64 0, .slice none 0 0] hz h0.out (three_size _ _ _ _ _ _) (by simp [Value.oneCell']) ?_)
  refine bodyPost_ret (results_row_tmp rfl _ _ w.heap.size _ #[.slice none 0 0, .int .i64 0, .slice none 0 0] _ _ rfl (setRow_heap _ _ _ _ _ _ hz) Tryz.underlying34 rfl h0.out) rfl ?_
  exact ⟨rfl, Below.setRow' HB.out (Nat.le_refl _) _⟩
set_option maxRecDepth 100000 in
set_option maxHeartbeats 4000000 in
theorem Deal_noM (w : World) (p q : Option Addr) (n c m e : Nat) (seed : ByteArray) (h60 : m ≤ 60) (h1 : 1 ≤ n) (hnm : m < n) :
    Calls Tryz.prog 11 #[.slice p n c, .slice q m e, .string seed] w (NoQ w) := by
  obtain ⟨W, hW⟩ : ∃ W, w.alloc (.cells #[.slice none 0 0, .int .i64 0, .slice none 0 0] 34) = W := ⟨_, rfl⟩
  have HB := Lib.hid (show Below w.heap.size w W by rw [← hW]; exact (Below.refl _ w).alloc (Nat.le_refl _) _)
  have HR := Lib.hid (show W.heap[w.heap.size]? = some (.cells #[.slice none 0 0, .int .i64 0, .slice none 0 0] 34 (0, 0)) by rw [← hW]; exact heap_alloc_new _ _)
  have d1 : decide (60 < (m : Int)) = false := decide_eq_false (by omega)
  have d2 : decide ((n : Int) < 1) = false := decide_eq_false (by omega)
  have d3 : decide ((m : Int) < (n : Int)) = true := decide_eq_true (by omega)
  have d4 : decide (m < n) = true := decide_eq_true (by omega)
  go_enter Tryz.func11, Tryz.ntmps11
  go_upto_region 1 with fail
  clear hW
  have hz := HR.out
  have h0 := infoD (.slice none 0 0) (.int .i64 0) (.slice none 0 0)
  go_wp2_with (refine wpList_store_row rfl 34 (.tmp 6) (.tmp 39) rfl w.heap.size #[.slice none 0 0, .int .i64 0, .slice none 0 0] rfl rfl 34 #[.slice none 0 0, .int .i64 0, .slice none 0 0] hz h0.out (three_size _ _ _ _ _ _) (by simp [Value.oneCell']) ?_)
  refine bodyPost_ret (results_row_tmp rfl _ _ w.heap.size _ #[.slice none 0 0, .int .i64 0, .slice none 0 0] _ _ rfl (setRow_heap _ _ _ _ _ _ hz) Tryz.underlying34 rfl h0.out) rfl ?_
  exact ⟨rfl, Below.setRow' HB.out (Nat.le_refl _) _⟩
set_option maxRecDepth 100000 in
set_option maxHeartbeats 4000000 in
theorem Deal_noQ (w : World) (p q : Option Addr) (n c m e : Nat) (seed : ByteArray) (h60 : m ≤ 60) (h1 : 1 ≤ n) (hnm : n ≤ m) (A1 : Hid (∀ W, Below w.heap.size w W → Calls Tryz.prog 32 #[.slice p n c, .func (.func 33) #[] #[]] W fun e w' => e = .returned (.bool false) ∧ Below W.heap.size W w')) :
    Calls Tryz.prog 11 #[.slice p n c, .slice q m e, .string seed] w (NoQ w) := by
  obtain ⟨W, hW⟩ : ∃ W, w.alloc (.cells #[.slice none 0 0, .int .i64 0, .slice none 0 0] 34) = W := ⟨_, rfl⟩
  have HB := Lib.hid (show Below w.heap.size w W by rw [← hW]; exact (Below.refl _ w).alloc (Nat.le_refl _) _)
  have HR := Lib.hid (show W.heap[w.heap.size]? = some (.cells #[.slice none 0 0, .int .i64 0, .slice none 0 0] 34 (0, 0)) by rw [← hW]; exact heap_alloc_new _ _)
  have d1 : decide (60 < (m : Int)) = false := decide_eq_false (by omega)
  have d2 : decide ((n : Int) < 1) = false := decide_eq_false (by omega)
  have d3 : decide ((m : Int) < (n : Int)) = false := decide_eq_false (by omega)
  have d4 : decide (m < n) = false := decide_eq_false (by omega)
  go_enter Tryz.func11, Tryz.ntmps11
  go_upto_region 1 with fail
  clear hW
  go_wp2_with fail
  refine (A1.out _ HB.out).mono ?_
  rintro e w1 ⟨rfl, b⟩
  replace HB := Lib.hid (HB.out.trans (b.mono HB.out.size))
  replace HR := Lib.hid ((b.block _ (Array.getElem?_eq_some_iff.1 HR.out).1).trans HR.out)
  clear b
  have hz := HR.out
  have h0 := infoD (.slice none 0 0) (.int .i64 0) (.slice none 0 0)
  go_wp2_with (refine wpList_store_row rfl 34 (.tmp 6) (.tmp 39) rfl w.heap.size #[.slice none 0 0, .int .i64 0, .slice none 0 0] rfl rfl 34 #[.slice none 0 0, .int .i64 0, .slice none 0 0] hz h0.out (three_size _ _ _ _ _ _) (by simp [Value.oneCell']) ?_)
  refine bodyPost_ret (results_row_tmp rfl _ _ w.heap.size _ #[.slice none 0 0, .int .i64 0, .slice none 0 0] _ _ rfl (setRow_heap _ _ _ _ _ _ hz) Tryz.underlying34 rfl h0.out) rfl ?_
  exact ⟨rfl, Below.setRow' HB.out (Nat.le_refl _) _⟩
set_option maxRecDepth 100000 in
set_option maxHeartbeats 4000000 in
theorem Deal_noK (w : World) (p q : Option Addr) (n c m e : Nat) (seed : ByteArray) (h60 : m ≤ 60) (h1 : 1 ≤ n) (hnm : n ≤ m) (A1 : Hid (∀ W, Below w.heap.size w W → Calls Tryz.prog 32 #[.slice p n c, .func (.func 33) #[] #[]] W fun e w' => e = .returned (.bool true) ∧ Below W.heap.size W w')) (A2 : Hid (∀ W, Below w.heap.size w W → Calls Tryz.prog 32 #[.slice q m e, .func (.func 34) #[] #[]] W fun e w' => e = .returned (.bool false) ∧ Below W.heap.size W w')) :
    Calls Tryz.prog 11 #[.slice p n c, .slice q m e, .string seed] w (NoQ w) := by
  obtain ⟨W, hW⟩ : ∃ W, w.alloc (.cells #[.slice none 0 0, .int .i64 0, .slice none 0 0] 34) = W := ⟨_, rfl⟩
  have HB := Lib.hid (show Below w.heap.size w W by rw [← hW]; exact (Below.refl _ w).alloc (Nat.le_refl _) _)
  have HR := Lib.hid (show W.heap[w.heap.size]? = some (.cells #[.slice none 0 0, .int .i64 0, .slice none 0 0] 34 (0, 0)) by rw [← hW]; exact heap_alloc_new _ _)
  have d1 : decide (60 < (m : Int)) = false := decide_eq_false (by omega)
  have d2 : decide ((n : Int) < 1) = false := decide_eq_false (by omega)
  have d3 : decide ((m : Int) < (n : Int)) = false := decide_eq_false (by omega)
  have d4 : decide (m < n) = false := decide_eq_false (by omega)
  go_enter Tryz.func11, Tryz.ntmps11
  go_upto_region 1 with fail
  clear hW
  go_wp2_with fail
  refine (A1.out _ HB.out).mono ?_
  rintro e w1 ⟨rfl, b⟩
  replace HB := Lib.hid (HB.out.trans (b.mono HB.out.size))
  replace HR := Lib.hid ((b.block _ (Array.getElem?_eq_some_iff.1 HR.out).1).trans HR.out)
  clear b
  go_wp2_with fail
  refine (A2.out _ HB.out).mono ?_
  rintro e w2 ⟨rfl, b⟩
  replace HB := Lib.hid (HB.out.trans (b.mono HB.out.size))
  replace HR := Lib.hid ((b.block _ (Array.getElem?_eq_some_iff.1 HR.out).1).trans HR.out)
  clear b
  have hz := HR.out
  have h0 := infoD (.slice none 0 0) (.int .i64 0) (.slice none 0 0)
  go_wp2_with (refine wpList_store_row rfl 34 (.tmp 6) (.tmp 39) rfl w.heap.size #[.slice none 0 0, .int .i64 0, .slice none 0 0] rfl rfl 34 #[.slice none 0 0, .int .i64 0, .slice none 0 0] hz h0.out (three_size _ _ _ _ _ _) (by simp [Value.oneCell']) ?_)
  refine bodyPost_ret (results_row_tmp rfl _ _ w.heap.size _ #[.slice none 0 0, .int .i64 0, .slice none 0 0] _ _ rfl (setRow_heap _ _ _ _ _ _ hz) Tryz.underlying34 rfl h0.out) rfl ?_
  exact ⟨rfl, Below.setRow' HB.out (Nat.le_refl _) _⟩
theorem Deal_no (w : World) (cv kv : Value) (coefs keys : List Int) (seed : ByteArray) (hC : SL w cv coefs) (hK : SL w kv keys) (hrc : ∀ x ∈ coefs, i64 x) (hrk : ∀ x ∈ keys, i64 x) (hlc : coefs.length ≤ 1000000000) (hlk : keys.length ≤ 1000000000) (h : gd coefs keys = false) :
    Calls Tryz.prog 11 #[cv, kv, .string seed] w (NoQ w) := by
  have hC' := hC; have hK' := hK
  obtain ⟨p, c, rfl, hc⟩ := hC.form
  obtain ⟨q, e, rfl, hk⟩ := hK.form
  by_cases h60 : keys.length ≤ 60
  · by_cases h1 : 1 ≤ coefs.length
    · by_cases hnm : coefs.length ≤ keys.length
      · cases hq : coefs.all inQ with
        | false => exact Deal_noQ w p q _ c _ e seed h60 h1 hnm (Lib.hid fun W b => all_exponents W _ coefs false hq (hC'.below b) hrc hlc)
        | true =>
          cases hm : keys.all mem with
          | false => exact Deal_noK w p q _ c _ e seed h60 h1 hnm (Lib.hid fun W b => all_exponents W _ coefs true hq (hC'.below b) hrc hlc) (Lib.hid fun W b => all_members W _ keys false hm (hK'.below b) hrk hlk)
          | true =>
            exfalso
            unfold gd at h
            rw [decide_eq_false (by omega), decide_eq_false (by omega), decide_eq_false (by omega), hq, hm] at h
            simp at h
      · exact Deal_noM w p q _ c _ e seed h60 h1 (by omega)
    · exact Deal_no1 w p q _ c _ e seed h60 (by omega)
  · exact Deal_no60 w p q _ c _ e seed (by omega)
theorem gd_parts {coefs keys : List Int} (h : gd coefs keys = true) : keys.length ≤ 60 ∧ 1 ≤ coefs.length ∧ coefs.length ≤ keys.length ∧ coefs.all inQ = true ∧ keys.all mem = true := by
  unfold gd at h
  simp only [Bool.and_eq_true, Bool.not_eq_true', decide_eq_false_iff_not] at h
  obtain ⟨⟨⟨⟨a, b⟩, c⟩, d⟩, e⟩ := h
  exact ⟨by omega, by omega, by omega, d, e⟩
end Go.Proofs.YtjfbpmpdcmealaaGreatDoor.D7
