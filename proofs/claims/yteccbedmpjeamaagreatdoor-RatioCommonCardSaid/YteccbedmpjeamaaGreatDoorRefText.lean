/-
  The walk of the reference's Text.
-/
import Derived.Test.YteccbedmpjeamaaGreatDoorDec
import Derived.Lib.ItoaNum
namespace Go.Proofs.YteccbedmpjeamaaGreatDoor
open Go.RowKit NM
/-- the text of a number -/
def dtext (n : Nat) : ByteArray := ⟨(Lib.decDigits n).toArray⟩
theorem conv_one (W : World) (c : Nat) (h : c < 256) (t : TypeId) :
    (convert 57 9 (.slice (some ⟨W.heap.size, 0, none⟩) 1 1)).run Tryz.prog (W.alloc (.cells #[.int .u8 (c : Int)] t)) = .ok (.string ⟨#[UInt8.ofNat c]⟩) (W.alloc (.cells #[.int .u8 (c : Int)] t)) := by
  have := run_convert_bytes_back (P := Tryz.prog) (W.alloc (.cells #[.int .u8 (c : Int)] t)) 57 9 5 ⟨W.heap.size, 0, none⟩ 1 [UInt8.ofNat c] Tryz.underlying57 Tryz.underlying5 Tryz.underlying9 (fun j hj => by
    obtain rfl : j = 0 := by simp at hj; exact hj
    simp [Addr.add]
    omega)
  simpa using this
theorem ten_step (n : Nat) (h : ¬ n < 10) (T : List UInt8) : Lib.decDigits (n / 10) ++ ([UInt8.ofNat (48 + n % 10)] ++ T) = Lib.decDigits n ++ T := by
  conv => rhs; rw [Lib.decDigits, dif_neg h]
  rw [List.append_assoc]
theorem dec_len (k : Nat) : ∀ n, 1 ≤ k → n < 10^k → (Lib.decDigits n).length ≤ k := by
  induction k with
  | zero => intro n h; omega
  | succ k ih =>
    intro n _ hn
    rw [Lib.decDigits]
    split
    · simp
    · rename_i h
      have hk : 1 ≤ k := by
        rcases Nat.eq_zero_or_pos k with h0 | h0
        · subst h0; simp at hn; omega
        · exact h0
      have := ih (n / 10) hk (by rw [Nat.pow_succ] at hn; omega)
      rw [List.length_append, List.length_singleton]; omega
theorem dec_len_sv (a : ByteArray) (h : a.size ≤ 1000000000) : (Lib.decDigits (sv a)).length ≤ 3000000001 := by
  refine Nat.le_trans (dec_len (3 * a.size + 1) (sv a) (by omega) ?_) (by omega)
  have h1 := sv_lt_size a
  have h2 : 256^a.size ≤ (10^3)^a.size := Nat.pow_le_pow_left (by decide) _
  rw [← Nat.pow_mul] at h2
  rw [Nat.pow_succ]
  omega
set_option maxRecDepth 100000 in
set_option maxHeartbeats 4000000 in
theorem RefText_any (w : World) (a : ByteArray) (ha : a.size ≤ 1000000000) :
    Calls Tryz.prog 60 #[.string a] w fun e w' => e = .returned (.string (dtext (sv a))) ∧ Below w.heap.size w w' := by
  have hca := Canon_any w a (by omega)
  rw [tz_NB] at hca
  have sa : (NB (sv a)).size ≤ 1000000000 := Nat.le_trans (NB_size (sv_lt_size a)) ha
  have hdl := dec_len_sv a ha
  obtain ⟨N, hN⟩ : ∃ N, N = sv a := ⟨_, rfl⟩
  rw [← hN] at hca sa hdl ⊢
  clear hN
  have HA := Lib.hid hca; clear hca
  by_cases h0 : N = 0
  · subst h0
    have e0 : NB 0 = ⟨#[]⟩ := by unfold NB; simp [nb]
    have e1 : dtext 0 = ⟨#[48]⟩ := by unfold dtext; rw [Lib.decDigits_one (by omega)]; rfl
    have HE := Lib.hid e1; clear e1
    rw [e0] at HA
    clear sa hdl
    go_enter Tryz.func60, Tryz.ntmps60
    go_wp2_with fail
    refine HA.out.mono ?_
    rintro e w1 ⟨rfl, rfl⟩
    go_wp2
    go_ret
    exact ⟨by rw [HE.out]; rfl, Below.refl _ _⟩
  · have hsz : ∀ n : Nat, n ≠ 0 → ((NB n).size : Int) ≠ 0 ∧ decide ((0 : Int) < ((NB n).size : Int)) = true := fun n hn => by
      have h1 : (NB n).size ≠ 0 := fun h => by
        have := sv_lt_size (NB n)
        rw [h, sv_NB] at this; omega
      exact ⟨by omega, by simp; omega⟩
    have hz0 : (((NB N).size : Int) == 0) = false := beq_eq_false_iff_ne.2 (hsz N h0).1
    have HZ := Lib.hid hsz; clear hsz
    have HS := Lib.hid (And.intro sa (And.intro hdl h0)); clear sa hdl h0
    go_enter Tryz.func60, Tryz.ntmps60
    go_wp2_with fail
    refine HA.out.mono ?_
    rintro e w1 ⟨rfl, rfl⟩
    go_wp2_with fail
    clear hz0 HA
    go_loopw [0, 3] (fun av sw wr => ∃ (n : Nat) (T : ByteArray), av = .string (NB n) ∧ sw = .string T ∧ Hid (n ≤ N) ∧ Hid (n ≠ 0 → Lib.decDigits n ++ T.data.toList = Lib.decDigits N) ∧ Hid (n = 0 → T.data.toList = Lib.decDigits N) ∧ Below w.heap.size w wr) (fun av _ _ => match av with | .string s => sv s | _ => 0)
    case atStart => exact ⟨N, _, rfl, rfl, Lib.hid (Nat.le_refl _), Lib.hid (fun _ => by simp), Lib.hid (fun h => absurd h HS.out.2.2), Below.refl _ _⟩
    case round =>
      obtain ⟨n, T, rfl, rfl, hn, hne, hz, hB⟩ := hrel
      by_cases h0 : n = 0
      · subst h0
        have e0 : NB 0 = ⟨#[]⟩ := by unfold NB; simp [nb]
        rw [e0]
        have hT : T = dtext N := by
          have := hz.out rfl
          cases T with
          | mk d => unfold dtext; rw [← this]
        subst hT
        clear hn hne hz
        go_wp2
        go_ret
        exact ⟨rfl, hB⟩
      · have hd := (HZ.out n h0).2
        have hd2 : 0 < (NB n).size := by have := (HZ.out n h0).1; omega
        have hns : (NB n).size ≤ 1000000000 := by
          refine Nat.le_trans (NB_size (Nat.lt_of_le_of_lt hn.out ?_)) HS.out.1
          have := sv_lt_size (NB N); rwa [sv_NB] at this
        have hO : ∀ W, Calls Tryz.prog 34 #[.int .i64 10] W fun e w' => e = .returned (.string (NB 10)) ∧ Below W.heap.size W w' := fun W => by
          have := RefOf_any W 10 (by omega) (by omega)
          exact this
        have hQ := fun W => quoR_c W (NB n) (NB 10) (n / 10) (n % 10) (by rw [sv_NB, sv_NB]) (by rw [sv_NB, sv_NB]) hns (Nat.le_trans (NB_size (k := 1) (by omega)) (by omega)) (by rw [sv_NB]; omega)
        have hI := fun W => RefInt_any W (NB (n % 10)) (Nat.le_trans (NB_size (k := 1) (by omega)) (by omega))
        rw [show IntV (NB (n % 10)) = .tuple #[.int .i64 ((n % 10 : Nat) : Int), .bool true] by unfold IntV; rw [sv_NB, if_pos (by omega)]] at hI
        obtain ⟨r, hr⟩ : ∃ r, r = n % 10 := ⟨_, rfl⟩
        have hr10 : r < 10 := by omega
        rw [← hr] at hI hQ
        have x1 : IntKind.i64.wrap (48 + (r : Int)) = 48 + (r : Int) := IntWalk.i64_in _ ⟨by omega, by omega⟩
        obtain ⟨c, hc⟩ : ∃ c, c = 48 + r := ⟨_, rfl⟩
        have x2 : IntKind.u8.wrap (48 + (r : Int)) = (c : Int) := by rw [IntKind.wrap_u8]; omega
        have hcv := fun W => conv_one W c (by omega) 5
        have hlen : T.size ≤ 3000000001 := by
          have h1 := hne.out h0
          have h2 := congrArg List.length h1
          rw [List.length_append, show T.data.toList.length = T.size from Array.length_toList] at h2
          have := HS.out.2.1; omega
        have hstep : n / 10 ≠ 0 → Lib.decDigits (n / 10) ++ ((⟨#[UInt8.ofNat c]⟩ : ByteArray) ++ T).data.toList = Lib.decDigits N := fun h => by
          rw [ByteArray.data_append, Array.toList_append, ← hne.out h0]
          show Lib.decDigits (n / 10) ++ ([UInt8.ofNat c] ++ _) = _
          rw [hc, hr]; exact ten_step n (by omega) _
        have hlast : n / 10 = 0 → ((⟨#[UInt8.ofNat c]⟩ : ByteArray) ++ T).data.toList = Lib.decDigits N := fun h => by
          rw [ByteArray.data_append, Array.toList_append, ← hne.out h0, Lib.decDigits_one (by omega)]
          show [UInt8.ofNat c] ++ _ = _
          rw [hc, hr, Nat.mod_eq_of_lt (by omega)]
        have hdec : sv (NB (n / 10)) < sv (NB n) := by rw [sv_NB, sv_NB]; omega
        have HX := Lib.hid (And.intro hstep (And.intro hlast (And.intro hdec (show n / 10 ≤ N by have := hn.out; omega)))); clear hstep hlast hdec hns
        have HQ := Lib.hid hQ; have HO := Lib.hid hO; have HI := Lib.hid hI; clear hQ hO hI hr hc
        go_wp2_with fail
        refine (HO.out _).mono ?_
        rintro e w3 ⟨rfl, b⟩
        replace hB := hB.trans (b.mono hB.size); clear b
        go_wp2_with fail
        refine (HQ.out _).mono ?_
        rintro e w4 ⟨rfl, b⟩
        replace hB := hB.trans (b.mono hB.size); clear b
        go_wp2_with fail
        refine (HI.out _).mono ?_
        rintro e w5 ⟨rfl, rfl⟩
        have hcv4 := hcv w4
        go_wp2
        refine ⟨⟨n / 10, _, rfl, rfl, Lib.hid HX.out.2.2.2, Lib.hid HX.out.1, Lib.hid HX.out.2.1, hB.alloc hB.size _⟩, ?_⟩
        exact HX.out.2.2.1
end Go.Proofs.YteccbedmpjeamaaGreatDoor
