/-
  The hash of a string as a function on numbers: words, rounds, blocks, padding.
-/
namespace SH
abbrev M : Nat := 4294967296
/-- x rotated to the right by n bits -/
def rr (x n : Nat) : Nat := x / 2^n ||| (x * 2^(32-n)) % M
def ad (x y : Nat) : Nat := (x + y) % M
def nt (x : Nat) : Nat := 4294967295 - x
def s0 (x : Nat) : Nat := (rr x 7 ^^^ rr x 18) ^^^ x / 8
def s1 (y : Nat) : Nat := (rr y 17 ^^^ rr y 19) ^^^ y / 1024
def S1 (e : Nat) : Nat := (rr e 6 ^^^ rr e 11) ^^^ rr e 25
def S0 (a : Nat) : Nat := (rr a 2 ^^^ rr a 13) ^^^ rr a 22
def ch (e f g : Nat) : Nat := (e &&& f) ^^^ (nt e &&& g)
def mj (a b c : Nat) : Nat := ((a &&& b) ^^^ (a &&& c)) ^^^ (b &&& c)
structure St where
  (a b c d e f g h : Nat)
def St.l (s : St) : List Nat := [s.a, s.b, s.c, s.d, s.e, s.f, s.g, s.h]
def tt (s : St) (k w : Nat) : Nat := ad (ad (ad (ad s.h (S1 s.e)) (ch s.e s.f s.g)) k) w
def uu (s : St) : Nat := ad (S0 s.a) (mj s.a s.b s.c)
def St.step (s : St) (k w : Nat) : St := ⟨ad (tt s k w) (uu s), s.a, s.b, s.c, ad s.d (tt s k w), s.e, s.f, s.g⟩
def St.add (s t : St) : St := ⟨ad s.a t.a, ad s.b t.b, ad s.c t.c, ad s.d t.d, ad s.e t.e, ad s.f t.f, ad s.g t.g, ad s.h t.h⟩
def cube : List Nat := [
  0x428a2f98, 0x71374491, 0xb5c0fbcf, 0xe9b5dba5, 0x3956c25b, 0x59f111f1, 0x923f82a4, 0xab1c5ed5,
  0xd807aa98, 0x12835b01, 0x243185be, 0x550c7dc3, 0x72be5d74, 0x80deb1fe, 0x9bdc06a7, 0xc19bf174,
  0xe49b69c1, 0xefbe4786, 0x0fc19dc6, 0x240ca1cc, 0x2de92c6f, 0x4a7484aa, 0x5cb0a9dc, 0x76f988da,
  0x983e5152, 0xa831c66d, 0xb00327c8, 0xbf597fc7, 0xc6e00bf3, 0xd5a79147, 0x06ca6351, 0x14292967,
  0x27b70a85, 0x2e1b2138, 0x4d2c6dfc, 0x53380d13, 0x650a7354, 0x766a0abb, 0x81c2c92e, 0x92722c85,
  0xa2bfe8a1, 0xa81a664b, 0xc24b8b70, 0xc76c51a3, 0xd192e819, 0xd6990624, 0xf40e3585, 0x106aa070,
  0x19a4c116, 0x1e376c08, 0x2748774c, 0x34b0bcb5, 0x391c0cb3, 0x4ed8aa4a, 0x5b9cca4f, 0x682e6ff3,
  0x748f82ee, 0x78a5636f, 0x84c87814, 0x8cc70208, 0x90befffa, 0xa4506ceb, 0xbef9a3f7, 0xc67178f2]
def square : St := ⟨0x6a09e667, 0xbb67ae85, 0x3c6ef372, 0xa54ff53a, 0x510e527f, 0x9b05688c, 0x1f83d9ab, 0x5be0cd19⟩
/-- word i of the schedule of a block, whose words it lists -/
def gw (X : List Nat) (j : Nat) : Nat := X.getD j 0
def wnext (X : List Nat) (i : Nat) : Nat := ad (ad (ad (gw X (i-16)) (s0 (gw X (i-15)))) (gw X (i-7))) (s1 (gw X (i-2)))
/-- the first word of a row of bytes -/
def word (b : List UInt8) (i : Nat) : Nat := (b.getD (4*i) 0).toNat * 16777216 + (b.getD (4*i+1) 0).toNat * 65536 + (b.getD (4*i+2) 0).toNat * 256 + (b.getD (4*i+3) 0).toNat
/-- the first n words of the schedule of a block -/
def sch (b : List UInt8) : Nat → List Nat
  | 0 => []
  | n+1 => sch b n ++ [if n < 16 then word b n else wnext (sch b n) n]
def rounds (X : List Nat) (s : St) : Nat → St
  | 0 => s
  | n+1 => (rounds X s n).step (gw cube n) (gw X n)
def block (s : St) (b : List UInt8) : St := s.add (rounds (sch b 64) s 64)
/-- n blocks of a row of bytes -/
def blocks (s : St) (b : List UInt8) : Nat → St
  | 0 => s
  | n+1 => block (blocks s b n) ((b.drop (64*n)).take 64)
/-- how many bytes of value 0 stand in the padding of a message of n bytes -/
def zeros (n : Nat) : Nat := (119 - n % 64) % 64
def len8 (n : Nat) : List UInt8 := (List.range 8).map fun i => UInt8.ofNat (n * 8 / 2^(56 - 8*i))
def pad (n : Nat) : List UInt8 := 128 :: (List.replicate (zeros n) 0 ++ len8 n)
def byteOf (X : List Nat) (i : Nat) : UInt8 := UInt8.ofNat (gw X (i/4) / 2^(24 - i%4*8))
def out (s : St) : List UInt8 := (List.range 32).map (byteOf s.l)
def sha (b : List UInt8) : List UInt8 := out (blocks square (b ++ pad b.length) ((b.length + 72) / 64))
/-! the same, so that the kernel computes each number once -/
def frc {α : Type} (n : Nat) (k : Nat → α) : α := Nat.rec (k 0) (fun m _ => k (Nat.succ m)) n
theorem frc_eq {α : Type} (n : Nat) (k : Nat → α) : frc n k = k n := by cases n <;> rfl
def frcS {α : Type} (s : St) (k : St → α) : α :=
  frc s.a fun a => frc s.b fun b => frc s.c fun c => frc s.d fun d => frc s.e fun e => frc s.f fun f => frc s.g fun g => frc s.h fun h => k ⟨a, b, c, d, e, f, g, h⟩
theorem frcS_eq {α : Type} (s : St) (k : St → α) : frcS s k = k s := by simp [frcS, frc_eq]
/-- n more words, the newest first -/
def schE (b : List UInt8) : Nat → Nat → List Nat → List Nat
  | 0, _, R => R
  | n+1, i, R => frc (if i < 16 then word b i else ad (ad (ad (R.getD 15 0) (s0 (R.getD 14 0))) (R.getD 6 0)) (s1 (R.getD 1 0))) fun v => schE b n (i+1) (v :: R)
def goE : List Nat → List Nat → St → St
  | k :: K, w :: W, s => frcS (s.step k w) (goE K W)
  | _, _, s => s
def blockE (s : St) (b : List UInt8) : St := frcS (s.add (goE cube (schE b 64 0 []).reverse s)) id
theorem sch_length (b : List UInt8) : ∀ n, (sch b n).length = n
  | 0 => rfl
  | n+1 => by simp [sch, sch_length b n]
theorem getD_rev (R : List Nat) (i j : Nat) (h : i + j + 1 = R.length) : R.reverse.getD i 0 = R.getD j 0 := by
  have h1 : i < R.length := by omega
  have h2 : j < R.length := by omega
  rw [List.getD_eq_getElem?_getD, List.getD_eq_getElem?_getD, List.getElem?_reverse h1]
  congr 2; omega
theorem schE_eq (b : List UInt8) : ∀ n i R, R.reverse = sch b i → (schE b n i R).reverse = sch b (i + n)
  | 0, i, R, h => h
  | n+1, i, R, h => by
    rw [schE, frc_eq]
    have hl : R.length = i := by rw [← List.length_reverse, h, sch_length]
    rw [schE_eq b n (i+1) _ ?_]
    · congr 1; omega
    · rw [List.reverse_cons, h, sch]
      congr 2
      split
      · rfl
      · rename_i hi
        unfold wnext gw
        rw [← h, getD_rev R (i-16) 15 (by omega), getD_rev R (i-15) 14 (by omega), getD_rev R (i-7) 6 (by omega), getD_rev R (i-2) 1 (by omega)]
theorem goE_eq : ∀ (K W : List Nat) (s : St) (n : Nat), K.length = n → W.length = n → goE K W s = Nat.rec s (fun i t => t.step (gw K i) (gw W i)) n
  | [], [], s, n, h, _ => by subst h; rfl
  | k :: K, w :: W, s, n, h, h2 => by
    obtain ⟨m, rfl⟩ : ∃ m, n = m + 1 := ⟨K.length, by simp at h; omega⟩
    rw [goE, frcS_eq, goE_eq K W _ m (by simpa using h) (by simpa using h2)]
    clear h h2
    induction m with
    | zero => rfl
    | succ m ih => show St.step _ _ _ = _; rw [ih]; rfl
  | [], _ :: _, _, n, h, h2 => by simp at h h2; omega
  | _ :: _, [], _, n, h, h2 => by simp at h h2; omega
theorem rounds_rec (X : List Nat) (s : St) : ∀ n, rounds X s n = Nat.rec s (fun i t => t.step (gw cube i) (gw X i)) n
  | 0 => rfl
  | n+1 => by rw [rounds, rounds_rec X s n]
theorem blockE_eq (s : St) (b : List UInt8) : blockE s b = block s b := by
  unfold blockE block
  rw [frcS_eq, schE_eq b 64 0 [] rfl, goE_eq cube (sch b 64) s 64 (by decide) (sch_length b 64), rounds_rec]; rfl
def sha1E (b : List UInt8) : List UInt8 := frcS (blockE square (b ++ pad b.length)) out
theorem sha_small (b : List UInt8) (h : b.length < 56) : sha b = sha1E b := by
  unfold sha sha1E
  rw [frcS_eq, blockE_eq]
  have h1 : (b.length + 72) / 64 = 1 := by omega
  have h2 : (b ++ pad b.length).length = 64 := by simp [pad, len8, zeros]; omega
  rw [h1]
  show out (block (blocks square _ 0) _) = _
  rw [blocks, Nat.mul_zero, List.drop_zero, List.take_of_length_le (by omega)]
/-! bounds -/
theorem ad_lt (x y : Nat) : ad x y < M := Nat.mod_lt _ (by decide)
theorem nt_lt (x : Nat) : nt x < M := by unfold nt M; omega
theorem rr_lt {x : Nat} (h : x < M) (n : Nat) : rr x n < M := by
  unfold rr
  exact Nat.or_lt_two_pow (n := 32) (Nat.lt_of_le_of_lt (Nat.div_le_self _ _) h) (Nat.mod_lt _ (by decide))
theorem xor_lt {x y : Nat} (h : x < M) (k : y < M) : x ^^^ y < M := Nat.xor_lt_two_pow (n := 32) h k
theorem and_lt {x : Nat} (y : Nat) (h : x < M) : x &&& y < M := Nat.lt_of_le_of_lt Nat.and_le_left h
structure St.Ok (s : St) : Prop where
  a : s.a < M
  b : s.b < M
  c : s.c < M
  d : s.d < M
  e : s.e < M
  f : s.f < M
  g : s.g < M
  h : s.h < M
theorem St.Ok.step {s : St} (h : s.Ok) (k w : Nat) : (s.step k w).Ok := ⟨ad_lt _ _, h.a, h.b, h.c, ad_lt _ _, h.e, h.f, h.g⟩
theorem St.Ok.add (s t : St) : (s.add t).Ok := ⟨ad_lt _ _, ad_lt _ _, ad_lt _ _, ad_lt _ _, ad_lt _ _, ad_lt _ _, ad_lt _ _, ad_lt _ _⟩
theorem rounds_ok (X : List Nat) {s : St} (h : s.Ok) : ∀ n, (rounds X s n).Ok
  | 0 => h
  | n+1 => (rounds_ok X h n).step _ _
theorem block_ok (s : St) (b : List UInt8) : (block s b).Ok := St.Ok.add _ _
theorem square_ok : square.Ok := ⟨by decide, by decide, by decide, by decide, by decide, by decide, by decide, by decide⟩
theorem blocks_ok {s : St} (h : s.Ok) (b : List UInt8) : ∀ n, (blocks s b n).Ok
  | 0 => h
  | _+1 => block_ok _ _
theorem word_lt (b : List UInt8) (i : Nat) : word b i < M := by
  unfold word M
  have h0 := (b.getD (4*i) 0).toNat_lt
  have h1 := (b.getD (4*i+1) 0).toNat_lt
  have h2 := (b.getD (4*i+2) 0).toNat_lt
  have h3 := (b.getD (4*i+3) 0).toNat_lt
  omega
theorem wnext_lt (X : List Nat) (i : Nat) : wnext X i < M := ad_lt _ _
theorem gw_sch_lt (b : List UInt8) (n : Nat) : ∀ j, gw (sch b n) j < M := by
  intro j
  induction n with
  | zero => simp [gw, sch, M]
  | succ n ih =>
    unfold gw at *
    rw [sch, List.getD_eq_getElem?_getD, List.getElem?_append]
    split
    · rw [← List.getD_eq_getElem?_getD]; exact ih
    · cases hj : j - (sch b n).length with
      | zero => simp; split; exact word_lt _ _; exact wnext_lt _ _
      | succ k => simp [M]
theorem gw_cube_lt (j : Nat) : gw cube j < M := by
  unfold gw
  by_cases h : j < 64
  · have : ∀ j, j < 64 → cube.getD j 0 < M := by decide +kernel
    exact this j h
  · rw [List.getD_eq_getElem?_getD, List.getElem?_eq_none (by show 64 ≤ j; omega)]; decide
/-- the words stay as they are made -/
theorem gw_sch_le (b : List UInt8) {j n m : Nat} (h : j < n) (k : n ≤ m) : gw (sch b m) j = gw (sch b n) j := by
  induction m with
  | zero => omega
  | succ m ih =>
    by_cases e : n = m + 1
    · rw [e]
    · rw [← ih (by omega)]
      unfold gw
      rw [sch, List.getD_eq_getElem?_getD, List.getElem?_append_left (by rw [sch_length]; omega), ← List.getD_eq_getElem?_getD]
theorem gw_sch_new (b : List UInt8) (n : Nat) : gw (sch b (n+1)) n = if n < 16 then word b n else wnext (sch b n) n := by
  unfold gw
  rw [sch, List.getD_eq_getElem?_getD, List.getElem?_append_right (by rw [sch_length]; exact Nat.le_refl _), sch_length]; simp
/-- the bytes of a word, one by one -/
theorem join8 (x c : Nat) (hx : x < 16777216) (hc : c < 256) : (x * 256 % M) ||| c = x * 256 + c := by
  have h1 : x * 256 % M = x * 256 := Nat.mod_eq_of_lt (by unfold M; omega)
  rw [h1]
  have := Nat.shiftLeft_add_eq_or_of_lt (i := 8) (show c < 2^8 from hc) x
  rw [← show x <<< 8 = x * 256 by rw [Nat.shiftLeft_eq]]
  exact this.symm
theorem join_word (b0 b1 b2 b3 : Nat) (h0 : b0 < 256) (h1 : b1 < 256) (h2 : b2 < 256) (h3 : b3 < 256) :
    ((b0 * 16777216 % M ||| b1 * 65536 % M) ||| b2 * 256 % M) ||| b3 = b0 * 16777216 + b1 * 65536 + b2 * 256 + b3 := by
  have e0 : b0 * 16777216 % M = b0 * 16777216 := Nat.mod_eq_of_lt (by unfold M; omega)
  have e1 : b1 * 65536 % M = b1 * 65536 := Nat.mod_eq_of_lt (by unfold M; omega)
  have e2 : b2 * 256 % M = b2 * 256 := Nat.mod_eq_of_lt (by unfold M; omega)
  rw [e0, e1, e2]
  have a1 := Nat.shiftLeft_add_eq_or_of_lt (i := 24) (show b1 * 65536 < 2^24 by omega) b0
  have a2 := Nat.shiftLeft_add_eq_or_of_lt (i := 16) (show b2 * 256 < 2^16 by omega) (b0 * 256 + b1)
  have a3 := Nat.shiftLeft_add_eq_or_of_lt (i := 8) (show b3 < 2^8 by omega) (b0 * 65536 + b1 * 256 + b2)
  simp only [Nat.shiftLeft_eq] at a1 a2 a3
  have f1 : b0 * 16777216 ||| b1 * 65536 = b0 * 16777216 + b1 * 65536 := by simpa using a1.symm
  rw [f1]
  have f2 : (b0 * 16777216 + b1 * 65536) ||| b2 * 256 = b0 * 16777216 + b1 * 65536 + b2 * 256 := by
    have h := a2.symm
    have e : (b0 * 256 + b1) * 2^16 = b0 * 16777216 + b1 * 65536 := by rw [show (2:Nat)^16 = 65536 from rfl, Nat.add_mul, Nat.mul_assoc]
    rw [e] at h
    exact h
  rw [f2]
  have h := a3.symm
  have e : (b0 * 65536 + b1 * 256 + b2) * 2^8 = b0 * 16777216 + b1 * 65536 + b2 * 256 := by rw [show (2:Nat)^8 = 256 from rfl, Nat.add_mul, Nat.add_mul, Nat.mul_assoc, Nat.mul_assoc]
  rw [e] at h
  exact h
end SH
