/-
  Several texts in one: CMath, FMath, DMath.
-/

/-
  The sum by shifts: a register of 32 bits, a bit a step; half a byte a step by a table; sums put on one another; a run of at most 32 bits.
-/
namespace Go.Proofs.YtnhplbdbgiimkaaGreatDoor.C

def poly : BitVec 32 := 0xEDB88320#32
/-- One bit. -/
def S (c : BitVec 32) : BitVec 32 := if c.getLsbD 0 then (c >>> 1) ^^^ poly else c >>> 1
def Sn : Nat → BitVec 32 → BitVec 32
  | 0, c => c
  | n + 1, c => S (Sn n c)
theorem Sn_succ' (n : Nat) (c : BitVec 32) : Sn (n + 1) c = Sn n (S c) := by
  induction n with
  | zero => rfl
  | succ n ih => show S (Sn (n + 1) c) = S (Sn n (S c)); rw [ih]
theorem Sn_add (m n : Nat) (c : BitVec 32) : Sn (m + n) c = Sn m (Sn n c) := by
  induction m with
  | zero => simp [Sn]
  | succ m ih => rw [show m + 1 + n = (m + n) + 1 by omega]; show S (Sn (m + n) c) = S (Sn m (Sn n c)); rw [ih]
theorem xor_swap (a b p : BitVec 32) : (a ^^^ b) = (a ^^^ p) ^^^ (b ^^^ p) := by
  apply BitVec.eq_of_getLsbD_eq; intro i hi; simp only [BitVec.getLsbD_xor]
  cases a.getLsbD i <;> cases b.getLsbD i <;> cases p.getLsbD i <;> rfl
theorem xor_right (a b p : BitVec 32) : (a ^^^ b) ^^^ p = a ^^^ (b ^^^ p) := by
  apply BitVec.eq_of_getLsbD_eq; intro i hi; simp only [BitVec.getLsbD_xor]
  cases a.getLsbD i <;> cases b.getLsbD i <;> cases p.getLsbD i <;> rfl
theorem xor_mid (a b p : BitVec 32) : (a ^^^ b) ^^^ p = (a ^^^ p) ^^^ b := by
  apply BitVec.eq_of_getLsbD_eq; intro i hi; simp only [BitVec.getLsbD_xor]
  cases a.getLsbD i <;> cases b.getLsbD i <;> cases p.getLsbD i <;> rfl
theorem xor_four (a b p q : BitVec 32) : (a ^^^ b) ^^^ (p ^^^ q) = (a ^^^ p) ^^^ (b ^^^ q) := by
  rw [← xor_right, ← xor_right, xor_mid a b p]
theorem ushr_xor (a b : BitVec 32) (n : Nat) : (a ^^^ b) >>> n = (a >>> n) ^^^ (b >>> n) := by
  apply BitVec.eq_of_getLsbD_eq; intro i hi; simp [BitVec.getLsbD_ushiftRight]
theorem S_xor (a b : BitVec 32) : S (a ^^^ b) = S a ^^^ S b := by
  unfold S
  rw [BitVec.getLsbD_xor, ushr_xor]
  cases ha : a.getLsbD 0 <;> cases hb : b.getLsbD 0 <;> simp
  · rw [xor_right]
  · rw [xor_mid]
  · exact xor_swap _ _ _
theorem S_zero : S 0#32 = 0#32 := by decide
theorem Sn_xor (n : Nat) (a b : BitVec 32) : Sn n (a ^^^ b) = Sn n a ^^^ Sn n b := by
  induction n with
  | zero => rfl
  | succ n ih => show S (Sn n (a ^^^ b)) = _; rw [ih, S_xor]; rfl
theorem Sn_zero (n : Nat) : Sn n 0#32 = 0#32 := by
  induction n with
  | zero => rfl
  | succ n ih => show S (Sn n 0#32) = _; rw [ih, S_zero]
theorem poly_top : poly.getLsbD 31 = true := by decide
/-- Nothing but nothing becomes nothing. -/
theorem S_inj0 {c : BitVec 32} (h : S c = 0#32) : c = 0#32 := by
  unfold S at h
  cases h0 : c.getLsbD 0 with
  | true =>
    rw [h0, if_pos rfl] at h
    have := congrArg (fun x => x.getLsbD 31) h
    simp only [BitVec.getLsbD_xor, BitVec.getLsbD_ushiftRight, poly_top, BitVec.getLsbD_zero] at this
    rw [BitVec.getLsbD_of_ge c (1 + 31) (by decide)] at this
    cases this
  | false =>
    rw [h0] at h
    simp only [Bool.false_eq_true, if_false] at h
    apply BitVec.eq_of_getLsbD_eq; intro i hi
    match i with
    | 0 => simpa using h0
    | i + 1 =>
      have := congrArg (fun x => x.getLsbD i) h
      simp only [BitVec.getLsbD_ushiftRight] at this
      rw [show 1 + i = i + 1 by omega] at this
      simpa using this
theorem Sn_inj0 {n : Nat} {c : BitVec 32} (h : Sn n c = 0#32) : c = 0#32 := by
  induction n with
  | zero => exact h
  | succ n ih => exact ih (S_inj0 h)
/-- What has n noughts at its foot is only shifted. -/
theorem Sn_shift : ∀ (n : Nat) (c : BitVec 32), (∀ i, i < n → c.getLsbD i = false) → Sn n c = c >>> n
  | 0, c, _ => by simp [Sn]
  | n + 1, c, h => by
    rw [Sn_succ']
    have h0 : S c = c >>> 1 := by unfold S; rw [h 0 (by omega)]; rfl
    rw [h0, Sn_shift n (c >>> 1) (fun i hi => by rw [BitVec.getLsbD_ushiftRight]; exact h _ (by omega))]
    rw [← BitVec.shiftRight_add]
    congr 1; omega

/-- The table of half bytes. -/
def tab : List Nat := [0, 498536548, 997073096, 651767980, 1994146192, 1802195444, 1303535960, 1342533948, 3988292384, 4027552580, 3604390888, 3412177804, 2607071920, 2262029012, 2685067896, 3183342108]
def tabAt (n : Nat) : BitVec 32 := BitVec.ofNat 32 (tab.getD n 0)
theorem tab_eq : ∀ n, n < 16 → Sn 4 (BitVec.ofNat 32 n) = tabAt n := by decide
theorem split15 (c : BitVec 32) : c = (c &&& ~~~15#32) ^^^ (c &&& 15#32) := by
  apply BitVec.eq_of_getLsbD_eq; intro i hi
  simp only [BitVec.getLsbD_xor, BitVec.getLsbD_and, BitVec.getLsbD_not, hi, decide_true, Bool.true_and]
  cases c.getLsbD i <;> cases (15#32).getLsbD i <;> rfl
theorem low15 : ∀ i, i < 32 → ((15#32).getLsbD i = decide (i < 4)) := by decide
/-- Half a byte, by the table. -/
theorem half (c : BitVec 32) : Sn 4 c = (c >>> 4) ^^^ tabAt (c &&& 15#32).toNat := by
  conv => lhs; rw [split15 c]
  rw [Sn_xor]
  congr 1
  · rw [Sn_shift 4 _ (fun i hi => by
      rw [BitVec.getLsbD_and, BitVec.getLsbD_not, low15 i (by omega)]; simp [hi])]
    apply BitVec.eq_of_getLsbD_eq; intro i hi
    simp only [BitVec.getLsbD_ushiftRight, BitVec.getLsbD_and, BitVec.getLsbD_not]
    by_cases h : 4 + i < 32
    · rw [low15 _ h]; simp [h]
    · simp [BitVec.getLsbD_of_ge c (4 + i) (by omega)]
  · have hlt : (c &&& 15#32).toNat < 16 := by
      rw [BitVec.toNat_and]
      exact Nat.and_lt_two_pow (n := 4) _ (by decide)
    have := tab_eq _ hlt
    rw [← this, BitVec.ofNat_toNat]; simp

/-- A byte, eight bits wide, on the register's foot. -/
def ext (b : UInt8) : BitVec 32 := BitVec.ofNat 32 b.toNat
def updC (c : BitVec 32) (b : UInt8) : BitVec 32 := Sn 8 (c ^^^ ext b)
def F (c : BitVec 32) (l : List UInt8) : BitVec 32 := l.foldl updC c
theorem F_nil (c : BitVec 32) : F c [] = c := rfl
theorem F_cons (c : BitVec 32) (b : UInt8) (l : List UInt8) : F c (b :: l) = F (updC c b) l := rfl
theorem F_append (c : BitVec 32) (a b : List UInt8) : F c (a ++ b) = F (F c a) b := List.foldl_append
theorem F_snoc (c : BitVec 32) (a : List UInt8) (b : UInt8) : F c (a ++ [b]) = updC (F c a) b := by rw [F_append]; rfl
/-- Two half bytes. -/
theorem updC_halves (c : BitVec 32) (b : UInt8) : updC c b = (let x := c ^^^ ext b; let y := (x >>> 4) ^^^ tabAt (x &&& 15#32).toNat; (y >>> 4) ^^^ tabAt (y &&& 15#32).toNat) := by
  show Sn (4 + 4) (c ^^^ ext b) = _
  rw [Sn_add, half, half]
theorem ext_xor (a b : UInt8) : ext (a ^^^ b) = ext a ^^^ ext b := by
  unfold ext
  rw [UInt8.toNat_xor]
  apply BitVec.eq_of_toNat_eq
  have ha := a.toNat_lt; have hb := b.toNat_lt
  have hx : a.toNat ^^^ b.toNat < 2 ^ 8 := Nat.xor_lt_two_pow ha hb
  rw [BitVec.toNat_xor, BitVec.toNat_ofNat, BitVec.toNat_ofNat, BitVec.toNat_ofNat, Nat.mod_eq_of_lt (by omega), Nat.mod_eq_of_lt (by omega), Nat.mod_eq_of_lt (by omega)]
theorem updC_xor (c d : BitVec 32) (a b : UInt8) : updC (c ^^^ d) (a ^^^ b) = updC c a ^^^ updC d b := by
  unfold updC
  rw [ext_xor, xor_four, Sn_xor]
theorem F_xor : ∀ (a b : List UInt8) (c d : BitVec 32), a.length = b.length → F (c ^^^ d) (List.zipWith (· ^^^ ·) a b) = F c a ^^^ F d b
  | [], [], c, d, _ => rfl
  | x :: a, y :: b, c, d, h => by
    simp only [List.zipWith_cons_cons, F_cons]
    rw [updC_xor]; exact F_xor a b _ _ (by simpa using h)

def ones : BitVec 32 := 0xFFFFFFFF#32
/-- The sum of bytes. -/
def crc (l : List UInt8) : BitVec 32 := F ones l ^^^ ones
theorem xor_self (a : BitVec 32) : a ^^^ a = 0#32 := by simp
theorem xor_cancel {a b p : BitVec 32} (h : a ^^^ p = b ^^^ p) : a = b := by
  have := congrArg (· ^^^ p) h
  simpa [xor_right] using this
theorem crc_xor3 (a b c : List UInt8) (h1 : b.length = a.length) (h2 : c.length = a.length) :
    crc (List.zipWith (· ^^^ ·) (List.zipWith (· ^^^ ·) a b) c) = (crc a ^^^ crc b) ^^^ crc c := by
  unfold crc
  have e : ones = (ones ^^^ ones) ^^^ ones := by simp
  conv => lhs; rw [show F ones (List.zipWith (· ^^^ ·) (List.zipWith (· ^^^ ·) a b) c) = F ((ones ^^^ ones) ^^^ ones) (List.zipWith (· ^^^ ·) (List.zipWith (· ^^^ ·) a b) c) from by rw [← e]]
  rw [F_xor _ _ _ _ (by simp [h1, h2]), F_xor _ _ _ _ h1.symm]
  rw [xor_four (F ones a) ones, xor_self, BitVec.xor_zero, ← xor_right]

/- The sum of what is behind its own sum. -/
theorem ext_bit (b : UInt8) (i : Nat) (h : 8 ≤ i) : (ext b).getLsbD i = false := by
  unfold ext
  rw [BitVec.getLsbD_ofNat]
  have : b.toNat.testBit i = false := by
    apply Nat.testBit_lt_two_pow
    exact Nat.lt_of_lt_of_le b.toNat_lt (Nat.pow_le_pow_right (by decide) h)
  simp [this]
theorem Sn8_up (b : UInt8) (k : Nat) (hk : k ≤ 24) : Sn k (ext b <<< k) = ext b := by
  rw [Sn_shift k _ (fun i hi => by simp [BitVec.getLsbD_shiftLeft, hi])]
  apply BitVec.eq_of_getLsbD_eq; intro i hi
  rw [BitVec.getLsbD_ushiftRight, BitVec.getLsbD_shiftLeft]
  by_cases h : k + i < 32
  · simp [h]
  · rw [ext_bit b i (by omega)]; simp [h]
theorem updC_at (k : Nat) (c x : BitVec 32) (b : UInt8) (hk : k ≤ 24) (h : c = Sn k x) : updC c b = Sn (8 + k) (x ^^^ (ext b <<< k)) := by
  unfold updC
  rw [Sn_add, Sn_xor k, Sn8_up b k hk, h]
theorem four_bytes (r : BitVec 32) (a b c d : UInt8) : F r [a, b, c, d] = Sn 32 ((((r ^^^ ext a) ^^^ (ext b <<< 8)) ^^^ (ext c <<< 16)) ^^^ (ext d <<< 24)) := by
  show updC (updC (updC (updC r a) b) c) d = _
  have h1 : updC r a = Sn 8 (r ^^^ ext a) := rfl
  have h2 := updC_at 8 _ _ b (by decide) h1
  have h3 := updC_at 16 _ _ c (by decide) h2
  exact updC_at 24 _ _ d (by decide) h3
/-- The four bytes of a sum, the lowest first. -/
def four (s : BitVec 32) : List UInt8 := [UInt8.ofNat s.toNat, UInt8.ofNat (s.toNat / 256), UInt8.ofNat (s.toNat / 65536), UInt8.ofNat (s.toNat / 16777216)]
theorem ext_of (s : BitVec 32) (k j : Nat) (hj : j = 2 ^ k) (i : Nat) : (ext (UInt8.ofNat (s.toNat / j))).getLsbD i = (decide (i < 8) && s.getLsbD (k + i)) := by
  subst hj
  by_cases h : i < 8
  · unfold ext
    rw [BitVec.getLsbD_ofNat, UInt8.toNat_ofNat', Nat.testBit_mod_two_pow, Nat.testBit_div_two_pow]
    simp [h, show i < 32 by omega, BitVec.getLsbD, Nat.add_comm]
  · rw [ext_bit _ _ (by omega)]; simp [h]
theorem four_word (s : BitVec 32) : ((ext (UInt8.ofNat s.toNat) ^^^ (ext (UInt8.ofNat (s.toNat / 256)) <<< 8)) ^^^ (ext (UInt8.ofNat (s.toNat / 65536)) <<< 16)) ^^^ (ext (UInt8.ofNat (s.toNat / 16777216)) <<< 24) = s := by
  apply BitVec.eq_of_getLsbD_eq; intro i hi
  have h0 := ext_of s 0 1 rfl
  rw [Nat.div_one] at h0
  have h1 := ext_of s 8 256 rfl
  have h2 := ext_of s 16 65536 rfl
  have h3 := ext_of s 24 16777216 rfl
  simp only [BitVec.getLsbD_xor, BitVec.getLsbD_shiftLeft, h0, h1, h2, h3, hi, decide_true, Bool.true_and]
  rcases Nat.lt_or_ge i 8 with a | a
  · simp [a, show i < 16 by omega, show i < 24 by omega]
  · rcases Nat.lt_or_ge i 16 with b | b
    · simp [show ¬ i < 8 by omega, b, show i < 24 by omega, show i - 8 < 8 by omega, show 8 + (i - 8) = i by omega]
    · rcases Nat.lt_or_ge i 24 with c | c
      · simp [show ¬ i < 8 by omega, show ¬ i < 16 by omega, c, show ¬ i - 8 < 8 by omega, show i - 16 < 8 by omega, show 16 + (i - 16) = i by omega]
      · simp [show ¬ i < 8 by omega, show ¬ i < 16 by omega, show ¬ i < 24 by omega, show ¬ i - 8 < 8 by omega, show ¬ i - 16 < 8 by omega, show i - 24 < 8 by omega, show 24 + (i - 24) = i by omega]
theorem F_four (r s : BitVec 32) : F r (four s) = Sn 32 (r ^^^ s) := by
  unfold four
  rw [four_bytes]
  congr 1
  conv => rhs; rw [← four_word s]
  simp only [← xor_right]
theorem crc_own (a : List UInt8) : crc (a ++ four (crc a)) = Sn 32 ones ^^^ ones := by
  unfold crc
  rw [F_append, F_four, ← xor_right, xor_self, BitVec.zero_xor]

/- Bit by bit. -/
/-- A row's bit. -/
def bitAt (l : List UInt8) (j : Nat) : Bool := (l.getD (j / 8) 0).toNat.testBit (j % 8)
def one (b : Bool) : BitVec 32 := if b then 1#32 else 0#32
def reg (f : Nat → Bool) (c : BitVec 32) : Nat → BitVec 32
  | 0 => c
  | k + 1 => S (reg f c k ^^^ one (f k))
theorem reg_congr {f g : Nat → Bool} {c : BitVec 32} : ∀ (n : Nat), (∀ j, j < n → f j = g j) → reg f c n = reg g c n
  | 0, _ => rfl
  | n + 1, h => by
    show S (reg f c n ^^^ one (f n)) = S (reg g c n ^^^ one (g n))
    rw [reg_congr n (fun j hj => h j (by omega)), h n (by omega)]
theorem one_xor (a b : Bool) : one (a ^^ b) = one a ^^^ one b := by cases a <;> cases b <;> decide
theorem reg_xor (f g : Nat → Bool) (c d : BitVec 32) : ∀ n, reg (fun j => f j ^^ g j) (c ^^^ d) n = reg f c n ^^^ reg g d n
  | 0 => rfl
  | n + 1 => by
    show S (reg (fun j => f j ^^ g j) (c ^^^ d) n ^^^ one (f n ^^ g n)) = S (reg f c n ^^^ one (f n)) ^^^ S (reg g d n ^^^ one (g n))
    rw [reg_xor f g c d n, one_xor, xor_four, S_xor]
/-- From a place on. -/
theorem reg_from (f : Nat → Bool) (c : BitVec 32) (m : Nat) : ∀ n, reg f c (m + n) = reg (fun j => f (m + j)) (reg f c m) n
  | 0 => rfl
  | n + 1 => by
    show S (reg f c (m + n) ^^^ one (f (m + n))) = S (reg (fun j => f (m + j)) (reg f c m) n ^^^ one (f (m + n)))
    rw [reg_from f c m n]
/-- The first k bits of f, as a word. -/
def word (f : Nat → Bool) : Nat → BitVec 32
  | 0 => 0#32
  | k + 1 => word f k ^^^ (one (f k) <<< k)
theorem one_bit (b : Bool) (i : Nat) : (one b).getLsbD i = (b && decide (i = 0)) := by
  cases b
  · simp [one]
  · show (1#32).getLsbD i = _
    rw [BitVec.getLsbD_one]; simp
theorem Sn_one (b : Bool) (k : Nat) (hk : k < 32) : Sn k (one b <<< k) = one b := by
  rw [Sn_shift k _ (fun i hi => by simp [BitVec.getLsbD_shiftLeft, hi])]
  apply BitVec.eq_of_getLsbD_eq; intro i hi
  rw [BitVec.getLsbD_ushiftRight, BitVec.getLsbD_shiftLeft, one_bit, one_bit]
  by_cases h : i = 0
  · subst h; simp [hk]
  · simp [h]
theorem reg_word (f : Nat → Bool) (c : BitVec 32) : ∀ k, k ≤ 32 → reg f c k = Sn k (c ^^^ word f k)
  | 0, _ => by simp [reg, Sn, word]
  | k + 1, h => by
    show S (reg f c k ^^^ one (f k)) = S (Sn k (c ^^^ (word f k ^^^ (one (f k) <<< k))))
    rw [reg_word f c k (by omega), ← xor_right, Sn_xor k (c ^^^ word f k), Sn_one _ k (by omega)]
theorem word_bit (f : Nat → Bool) : ∀ (k i : Nat), k ≤ 32 → i < k → (word f k).getLsbD i = f i
  | 0, i, _, h => absurd h (Nat.not_lt_zero _)
  | k + 1, i, hk, h => by
    show (word f k ^^^ (one (f k) <<< k)).getLsbD i = _
    rw [BitVec.getLsbD_xor, BitVec.getLsbD_shiftLeft, one_bit]
    by_cases e : i < k
    · rw [word_bit f k i (by omega) e]; simp [e]
    · obtain rfl : i = k := by omega
      have : (word f i).getLsbD i = false := by
        have gen : ∀ m i, m ≤ i → (word f m).getLsbD i = false := by
          intro m
          induction m with
          | zero => intro i _; simp [word]
          | succ m ih =>
            intro i hi
            show (word f m ^^^ (one (f m) <<< m)).getLsbD i = _
            rw [BitVec.getLsbD_xor, BitVec.getLsbD_shiftLeft, one_bit, ih i (by omega)]
            simp [show ¬ i - m = 0 by omega]
        exact gen i i (Nat.le_refl _)
      rw [this]; simp [show i < 32 by omega]
theorem reg_zero (f : Nat → Bool) (n : Nat) (h : ∀ j, j < n → f j = false) : reg f 0#32 n = 0#32 := by
  induction n with
  | zero => rfl
  | succ n ih =>
    show S (reg f 0#32 n ^^^ one (f n)) = _
    rw [ih (fun j hj => h j (by omega)), h n (by omega)]; decide
theorem reg_none (f : Nat → Bool) (c : BitVec 32) (n : Nat) (h : ∀ j, j < n → f j = false) : reg f c n = Sn n c := by
  induction n with
  | zero => rfl
  | succ n ih =>
    show S (reg f c n ^^^ one (f n)) = S (Sn n c)
    rw [ih (fun j hj => h j (by omega)), h n (by omega)]
    congr 1
    show _ ^^^ 0#32 = _
    simp
/-- A run of at most 32 bits at a place: the register is nothing only if the run is. -/
theorem run_told (f : Nat → Bool) (at_ n : Nat) (h1 : ∀ j, j < at_ → f j = false) (h2 : ∀ j, at_ + 32 ≤ j → f j = false) (h : reg f 0#32 n = 0#32) : ∀ j, j < n → f j = false := by
  intro j hj
  rcases Nat.lt_or_ge j at_ with a | a
  · exact h1 j a
  · rcases Nat.lt_or_ge j (at_ + 32) with b | b
    · have hat : at_ ≤ n := by omega
      have e1 := reg_from f 0#32 at_ (n - at_)
      rw [show at_ + (n - at_) = n by omega, h, reg_zero f at_ h1] at e1
      rcases Nat.lt_or_ge (n - at_) 32 with c | c
      · rw [reg_word _ _ _ (by omega), BitVec.zero_xor] at e1
        have := Sn_inj0 e1.symm
        have hw := word_bit (fun j => f (at_ + j)) (n - at_) (j - at_) (by omega) (by omega)
        rw [this] at hw
        simp only [BitVec.getLsbD_zero] at hw
        rw [show at_ + (j - at_) = j by omega] at hw
        exact hw.symm
      · have e2 := reg_from (fun j => f (at_ + j)) 0#32 32 (n - at_ - 32)
        rw [show 32 + (n - at_ - 32) = n - at_ by omega, ← e1, reg_none _ _ _ (fun i _ => h2 _ (by omega)), reg_word _ _ _ (Nat.le_refl _), BitVec.zero_xor] at e2
        have := Sn_inj0 (Sn_inj0 e2.symm)
        have hw := word_bit (fun j => f (at_ + j)) 32 (j - at_) (Nat.le_refl _) (by omega)
        rw [this] at hw
        simp only [BitVec.getLsbD_zero] at hw
        rw [show at_ + (j - at_) = j by omega] at hw
        exact hw.symm
    · exact h2 j b
/-- A byte's eight bits. -/
theorem word_byte (b : UInt8) : word (fun j => b.toNat.testBit j) 8 = ext b := by
  apply BitVec.eq_of_getLsbD_eq; intro i hi
  rcases Nat.lt_or_ge i 8 with h | h
  · rw [word_bit _ 8 i (by decide) h]
    unfold ext
    rw [BitVec.getLsbD_ofNat]; simp [hi]
  · rw [ext_bit b i h]
    have gen : ∀ (f : Nat → Bool) m i, m ≤ i → (word f m).getLsbD i = false := by
      intro f m
      induction m with
      | zero => intro i _; simp [word]
      | succ m ih =>
        intro i hi
        show (word f m ^^^ (one (f m) <<< m)).getLsbD i = _
        rw [BitVec.getLsbD_xor, BitVec.getLsbD_shiftLeft, one_bit, ih i (by omega)]
        simp [show ¬ i - m = 0 by omega]
    exact gen _ 8 i h
theorem bitAt_append_left (a b : List UInt8) (j : Nat) (h : j < 8 * a.length) : bitAt (a ++ b) j = bitAt a j := by
  unfold bitAt
  have hq : j / 8 < a.length := by omega
  simp [List.getD, List.getElem?_append_left hq]
theorem bitAt_snoc (a : List UInt8) (b : UInt8) (i : Nat) (h : i < 8) : bitAt (a ++ [b]) (8 * a.length + i) = b.toNat.testBit i := by
  unfold bitAt
  rw [show (8 * a.length + i) / 8 = a.length by omega, show (8 * a.length + i) % 8 = i by omega]
  simp [List.getD]
theorem F_reg (c : BitVec 32) (l : List UInt8) : F c l = reg (bitAt l) c (8 * l.length) := by
  suffices ∀ (r : List UInt8), F c r.reverse = reg (bitAt r.reverse) c (8 * r.reverse.length) by simpa using this l.reverse
  intro r
  induction r with
  | nil => rfl
  | cons b r ih =>
    rw [List.reverse_cons, F_snoc, ih]
    rw [show 8 * (r.reverse ++ [b]).length = 8 * r.reverse.length + 8 by simp; omega, reg_from]
    rw [reg_congr (f := bitAt (r.reverse ++ [b])) (g := bitAt r.reverse) _ (fun j hj => bitAt_append_left _ _ _ hj)]
    rw [reg_congr (f := fun j => bitAt (r.reverse ++ [b]) (8 * r.reverse.length + j)) (g := fun j => b.toNat.testBit j) _ (fun j hj => bitAt_snoc _ _ _ hj)]
    rw [reg_word _ _ 8 (by decide), word_byte]
    rfl
theorem bits_ext {a b : UInt8} (h : ∀ i, i < 8 → a.toNat.testBit i = b.toNat.testBit i) : a = b := by
  apply UInt8.toNat_inj.1
  apply Nat.eq_of_testBit_eq
  intro i
  rcases Nat.lt_or_ge i 8 with k | k
  · exact h i k
  · rw [Nat.testBit_lt_two_pow (Nat.lt_of_lt_of_le a.toNat_lt (Nat.pow_le_pow_right (by decide) k)), Nat.testBit_lt_two_pow (Nat.lt_of_lt_of_le b.toNat_lt (Nat.pow_le_pow_right (by decide) k))]
theorem rows_ext {a b : List UInt8} (hl : a.length = b.length) (h : ∀ j, j < 8 * a.length → bitAt a j = bitAt b j) : a = b := by
  apply List.ext_getElem hl
  intro k h1 h2
  apply bits_ext
  intro i hi
  have := h (8 * k + i) (by omega)
  unfold bitAt at this
  rw [show (8 * k + i) / 8 = k by omega, show (8 * k + i) % 8 = i by omega] at this
  simpa [List.getD, h1, h2] using this
/-- Rows that differ in a run of at most 32 bits have the same sum only if they are the same. -/
theorem crc_run (a b : List UInt8) (at_ : Nat) (hl : b.length = a.length) (h1 : ∀ j, j < at_ → bitAt b j = bitAt a j) (h2 : ∀ j, at_ + 32 ≤ j → bitAt b j = bitAt a j) (h : crc a = crc b) : a = b := by
  have hF : F ones a = F ones b := xor_cancel h
  rw [F_reg, F_reg, hl] at hF
  have hx := reg_xor (bitAt a) (bitAt b) ones ones (8 * a.length)
  rw [hF, xor_self, xor_self] at hx
  have := run_told _ at_ _ (fun j hj => by simp [h1 j hj]) (fun j hj => by simp [h2 j hj]) hx
  apply rows_ext hl.symm
  intro j hj
  have := this j hj
  revert this
  cases bitAt a j <;> cases bitAt b j <;> simp
/-- A bit turned. -/
def flip (l : List UInt8) (j : Nat) : List UInt8 := l.set (j / 8) (l.getD (j / 8) 0 ^^^ UInt8.ofNat (2 ^ (j % 8)))
theorem flip_length (l : List UInt8) (j : Nat) : (flip l j).length = l.length := by simp [flip]
theorem bitAt_flip (l : List UInt8) (j k : Nat) (h : k ≠ j) : bitAt (flip l j) k = bitAt l k := by
  unfold flip bitAt
  by_cases e : j / 8 = k / 8
  · by_cases hk : k / 8 < l.length
    · have hm : k % 8 ≠ j % 8 := by omega
      rw [e]
      simp only [List.getD, List.getElem?_set_self hk, List.getElem?_eq_getElem hk, Option.getD_some]
      rw [UInt8.toNat_xor, Nat.testBit_xor, UInt8.toNat_ofNat', Nat.testBit_mod_two_pow, Nat.testBit_two_pow]
      simp [show ¬ (j % 8 = k % 8) by omega]
    · rw [e, List.set_eq_of_length_le (by omega)]
  · simp [List.getD, List.getElem?_set_ne e]
end Go.Proofs.YtnhplbdbgiimkaaGreatDoor.C

namespace Go.Proofs.YtnhplbdbgiimkaaGreatDoor.C
set_option linter.unusedVariables false

def le : List UInt8 → Nat
  | [] => 0
  | b :: r => b.toNat + 256 * le r
theorem le_snoc (b : UInt8) : ∀ (l : List UInt8), le (l ++ [b]) = le l + 256 ^ l.length * b.toNat
  | [] => by simp [le]
  | c :: l => by
    simp only [List.cons_append, le, le_snoc b l, List.length_cons, Nat.pow_succ]
    rw [Nat.mul_add, Nat.mul_comm (256 ^ l.length) 256, Nat.mul_assoc]; omega
theorem le_lt : ∀ (l : List UInt8), le l < 256 ^ l.length
  | [] => by simp [le]
  | c :: l => by
    have h := le_lt l
    have hc := c.toNat_lt
    simp only [le, List.length_cons, Nat.pow_succ]
    omega
theorem le_inj : ∀ (l m : List UInt8), l.length = m.length → le l = le m → l = m
  | [], [], _, _ => rfl
  | b :: l, c :: m, hl, h => by
    have hb := b.toNat_lt
    have hc := c.toNat_lt
    simp only [le] at h
    have h1 : b.toNat = c.toNat := by omega
    have h2 : le l = le m := by omega
    rw [UInt8.toNat_inj.1 h1, le_inj l m (by simpa using hl) h2]
theorem le_take_le : ∀ (l : List UInt8) (k : Nat), le (l.take k) ≤ le l
  | [], k => by simp
  | b :: l, 0 => by simp [le]
  | b :: l, k + 1 => by have := le_take_le l k; simp only [List.take_succ_cons, le]; omega
theorem four_length (s : BitVec 32) : (four s).length = 4 := rfl
theorem le_four (s : BitVec 32) : le (four s) = s.toNat := by
  have h := s.isLt
  simp only [four, le, UInt8.toNat_ofNat']
  omega
theorem four_iff (l : List UInt8) (s : BitVec 32) (h : l.length = 4) : le l = s.toNat ↔ l = four s := by
  constructor
  · intro e
    exact le_inj _ _ h (by rw [e, le_four])
  · rintro rfl
    exact le_four s

/-- A record's frame. -/
def len4 (r : List UInt8) : List UInt8 := four (BitVec.ofNat 32 r.length)
def sum4 (r : List UInt8) : List UInt8 := four (crc (len4 r ++ r))
def fr (r : List UInt8) : List UInt8 := [1] ++ len4 r ++ sum4 r ++ r
theorem len4_length (r : List UInt8) : (len4 r).length = 4 := rfl
theorem sum4_length (r : List UInt8) : (sum4 r).length = 4 := rfl
theorem fr_eq (r : List UInt8) : fr r = 1 :: (len4 r ++ (sum4 r ++ r)) := by simp [fr]
theorem fr_length (r : List UInt8) : (fr r).length = 9 + r.length := by simp [fr, len4, sum4, four_length]; omega
theorem le_len4 (r : List UInt8) (h : r.length ≤ 65536) : le (len4 r) = r.length := by
  rw [len4, le_four, BitVec.toNat_ofNat, Nat.mod_eq_of_lt (by omega)]

/-- Where the first frame ends, or why there is none. -/
def fe (b : List UInt8) : Nat × Nat :=
  if b.length = 0 then (0, 8)
  else if b.getD 0 0 ≠ 1 then (0, 3)
  else if 65536 < le ((b.drop 1).take 4) then (0, 3)
  else if b.length < 9 + le ((b.drop 1).take 4) then (0, 8)
  else if le ((b.drop 5).take 4) ≠ (crc ((b.drop 1).take 4 ++ (b.drop 9).take (le ((b.drop 1).take 4)))).toNat then (0, 3)
  else (9 + le ((b.drop 1).take 4), 0)
theorem fe_ok {b : List UInt8} (h : (fe b).2 = 0) : 9 ≤ (fe b).1 ∧ (fe b).1 ≤ b.length ∧ (fe b).1 ≤ 65545 := by
  unfold fe at *
  split at h <;> try (simp at h; done)
  split at h <;> try (simp at h; done)
  split at h <;> try (simp at h; done)
  split at h <;> try (simp at h; done)
  split at h <;> try (simp at h; done)
  rename_i h0 h1 h2 h3 h4
  simp only [h0, h1, h2, h3, h4, if_false]
  omega
theorem fe_err {b : List UInt8} (h : (fe b).2 ≠ 0) : (fe b).1 = 0 ∧ ((fe b).2 = 3 ∨ (fe b).2 = 8) := by
  unfold fe at *
  split <;> try (simp; done)
  split <;> try (simp; done)
  split <;> try (simp; done)
  split <;> try (simp; done)
  split <;> try (simp; done)
  rename_i h0 h1 h2 h3 h4
  simp only [h0, h1, h2, h3, h4, if_false] at h
  exact absurd rfl h
theorem fr_parts (r rest : List UInt8) : ((fr r ++ rest).drop 1).take 4 = len4 r ∧ ((fr r ++ rest).drop 5).take 4 = sum4 r ∧ (fr r ++ rest).drop 9 = r ++ rest := by
  rw [fr_eq]
  refine ⟨?_, ?_, ?_⟩
  · simp only [List.cons_append, List.drop_succ_cons, List.drop_zero, List.append_assoc]
    rw [List.take_left' (len4_length _)]
  · simp only [List.cons_append, List.drop_succ_cons, List.append_assoc]
    rw [List.drop_left' (len4_length _), List.take_left' (sum4_length _)]
  · simp only [List.cons_append, List.drop_succ_cons, List.append_assoc]
    rw [show (8 : Nat) = (len4 r).length + 4 from rfl, ← List.drop_drop, List.drop_left, List.drop_left' (sum4_length _)]
theorem fe_frame (r rest : List UInt8) (h : r.length ≤ 65536) : fe (fr r ++ rest) = (9 + r.length, 0) := by
  obtain ⟨h1, h2, h3⟩ := fr_parts r rest
  unfold fe
  rw [h1, h2, h3, le_len4 r h, List.take_left]
  have e1 : (fr r ++ rest).length = 9 + r.length + rest.length := by rw [List.length_append, fr_length]
  have e2 : (fr r ++ rest).getD 0 0 = 1 := by rw [fr_eq]; rfl
  have e3 : le (sum4 r) = (crc (len4 r ++ r)).toNat := le_four _
  rw [e1, e2, e3, if_neg (by omega), if_neg (by simp), if_neg (by omega), if_neg (by omega), if_neg (by simp)]
theorem fe_torn (r : List UInt8) (cut : Nat) (h : r.length ≤ 65536) (hc : cut < (fr r).length) : fe ((fr r).take cut) = (0, 8) := by
  unfold fe
  have e1 : ((fr r).take cut).length = cut := by rw [List.length_take]; omega
  rw [e1]
  by_cases h0 : cut = 0
  · rw [if_pos h0]
  rw [if_neg h0]
  obtain ⟨c, rfl⟩ : ∃ c, cut = c + 1 := ⟨cut - 1, by omega⟩
  have e2 : ((fr r).take (c + 1)).getD 0 0 = 1 := by rw [fr_eq]; rfl
  have e3 : (((fr r).take (c + 1)).drop 1).take 4 = (len4 r).take c := by
    rw [fr_eq, List.take_succ_cons, List.drop_succ_cons, List.drop_zero, List.take_take]
    rcases Nat.lt_or_ge c 4 with k | k
    · rw [Nat.min_eq_right (by omega), List.take_append_of_le_length (by rw [len4, four_length]; omega)]
    · rw [Nat.min_eq_left k, List.take_left' (len4_length _), List.take_of_length_le (by rw [len4, four_length]; omega)]
  rw [e2, e3, if_neg (by simp)]
  have e4 : le ((len4 r).take c) ≤ r.length := by
    have := le_take_le (len4 r) c
    rw [le_len4 r h] at this; exact this
  rw [if_neg (by omega), if_pos]
  rw [fr_length] at hc
  rcases Nat.lt_or_ge c 4 with k | k
  · omega
  · rw [List.take_of_length_le (by rw [len4, four_length]; omega), le_len4 r h]; exact hc
/-- All frames. -/
def scanF : Nat → List UInt8 → List (List UInt8) × Nat
  | 0, _ => ([], 0)
  | k + 1, b => if (fe b).2 = 0 then ((b.drop 9).take ((fe b).1 - 9) :: (scanF k (b.drop (fe b).1)).1, (fe b).1 + (scanF k (b.drop (fe b).1)).2) else ([], 0)
theorem scanF_more : ∀ (k : Nat) (b : List UInt8), b.length ≤ k → scanF (k + 1) b = scanF k b
  | 0, b, h => by
    obtain rfl : b = [] := List.eq_nil_of_length_eq_zero (by omega)
    rfl
  | k + 1, b, h => by
    rw [scanF]
    conv => rhs; rw [scanF]
    by_cases hn : (fe b).2 = 0
    · have hk := fe_ok hn
      rw [if_pos hn, if_pos hn, scanF_more k (b.drop (fe b).1) (by rw [List.length_drop]; omega)]
    · rw [if_neg hn, if_neg hn]
theorem scanF_any (b : List UInt8) : ∀ d, scanF (b.length + d) b = scanF b.length b
  | 0 => rfl
  | d + 1 => by rw [← Nat.add_assoc, scanF_more (b.length + d) b (by omega), scanF_any b d]
def scan (b : List UInt8) : List (List UInt8) × Nat := scanF b.length b
theorem scan_stop {b : List UInt8} (h : (fe b).2 ≠ 0) : scan b = ([], 0) := by
  unfold scan
  cases b.length with
  | zero => rfl
  | succ n => rw [scanF, if_neg h]
theorem scan_step {b : List UInt8} (h : (fe b).2 = 0) : scan b = ((b.drop 9).take ((fe b).1 - 9) :: (scan (b.drop (fe b).1)).1, (fe b).1 + (scan (b.drop (fe b).1)).2) := by
  have hk := fe_ok h
  obtain ⟨n, hn⟩ : ∃ n, b.length = n + 1 := ⟨b.length - 1, by omega⟩
  have e := scanF_any (b.drop (fe b).1) (n - (b.drop (fe b).1).length)
  rw [show (b.drop (fe b).1).length + (n - (b.drop (fe b).1).length) = n by rw [List.length_drop]; omega] at e
  unfold scan
  rw [← e]
  conv => lhs; rw [hn, scanF]
  rw [if_pos h]
theorem fe_nil : fe [] = (0, 8) := rfl
theorem scan_nil : scan [] = ([], 0) := scan_stop (by rw [fe_nil]; decide)
theorem scan_le (b : List UInt8) : (scan b).2 ≤ b.length ∧ 9 * (scan b).1.length ≤ (scan b).2 ∧ ∀ x ∈ (scan b).1, x.length ≤ 65536 := by
  suffices ∀ n (b : List UInt8), b.length ≤ n → (scan b).2 ≤ b.length ∧ 9 * (scan b).1.length ≤ (scan b).2 ∧ ∀ x ∈ (scan b).1, x.length ≤ 65536 from this _ b (Nat.le_refl _)
  intro n
  induction n with
  | zero =>
    intro b hb
    obtain rfl : b = [] := List.eq_nil_of_length_eq_zero (by omega)
    rw [scan_nil]; simp
  | succ n ih =>
    intro b hb
    by_cases h : (fe b).2 = 0
    · have hk := fe_ok h
      rw [scan_step h]
      obtain ⟨i1, i2, i3⟩ := ih (b.drop (fe b).1) (by rw [List.length_drop]; omega)
      rw [List.length_drop] at i1
      refine ⟨by simp only; omega, by simp only [List.length_cons]; omega, fun x hx => ?_⟩
      simp only [List.mem_cons] at hx
      rcases hx with rfl | hx
      · rw [List.length_take]; omega
      · exact i3 x hx
    · rw [scan_stop h]; simp
def frs (ls : List (List UInt8)) : List UInt8 := (ls.map fr).flatten
theorem frs_cons (r : List UInt8) (ls : List (List UInt8)) : frs (r :: ls) = fr r ++ frs ls := rfl
theorem frs_snoc (r : List UInt8) (ls : List (List UInt8)) : frs (ls ++ [r]) = frs ls ++ fr r := by simp [frs]
theorem scan_frame (r rest : List UInt8) (h : r.length ≤ 65536) : scan (fr r ++ rest) = (r :: (scan rest).1, 9 + r.length + (scan rest).2) := by
  have e := fe_frame r rest h
  rw [scan_step (by rw [e]), e]
  obtain ⟨_, _, h3⟩ := fr_parts r rest
  simp only
  rw [h3, show 9 + r.length - 9 = r.length by omega, List.take_left, ← fr_length r, List.drop_left]
theorem scan_frs : ∀ (ls : List (List UInt8)), (∀ r ∈ ls, r.length ≤ 65536) → scan (frs ls) = (ls, (frs ls).length)
  | [], _ => scan_nil
  | r :: ls, h => by
    rw [frs_cons, scan_frame r _ (h r (by simp)), scan_frs ls (fun x hx => h x (by simp [hx])), List.length_append, fr_length]
/-- Cut short: a beginning of the records. -/
theorem scan_cut : ∀ (ls : List (List UInt8)) (cut : Nat), (∀ r ∈ ls, r.length ≤ 65536) → ∃ k, k ≤ ls.length ∧ (scan ((frs ls).take cut)).1 = ls.take k
  | [], cut, _ => ⟨0, Nat.le_refl _, by rw [show (frs []).take cut = [] by simp [frs], scan_nil]; rfl⟩
  | r :: ls, cut, h => by
    rw [frs_cons]
    rcases Nat.lt_or_ge cut (fr r).length with hc | hc
    · refine ⟨0, Nat.zero_le _, ?_⟩
      rw [List.take_append_of_le_length (by omega), scan_stop (by rw [fe_torn r cut (h r (by simp)) hc]; decide)]
      rfl
    · obtain ⟨k, hk, e⟩ := scan_cut ls (cut - (fr r).length) (fun x hx => h x (by simp [hx]))
      refine ⟨k + 1, by simp; omega, ?_⟩
      rw [List.take_append, List.take_of_length_le hc, scan_frame r _ (h r (by simp))]
      simp only [e, List.take_succ_cons]
end Go.Proofs.YtnhplbdbgiimkaaGreatDoor.C

/-
  A disk, write by write: what each file has, what is safe, what is not; a fall.
-/
namespace Go.Proofs.YtnhplbdbgiimkaaGreatDoor.C

/-- A write: its number among all, its file, its bytes, whether it is safe. -/
structure Wr where
  num : Nat
  file : Nat
  bytes : List UInt8
  safe : Bool
def dat : List Wr → Nat → List UInt8
  | [], _ => []
  | x :: r, k => (if x.file = k then x.bytes else []) ++ dat r k
def saf : List Wr → Nat → Nat
  | [], _ => 0
  | x :: r, k => (if x.file = k ∧ x.safe = true then x.bytes.length else 0) + saf r k
def used : List Wr → Nat
  | [] => 0
  | x :: r => x.bytes.length + used r
def pend (ws : List Wr) : List Wr := ws.filter fun x => !x.safe
def pof (ws : List Wr) (k : Nat) : List Wr := ws.filter fun x => !x.safe && x.file == k

theorem dat_append (a b : List Wr) (k : Nat) : dat (a ++ b) k = dat a k ++ dat b k := by
  induction a with
  | nil => rfl
  | cons x r ih => simp only [List.cons_append, dat, ih, List.append_assoc]
theorem saf_append (a b : List Wr) (k : Nat) : saf (a ++ b) k = saf a k + saf b k := by
  induction a with
  | nil => simp [saf]
  | cons x r ih => simp only [List.cons_append, saf, ih]; omega
theorem used_append (a b : List Wr) : used (a ++ b) = used a + used b := by
  induction a with
  | nil => simp [used]
  | cons x r ih => simp only [List.cons_append, used, ih]; omega
theorem pof_append (a b : List Wr) (k : Nat) : pof (a ++ b) k = pof a k ++ pof b k := by simp [pof]
theorem saf_le (ws : List Wr) (k : Nat) : saf ws k ≤ (dat ws k).length := by
  induction ws with
  | nil => simp [saf]
  | cons x r ih =>
    simp only [saf, dat, List.length_append]
    by_cases h : x.file = k
    · by_cases hs : x.safe = true
      · simp [h, hs]; omega
      · simp [h, hs]; omega
    · simp [h]; omega
theorem dat_le (ws : List Wr) (k : Nat) : (dat ws k).length ≤ used ws := by
  induction ws with
  | nil => simp [dat]
  | cons x r ih => simp only [dat, used, List.length_append]; split <;> simp <;> omega
theorem bytes_le {ws : List Wr} {x : Wr} (h : x ∈ ws) : x.bytes.length ≤ used ws := by
  induction ws with
  | nil => cases h
  | cons y r ih =>
    rcases List.mem_cons.1 h with rfl | h
    · simp only [used]; omega
    · have := ih h; simp only [used]; omega
theorem pof_mem {ws : List Wr} {k : Nat} {x : Wr} (h : x ∈ pof ws k) : x ∈ ws ∧ x.safe = false ∧ x.file = k := by
  simp only [pof, List.mem_filter, Bool.and_eq_true, beq_iff_eq, Bool.not_eq_true'] at h
  exact ⟨h.1, h.2.1, h.2.2⟩
theorem pend_mem {ws : List Wr} {x : Wr} (h : x ∈ pend ws) : x ∈ ws ∧ x.safe = false := by
  simpa [pend] using h

/-! ### sums and rows over the files from 0 to 999 -/
def sumOn (p : Nat → Bool) (f : Nat → Nat) (n : Nat) : Nat := ((List.range n).map fun k => if p k then f k else 0).sum
theorem sumOn_succ (p : Nat → Bool) (f : Nat → Nat) (n : Nat) : sumOn p f (n + 1) = sumOn p f n + if p n then f n else 0 := by
  simp [sumOn, List.range_succ]
theorem sumOn_congr {p q : Nat → Bool} {f g : Nat → Nat} : ∀ {n : Nat}, (∀ k, k < n → (if p k then f k else 0) = if q k then g k else 0) → sumOn p f n = sumOn q g n
  | 0, _ => rfl
  | n + 1, h => by rw [sumOn_succ, sumOn_succ, sumOn_congr (fun k hk => h k (by omega)), h n (by omega)]
theorem sumOn_add (p : Nat → Bool) (f g : Nat → Nat) : ∀ n, sumOn p (fun k => f k + g k) n = sumOn p f n + sumOn p g n
  | 0 => rfl
  | n + 1 => by rw [sumOn_succ, sumOn_succ, sumOn_succ, sumOn_add p f g n]; split <;> omega
theorem sumOn_none (p : Nat → Bool) (f : Nat → Nat) : ∀ n, (∀ k, k < n → p k = true → f k = 0) → sumOn p f n = 0
  | 0, _ => rfl
  | n + 1, h => by
    rw [sumOn_succ, sumOn_none p f n (fun k hk => h k (by omega))]
    split
    · rw [h n (by omega) (by assumption)]
    · rfl
theorem sumOn_out {p : Nat → Bool} {f : Nat → Nat} {j : Nat} : ∀ {n : Nat}, j < n → p j = true → sumOn p f n = f j + sumOn (fun k => p k && !(k == j)) f n
  | 0, h, _ => by omega
  | n + 1, h, hp => by
    rw [sumOn_succ, sumOn_succ]
    by_cases e : j = n
    · subst e
      have : sumOn p f j = sumOn (fun k => p k && !(k == j)) f j := sumOn_congr fun k hk => by
        have : (k == j) = false := by simp; omega
        simp [this]
      rw [this, if_pos hp]
      simp; omega
    · rw [sumOn_out (n := n) (by omega) hp]
      have : (n == j) = false := by simp; omega
      simp only [this, Bool.not_false, Bool.and_true]
      omega
/-- All bytes, file by file. -/
theorem used_sum (is : Nat → Bool) (n : Nat) : ∀ (ws : List Wr), (∀ x ∈ ws, x.file < n ∧ is x.file = true) → used ws = sumOn is (fun k => (dat ws k).length) n
  | [], _ => by rw [sumOn_none]; rfl; intros; rfl
  | x :: r, h => by
    have h0 := h x (by simp)
    rw [used, used_sum is n r (fun y hy => h y (by simp [hy]))]
    have e : sumOn is (fun k => (dat (x :: r) k).length) n = sumOn is (fun k => if x.file = k then x.bytes.length else 0) n + sumOn is (fun k => (dat r k).length) n := by
      rw [← sumOn_add]
      refine sumOn_congr fun k _ => ?_
      simp only [dat, List.length_append]
      by_cases hk : x.file = k <;> simp [hk]
    have z := sumOn_none (fun k => is k && !(k == x.file)) (fun k => if x.file = k then x.bytes.length else 0) n (fun k _ hk => by
      simp only [Bool.and_eq_true, Bool.not_eq_true', beq_eq_false_iff_ne] at hk
      exact if_neg (fun e => hk.2 e.symm))
    rw [e, sumOn_out (f := fun k => if x.file = k then x.bytes.length else 0) h0.1 h0.2, z]
    simp

def rowOn (p : Nat → Bool) (f : Nat → List Wr) (n : Nat) : List Wr := (List.range n).flatMap fun k => if p k then f k else []
theorem rowOn_succ (p : Nat → Bool) (f : Nat → List Wr) (n : Nat) : rowOn p f (n + 1) = rowOn p f n ++ if p n then f n else [] := by
  simp [rowOn, List.range_succ]
theorem rowOn_congr {p q : Nat → Bool} {f g : Nat → List Wr} : ∀ {n : Nat}, (∀ k, k < n → (if p k then f k else []) = if q k then g k else []) → rowOn p f n = rowOn q g n
  | 0, _ => rfl
  | n + 1, h => by rw [rowOn_succ, rowOn_succ, rowOn_congr (fun k hk => h k (by omega)), h n (by omega)]
theorem rowOn_out {p : Nat → Bool} {f : Nat → List Wr} {j : Nat} : ∀ {n : Nat}, j < n → p j = true → (rowOn p f n).Perm (f j ++ rowOn (fun k => p k && !(k == j)) f n)
  | 0, h, _ => by omega
  | n + 1, h, hp => by
    rw [rowOn_succ, rowOn_succ]
    by_cases e : j = n
    · subst e
      have : rowOn p f j = rowOn (fun k => p k && !(k == j)) f j := rowOn_congr fun k hk => by
        have : (k == j) = false := by simp; omega
        simp [this]
      rw [this, if_pos hp]
      simpa using List.perm_append_comm
    · have h1 := rowOn_out (f := f) (n := n) (by omega) hp
      have : (n == j) = false := by simp; omega
      simp only [this, Bool.not_false, Bool.and_true]
      rw [← List.append_assoc]
      exact h1.append_right _
theorem rowOn_none {p : Nat → Bool} {f : Nat → List Wr} : ∀ {n : Nat}, (∀ k, k < n → p k = false) → rowOn p f n = []
  | 0, _ => rfl
  | n + 1, h => by rw [rowOn_succ, rowOn_none (fun k hk => h k (by omega)), h n (by omega)]; rfl
theorem rowOn_cons {p : Nat → Bool} {f : Nat → List Wr} {j : Nat} {x : Wr} : ∀ {n : Nat}, j < n → p j = true → (rowOn p (fun k => (if k = j then [x] else []) ++ f k) n).Perm (x :: rowOn p f n)
  | 0, h, _ => by omega
  | n + 1, h, hp => by
    rw [rowOn_succ, rowOn_succ]
    by_cases e : j = n
    · subst e
      have : rowOn p (fun k => (if k = j then [x] else []) ++ f k) j = rowOn p f j := rowOn_congr fun k hk => by
        simp [show ¬ k = j by omega]
      rw [this, if_pos hp, if_pos hp]
      simp only [if_true, List.singleton_append]
      exact List.perm_middle
    · have h1 := rowOn_cons (f := f) (x := x) (n := n) (by omega) hp
      rw [show (if p n = true then (if n = j then [x] else []) ++ f n else []) = if p n = true then f n else [] by simp [show ¬ n = j by omega]]
      exact h1.append_right _
/-- All that is not safe, file by file. -/
theorem pend_rows (is : Nat → Bool) (n : Nat) : ∀ (ws : List Wr), (∀ x ∈ ws, x.file < n ∧ is x.file = true) → (rowOn is (pof ws) n).Perm (pend ws)
  | [], _ => by
    have : rowOn is (pof []) n = [] := by
      have : rowOn is (pof []) n = rowOn (fun _ => false) (pof []) n := rowOn_congr fun k _ => by simp [pof]
      rw [this, rowOn_none (fun _ _ => rfl)]
    rw [this]; exact List.Perm.refl _
  | x :: r, h => by
    have h0 := h x (by simp)
    have ih := pend_rows is n r (fun y hy => h y (by simp [hy]))
    by_cases hs : x.safe = true
    · have e : rowOn is (pof (x :: r)) n = rowOn is (pof r) n := rowOn_congr fun k _ => by simp [pof, hs]
      rw [e]
      simpa [pend, hs] using ih
    · have e : rowOn is (pof (x :: r)) n = rowOn is (fun k => (if k = x.file then [x] else []) ++ pof r k) n := rowOn_congr fun k _ => by
        by_cases hk : x.file = k
        · simp [pof, hs, hk]
        · simp [pof, hs, hk, show ¬ k = x.file from fun e => hk e.symm]
      rw [e]
      refine (rowOn_cons h0.1 h0.2).trans ?_
      have : pend (x :: r) = x :: pend r := by simp [pend, hs]
      rw [this]
      exact ih.cons x

/-! ### a fall -/
def stay (keep torn : Int) (n : Nat) (size : Nat) : Nat := if (n : Int) < keep then size else if (n : Int) = keep then min torn.toNat size else 0
def cutW (keep torn : Int) (n : Nat) (l : List UInt8) : List UInt8 := l.take (stay keep torn n l.length)
theorem stay_le (keep torn : Int) (n size : Nat) : stay keep torn n size ≤ size := by unfold stay; split; exact Nat.le_refl _; split; exact Nat.min_le_right _ _; exact Nat.zero_le _
theorem cutW_length (keep torn : Int) (n : Nat) (l : List UInt8) : (cutW keep torn n l).length = stay keep torn n l.length := by
  rw [cutW, List.length_take]; have := stay_le keep torn n l.length; omega
def crashL (keep torn : Int) : Nat → List Wr → List Wr
  | _, [] => []
  | n, x :: r => if x.safe = true then x :: crashL keep torn n r else { x with bytes := cutW keep torn n x.bytes, safe := true } :: crashL keep torn (n + 1) r
/-- What a fall adds to what is safe of a file. -/
def addS (keep torn : Int) : Nat → List Wr → Nat → Nat
  | _, [], _ => 0
  | n, x :: r, k => (if x.file = k then stay keep torn n x.bytes.length else 0) + addS keep torn (n + 1) r k
theorem addS_append (keep torn : Int) (k : Nat) : ∀ (a : List Wr) (n : Nat) (b : List Wr), addS keep torn n (a ++ b) k = addS keep torn n a k + addS keep torn (n + a.length) b k
  | [], n, b => by simp [addS]
  | x :: a, n, b => by
    simp only [List.cons_append, addS, addS_append keep torn k a, List.length_cons]
    rw [show n + 1 + a.length = n + (a.length + 1) by omega]; omega
theorem addS_past (keep torn : Int) (k : Nat) : ∀ (a : List Wr) (n : Nat), keep < n → addS keep torn n a k = 0
  | [], _, _ => rfl
  | x :: a, n, h => by
    simp only [addS, addS_past keep torn k a (n + 1) (by omega)]
    rw [show stay keep torn n x.bytes.length = 0 by unfold stay; rw [if_neg (by omega), if_neg (by omega)]]
    simp
theorem crash_len (keep torn : Int) (k : Nat) : ∀ (ws : List Wr) (n : Nat), (dat (crashL keep torn n ws) k).length = saf ws k + addS keep torn n (pend ws) k
  | [], n => by simp [crashL, dat, saf, pend, addS]
  | x :: r, n => by
    by_cases hs : x.safe = true
    · have e : pend (x :: r) = pend r := by simp [pend, hs]
      rw [crashL, if_pos hs, e, dat, List.length_append, crash_len keep torn k r n, saf]
      by_cases hk : x.file = k <;> simp [hk, hs] <;> omega
    · have e : pend (x :: r) = x :: pend r := by simp [pend, hs]
      rw [crashL, if_neg hs, e, dat, List.length_append, crash_len keep torn k r (n + 1), saf, addS]
      by_cases hk : x.file = k
      · simp [hk, hs, cutW_length]; omega
      · simp [hk, hs]
/-- Of a file what is safe stands ahead. -/
def Ahead (ws : List Wr) : Prop := ws.Pairwise fun a b => a.file = b.file → b.safe = true → a.safe = true
theorem crash_none (keep torn : Int) (k : Nat) : ∀ (ws : List Wr) (n : Nat), keep < n → (∀ x ∈ ws, x.file = k → x.safe = false) → dat (crashL keep torn n ws) k = []
  | [], _, _, _ => rfl
  | x :: r, n, h, hu => by
    by_cases hs : x.safe = true
    · rw [crashL, if_pos hs, dat, crash_none keep torn k r n h (fun y hy => hu y (by simp [hy]))]
      rw [if_neg (fun e => by have := hu x (by simp) e; rw [hs] at this; cases this)]
      rfl
    · rw [crashL, if_neg hs, dat, crash_none keep torn k r (n + 1) (by omega) (fun y hy => hu y (by simp [hy]))]
      have : cutW keep torn n x.bytes = [] := by
        unfold cutW stay; rw [if_neg (by omega), if_neg (by omega)]; rfl
      simp [this]
theorem crash_pre (keep torn : Int) (k : Nat) : ∀ (ws : List Wr) (n : Nat), Ahead ws → ∃ t, dat ws k = dat (crashL keep torn n ws) k ++ t
  | [], _, _ => ⟨[], rfl⟩
  | x :: r, n, h => by
    obtain ⟨h1, h2⟩ := List.pairwise_cons.1 h
    by_cases hs : x.safe = true
    · obtain ⟨t, ht⟩ := crash_pre keep torn k r n h2
      refine ⟨t, ?_⟩
      rw [crashL, if_pos hs, dat, dat, ht, List.append_assoc]
    · rw [crashL, if_neg hs]
      by_cases hk : x.file = k
      · by_cases hn : (n : Int) < keep
        · obtain ⟨t, ht⟩ := crash_pre keep torn k r (n + 1) h2
          refine ⟨t, ?_⟩
          have : cutW keep torn n x.bytes = x.bytes := by unfold cutW stay; rw [if_pos hn]; simp
          rw [dat, dat, ht, this]; simp [hk]
        · have e := crash_none keep torn k r (n + 1) (by omega) (fun y hy hf => by
            cases hy' : y.safe with
            | false => rfl
            | true => exact absurd (h1 y hy (by rw [hk, hf]) hy') hs)
          refine ⟨x.bytes.drop (stay keep torn n x.bytes.length) ++ dat r k, ?_⟩
          rw [dat, dat, e]
          simp only [hk, if_true, List.append_nil, cutW]
          rw [← List.append_assoc, List.take_append_drop]
      · obtain ⟨t, ht⟩ := crash_pre keep torn k r (n + 1) h2
        exact ⟨t, by rw [dat, dat, ht]; simp [hk]⟩
theorem crash_dat (keep torn : Int) (k n : Nat) (ws : List Wr) (h : Ahead ws) : dat (crashL keep torn n ws) k = (dat ws k).take (saf ws k + addS keep torn n (pend ws) k) := by
  obtain ⟨t, ht⟩ := crash_pre keep torn k ws n h
  rw [← crash_len, ht, List.take_left]
theorem crash_safe (keep torn : Int) : ∀ (ws : List Wr) (n : Nat), ∀ x ∈ crashL keep torn n ws, x.safe = true
  | [], _, x, hx => by cases hx
  | y :: r, n, x, hx => by
    rw [crashL] at hx
    split at hx
    · rcases List.mem_cons.1 hx with rfl | hx
      · assumption
      · exact crash_safe keep torn r n x hx
    · rcases List.mem_cons.1 hx with rfl | hx
      · rfl
      · exact crash_safe keep torn r _ x hx
theorem crash_keys (keep torn : Int) : ∀ (ws : List Wr) (n : Nat), (crashL keep torn n ws).map (fun x => (x.num, x.file)) = ws.map fun x => (x.num, x.file)
  | [], _ => rfl
  | y :: r, n => by
    rw [crashL]
    split <;> simp [crash_keys keep torn r]
theorem saf_all (ws : List Wr) (h : ∀ x ∈ ws, x.safe = true) (k : Nat) : saf ws k = (dat ws k).length ∧ pof ws k = [] := by
  induction ws with
  | nil => exact ⟨rfl, rfl⟩
  | cons x r ih =>
    obtain ⟨h1, h2⟩ := ih (fun y hy => h y (by simp [hy]))
    have hx := h x (by simp)
    constructor
    · simp only [saf, dat, List.length_append, h1, hx]
      by_cases hk : x.file = k <;> simp [hk]
    · simpa [pof, hx] using h2

theorem addS_take (keep torn : Int) (l : List Wr) (k j : Nat) : addS keep torn 0 (l.take k) j ≤ addS keep torn 0 l j := by
  have := addS_append keep torn j (l.take k) 0 (l.drop k)
  rw [List.take_append_drop] at this
  omega
theorem addS_snoc (keep torn : Int) {l : List Wr} {k : Nat} {x : Wr} (h : l[k]? = some x) (j : Nat) : addS keep torn 0 (l.take (k + 1)) j = addS keep torn 0 (l.take k) j + if x.file = j then stay keep torn k x.bytes.length else 0 := by
  have hk : k < l.length := (List.getElem?_eq_some_iff.1 h).1
  rw [List.take_add_one, h]
  simp only [Option.toList_some]
  rw [addS_append]
  simp only [addS, List.length_take, Nat.zero_add]
  rw [Nat.min_eq_left (by omega)]; omega
theorem addS_end (keep torn : Int) {l : List Wr} {k : Nat} (h : l.length ≤ k ∨ keep < k) (j : Nat) : addS keep torn 0 (l.take k) j = addS keep torn 0 l j := by
  by_cases hk : l.length ≤ k
  · rw [List.take_of_length_le hk]
  · have hk2 : keep < k := by omega
    have := addS_append keep torn j (l.take k) 0 (l.drop k)
    rw [List.take_append_drop, List.length_take, addS_past keep torn j (l.drop k) _ (by omega)] at this
    omega
theorem safe_le (keep torn : Int) (ws : List Wr) (k j : Nat) : saf ws j + addS keep torn 0 ((pend ws).take k) j ≤ used ws := by
  have h1 := addS_take keep torn (pend ws) k j
  have h2 := crash_len keep torn j ws 0
  have h3 := dat_le (crashL keep torn 0 ws) j
  have h4 : ∀ (ws : List Wr) (n : Nat), used (crashL keep torn n ws) ≤ used ws := by
    intro ws
    induction ws with
    | nil => intro n; exact Nat.le_refl _
    | cons x r ih =>
      intro n
      rw [crashL]
      split
      · have := ih n; simp only [used]; omega
      · have := ih (n + 1); have h := stay_le keep torn n x.bytes.length; simp only [used, cutW_length]; omega
  have := h4 ws 0
  omega

/-! ### a disk's state -/
structure St where
  room : Nat
  is : Nat → Bool
  ws : List Wr
  made : Nat
  off : Bool
  lives : Nat
structure St.Ok (s : St) : Prop where
  room : 64 ≤ s.room ∧ s.room ≤ 1048576
  files : ∀ k, s.is k = true → k < 1000
  has : ∀ x ∈ s.ws, s.is x.file = true
  nums : s.ws.Pairwise fun a b => a.num < b.num
  made : ∀ x ∈ s.ws, x.num < s.made
  ahead : Ahead s.ws
  used : used s.ws ≤ s.room
theorem len_between : ∀ (ws : List Wr) (a m : Nat), (ws.Pairwise fun a b => a.num < b.num) → (∀ x ∈ ws, a ≤ x.num ∧ x.num < m) → ws.length ≤ m - a
  | [], _, _, _, _ => Nat.zero_le _
  | x :: r, a, m, h, hb => by
    obtain ⟨h1, h2⟩ := List.pairwise_cons.1 h
    have hx := hb x (by simp)
    have := len_between r (x.num + 1) m h2 (fun y hy => ⟨h1 y hy, (hb y (by simp [hy])).2⟩)
    simp only [List.length_cons]; omega
theorem len_le_nums {ws : List Wr} (h : ws.Pairwise fun a b => a.num < b.num) (m : Nat) (hm : ∀ x ∈ ws, x.num < m) : ws.length ≤ m :=
  len_between ws 0 m h fun x hx => ⟨Nat.zero_le _, hm x hx⟩
theorem ws_le {s : St} (h : s.Ok) : s.ws.length ≤ s.made := len_le_nums h.nums s.made h.made
theorem pof_le {s : St} (h : s.Ok) (k : Nat) : (pof s.ws k).length ≤ s.made := Nat.le_trans (List.length_filter_le _ _) (ws_le h)
theorem pend_le {s : St} (h : s.Ok) : (pend s.ws).length ≤ s.made := Nat.le_trans (List.length_filter_le _ _) (ws_le h)
def newS (room : Nat) : St := ⟨room, fun _ => false, [], 0, false, 1⟩
def appS (s : St) (f : Nat) (b : List UInt8) : St := { s with is := fun k => s.is k || k == f, ws := s.ws ++ [⟨s.made, f, b, false⟩], made := s.made + 1 }
def crashS (s : St) (keep torn : Int) : St := { s with ws := crashL keep torn 0 s.ws, off := true }
def onS (s : St) : St := { s with off := false, lives := s.lives + 1 }
theorem newS_ok {room : Nat} (h : 64 ≤ room ∧ room ≤ 1048576) : (newS room).Ok :=
  ⟨h, fun k hk => (by cases hk), fun x hx => (by cases hx), List.Pairwise.nil, fun x hx => (by cases hx), List.Pairwise.nil, Nat.zero_le _⟩
theorem appS_ok {s : St} (h : s.Ok) {f : Nat} {b : List UInt8} (hf : f < 1000) (hb : used s.ws + b.length ≤ s.room) : (appS s f b).Ok := by
  refine ⟨h.room, fun k hk => ?_, fun x hx => ?_, ?_, fun x hx => ?_, ?_, ?_⟩
  · simp only [appS, Bool.or_eq_true, beq_iff_eq] at hk
    rcases hk with hk | rfl
    · exact h.files k hk
    · exact hf
  · simp only [appS, List.mem_append, List.mem_singleton] at hx ⊢
    rcases hx with hx | rfl
    · rw [h.has x hx]; rfl
    · simp
  · simp only [appS]
    refine List.pairwise_append.2 ⟨h.nums, List.pairwise_singleton _ _, fun a ha c hc => ?_⟩
    simp only [List.mem_singleton] at hc
    subst hc
    exact h.made a ha
  · simp only [appS, List.mem_append, List.mem_singleton] at hx ⊢
    rcases hx with hx | rfl
    · have := h.made x hx; omega
    · simp only; omega
  · simp only [appS]
    refine List.pairwise_append.2 ⟨h.ahead, List.pairwise_singleton _ _, fun a ha c hc _ hcs => ?_⟩
    simp only [List.mem_singleton] at hc
    subst hc
    cases hcs
  · simp only [appS, used_append, used]; omega
theorem onS_ok {s : St} (h : s.Ok) : (onS s).Ok := ⟨h.room, h.files, h.has, h.nums, h.made, h.ahead, h.used⟩
theorem crash_mem {keep torn : Int} {ws : List Wr} {n : Nat} {x : Wr} (h : x ∈ crashL keep torn n ws) : ∃ y ∈ ws, y.num = x.num ∧ y.file = x.file := by
  have h1 : (x.num, x.file) ∈ (crashL keep torn n ws).map fun x => (x.num, x.file) := List.mem_map.2 ⟨x, h, rfl⟩
  rw [crash_keys] at h1
  obtain ⟨y, hy, e⟩ := List.mem_map.1 h1
  simp only [Prod.mk.injEq] at e
  exact ⟨y, hy, e.1, e.2⟩
theorem crash_used (keep torn : Int) : ∀ (ws : List Wr) (n : Nat), used (crashL keep torn n ws) ≤ used ws
  | [], _ => Nat.le_refl _
  | x :: r, n => by
    rw [crashL]
    split
    · have := crash_used keep torn r n; simp only [used]; omega
    · have := crash_used keep torn r (n + 1); have h := stay_le keep torn n x.bytes.length; simp only [used, cutW_length]; omega
theorem crashS_ok {s : St} (h : s.Ok) (keep torn : Int) : (crashS s keep torn).Ok := by
  refine ⟨h.room, h.files, fun x hx => ?_, ?_, fun x hx => ?_, ?_, ?_⟩
  · obtain ⟨y, hy, _, e⟩ := crash_mem hx
    rw [← e]; exact h.has y hy
  · have : ((crashL keep torn 0 s.ws).map fun x => (x.num, x.file)).Pairwise fun a b => a.1 < b.1 := by
      rw [crash_keys]; exact List.pairwise_map.2 h.nums
    have := List.pairwise_map.1 this
    exact this
  · obtain ⟨y, hy, e, _⟩ := crash_mem hx
    rw [← e]; exact h.made y hy
  · exact (List.pairwise_of_forall_mem_list fun a ha b hb _ _ => crash_safe keep torn s.ws 0 a ha)
  · have := crash_used keep torn s.ws 0; have := h.used; simp only [crashS]; omega
def upd {α : Type} (f : Nat → α) (k : Nat) (v : α) : Nat → α := fun j => if j = k then v else f j
theorem upd_same {α : Type} (f : Nat → α) (k : Nat) (v : α) : upd f k v k = v := if_pos rfl
theorem upd_other {α : Type} (f : Nat → α) {k j : Nat} (v : α) (h : j ≠ k) : upd f k v j = f j := if_neg h
end Go.Proofs.YtnhplbdbgiimkaaGreatDoor.C
