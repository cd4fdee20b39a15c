/-
  The sum by shifts: a register of 32 bits, a bit a step; half a byte a step by a table; sums put on one another; a run of at most 32 bits.
-/
namespace Go.Proofs.YtjnlkgamnabhjaaDoor.C

def poly : BitVec 32 := 0xEDB88320#32
/-- One bit. -/
def S (c : BitVec 32) : BitVec 32 := if c.getLsbD 0 then (c >>> 1) ^^^ poly else c >>> 1
def Sn : Nat → BitVec 32 → BitVec 32
  | 0, c => c
  | n + 1, c => S (Sn n c)
theorem Sn_succ' (n : Nat) (c : BitVec 32) : Sn (n + 1) c = Sn n (S c) := by
  induction n with
  | zero => rfl
  | succ n ih => show S (Sn (n + 1) c) = S (Sn n (S c)); rw [ih]
theorem Sn_add (m n : Nat) (c : BitVec 32) : Sn (m + n) c = Sn m (Sn n c) := by
  induction m with
  | zero => simp [Sn]
  | succ m ih => rw [show m + 1 + n = (m + n) + 1 by omega]; show S (Sn (m + n) c) = S (Sn m (Sn n c)); rw [ih]
theorem xor_swap (a b p : BitVec 32) : (a ^^^ b) = (a ^^^ p) ^^^ (b ^^^ p) := by
  apply BitVec.eq_of_getLsbD_eq; intro i hi; simp only [BitVec.getLsbD_xor]
  cases a.getLsbD i <;> cases b.getLsbD i <;> cases p.getLsbD i <;> rfl
theorem xor_right (a b p : BitVec 32) : (a ^^^ b) ^^^ p = a ^^^ (b ^^^ p) := by
  apply BitVec.eq_of_getLsbD_eq; intro i hi; simp only [BitVec.getLsbD_xor]
  cases a.getLsbD i <;> cases b.getLsbD i <;> cases p.getLsbD i <;> rfl
theorem xor_mid (a b p : BitVec 32) : (a ^^^ b) ^^^ p = (a ^^^ p) ^^^ b := by
  apply BitVec.eq_of_getLsbD_eq; intro i hi; simp only [BitVec.getLsbD_xor]
  cases a.getLsbD i <;> cases b.getLsbD i <;> cases p.getLsbD i <;> rfl
theorem xor_four (a b p q : BitVec 32) : (a ^^^ b) ^^^ (p ^^^ q) = (a ^^^ p) ^^^ (b ^^^ q) := by
  rw [← xor_right, ← xor_right, xor_mid a b p]
theorem ushr_xor (a b : BitVec 32) (n : Nat) : (a ^^^ b) >>> n = (a >>> n) ^^^ (b >>> n) := by
  apply BitVec.eq_of_getLsbD_eq; intro i hi; simp [BitVec.getLsbD_ushiftRight]
theorem S_xor (a b : BitVec 32) : S (a ^^^ b) = S a ^^^ S b := by
  unfold S
  rw [BitVec.getLsbD_xor, ushr_xor]
  cases ha : a.getLsbD 0 <;> cases hb : b.getLsbD 0 <;> simp
  · rw [xor_right]
  · rw [xor_mid]
  · exact xor_swap _ _ _
theorem S_zero : S 0#32 = 0#32 := by decide
theorem Sn_xor (n : Nat) (a b : BitVec 32) : Sn n (a ^^^ b) = Sn n a ^^^ Sn n b := by
  induction n with
  | zero => rfl
  | succ n ih => show S (Sn n (a ^^^ b)) = _; rw [ih, S_xor]; rfl
theorem Sn_zero (n : Nat) : Sn n 0#32 = 0#32 := by
  induction n with
  | zero => rfl
  | succ n ih => show S (Sn n 0#32) = _; rw [ih, S_zero]
theorem poly_top : poly.getLsbD 31 = true := by decide
/-- Nothing but nothing becomes nothing. -/
theorem S_inj0 {c : BitVec 32} (h : S c = 0#32) : c = 0#32 := by
  unfold S at h
  cases h0 : c.getLsbD 0 with
  | true =>
    rw [h0, if_pos rfl] at h
    have := congrArg (fun x => x.getLsbD 31) h
    simp only [BitVec.getLsbD_xor, BitVec.getLsbD_ushiftRight, poly_top, BitVec.getLsbD_zero] at this
    rw [BitVec.getLsbD_of_ge c (1 + 31) (by decide)] at this
    cases this
  | false =>
    rw [h0] at h
    simp only [Bool.false_eq_true, if_false] at h
    apply BitVec.eq_of_getLsbD_eq; intro i hi
    match i with
    | 0 => simpa using h0
    | i + 1 =>
      have := congrArg (fun x => x.getLsbD i) h
      simp only [BitVec.getLsbD_ushiftRight] at this
      rw [show 1 + i = i + 1 by omega] at this
      simpa using this
theorem Sn_inj0 {n : Nat} {c : BitVec 32} (h : Sn n c = 0#32) : c = 0#32 := by
  induction n with
  | zero => exact h
  | succ n ih => exact ih (S_inj0 h)
/-- What has n noughts at its foot is only shifted. -/
theorem Sn_shift : ∀ (n : Nat) (c : BitVec 32), (∀ i, i < n → c.getLsbD i = false) → Sn n c = c >>> n
  | 0, c, _ => by simp [Sn]
  | n + 1, c, h => by
    rw [Sn_succ']
    have h0 : S c = c >>> 1 := by unfold S; rw [h 0 (by omega)]; rfl
    rw [h0, Sn_shift n (c >>> 1) (fun i hi => by rw [BitVec.getLsbD_ushiftRight]; exact h _ (by omega))]
    rw [← BitVec.shiftRight_add]
    congr 1; omega

/-- The table of half bytes. -/
def tab : List Nat := [0, 498536548, 997073096, 651767980, 1994146192, 1802195444, 1303535960, 1342533948, 3988292384, 4027552580, 3604390888, 3412177804, 2607071920, 2262029012, 2685067896, 3183342108]
def tabAt (n : Nat) : BitVec 32 := BitVec.ofNat 32 (tab.getD n 0)
theorem tab_eq : ∀ n, n < 16 → Sn 4 (BitVec.ofNat 32 n) = tabAt n := by decide
theorem split15 (c : BitVec 32) : c = (c &&& ~~~15#32) ^^^ (c &&& 15#32) := by
  apply BitVec.eq_of_getLsbD_eq; intro i hi
  simp only [BitVec.getLsbD_xor, BitVec.getLsbD_and, BitVec.getLsbD_not, hi, decide_true, Bool.true_and]
  cases c.getLsbD i <;> cases (15#32).getLsbD i <;> rfl
theorem low15 : ∀ i, i < 32 → ((15#32).getLsbD i = decide (i < 4)) := by decide
/-- Half a byte, by the table. -/
theorem half (c : BitVec 32) : Sn 4 c = (c >>> 4) ^^^ tabAt (c &&& 15#32).toNat := by
  conv => lhs; rw [split15 c]
  rw [Sn_xor]
  congr 1
  · rw [Sn_shift 4 _ (fun i hi => by
      rw [BitVec.getLsbD_and, BitVec.getLsbD_not, low15 i (by omega)]; simp [hi])]
    apply BitVec.eq_of_getLsbD_eq; intro i hi
    simp only [BitVec.getLsbD_ushiftRight, BitVec.getLsbD_and, BitVec.getLsbD_not]
    by_cases h : 4 + i < 32
    · rw [low15 _ h]; simp [h]
    · simp [BitVec.getLsbD_of_ge c (4 + i) (by omega)]
  · have hlt : (c &&& 15#32).toNat < 16 := by
      rw [BitVec.toNat_and]
      exact Nat.and_lt_two_pow (n := 4) _ (by decide)
    have := tab_eq _ hlt
    rw [← this, BitVec.ofNat_toNat]; simp

/-- A byte, eight bits wide, on the register's foot. -/
def ext (b : UInt8) : BitVec 32 := BitVec.ofNat 32 b.toNat
def upd (c : BitVec 32) (b : UInt8) : BitVec 32 := Sn 8 (c ^^^ ext b)
def F (c : BitVec 32) (l : List UInt8) : BitVec 32 := l.foldl upd c
theorem F_nil (c : BitVec 32) : F c [] = c := rfl
theorem F_cons (c : BitVec 32) (b : UInt8) (l : List UInt8) : F c (b :: l) = F (upd c b) l := rfl
theorem F_append (c : BitVec 32) (a b : List UInt8) : F c (a ++ b) = F (F c a) b := List.foldl_append
theorem F_snoc (c : BitVec 32) (a : List UInt8) (b : UInt8) : F c (a ++ [b]) = upd (F c a) b := by rw [F_append]; rfl
/-- Two half bytes. -/
theorem upd_halves (c : BitVec 32) (b : UInt8) : upd c b = (let x := c ^^^ ext b; let y := (x >>> 4) ^^^ tabAt (x &&& 15#32).toNat; (y >>> 4) ^^^ tabAt (y &&& 15#32).toNat) := by
  show Sn (4 + 4) (c ^^^ ext b) = _
  rw [Sn_add, half, half]
theorem ext_xor (a b : UInt8) : ext (a ^^^ b) = ext a ^^^ ext b := by
  unfold ext
  rw [UInt8.toNat_xor]
  apply BitVec.eq_of_toNat_eq
  have ha := a.toNat_lt; have hb := b.toNat_lt
  have hx : a.toNat ^^^ b.toNat < 2 ^ 8 := Nat.xor_lt_two_pow ha hb
  rw [BitVec.toNat_xor, BitVec.toNat_ofNat, BitVec.toNat_ofNat, BitVec.toNat_ofNat, Nat.mod_eq_of_lt (by omega), Nat.mod_eq_of_lt (by omega), Nat.mod_eq_of_lt (by omega)]
theorem upd_xor (c d : BitVec 32) (a b : UInt8) : upd (c ^^^ d) (a ^^^ b) = upd c a ^^^ upd d b := by
  unfold upd
  rw [ext_xor, xor_four, Sn_xor]
theorem F_xor : ∀ (a b : List UInt8) (c d : BitVec 32), a.length = b.length → F (c ^^^ d) (List.zipWith (· ^^^ ·) a b) = F c a ^^^ F d b
  | [], [], c, d, _ => rfl
  | x :: a, y :: b, c, d, h => by
    simp only [List.zipWith_cons_cons, F_cons]
    rw [upd_xor]; exact F_xor a b _ _ (by simpa using h)

def ones : BitVec 32 := 0xFFFFFFFF#32
/-- The sum of bytes. -/
def crc (l : List UInt8) : BitVec 32 := F ones l ^^^ ones
theorem xor_self (a : BitVec 32) : a ^^^ a = 0#32 := by simp
theorem xor_cancel {a b p : BitVec 32} (h : a ^^^ p = b ^^^ p) : a = b := by
  have := congrArg (· ^^^ p) h
  simpa [xor_right] using this
theorem crc_xor3 (a b c : List UInt8) (h1 : b.length = a.length) (h2 : c.length = a.length) :
    crc (List.zipWith (· ^^^ ·) (List.zipWith (· ^^^ ·) a b) c) = (crc a ^^^ crc b) ^^^ crc c := by
  unfold crc
  have e : ones = (ones ^^^ ones) ^^^ ones := by simp
  conv => lhs; rw [show F ones (List.zipWith (· ^^^ ·) (List.zipWith (· ^^^ ·) a b) c) = F ((ones ^^^ ones) ^^^ ones) (List.zipWith (· ^^^ ·) (List.zipWith (· ^^^ ·) a b) c) from by rw [← e]]
  rw [F_xor _ _ _ _ (by simp [h1, h2]), F_xor _ _ _ _ h1.symm]
  rw [xor_four (F ones a) ones, xor_self, BitVec.xor_zero, ← xor_right]

/- The sum of what is behind its own sum. -/
theorem ext_bit (b : UInt8) (i : Nat) (h : 8 ≤ i) : (ext b).getLsbD i = false := by
  unfold ext
  rw [BitVec.getLsbD_ofNat]
  have : b.toNat.testBit i = false := by
    apply Nat.testBit_lt_two_pow
    exact Nat.lt_of_lt_of_le b.toNat_lt (Nat.pow_le_pow_right (by decide) h)
  simp [this]
theorem Sn8_up (b : UInt8) (k : Nat) (hk : k ≤ 24) : Sn k (ext b <<< k) = ext b := by
  rw [Sn_shift k _ (fun i hi => by simp [BitVec.getLsbD_shiftLeft, hi])]
  apply BitVec.eq_of_getLsbD_eq; intro i hi
  rw [BitVec.getLsbD_ushiftRight, BitVec.getLsbD_shiftLeft]
  by_cases h : k + i < 32
  · simp [h]
  · rw [ext_bit b i (by omega)]; simp [h]
theorem upd_at (k : Nat) (c x : BitVec 32) (b : UInt8) (hk : k ≤ 24) (h : c = Sn k x) : upd c b = Sn (8 + k) (x ^^^ (ext b <<< k)) := by
  unfold upd
  rw [Sn_add, Sn_xor k, Sn8_up b k hk, h]
theorem four_bytes (r : BitVec 32) (a b c d : UInt8) : F r [a, b, c, d] = Sn 32 ((((r ^^^ ext a) ^^^ (ext b <<< 8)) ^^^ (ext c <<< 16)) ^^^ (ext d <<< 24)) := by
  show upd (upd (upd (upd r a) b) c) d = _
  have h1 : upd r a = Sn 8 (r ^^^ ext a) := rfl
  have h2 := upd_at 8 _ _ b (by decide) h1
  have h3 := upd_at 16 _ _ c (by decide) h2
  exact upd_at 24 _ _ d (by decide) h3
/-- The four bytes of a sum, the lowest first. -/
def four (s : BitVec 32) : List UInt8 := [UInt8.ofNat s.toNat, UInt8.ofNat (s.toNat / 256), UInt8.ofNat (s.toNat / 65536), UInt8.ofNat (s.toNat / 16777216)]
theorem ext_of (s : BitVec 32) (k j : Nat) (hj : j = 2 ^ k) (i : Nat) : (ext (UInt8.ofNat (s.toNat / j))).getLsbD i = (decide (i < 8) && s.getLsbD (k + i)) := by
  subst hj
  by_cases h : i < 8
  · unfold ext
    rw [BitVec.getLsbD_ofNat, UInt8.toNat_ofNat', Nat.testBit_mod_two_pow, Nat.testBit_div_two_pow]
    simp [h, show i < 32 by omega, BitVec.getLsbD, Nat.add_comm]
  · rw [ext_bit _ _ (by omega)]; simp [h]
theorem four_word (s : BitVec 32) : ((ext (UInt8.ofNat s.toNat) ^^^ (ext (UInt8.ofNat (s.toNat / 256)) <<< 8)) ^^^ (ext (UInt8.ofNat (s.toNat / 65536)) <<< 16)) ^^^ (ext (UInt8.ofNat (s.toNat / 16777216)) <<< 24) = s := by
  apply BitVec.eq_of_getLsbD_eq; intro i hi
  have h0 := ext_of s 0 1 rfl
  rw [Nat.div_one] at h0
  have h1 := ext_of s 8 256 rfl
  have h2 := ext_of s 16 65536 rfl
  have h3 := ext_of s 24 16777216 rfl
  simp only [BitVec.getLsbD_xor, BitVec.getLsbD_shiftLeft, h0, h1, h2, h3, hi, decide_true, Bool.true_and]
  rcases Nat.lt_or_ge i 8 with a | a
  · simp [a, show i < 16 by omega, show i < 24 by omega]
  · rcases Nat.lt_or_ge i 16 with b | b
    · simp [show ¬ i < 8 by omega, b, show i < 24 by omega, show i - 8 < 8 by omega, show 8 + (i - 8) = i by omega]
    · rcases Nat.lt_or_ge i 24 with c | c
      · simp [show ¬ i < 8 by omega, show ¬ i < 16 by omega, c, show ¬ i - 8 < 8 by omega, show i - 16 < 8 by omega, show 16 + (i - 16) = i by omega]
      · simp [show ¬ i < 8 by omega, show ¬ i < 16 by omega, show ¬ i < 24 by omega, show ¬ i - 8 < 8 by omega, show ¬ i - 16 < 8 by omega, show i - 24 < 8 by omega, show 24 + (i - 24) = i by omega]
theorem F_four (r s : BitVec 32) : F r (four s) = Sn 32 (r ^^^ s) := by
  unfold four
  rw [four_bytes]
  congr 1
  conv => rhs; rw [← four_word s]
  simp only [← xor_right]
theorem crc_own (a : List UInt8) : crc (a ++ four (crc a)) = Sn 32 ones ^^^ ones := by
  unfold crc
  rw [F_append, F_four, ← xor_right, xor_self, BitVec.zero_xor]

/- Bit by bit. -/
/-- A row's bit. -/
def bitAt (l : List UInt8) (j : Nat) : Bool := (l.getD (j / 8) 0).toNat.testBit (j % 8)
def one (b : Bool) : BitVec 32 := if b then 1#32 else 0#32
def reg (f : Nat → Bool) (c : BitVec 32) : Nat → BitVec 32
  | 0 => c
  | k + 1 => S (reg f c k ^^^ one (f k))
theorem reg_congr {f g : Nat → Bool} {c : BitVec 32} : ∀ (n : Nat), (∀ j, j < n → f j = g j) → reg f c n = reg g c n
  | 0, _ => rfl
  | n + 1, h => by
    show S (reg f c n ^^^ one (f n)) = S (reg g c n ^^^ one (g n))
    rw [reg_congr n (fun j hj => h j (by omega)), h n (by omega)]
theorem one_xor (a b : Bool) : one (a ^^ b) = one a ^^^ one b := by cases a <;> cases b <;> decide
theorem reg_xor (f g : Nat → Bool) (c d : BitVec 32) : ∀ n, reg (fun j => f j ^^ g j) (c ^^^ d) n = reg f c n ^^^ reg g d n
  | 0 => rfl
  | n + 1 => by
    show S (reg (fun j => f j ^^ g j) (c ^^^ d) n ^^^ one (f n ^^ g n)) = S (reg f c n ^^^ one (f n)) ^^^ S (reg g d n ^^^ one (g n))
    rw [reg_xor f g c d n, one_xor, xor_four, S_xor]
/-- From a place on. -/
theorem reg_from (f : Nat → Bool) (c : BitVec 32) (m : Nat) : ∀ n, reg f c (m + n) = reg (fun j => f (m + j)) (reg f c m) n
  | 0 => rfl
  | n + 1 => by
    show S (reg f c (m + n) ^^^ one (f (m + n))) = S (reg (fun j => f (m + j)) (reg f c m) n ^^^ one (f (m + n)))
    rw [reg_from f c m n]
/-- The first k bits of f, as a word. -/
def word (f : Nat → Bool) : Nat → BitVec 32
  | 0 => 0#32
  | k + 1 => word f k ^^^ (one (f k) <<< k)
theorem one_bit (b : Bool) (i : Nat) : (one b).getLsbD i = (b && decide (i = 0)) := by
  cases b
  · simp [one]
  · show (1#32).getLsbD i = _
    rw [BitVec.getLsbD_one]; simp
theorem Sn_one (b : Bool) (k : Nat) (hk : k < 32) : Sn k (one b <<< k) = one b := by
  rw [Sn_shift k _ (fun i hi => by simp [BitVec.getLsbD_shiftLeft, hi])]
  apply BitVec.eq_of_getLsbD_eq; intro i hi
  rw [BitVec.getLsbD_ushiftRight, BitVec.getLsbD_shiftLeft, one_bit, one_bit]
  by_cases h : i = 0
  · subst h; simp [hk]
  · simp [h]
theorem reg_word (f : Nat → Bool) (c : BitVec 32) : ∀ k, k ≤ 32 → reg f c k = Sn k (c ^^^ word f k)
  | 0, _ => by simp [reg, Sn, word]
  | k + 1, h => by
    show S (reg f c k ^^^ one (f k)) = S (Sn k (c ^^^ (word f k ^^^ (one (f k) <<< k))))
    rw [reg_word f c k (by omega), ← xor_right, Sn_xor k (c ^^^ word f k), Sn_one _ k (by omega)]
theorem word_bit (f : Nat → Bool) : ∀ (k i : Nat), k ≤ 32 → i < k → (word f k).getLsbD i = f i
  | 0, i, _, h => absurd h (Nat.not_lt_zero _)
  | k + 1, i, hk, h => by
    show (word f k ^^^ (one (f k) <<< k)).getLsbD i = _
    rw [BitVec.getLsbD_xor, BitVec.getLsbD_shiftLeft, one_bit]
    by_cases e : i < k
    · rw [word_bit f k i (by omega) e]; simp [e]
    · obtain rfl : i = k := by omega
      have : (word f i).getLsbD i = false := by
        have gen : ∀ m i, m ≤ i → (word f m).getLsbD i = false := by
          intro m
          induction m with
          | zero => intro i _; simp [word]
          | succ m ih =>
            intro i hi
            show (word f m ^^^ (one (f m) <<< m)).getLsbD i = _
            rw [BitVec.getLsbD_xor, BitVec.getLsbD_shiftLeft, one_bit, ih i (by omega)]
            simp [show ¬ i - m = 0 by omega]
        exact gen i i (Nat.le_refl _)
      rw [this]; simp [show i < 32 by omega]
theorem reg_zero (f : Nat → Bool) (n : Nat) (h : ∀ j, j < n → f j = false) : reg f 0#32 n = 0#32 := by
  induction n with
  | zero => rfl
  | succ n ih =>
    show S (reg f 0#32 n ^^^ one (f n)) = _
    rw [ih (fun j hj => h j (by omega)), h n (by omega)]; decide
theorem reg_none (f : Nat → Bool) (c : BitVec 32) (n : Nat) (h : ∀ j, j < n → f j = false) : reg f c n = Sn n c := by
  induction n with
  | zero => rfl
  | succ n ih =>
    show S (reg f c n ^^^ one (f n)) = S (Sn n c)
    rw [ih (fun j hj => h j (by omega)), h n (by omega)]
    congr 1
    show _ ^^^ 0#32 = _
    simp
/-- A run of at most 32 bits at a place: the register is nothing only if the run is. -/
theorem run_told (f : Nat → Bool) (at_ n : Nat) (h1 : ∀ j, j < at_ → f j = false) (h2 : ∀ j, at_ + 32 ≤ j → f j = false) (h : reg f 0#32 n = 0#32) : ∀ j, j < n → f j = false := by
  intro j hj
  rcases Nat.lt_or_ge j at_ with a | a
  · exact h1 j a
  · rcases Nat.lt_or_ge j (at_ + 32) with b | b
    · have hat : at_ ≤ n := by omega
      have e1 := reg_from f 0#32 at_ (n - at_)
      rw [show at_ + (n - at_) = n by omega, h, reg_zero f at_ h1] at e1
      rcases Nat.lt_or_ge (n - at_) 32 with c | c
      · rw [reg_word _ _ _ (by omega), BitVec.zero_xor] at e1
        have := Sn_inj0 e1.symm
        have hw := word_bit (fun j => f (at_ + j)) (n - at_) (j - at_) (by omega) (by omega)
        rw [this] at hw
        simp only [BitVec.getLsbD_zero] at hw
        rw [show at_ + (j - at_) = j by omega] at hw
        exact hw.symm
      · have e2 := reg_from (fun j => f (at_ + j)) 0#32 32 (n - at_ - 32)
        rw [show 32 + (n - at_ - 32) = n - at_ by omega, ← e1, reg_none _ _ _ (fun i _ => h2 _ (by omega)), reg_word _ _ _ (Nat.le_refl _), BitVec.zero_xor] at e2
        have := Sn_inj0 (Sn_inj0 e2.symm)
        have hw := word_bit (fun j => f (at_ + j)) 32 (j - at_) (Nat.le_refl _) (by omega)
        rw [this] at hw
        simp only [BitVec.getLsbD_zero] at hw
        rw [show at_ + (j - at_) = j by omega] at hw
        exact hw.symm
    · exact h2 j b
/-- A byte's eight bits. -/
theorem word_byte (b : UInt8) : word (fun j => b.toNat.testBit j) 8 = ext b := by
  apply BitVec.eq_of_getLsbD_eq; intro i hi
  rcases Nat.lt_or_ge i 8 with h | h
  · rw [word_bit _ 8 i (by decide) h]
    unfold ext
    rw [BitVec.getLsbD_ofNat]; simp [hi]
  · rw [ext_bit b i h]
    have gen : ∀ (f : Nat → Bool) m i, m ≤ i → (word f m).getLsbD i = false := by
      intro f m
      induction m with
      | zero => intro i _; simp [word]
      | succ m ih =>
        intro i hi
        show (word f m ^^^ (one (f m) <<< m)).getLsbD i = _
        rw [BitVec.getLsbD_xor, BitVec.getLsbD_shiftLeft, one_bit, ih i (by omega)]
        simp [show ¬ i - m = 0 by omega]
    exact gen _ 8 i h
theorem bitAt_append_left (a b : List UInt8) (j : Nat) (h : j < 8 * a.length) : bitAt (a ++ b) j = bitAt a j := by
  unfold bitAt
  have hq : j / 8 < a.length := by omega
  simp [List.getD, List.getElem?_append_left hq]
theorem bitAt_snoc (a : List UInt8) (b : UInt8) (i : Nat) (h : i < 8) : bitAt (a ++ [b]) (8 * a.length + i) = b.toNat.testBit i := by
  unfold bitAt
  rw [show (8 * a.length + i) / 8 = a.length by omega, show (8 * a.length + i) % 8 = i by omega]
  simp [List.getD]
theorem F_reg (c : BitVec 32) (l : List UInt8) : F c l = reg (bitAt l) c (8 * l.length) := by
  suffices ∀ (r : List UInt8), F c r.reverse = reg (bitAt r.reverse) c (8 * r.reverse.length) by simpa using this l.reverse
  intro r
  induction r with
  | nil => rfl
  | cons b r ih =>
    rw [List.reverse_cons, F_snoc, ih]
    rw [show 8 * (r.reverse ++ [b]).length = 8 * r.reverse.length + 8 by simp; omega, reg_from]
    rw [reg_congr (f := bitAt (r.reverse ++ [b])) (g := bitAt r.reverse) _ (fun j hj => bitAt_append_left _ _ _ hj)]
    rw [reg_congr (f := fun j => bitAt (r.reverse ++ [b]) (8 * r.reverse.length + j)) (g := fun j => b.toNat.testBit j) _ (fun j hj => bitAt_snoc _ _ _ hj)]
    rw [reg_word _ _ 8 (by decide), word_byte]
    rfl
theorem bits_ext {a b : UInt8} (h : ∀ i, i < 8 → a.toNat.testBit i = b.toNat.testBit i) : a = b := by
  apply UInt8.toNat_inj.1
  apply Nat.eq_of_testBit_eq
  intro i
  rcases Nat.lt_or_ge i 8 with k | k
  · exact h i k
  · rw [Nat.testBit_lt_two_pow (Nat.lt_of_lt_of_le a.toNat_lt (Nat.pow_le_pow_right (by decide) k)), Nat.testBit_lt_two_pow (Nat.lt_of_lt_of_le b.toNat_lt (Nat.pow_le_pow_right (by decide) k))]
theorem rows_ext {a b : List UInt8} (hl : a.length = b.length) (h : ∀ j, j < 8 * a.length → bitAt a j = bitAt b j) : a = b := by
  apply List.ext_getElem hl
  intro k h1 h2
  apply bits_ext
  intro i hi
  have := h (8 * k + i) (by omega)
  unfold bitAt at this
  rw [show (8 * k + i) / 8 = k by omega, show (8 * k + i) % 8 = i by omega] at this
  simpa [List.getD, h1, h2] using this
/-- Rows that differ in a run of at most 32 bits have the same sum only if they are the same. -/
theorem crc_run (a b : List UInt8) (at_ : Nat) (hl : b.length = a.length) (h1 : ∀ j, j < at_ → bitAt b j = bitAt a j) (h2 : ∀ j, at_ + 32 ≤ j → bitAt b j = bitAt a j) (h : crc a = crc b) : a = b := by
  have hF : F ones a = F ones b := xor_cancel h
  rw [F_reg, F_reg, hl] at hF
  have hx := reg_xor (bitAt a) (bitAt b) ones ones (8 * a.length)
  rw [hF, xor_self, xor_self] at hx
  have := run_told _ at_ _ (fun j hj => by simp [h1 j hj]) (fun j hj => by simp [h2 j hj]) hx
  apply rows_ext hl.symm
  intro j hj
  have := this j hj
  revert this
  cases bitAt a j <;> cases bitAt b j <;> simp
/-- A bit turned. -/
def flip (l : List UInt8) (j : Nat) : List UInt8 := l.set (j / 8) (l.getD (j / 8) 0 ^^^ UInt8.ofNat (2 ^ (j % 8)))
theorem flip_length (l : List UInt8) (j : Nat) : (flip l j).length = l.length := by simp [flip]
theorem bitAt_flip (l : List UInt8) (j k : Nat) (h : k ≠ j) : bitAt (flip l j) k = bitAt l k := by
  unfold flip bitAt
  by_cases e : j / 8 = k / 8
  · by_cases hk : k / 8 < l.length
    · have hm : k % 8 ≠ j % 8 := by omega
      rw [e]
      simp only [List.getD, List.getElem?_set_self hk, List.getElem?_eq_getElem hk, Option.getD_some]
      rw [UInt8.toNat_xor, Nat.testBit_xor, UInt8.toNat_ofNat', Nat.testBit_mod_two_pow, Nat.testBit_two_pow]
      simp [show ¬ (j % 8 = k % 8) by omega]
    · rw [e, List.set_eq_of_length_le (by omega)]
  · simp [List.getD, List.getElem?_set_ne e]
end Go.Proofs.YtjnlkgamnabhjaaDoor.C
