/-
  Plain facts on layer 3: the register, bit by bit and byte by byte.
-/
import Derived.RowKit3
namespace Go.Proofs.Ytimocgjeikgilaa
namespace Cr
/-- The register's step, without a bit. -/
def stp (n : Nat) : Nat := if n / 32768 = 1 then (n * 2 % 65536) ^^^ 4129 else n * 2 % 65536
def hi (b : Bool) : Nat := if b then 32768 else 0
/-- A bit is fed. -/
def fd (n : Nat) (b : Bool) : Nat := stp (n ^^^ hi b)
def stpV (v : BitVec 16) : BitVec 16 := if v.msb then (v <<< 1) ^^^ 4129#16 else v <<< 1
theorem stpV_xor (a b : BitVec 16) : stpV (a ^^^ b) = stpV a ^^^ stpV b := by
  unfold stpV
  rw [BitVec.msb_xor, BitVec.shiftLeft_xor_distrib]
  generalize a <<< 1 = x
  generalize b <<< 1 = y
  cases a.msb <;> cases b.msb <;> simp
  · rw [BitVec.xor_assoc]
  · rw [BitVec.xor_assoc, BitVec.xor_assoc, BitVec.xor_comm y]
  · rw [BitVec.xor_assoc, ← BitVec.xor_assoc 4129#16, BitVec.xor_comm 4129#16, BitVec.xor_assoc y, BitVec.xor_self, BitVec.xor_zero]
theorem hi_lt (b : Bool) : hi b < 65536 := by cases b <;> decide
theorem xor_lt {a b : Nat} (ha : a < 65536) (hb : b < 65536) : a ^^^ b < 65536 := Nat.xor_lt_two_pow (n := 16) ha hb
theorem stp_lt (n : Nat) : stp n < 65536 := by
  unfold stp
  have h : n * 2 % 65536 < 65536 := Nat.mod_lt _ (by decide)
  split
  · exact xor_lt h (by decide)
  · exact h
theorem stp_V (n : Nat) (h : n < 65536) : stp n = (stpV (BitVec.ofNat 16 n)).toNat := by
  have hm : (BitVec.ofNat 16 n).msb = decide (n / 32768 = 1) := by
    rw [BitVec.msb_eq_decide, BitVec.toNat_ofNat]
    apply decide_eq_decide.2
    rw [Nat.mod_eq_of_lt (by simpa using h)]
    simp
    omega
  have hs : (BitVec.ofNat 16 n <<< 1).toNat = n * 2 % 65536 := by
    rw [BitVec.toNat_shiftLeft, BitVec.toNat_ofNat, Nat.shiftLeft_eq]
    simp
  unfold stp stpV
  rw [hm]
  by_cases hh : n / 32768 = 1
  · simp only [hh, decide_true, if_true]
    rw [BitVec.toNat_xor, hs]; rfl
  · simp only [hh, decide_false, if_false, Bool.false_eq_true]
    exact hs.symm
theorem ofNat_xor (a b : Nat) (ha : a < 65536) (hb : b < 65536) : BitVec.ofNat 16 (a ^^^ b) = BitVec.ofNat 16 a ^^^ BitVec.ofNat 16 b := by
  apply BitVec.eq_of_toNat_eq
  rw [BitVec.toNat_xor, BitVec.toNat_ofNat, BitVec.toNat_ofNat, BitVec.toNat_ofNat, Nat.mod_eq_of_lt (xor_lt ha hb), Nat.mod_eq_of_lt ha, Nat.mod_eq_of_lt hb]
theorem stp_xor {a b : Nat} (ha : a < 65536) (hb : b < 65536) : stp (a ^^^ b) = stp a ^^^ stp b := by
  rw [stp_V _ (xor_lt ha hb), stp_V a ha, stp_V b hb, ofNat_xor a b ha hb, stpV_xor, BitVec.toNat_xor]
theorem fd_lt (n : Nat) (b : Bool) : fd n b < 65536 := stp_lt _
theorem fd_xor {a b : Nat} (x y : Bool) (ha : a < 65536) (hb : b < 65536) : fd (a ^^^ b) (x != y) = fd a x ^^^ fd b y := by
  unfold fd
  rw [← stp_xor (xor_lt ha (hi_lt x)) (xor_lt hb (hi_lt y))]
  congr 1
  have : hi (x != y) = hi x ^^^ hi y := by cases x <;> cases y <;> decide
  rw [this, Nat.xor_assoc, Nat.xor_assoc, ← Nat.xor_assoc b, Nat.xor_comm b, Nat.xor_assoc]
/-- The document's step: the highest bit is compared with the bit that comes. -/
theorem fd_ref (n : Nat) (h : n < 65536) (b : Bool) : fd n b = if n / 32768 = (if b then 1 else 0) then n * 2 % 65536 else (n * 2 % 65536) ^^^ 4129 := by
  cases b
  · show stp (n ^^^ 0) = _
    rw [Nat.xor_zero]
    unfold stp
    have : n / 32768 = 0 ∨ n / 32768 = 1 := by omega
    rcases this with h | h <;> simp [h]
  · show stp (n ^^^ 32768) = _
    rw [stp_xor h (by decide)]
    have h8 : stp 32768 = 4129 := by decide
    rw [h8]
    unfold stp
    have : n / 32768 = 0 ∨ n / 32768 = 1 := by omega
    rcases this with h | h
    · simp [h]
    · simp [h, Nat.xor_assoc]
/-- A row of bits is fed. -/
def reg (n : Nat) (l : List Bool) : Nat := l.foldl fd n
theorem reg_lt {n : Nat} (l : List Bool) (h : n < 65536) : reg n l < 65536 := by
  induction l generalizing n with
  | nil => exact h
  | cons b l ih => exact ih (fd_lt n b)
theorem reg_app (n : Nat) (l m : List Bool) : reg n (l ++ m) = reg (reg n l) m := List.foldl_append
def bitN (b i : Nat) : Bool := decide (b / 2 ^ (7 - i) % 2 = 1)
def bitsB (b : Nat) : List Bool := [bitN b 0, bitN b 1, bitN b 2, bitN b 3, bitN b 4, bitN b 5, bitN b 6, bitN b 7]
def stpN (n : Nat) : Nat → Nat
  | 0 => n
  | k + 1 => stp (stpN n k)
theorem stpN_lt {n : Nat} (h : n < 65536) (k : Nat) : stpN n k < 65536 := by
  cases k with
  | zero => exact h
  | succ k => exact stp_lt _
/-- A byte is fed at once. -/
def byt (n b : Nat) : Nat := stpN (n ^^^ (b * 256)) 8
def T (k b : Nat) : Nat := b * 256 * 2 ^ k % 65536
theorem T_next : ∀ k, k < 8 → ∀ b, b < 256 → T k b = hi (bitN b k) ^^^ (T k b % 32768) ∧ stp (T k b % 32768) = T (k + 1) b := by decide +kernel
theorem byt_step {r : Nat} (k b : Nat) (hk : k < 8) (hb : b < 256) (hr : r < 65536) : stp (r ^^^ T k b) = fd r (bitN b k) ^^^ T (k + 1) b := by
  obtain ⟨h1, h2⟩ := T_next k hk b hb
  have h3 : T k b % 32768 < 65536 := by omega
  unfold fd
  rw [← h2, ← stp_xor (xor_lt hr (hi_lt _)) h3, Nat.xor_assoc, ← h1]
theorem byt_reg {n b : Nat} (hn : n < 65536) (hb : b < 256) : byt n b = reg n (bitsB b) := by
  have h0 : n ^^^ (b * 256) = n ^^^ T 0 b := by unfold T; rw [Nat.pow_zero, Nat.mul_one, Nat.mod_eq_of_lt (by omega)]
  have h8 : T 8 b = 0 := by unfold T; rw [Nat.mul_assoc]; exact Nat.mul_mod_left b 65536
  unfold byt
  rw [h0]
  show stp (stp (stp (stp (stp (stp (stp (stp (n ^^^ T 0 b)))))))) = fd (fd (fd (fd (fd (fd (fd (fd n _) _) _) _) _) _) _) _
  rw [byt_step 0 b (by decide) hb hn, byt_step 1 b (by decide) hb (fd_lt _ _), byt_step 2 b (by decide) hb (fd_lt _ _), byt_step 3 b (by decide) hb (fd_lt _ _), byt_step 4 b (by decide) hb (fd_lt _ _), byt_step 5 b (by decide) hb (fd_lt _ _), byt_step 6 b (by decide) hb (fd_lt _ _), byt_step 7 b (by decide) hb (fd_lt _ _), h8, Nat.xor_zero]
/-- A text's bits, and its register. -/
def bitsL (l : List UInt8) : List Bool := l.flatMap fun b => bitsB b.toNat
def bytL (n : Nat) (l : List UInt8) : Nat := l.foldl (fun n b => byt n b.toNat) n
theorem bytL_reg {n : Nat} (hn : n < 65536) (l : List UInt8) : bytL n l = reg n (bitsL l) := by
  induction l generalizing n with
  | nil => rfl
  | cons b l ih =>
    show bytL (byt n b.toNat) l = reg n (bitsB b.toNat ++ bitsL l)
    rw [reg_app, ← byt_reg hn b.toNat_lt, ih (by rw [byt_reg hn b.toNat_lt]; exact reg_lt _ hn)]
theorem bytL_lt {n : Nat} (hn : n < 65536) (l : List UInt8) : bytL n l < 65536 := by rw [bytL_reg hn]; exact reg_lt _ hn
theorem bytL_app (n : Nat) (l m : List UInt8) : bytL n (l ++ m) = bytL (bytL n l) m := List.foldl_append
/-- Rows of bits of one length, compared. -/
theorem reg_xor {a b : Nat} (l m : List Bool) (hl : l.length = m.length) (ha : a < 65536) (hb : b < 65536) : reg a l ^^^ reg b m = reg (a ^^^ b) (List.zipWith (· != ·) l m) := by
  induction l generalizing a b m with
  | nil => cases m with
    | nil => rfl
    | cons y m => simp at hl
  | cons x l ih => cases m with
    | nil => simp at hl
    | cons y m =>
      show reg (fd a x) l ^^^ reg (fd b y) m = reg (fd (a ^^^ b) (x != y)) (List.zipWith _ l m)
      rw [ih m (by simpa using hl) (fd_lt _ _) (fd_lt _ _), fd_xor x y ha hb]
theorem xor_nil {a b : Nat} (h : a ^^^ b = 0) : a = b := by
  have h2 : a ^^^ b ^^^ b = b := by rw [h, Nat.zero_xor]
  rwa [Nat.xor_assoc, Nat.xor_self, Nat.xor_zero] at h2
theorem stp_zero : stp 0 = 0 := by decide
/-- The step is never undone to nothing. -/
theorem stp_ne {n : Nat} (h : n < 65536) (h0 : n ≠ 0) : stp n ≠ 0 := by
  unfold stp
  split
  · intro he
    have h2 : n * 2 % 65536 = 4129 := xor_nil he
    omega
  · omega
theorem reg_zeros (k : Nat) : reg 0 (List.replicate k false) = 0 := by
  induction k with
  | zero => rfl
  | succ k ih => exact ih
theorem reg_zeros_ne {n : Nat} (k : Nat) (h : n < 65536) (h0 : n ≠ 0) : reg n (List.replicate k false) ≠ 0 := by
  induction k generalizing n with
  | zero => exact h0
  | succ k ih =>
    refine ih (n := fd n false) (fd_lt _ _) ?_
    show stp (n ^^^ 0) ≠ 0
    rw [Nat.xor_zero]
    exact stp_ne h h0
end Cr
end Go.Proofs.Ytimocgjeikgilaa
