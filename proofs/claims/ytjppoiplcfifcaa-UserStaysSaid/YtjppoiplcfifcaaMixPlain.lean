/-
  Plain facts on layer 4: turning, and the rounds.
-/
import Derived.RowKit3
import Derived.Laws.BitsAllLaws
import Derived.Laws.Bits64
namespace Go.Proofs.Ytjppoiplcfifcaa
namespace Mx
def M : Nat := 18446744073709551616
def dbl (z : Nat) : Nat := (2 * z % M + z / 9223372036854775808) % M
def rl : Nat → Nat → Nat
  | 0, x => x
  | k + 1, x => dbl (rl k x)
theorem rl_lt (k x : Nat) (hx : x < M) : rl k x < M := by
  cases k with
  | zero => exact hx
  | succ k => exact Nat.mod_lt _ (by decide)
theorem dbl_lo (v : Nat) (h : v < 9223372036854775808) : dbl v = 2 * v := by
  unfold dbl M
  rw [Nat.div_eq_of_lt h, Nat.mod_eq_of_lt (by omega), Nat.mod_eq_of_lt (by omega)]; omega
theorem dbl_hi (v : Nat) (h : v < 9223372036854775808) : dbl (9223372036854775808 + v) = 2 * v + 1 := by
  unfold dbl M
  rw [show 2 * (9223372036854775808 + v) = 2 * v + 18446744073709551616 by omega, Nat.add_mod_right, Nat.mod_eq_of_lt (by omega), Nat.add_div_left _ (by decide), Nat.div_eq_of_lt h, Nat.mod_eq_of_lt (by omega)]
theorem rl_step (A P x : Nat) (hAP : A * P = 9223372036854775808) (hA : 0 < A) (hP : 0 < P) (hx : x < M) :
    dbl ((x % (2 * A)) * P + x / (2 * A)) = (x % A) * (2 * P) + x / A := by
  have hq : x / (2 * A) < P := by
    apply Nat.div_lt_of_lt_mul
    have : 2 * A * P = 18446744073709551616 := by rw [Nat.mul_assoc, hAP]
    unfold M at hx; omega
  have hr : x % (2 * A) < 2 * A := Nat.mod_lt _ (by omega)
  have hd := Nat.div_add_mod x (2 * A)
  generalize x / (2 * A) = q at *
  generalize x % (2 * A) = r at *
  have hb : r / A < 2 := by apply Nat.div_lt_of_lt_mul; omega
  have hr2 : r % A < A := Nat.mod_lt _ hA
  have hd2 := Nat.div_add_mod r A
  generalize r / A = b at *
  generalize r % A = s at *
  have e1 : x / A = 2 * q + b := by
    rw [← hd, ← hd2]
    rw [show 2 * A * q + (A * b + s) = s + A * (2 * q + b) by rw [Nat.mul_add, Nat.mul_comm 2 A, Nat.mul_assoc]; omega]
    rw [Nat.add_mul_div_left _ _ hA, Nat.div_eq_of_lt hr2]; omega
  have e2 : x % A = s := by
    rw [← hd, ← hd2]
    rw [show 2 * A * q + (A * b + s) = s + A * (2 * q + b) by rw [Nat.mul_add, Nat.mul_comm 2 A, Nat.mul_assoc]; omega]
    rw [Nat.add_mul_mod_self_left, Nat.mod_eq_of_lt hr2]
  have h1 : (s + 1) * P ≤ A * P := Nat.mul_le_mul_right P hr2
  rw [hAP, Nat.add_mul] at h1
  have e3 : s * (2 * P) = 2 * (s * P) := by rw [Nat.mul_left_comm]
  have e4 : r * P = b * 9223372036854775808 + s * P := by
    rw [← hd2, Nat.add_mul, Nat.mul_comm A b, Nat.mul_assoc, hAP]
  rw [e1, e2, e3, e4]
  generalize s * P = t at *
  have hv : t + q < 9223372036854775808 := by omega
  have hb3 : b = 0 ∨ b = 1 := by omega
  rcases hb3 with rfl | rfl
  · rw [show 0 * 9223372036854775808 + t + q = t + q by omega, dbl_lo _ hv]; omega
  · rw [show 1 * 9223372036854775808 + t + q = 9223372036854775808 + (t + q) by omega, dbl_hi _ hv]; omega
theorem rl_eq (k x : Nat) (hk : k ≤ 63) (hx : x < M) : rl k x = (x % 2 ^ (64 - k)) * 2 ^ k + x / 2 ^ (64 - k) := by
  induction k with
  | zero =>
    have h : x < 2 ^ 64 := hx
    show x = _
    rw [Nat.sub_zero, Nat.mod_eq_of_lt h, Nat.div_eq_of_lt h]; simp
  | succ k ih =>
    have e := ih (by omega)
    have e64 : 2 ^ (64 - k) = 2 * 2 ^ (64 - (k + 1)) := by
      rw [show 64 - k = (64 - (k + 1)) + 1 by omega, Nat.pow_succ]; omega
    rw [e64] at e
    show dbl (rl k x) = _
    rw [e, rl_step _ _ _ ?_ (Nat.pow_pos (by decide)) (Nat.pow_pos (by decide)) hx, Nat.pow_succ, Nat.mul_comm (2 ^ k) 2]
    rw [← Nat.pow_add, show 64 - (k + 1) + k = 63 by omega]
theorem rl56 (x : Nat) (hx : x < M) : rl 56 x = (x % 256) * 72057594037927936 + x / 256 := rl_eq 56 x (by decide) hx
theorem rl8 (x : Nat) (hx : x < M) : rl 8 x = (x % 72057594037927936) * 256 + x / 72057594037927936 := rl_eq 8 x (by decide) hx
theorem rl3 (x : Nat) (hx : x < M) : rl 3 x = (x % 2305843009213693952) * 8 + x / 2305843009213693952 := rl_eq 3 x (by decide) hx
theorem rl61 (x : Nat) (hx : x < M) : rl 61 x = (x % 8) * 2305843009213693952 + x / 8 := rl_eq 61 x (by decide) hx
theorem rl_8_56 (x : Nat) (hx : x < M) : rl 8 (rl 56 x) = x := by
  rw [rl8 _ (rl_lt _ _ hx), rl56 _ hx]; unfold M at hx; omega
theorem rl_56_8 (x : Nat) (hx : x < M) : rl 56 (rl 8 x) = x := by
  rw [rl56 _ (rl_lt _ _ hx), rl8 _ hx]; unfold M at hx; omega
theorem rl_61_3 (x : Nat) (hx : x < M) : rl 61 (rl 3 x) = x := by
  rw [rl61 _ (rl_lt _ _ hx), rl3 _ hx]; unfold M at hx; omega
theorem rl_3_61 (x : Nat) (hx : x < M) : rl 3 (rl 61 x) = x := by
  rw [rl3 _ (rl_lt _ _ hx), rl61 _ hx]; unfold M at hx; omega
theorem xor_lt (a b : Nat) (ha : a < M) (hb : b < M) : a ^^^ b < M := Nat.xor_lt_two_pow (n := 64) ha hb
theorem xor_xor (a b : Nat) : (a ^^^ b) ^^^ b = a := by rw [Nat.xor_assoc, Nat.xor_self, Nat.xor_zero]
def key (k i : Nat) : Nat := (k + i * 11400714819323198485 % M) % M
theorem key_lt (k i : Nat) : key k i < M := Nat.mod_lt _ (by decide)
def fx (k x y : Nat) : Nat := ((rl 56 x + y) % M) ^^^ k
def stp (k : Nat) (p : Nat × Nat) : Nat × Nat := (fx k p.1 p.2, rl 3 p.2 ^^^ fx k p.1 p.2)
def by_ (p : Nat × Nat) : Nat := rl 61 (p.2 ^^^ p.1)
def bck (k : Nat) (p : Nat × Nat) : Nat × Nat := (rl 8 (((p.1 ^^^ k) + M - by_ p) % M), by_ p)
def In (p : Nat × Nat) : Prop := p.1 < M ∧ p.2 < M
theorem fx_lt (k x y : Nat) (hk : k < M) : fx k x y < M := xor_lt _ _ (Nat.mod_lt _ (by decide)) hk
theorem stp_in (k : Nat) (p : Nat × Nat) (hk : k < M) (h : In p) : In (stp k p) := ⟨fx_lt _ _ _ hk, xor_lt _ _ (rl_lt _ _ h.2) (fx_lt _ _ _ hk)⟩
theorem by_lt (p : Nat × Nat) (h : In p) : by_ p < M := rl_lt _ _ (xor_lt _ _ h.2 h.1)
theorem bck_in (k : Nat) (p : Nat × Nat) (h : In p) : In (bck k p) := ⟨rl_lt _ _ (Nat.mod_lt _ (by decide)), by_lt p h⟩
theorem bck_stp (k : Nat) (p : Nat × Nat) (h : In p) : bck k (stp k p) = p := by
  obtain ⟨x, y⟩ := p
  have hx : x < M := h.1
  have hy : y < M := h.2
  have e1 : by_ (stp k (x, y)) = y := by
    show rl 61 ((rl 3 y ^^^ fx k x y) ^^^ fx k x y) = y
    rw [xor_xor, rl_61_3 _ hy]
  unfold bck
  rw [e1]
  have e2 : (stp k (x, y)).1 ^^^ k = (rl 56 x + y) % M := xor_xor _ _
  rw [e2]
  have e3 : ((rl 56 x + y) % M + M - y) % M = rl 56 x := by
    have := rl_lt 56 x hx
    unfold M at *
    omega
  rw [e3, rl_8_56 _ hx]
theorem stp_bck (k : Nat) (p : Nat × Nat) (hk : k < M) (h : In p) : stp k (bck k p) = p := by
  obtain ⟨x, y⟩ := p
  have hx : x < M := h.1
  have hy : y < M := h.2
  have hb := by_lt (x, y) h
  have e1 : fx k (bck k (x, y)).1 (bck k (x, y)).2 = x := by
    show ((rl 56 (rl 8 (((x ^^^ k) + M - by_ (x, y)) % M)) + by_ (x, y)) % M) ^^^ k = x
    rw [rl_56_8 _ (Nat.mod_lt _ (by decide))]
    have hx2 := xor_lt x k hx hk
    have : (((x ^^^ k) + M - by_ (x, y)) % M + by_ (x, y)) % M = x ^^^ k := by
      unfold M at *
      omega
    rw [this, xor_xor]
  unfold stp
  rw [e1]
  show (x, rl 3 (rl 61 (y ^^^ x)) ^^^ x) = (x, y)
  rw [rl_3_61 _ (xor_lt _ _ hy hx), xor_xor]
def fw (k : Nat) : Nat → Nat × Nat → Nat × Nat
  | 0, p => p
  | i + 1, p => stp (key k i) (fw k i p)
def bw (k : Nat) : Nat → Nat × Nat → Nat × Nat
  | 0, p => p
  | i + 1, p => bck (key k (7 - i)) (bw k i p)
theorem fw_in (k i : Nat) (p : Nat × Nat) (h : In p) : In (fw k i p) := by
  induction i with
  | zero => exact h
  | succ i ih => exact stp_in _ _ (key_lt _ _) ih
theorem bw_in (k i : Nat) (p : Nat × Nat) (h : In p) : In (bw k i p) := by
  induction i with
  | zero => exact h
  | succ i ih => exact bck_in _ _ ih
theorem bw_fw (k : Nat) (p : Nat × Nat) (h : In p) : bw k 8 (fw k 8 p) = p := by
  have g : ∀ i, i ≤ 8 → bw k i (fw k 8 p) = fw k (8 - i) p := by
    intro i
    induction i with
    | zero => intro _; rfl
    | succ i ih =>
      intro hi
      show bck (key k (7 - i)) (bw k i (fw k 8 p)) = _
      rw [ih (by omega), show 8 - i = (7 - i) + 1 by omega]
      show bck (key k (7 - i)) (stp (key k (7 - i)) (fw k (7 - i) p)) = _
      rw [bck_stp _ _ (fw_in _ _ _ h), show 8 - (i + 1) = 7 - i by omega]
  exact g 8 (Nat.le_refl _)
theorem fw_bw (k : Nat) (p : Nat × Nat) (h : In p) : fw k 8 (bw k 8 p) = p := by
  have g : ∀ i, i ≤ 8 → fw k i (bw k 8 p) = bw k (8 - i) p := by
    intro i
    induction i with
    | zero => intro _; rfl
    | succ i ih =>
      intro hi
      show stp (key k i) (fw k i (bw k 8 p)) = _
      rw [ih (by omega), show 8 - i = (7 - i) + 1 by omega]
      show stp (key k i) (bck (key k (7 - (7 - i))) (bw k (7 - i) p)) = _
      rw [show 7 - (7 - i) = i by omega, stp_bck _ _ (key_lt _ _) (bw_in _ _ _ h), show 8 - (i + 1) = 7 - i by omega]
  exact g 8 (Nat.le_refl _)
theorem w64 (n : Nat) : IntKind.u64.wrap (n : Int) = ((n % M : Nat) : Int) := by rw [IntKind.wrap_u64]; unfold M; omega
theorem w_dbl (z : Nat) : IntKind.u64.wrap (IntKind.u64.wrap (2 * (z : Int)) + (z : Int) / 9223372036854775808) = ((dbl z : Nat) : Int) := by
  rw [IntKind.wrap_u64, IntKind.wrap_u64]; unfold dbl M; omega
theorem w_fx (k a y : Nat) (hk : k < M) : bits BinOp.xor IntKind.u64 (IntKind.u64.wrap ((a : Int) + (y : Int))) (k : Int) = (((a + y) % M ^^^ k : Nat) : Int) := by
  rw [show ((a : Int) + (y : Int)) = ((a + y : Nat) : Int) by simp, w64]
  exact u64_xor_nat _ _ (show (a + y) % M < 18446744073709551616 from Nat.mod_lt _ (by decide)) hk
theorem w_xor (a b : Nat) (ha : a < M) (hb : b < M) : bits BinOp.xor IntKind.u64 (a : Int) (b : Int) = ((a ^^^ b : Nat) : Int) := u64_xor_nat _ _ ha hb
theorem w_sub (a b : Nat) (ha : a < M) (hb : b < M) : IntKind.u64.wrap ((a : Int) - (b : Int)) = (((a + M - b) % M : Nat) : Int) := by
  rw [IntKind.wrap_u64]; unfold M at *; omega
theorem w_key (k i : Nat) (hi : i ≤ 8) : IntKind.u64.wrap ((k : Int) + IntKind.u64.wrap ((i : Int) * 11400714819323198485)) = ((key k i : Nat) : Int) := by
  rw [IntKind.wrap_u64, IntKind.wrap_u64]; unfold key M; omega
theorem or_add (a b k : Nat) (ha : a * 2 ^ k < M) (hb : b < 2 ^ k) (hbM : b < M) : bits BinOp.or IntKind.u64 ((a * 2 ^ k : Nat) : Int) (b : Int) = ((a * 2 ^ k + b : Nat) : Int) := by
  rw [u64_or_nat _ _ ha hbM, ← Nat.shiftLeft_eq, Nat.shiftLeft_add_eq_or_of_lt hb]
theorem w_rot (k x : Nat) (h0 : 0 < k) (hk : k ≤ 63) (hx : x < M) : bits BinOp.or IntKind.u64 (IntKind.u64.wrap ((x : Int) * 2 ^ k)) ((x : Int) / 2 ^ (64 - k)) = ((rl k x : Nat) : Int) := by
  have hM : 2 ^ (64 - k) * 2 ^ k = M := by rw [← Nat.pow_add, show 64 - k + k = 64 by omega]; rfl
  have e1 : IntKind.u64.wrap ((x : Int) * 2 ^ k) = (((x % 2 ^ (64 - k)) * 2 ^ k : Nat) : Int) := by
    rw [show (x : Int) * 2 ^ k = ((x * 2 ^ k : Nat) : Int) by simp, w64, ← hM, Nat.mul_mod_mul_right]
  have e2 : (x : Int) / 2 ^ (64 - k) = ((x / 2 ^ (64 - k) : Nat) : Int) := by simp
  rw [e1, e2, or_add, rl_eq k x hk hx]
  · rw [← hM]; exact Nat.mul_lt_mul_of_pos_right (Nat.mod_lt _ (Nat.pow_pos (by decide))) (Nat.pow_pos (by decide))
  · apply Nat.div_lt_of_lt_mul; rw [hM]; exact hx
  · exact Nat.lt_of_le_of_lt (Nat.div_le_self _ _) hx
end Mx
end Go.Proofs.Ytjppoiplcfifcaa
