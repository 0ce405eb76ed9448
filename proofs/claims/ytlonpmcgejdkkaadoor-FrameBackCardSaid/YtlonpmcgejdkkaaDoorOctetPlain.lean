/-
  Plain facts on numbers as bytes: no program is imported.
-/
import Derived.RowKit3
namespace Go.Proofs.YtlonpmcgejdkkaaDoor
namespace Oc
theorem snoc_ind {α : Type} {P : List α → Prop} (h0 : P []) (h1 : ∀ l a, P l → P (l ++ [a])) (l : List α) : P l := by
  have h : ∀ r : List α, P r.reverse := by
    intro r
    induction r with
    | nil => exact h0
    | cons a r ih => rw [List.reverse_cons]; exact h1 _ _ ih
  rw [← List.reverse_reverse l]
  exact h _
/-- The bytes of n in so many bytes, the highest one first. -/
def be : Nat → Nat → List UInt8
  | 0, _ => []
  | w + 1, n => be w (n / 256) ++ [UInt8.ofNat n]
/-- The number of bytes. -/
def num (l : List UInt8) : Nat := l.foldl (fun n b => 256 * n + b.toNat) 0
theorem be_length (w n : Nat) : (be w n).length = w := by
  induction w generalizing n with
  | zero => rfl
  | succ w ih => simp [be, ih]
theorem num_snoc (l : List UInt8) (b : UInt8) : num (l ++ [b]) = 256 * num l + b.toNat := by simp [num]
theorem num_be (w n : Nat) (h : n < 256 ^ w) : num (be w n) = n := by
  induction w generalizing n with
  | zero => simp at h; subst h; rfl
  | succ w ih =>
    rw [be, num_snoc, ih _ (by rw [Nat.pow_succ] at h; omega)]
    simp
    omega
theorem num_lt (l : List UInt8) : num l < 256 ^ l.length := by
  refine snoc_ind (P := fun l => num l < 256 ^ l.length) (by simp [num]) (fun l b ih => ?_) l
  · show num (l ++ [b]) < 256 ^ (l ++ [b]).length
    rw [num_snoc, List.length_append, List.length_singleton, Nat.pow_succ]
    have := b.toNat_lt
    omega
theorem be_num (l : List UInt8) : be l.length (num l) = l := by
  refine snoc_ind (P := fun l => be l.length (num l) = l) rfl (fun l b ih => ?_) l
  · show be (l ++ [b]).length (num (l ++ [b])) = l ++ [b]
    rw [num_snoc, List.length_append, List.length_singleton, be]
    have := b.toNat_lt
    have e : (256 * num l + b.toNat) / 256 = num l := by omega
    rw [e, ih]
    congr 2
    apply UInt8.toNat_inj.1
    simp
theorem be_get (w n i : Nat) (h : i < w) : (be w n)[i]? = some (UInt8.ofNat (n / 256 ^ (w - 1 - i))) := by
  induction w generalizing n with
  | zero => omega
  | succ w ih =>
    rw [be]
    by_cases hi : i = w
    · subst hi
      have hl := be_length i (n / 256)
      rw [List.getElem?_append_right (by omega), hl]
      simp
    · have hl := be_length w (n / 256)
      rw [List.getElem?_append_left (by omega), ih _ (by omega), Nat.div_div_eq_div_mul]
      congr 3
      rw [show w + 1 - 1 - i = (w - 1 - i) + 1 by omega, Nat.pow_succ, Nat.mul_comm]
theorem be_snoc (w n k : Nat) (h : k < w) : (be w n).take (k + 1) = (be w n).take k ++ [UInt8.ofNat (n / 256 ^ (w - 1 - k))] := by
  have hg := be_get w n k h
  have hl := be_length w n
  rw [List.take_succ_eq_append_getElem (by omega)]
  congr 1
  rw [List.getElem?_eq_getElem (by omega)] at hg
  simpa using hg
theorem pow_8 (m : Nat) : 2 ^ (8 * m) = 256 ^ m := by rw [Nat.pow_mul]
/-- May n be put in so many bytes? -/
def fits (n w : Int) : Bool := decide (1 ≤ w) && decide (w ≤ 6) && decide (0 ≤ n) && decide (n < 256 ^ w.toNat)
/-- What is read of r, and what is left. -/
def inR (r : ByteArray) (n : Int) : Bool := decide (0 ≤ n) && decide (n ≤ r.size)
def bytesS (r : ByteArray) (n : Int) : ByteArray := if inR r n then r.extract 0 n.toNat else ⟨#[]⟩
def bytesE (r : ByteArray) (n : Int) : Int := if n < 0 then 1 else if r.size < n then 3 else 0
def bytesR (r : ByteArray) (n : Int) : ByteArray := if inR r n then r.extract n.toNat r.size else r
def inT (r : ByteArray) (m : Int) : Bool := decide (1 ≤ m) && decide (m ≤ 6) && decide (m ≤ r.size)
def takeN (r : ByteArray) (m : Int) : Int := if inT r m then num (r.extract 0 m.toNat).data.toList else 0
def takeE (r : ByteArray) (m : Int) : Int := if m < 1 ∨ 6 < m then 1 else if r.size < m then 3 else 0
def takeR (r : ByteArray) (m : Int) : ByteArray := if inT r m then r.extract m.toNat r.size else r
theorem extract_all (r : ByteArray) : r.extract 0 r.size = r := by
  apply ByteArray.ext
  simp
theorem extract_none (r : ByteArray) : r.extract 0 0 = ⟨#[]⟩ := by
  apply ByteArray.ext
  simp
theorem num_take (l : List UInt8) (k : Nat) (h : k < l.length) : num (l.take (k + 1)) = 256 * num (l.take k) + l[k].toNat := by
  rw [List.take_succ_eq_append_getElem h, num_snoc]
theorem num_take_lt (l : List UInt8) (k : Nat) (h : k ≤ 6) : num (l.take k) < 281474976710656 := by
  have h1 := num_lt (l.take k)
  have h2 : 256 ^ (l.take k).length ≤ 256 ^ 6 := Nat.pow_le_pow_right (by decide) (by rw [List.length_take]; omega)
  exact Nat.lt_of_lt_of_le h1 (by simpa using h2)
/-- The bytes of a row of numbers, one behind the other: number i of width f i 0 is f i 1, where it fits. -/
def piece (f : Nat → Nat → Int) (i : Nat) : List UInt8 := if fits (f i 1) (f i 0) then be (f i 0).toNat (f i 1).toNat else []
def upTo (f : Nat → Nat → Int) : Nat → List UInt8
  | 0 => []
  | k + 1 => upTo f k ++ piece f k
def from_ (f : Nat → Nat → Int) (k : Nat) : Nat → List UInt8
  | 0 => []
  | d + 1 => piece f k ++ from_ f (k + 1) d
theorem upTo_from (f : Nat → Nat → Int) (d k : Nat) : upTo f (k + d) = upTo f k ++ from_ f k d := by
  induction d generalizing k with
  | zero => simp [from_]
  | succ d ih =>
    rw [show k + (d + 1) = (k + 1) + d by omega, ih, upTo, from_, List.append_assoc]
theorem piece_length (f : Nat → Nat → Int) (i : Nat) : (piece f i).length ≤ 6 := by
  unfold piece
  split
  · rename_i h
    simp only [fits, Bool.and_eq_true, decide_eq_true_eq] at h
    rw [be_length]; omega
  · simp
theorem upTo_length (f : Nat → Nat → Int) (k : Nat) : (upTo f k).length ≤ 6 * k := by
  induction k with
  | zero => simp [upTo]
  | succ k ih => have := piece_length f k; simp only [upTo, List.length_append]; omega
theorem mk_extract (l t : List UInt8) : (⟨(l ++ t).toArray⟩ : ByteArray).extract 0 l.length = ⟨l.toArray⟩ := by
  apply ByteArray.ext
  simp
theorem mk_extract2 (l t : List UInt8) : (⟨(l ++ t).toArray⟩ : ByteArray).extract l.length (⟨(l ++ t).toArray⟩ : ByteArray).size = ⟨t.toArray⟩ := by
  apply ByteArray.ext
  simp [ByteArray.size]
theorem take_piece (n m : Int) (t : List UInt8) (h : fits n m = true) :
    takeN ⟨(be m.toNat n.toNat ++ t).toArray⟩ m = n ∧ takeE ⟨(be m.toNat n.toNat ++ t).toArray⟩ m = 0 ∧ takeR ⟨(be m.toNat n.toNat ++ t).toArray⟩ m = ⟨t.toArray⟩ := by
  simp only [fits, Bool.and_eq_true, decide_eq_true_eq] at h
  obtain ⟨⟨⟨h1, h2⟩, h3⟩, h4⟩ := h
  obtain ⟨n', rfl⟩ := Int.eq_ofNat_of_zero_le h3
  obtain ⟨m', rfl⟩ := Int.eq_ofNat_of_zero_le (show 0 ≤ m by omega)
  simp only [Int.toNat_natCast] at h4 ⊢
  have e256 : ((256 ^ m' : Nat) : Int) = (256 : Int) ^ m' := by simp
  have hl := be_length m' n'
  have hsz : (⟨(be m' n' ++ t).toArray⟩ : ByteArray).size = m' + t.length := by simp [ByteArray.size, hl]
  have hin : inT ⟨(be m' n' ++ t).toArray⟩ m' = true := by
    simp only [inT, Bool.and_eq_true, decide_eq_true_eq, hsz]; omega
  have hx := mk_extract (be m' n') t
  have hx2 := mk_extract2 (be m' n') t
  rw [hl] at hx hx2
  refine ⟨?_, ?_, ?_⟩
  · rw [takeN, if_pos hin, Int.toNat_natCast, hx]
    show ((num (be m' n') : Nat) : Int) = n'
    rw [num_be _ _ (by omega)]
  · rw [takeE, if_neg (by omega), if_neg (by rw [hsz]; omega)]
  · rw [takeR, if_pos hin, Int.toNat_natCast, hx2]
theorem take_none : takeE ⟨#[]⟩ 1 = 3 := by decide
end Oc
end Go.Proofs.YtlonpmcgejdkkaaDoor
