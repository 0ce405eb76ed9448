/-
  Plain facts on the numbers of layer 1: no program is imported.
-/
import Derived.RowKit3
namespace Go.Proofs.Ytnhjpblkenmccaa
namespace Bd
/-- A number, kept from 0 to a most. -/
def kp (n m : Int) : Int := if n < 0 ∨ m < 0 then 0 else if m < n then m else n
def cMost : Int := 2147483647
def tMost : Int := 1099511627776
theorem kp_lo (n m : Int) : 0 ≤ kp n m := by unfold kp; split <;> (try split) <;> omega
theorem kp_hi (n m : Int) (h : 0 ≤ m) : kp n m ≤ m := by unfold kp; split <;> (try split) <;> omega
theorem kp_le (n m : Int) (h : 0 ≤ n) : kp n m ≤ n := by unfold kp; split <;> (try split) <;> omega
theorem kp_id (n m : Int) (h : 0 ≤ n) (h2 : n ≤ m) : kp n m = n := by unfold kp; split <;> (try split) <;> omega
theorem kp_big (n m : Int) (h : 0 ≤ m) (h2 : m ≤ n) : kp n m = m := by unfold kp; split <;> (try split) <;> omega
theorem kp_neg (n m : Int) (h : n ≤ 0) : kp n m = 0 := by unfold kp; split <;> (try split) <;> omega
theorem kp_mono (a b m : Int) (h : a ≤ b) : kp a m ≤ kp b m := by unfold kp; repeat' split <;> omega
theorem kc (n : Int) : 0 ≤ kp n cMost ∧ kp n cMost ≤ 2147483647 := ⟨kp_lo _ _, kp_hi _ _ (by decide)⟩
theorem kt (n : Int) : 0 ≤ kp n tMost ∧ kp n tMost ≤ 1099511627776 := ⟨kp_lo _ _, kp_hi _ _ (by decide)⟩
theorem kh (n : Int) : 0 ≤ kp n 100 ∧ kp n 100 ≤ 100 := ⟨kp_lo _ _, kp_hi _ _ (by decide)⟩
def addC (a b : Int) : Int := kp (kp a cMost + kp b cMost) cMost
def subC (a b : Int) : Int := kp (kp a cMost - kp b cMost) cMost
def mulC (a b : Int) : Int := kp (kp a cMost * kp b cMost) cMost
def divZ (a b : Int) : Int := if b = 0 then 0 else a / b
def meanC (a b : Int) : Int := divZ (kp a cMost) (kp b cMost)
def shareC (n p : Int) : Int := kp n cMost * kp p 100 / 100
def partC (n p : Int) : Int := (kp n cMost * kp p 100 + 99) / 100
def laterT (a b : Int) : Int := kp (kp a tMost + kp b tMost) tMost
def leftT (a b : Int) : Int := kp (kp a tMost - kp b tMost) tMost
theorem addC_comm (a b : Int) : addC a b = addC b a := by unfold addC; rw [Int.add_comm]
theorem mulC_comm (a b : Int) : mulC a b = mulC b a := by unfold mulC; rw [Int.mul_comm]
theorem prodC (a b : Int) : 0 ≤ kp a cMost * kp b cMost ∧ kp a cMost * kp b cMost ≤ 4611686014132420609 := by
  have h1 := kc a; have h2 := kc b
  exact ⟨Int.mul_nonneg h1.1 h2.1, Int.le_trans (Int.mul_le_mul h1.2 h2.2 h2.1 (by decide)) (by decide)⟩
theorem prodH (a b : Int) : 0 ≤ kp a cMost * kp b 100 ∧ kp a cMost * kp b 100 ≤ 214748364700 := by
  have h1 := kc a; have h2 := kh b
  exact ⟨Int.mul_nonneg h1.1 h2.1, Int.le_trans (Int.mul_le_mul h1.2 h2.2 h2.1 (by decide)) (by decide)⟩
theorem addC_b (a b : Int) : 0 ≤ addC a b ∧ addC a b ≤ 2147483647 := kc _
theorem subC_b (a b : Int) : 0 ≤ subC a b ∧ subC a b ≤ 2147483647 := kc _
theorem mulC_b (a b : Int) : 0 ≤ mulC a b ∧ mulC a b ≤ 2147483647 := kc _
theorem laterT_b (a b : Int) : 0 ≤ laterT a b ∧ laterT a b ≤ 1099511627776 := kt _
theorem leftT_b (a b : Int) : 0 ≤ leftT a b ∧ leftT a b ≤ 1099511627776 := kt _
theorem meanC_b (a b : Int) : 0 ≤ meanC a b ∧ meanC a b ≤ 2147483647 := by
  unfold meanC divZ
  have h1 := kc a; have h2 := kc b
  split
  · exact ⟨by decide, by decide⟩
  · exact ⟨Int.ediv_nonneg h1.1 h2.1, Int.le_trans (Int.ediv_le_self _ h1.1) h1.2⟩
theorem meanC_keep (a b : Int) : kp (meanC a b) cMost = meanC a b := kp_id _ _ (meanC_b a b).1 (meanC_b a b).2
theorem shareC_b (n p : Int) : 0 ≤ shareC n p ∧ shareC n p ≤ 2147483647 := by
  have := prodH n p; unfold shareC; omega
theorem partC_b (n p : Int) : 0 ≤ partC n p ∧ partC n p ≤ 2147483647 := by
  have := prodH n p; unfold partC; omega
theorem addC_id (a b : Int) (h1 : 0 ≤ a) (h2 : 0 ≤ b) (h : a + b ≤ 2147483647) : addC a b = a + b := by
  have e1 : kp a cMost = a := kp_id _ _ h1 (by unfold cMost; omega)
  have e2 : kp b cMost = b := kp_id _ _ h2 (by unfold cMost; omega)
  unfold addC; rw [e1, e2]; exact kp_id _ _ (by omega) (by unfold cMost; omega)
def sumC (l : List Int) : Int := l.foldl addC 0
theorem sumC_snoc (l : List Int) (k : Nat) (h : k < l.length) : sumC (l.take (k + 1)) = addC (sumC (l.take k)) l[k] := by
  unfold sumC
  rw [List.take_succ_eq_append_getElem h, List.foldl_append]
  simp
theorem share_part (n p : Int) : shareC n p + partC n (100 - kp p 100) = kp n cMost := by
  have h1 := kc n; have h2 := kh p
  have e : kp (100 - kp p 100) 100 = 100 - kp p 100 := kp_id _ _ (by omega) (by omega)
  have e2 : kp n cMost * (100 - kp p 100) = kp n cMost * 100 - kp n cMost * kp p 100 := Int.mul_sub _ _ _
  unfold shareC partC
  rw [e, e2]
  omega
theorem share_mono (n p q : Int) (h : kp p 100 ≤ kp q 100) : shareC n p ≤ shareC n q := by
  have h1 := kc n
  have := Int.mul_le_mul_of_nonneg_left h h1.1
  unfold shareC
  omega
end Bd
end Go.Proofs.Ytnhjpblkenmccaa
