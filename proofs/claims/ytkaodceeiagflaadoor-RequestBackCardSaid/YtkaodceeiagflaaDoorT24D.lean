/-
  Layer 24: requests and their bodies in plain words.
-/
import Derived.Test.YtkaodceeiagflaaDoorT24C
namespace Go.Proofs.YtkaodceeiagflaaDoor.AE
open Go.RowKit Oc
/-! Takes. -/
theorem take_ok_of {r : ByteArray} {m : Int} (h : (takeE r m != 0) = false) (h1 : 1 ≤ m) (h2 : m ≤ 6) : m ≤ r.size ∧ ((takeR r m).size : Int) = r.size - m := by
  have h : takeE r m = 0 := by simpa using h
  unfold takeE at h
  rw [if_neg (by omega)] at h
  split at h
  · cases h
  · rename_i hlt
    have hin : inT r m = true := by simp only [inT, Bool.and_eq_true, decide_eq_true_eq]; omega
    refine ⟨by omega, ?_⟩
    rw [takeR, if_pos hin, ByteArray.size_extract]
    omega
theorem take_bad_of {r : ByteArray} {m : Int} (h : (takeE r m != 0) = true) (h1 : 1 ≤ m) (h2 : m ≤ 6) : takeE r m = 3 ∧ (r.size : Int) < m := by
  have h : takeE r m ≠ 0 := by simpa using h
  unfold takeE at h ⊢
  rw [if_neg (by omega)] at h ⊢
  split at h
  · rename_i hlt; rw [if_pos hlt]; exact ⟨rfl, hlt⟩
  · exact absurd rfl h
theorem takeR_size {r : ByteArray} {m : Int} (h1 : 1 ≤ m) (h2 : m ≤ 6) (h : m ≤ r.size) : ((takeR r m).size : Int) = r.size - m := by
  have hin : inT r m = true := by simp only [inT, Bool.and_eq_true, decide_eq_true_eq]; omega
  rw [takeR, if_pos hin, ByteArray.size_extract]
  omega
def w24 : List Int := [6, 1, 1, 1, 6, 2]
def vals24 (s : ByteArray) : Nat → Int := six [(numsOf w24 s).getD 0 0, IntKind.wrap .i64 ((numsOf w24 s).getD 1 0 - 1), (numsOf w24 s).getD 2 0, (numsOf w24 s).getD 3 0, (numsOf w24 s).getD 4 0, (numsOf w24 s).getD 5 0]
def getE (s : ByteArray) : Int := if s.size < 17 then 3 else if 17 < s.size ∨ chk24 (vals24 s) ≠ 0 then 2 else 0
def getN (s : ByteArray) : Nat → Int := if getE s = 0 then vals24 s else fun _ => 0
def reqV (f : Nat → Int) : Value := .agg #[.int .i64 (f 0), .int .i64 (f 1), .int .i64 (f 2), .int .i64 (f 3), .int .i64 (f 4), .int .i64 (f 5)]
def getV (s : ByteArray) : Value := .tuple #[reqV (getN s), .int .i64 (getE s)]
theorem get_err {s : ByteArray} {e : Int} (h : getE s = e) (hne : e ≠ 0) : AV.v (.tuple #[reqV fun _ => 0, .int .i64 e]) = AV.v (getV s) := by
  unfold getV getN
  rw [h, if_neg hne]
theorem get_good {s : ByteArray} (h : getE s = 0) : AV.v (.tuple #[reqV (vals24 s), .int .i64 0]) = AV.v (getV s) := by
  unfold getV getN
  rw [h, if_pos rfl]
theorem e3 {s : ByteArray} (h : (s.size : Int) < 17) : getE s = 3 := by unfold getE; rw [if_pos (by omega)]
theorem e2 {s : ByteArray} (h : (17 : Int) ≤ s.size) (h2 : (17 : Int) < s.size ∨ chk24 (vals24 s) ≠ 0) : getE s = 2 := by
  unfold getE; rw [if_neg (by omega), if_pos (by rcases h2 with h2 | h2; exact .inl (by omega); exact .inr h2)]
theorem e0 {s : ByteArray} (h : (s.size : Int) = 17) (h2 : chk24 (vals24 s) = 0) : getE s = 0 := by
  unfold getE; rw [if_neg (by omega), if_neg (by rintro (h3 | h3); omega; exact h3 h2)]
theorem en24 {s : ByteArray} (h : (17 : Int) ≤ s.size) : enough w24 s = true := by
  have t := fun (r : ByteArray) (m : Int) (h1 : 1 ≤ m) (h2 : m ≤ 6) (h : m ≤ r.size) => (show inT r m = true by simp only [inT, Bool.and_eq_true, decide_eq_true_eq]; omega)
  obtain ⟨s1, q1⟩ : ∃ x, x = takeR s 6 := ⟨_, rfl⟩
  obtain ⟨s2, q2⟩ : ∃ x, x = takeR s1 1 := ⟨_, rfl⟩
  obtain ⟨s3, q3⟩ : ∃ x, x = takeR s2 1 := ⟨_, rfl⟩
  obtain ⟨s4, q4⟩ : ∃ x, x = takeR s3 1 := ⟨_, rfl⟩
  obtain ⟨s5, q5⟩ : ∃ x, x = takeR s4 6 := ⟨_, rfl⟩
  obtain ⟨s6, q6⟩ : ∃ x, x = takeR s5 2 := ⟨_, rfl⟩
  have a0 := @takeR_size s 6 (by decide) (by decide) (by omega)
  rw [← q1] at a0
  have a1 := @takeR_size s1 1 (by decide) (by decide) (by omega)
  rw [← q2] at a1
  have a2 := @takeR_size s2 1 (by decide) (by decide) (by omega)
  rw [← q3] at a2
  have a3 := @takeR_size s3 1 (by decide) (by decide) (by omega)
  rw [← q4] at a3
  have a4 := @takeR_size s4 6 (by decide) (by decide) (by omega)
  rw [← q5] at a4
  have a5 := @takeR_size s5 2 (by decide) (by decide) (by omega)
  rw [← q6] at a5
  simp only [w24, enough, Bool.and_eq_true, and_true]
  rw [← q1, ← q2, ← q3, ← q4, ← q5]
  refine ⟨t _ _ (by decide) (by decide) (by omega), t _ _ (by decide) (by decide) (by omega), t _ _ (by decide) (by decide) (by omega), t _ _ (by decide) (by decide) (by omega), t _ _ (by decide) (by decide) (by omega), t _ _ (by decide) (by decide) (by omega)⟩
theorem fs_rget (s : ByteArray) (hs : s.size ≤ maxLen) : Fs Tryd.prog ro24 13 [.v (.string s)] (hp [] []) fun r _ => r = .v (getV s) := by
  refine Fs.of_call knownB (t_rget s _) ?_
  have cd : (17 : Int) ≤ s.size → (enough w24 s && decide (s.size ≤ maxLen) && true) = true := fun h => by rw [en24 h, decide_eq_true hs]; rfl
  refine holds_bif (fun h => ?_) (fun h => ?_)
  · exact ⟨trivial, get_err (e3 (of_decide_eq_true h)) (by decide)⟩
  have h := of_decide_eq_false h
  have h14 : (17 : Int) ≤ s.size := by omega
  refine holds_bif (fun h2 => ?_) (fun h2 => ?_)
  · exact ⟨cdb_iff.2 ⟨trivial, cd h14⟩, get_err (e2 h14 (.inl (of_decide_eq_true h2))) (by decide)⟩
  have h2 := of_decide_eq_false h2
  refine holds_bif (fun h3 => ?_) (fun h3 => ?_)
  · have h3 : (chk24 (vals24 s) != 0) = true := Eq.trans (by kernel_rfl) h3
    exact ⟨cdb_iff.2 ⟨trivial, cd h14⟩, get_err (e2 h14 (.inr (by simpa using h3))) (by decide)⟩
  · have h3 : (chk24 (vals24 s) != 0) = false := Eq.trans (by kernel_rfl) h3
    refine ⟨cdb_iff.2 ⟨trivial, cd h14⟩, ?_⟩
    rw [← get_good (e0 (by omega) (by simpa using h3))]
    kernel_rfl
end Go.Proofs.YtkaodceeiagflaaDoor.AE
