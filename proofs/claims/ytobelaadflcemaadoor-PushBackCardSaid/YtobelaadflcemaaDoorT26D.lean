/-
  Layer 26: pushes and their bodies in plain words.
-/
import Derived.Test.YtobelaadflcemaaDoorT26C
namespace Go.Proofs.YtobelaadflcemaaDoor.AE
open Go.RowKit Oc
/-! Takes. -/
theorem take_ok_of {r : ByteArray} {m : Int} (h : (takeE r m != 0) = false) (h1 : 1 ≤ m) (h2 : m ≤ 6) : m ≤ r.size ∧ ((takeR r m).size : Int) = r.size - m := by
  have h : takeE r m = 0 := by simpa using h
  unfold takeE at h
  rw [if_neg (by omega)] at h
  split at h
  · cases h
  · rename_i hlt
    have hin : inT r m = true := by simp only [inT, Bool.and_eq_true, decide_eq_true_eq]; omega
    refine ⟨by omega, ?_⟩
    rw [takeR, if_pos hin, ByteArray.size_extract]
    omega
theorem take_bad_of {r : ByteArray} {m : Int} (h : (takeE r m != 0) = true) (h1 : 1 ≤ m) (h2 : m ≤ 6) : takeE r m = 3 ∧ (r.size : Int) < m := by
  have h : takeE r m ≠ 0 := by simpa using h
  unfold takeE at h ⊢
  rw [if_neg (by omega)] at h ⊢
  split at h
  · rename_i hlt; rw [if_pos hlt]; exact ⟨rfl, hlt⟩
  · exact absurd rfl h
theorem takeR_size {r : ByteArray} {m : Int} (h1 : 1 ≤ m) (h2 : m ≤ 6) (h : m ≤ r.size) : ((takeR r m).size : Int) = r.size - m := by
  have hin : inT r m = true := by simp only [inT, Bool.and_eq_true, decide_eq_true_eq]; omega
  rw [takeR, if_pos hin, ByteArray.size_extract]
  omega
def w26 : List Int := [1, 4, 2, 2, 1, 1, 1, 1, 1]
def vals26 (s : ByteArray) : Nat → Int := nine (numsOf w26 s)
def getE (s : ByteArray) : Int := if s.size < 14 then 3 else if 14 < s.size ∨ chk26 (vals26 s) ≠ 0 then 2 else 0
def getN (s : ByteArray) : Nat → Int := if getE s = 0 then vals26 s else fun _ => 0
def pushV (f : Nat → Int) : Value := .agg #[.int .i64 (f 0), .int .i64 (f 1), .int .i64 (f 2), .int .i64 (f 3), .int .i64 (f 4), .int .i64 (f 5), .int .i64 (f 6), .int .i64 (f 7), .int .i64 (f 8)]
def getV (s : ByteArray) : Value := .tuple #[pushV (getN s), .int .i64 (getE s)]
theorem get_err {s : ByteArray} {e : Int} (h : getE s = e) (hne : e ≠ 0) : AV.v (.tuple #[pushV fun _ => 0, .int .i64 e]) = AV.v (getV s) := by
  unfold getV getN
  rw [h, if_neg hne]
theorem get_good {s : ByteArray} (h : getE s = 0) : AV.v (.tuple #[pushV (vals26 s), .int .i64 0]) = AV.v (getV s) := by
  unfold getV getN
  rw [h, if_pos rfl]
theorem e3 {s : ByteArray} (h : (s.size : Int) < 14) : getE s = 3 := by unfold getE; rw [if_pos (by omega)]
theorem e2 {s : ByteArray} (h : (14 : Int) ≤ s.size) (h2 : (14 : Int) < s.size ∨ chk26 (vals26 s) ≠ 0) : getE s = 2 := by
  unfold getE; rw [if_neg (by omega), if_pos (by rcases h2 with h2 | h2; exact .inl (by omega); exact .inr h2)]
theorem e0 {s : ByteArray} (h : (s.size : Int) = 14) (h2 : chk26 (vals26 s) = 0) : getE s = 0 := by
  unfold getE; rw [if_neg (by omega), if_neg (by rintro (h3 | h3); omega; exact h3 h2)]
theorem en26 {s : ByteArray} (h : (14 : Int) ≤ s.size) : enough w26 s = true := by
  have t := fun (r : ByteArray) (m : Int) (h1 : 1 ≤ m) (h2 : m ≤ 6) (h : m ≤ r.size) => (show inT r m = true by simp only [inT, Bool.and_eq_true, decide_eq_true_eq]; omega)
  have a1 := @takeR_size s 1 (by decide) (by decide) (by omega)
  have a2 := @takeR_size (takeR s 1) 4 (by decide) (by decide) (by omega)
  have a3 := @takeR_size (takeR (takeR s 1) 4) 2 (by decide) (by decide) (by omega)
  have a4 := @takeR_size (takeR (takeR (takeR s 1) 4) 2) 2 (by decide) (by decide) (by omega)
  have a5 := @takeR_size (takeR (takeR (takeR (takeR s 1) 4) 2) 2) 1 (by decide) (by decide) (by omega)
  have a6 := @takeR_size (takeR (takeR (takeR (takeR (takeR s 1) 4) 2) 2) 1) 1 (by decide) (by decide) (by omega)
  have a7 := @takeR_size (takeR (takeR (takeR (takeR (takeR (takeR s 1) 4) 2) 2) 1) 1) 1 (by decide) (by decide) (by omega)
  have a8 := @takeR_size (takeR (takeR (takeR (takeR (takeR (takeR (takeR s 1) 4) 2) 2) 1) 1) 1) 1 (by decide) (by decide) (by omega)
  simp only [w26, enough, Bool.and_eq_true, and_true]
  refine ⟨t _ _ (by decide) (by decide) (by omega), t _ _ (by decide) (by decide) (by omega), t _ _ (by decide) (by decide) (by omega), t _ _ (by decide) (by decide) (by omega), t _ _ (by decide) (by decide) (by omega), t _ _ (by decide) (by decide) (by omega), t _ _ (by decide) (by decide) (by omega), t _ _ (by decide) (by decide) (by omega), t _ _ (by decide) (by decide) (by omega)⟩
theorem fs_rget (s : ByteArray) (hs : s.size ≤ maxLen) : Fs Tryd.prog ro26 13 [.v (.string s)] (hp [] []) fun r _ => r = .v (getV s) := by
  refine Fs.of_call knownB (t_rget s _) ?_ flatB
  have cd : (14 : Int) ≤ s.size → (enough w26 s && decide (s.size ≤ maxLen) && true) = true := fun h => by rw [en26 h, decide_eq_true hs]; rfl
  refine holds_bif (fun h => ?_) (fun h => ?_)
  · exact ⟨trivial, get_err (e3 (of_decide_eq_true h)) (by decide)⟩
  have h := of_decide_eq_false h
  have h14 : (14 : Int) ≤ s.size := by omega
  refine holds_bif (fun h2 => ?_) (fun h2 => ?_)
  · exact ⟨cdb_iff.2 ⟨trivial, cd h14⟩, get_err (e2 h14 (.inl (of_decide_eq_true h2))) (by decide)⟩
  have h2 := of_decide_eq_false h2
  refine holds_bif (fun h3 => ?_) (fun h3 => ?_)
  · have h3 : (chk26 (vals26 s) != 0) = true := Eq.trans (by kernel_rfl) h3
    exact ⟨cdb_iff.2 ⟨trivial, cd h14⟩, get_err (e2 h14 (.inr (by simpa using h3))) (by decide)⟩
  · have h3 : (chk26 (vals26 s) != 0) = false := Eq.trans (by kernel_rfl) h3
    refine ⟨cdb_iff.2 ⟨trivial, cd h14⟩, ?_⟩
    rw [← get_good (e0 (by omega) (by simpa using h3))]
    kernel_rfl
end Go.Proofs.YtobelaadflcemaaDoor.AE
