/-
  Plain facts on layer 22.
-/
import Derived.Test.YtnkfibkmjmnhjaaBoundPlain
namespace Go.Proofs.Ytnkfibkmjmnhjaa
namespace Sp
open Bd
def partP (l w : Int) : Int := kp l tMost * kp w 8 / 8
def hopH (p m : Int) : Int := if kp m 65535 < kp p tMost / 2 then kp m 65535 else kp p tMost / 2
def callOk (now dl w m : Int) : Bool := decide (1 ≤ hopH (partP (leftT dl now) w) m)
def callD (now dl w m : Int) : Int := if callOk now dl w m then laterT now (partP (leftT dl now) w) else 0
def callW (now dl w m : Int) : Int := if callOk now dl w m then hopH (partP (leftT dl now) w) m else 0
theorem k8 (w : Int) : 0 ≤ kp w 8 ∧ kp w 8 ≤ 8 := ⟨kp_lo _ _, kp_hi _ _ (by decide)⟩
theorem kb (w : Int) : 0 ≤ kp w 65535 ∧ kp w 65535 ≤ 65535 := ⟨kp_lo _ _, kp_hi _ _ (by decide)⟩
theorem prod8 (l w : Int) : 0 ≤ kp l tMost * kp w 8 ∧ kp l tMost * kp w 8 ≤ 8796093022208 ∧ kp l tMost * kp w 8 ≤ kp l tMost * 8 := by
  have h1 := kt l; have h2 := k8 w
  have h3 := Int.mul_le_mul_of_nonneg_left h2.2 h1.1
  exact ⟨Int.mul_nonneg h1.1 h2.1, by omega, h3⟩
theorem partP_b (l w : Int) : 0 ≤ partP l w ∧ partP l w ≤ kp l tMost := by
  have := prod8 l w; unfold partP; omega
theorem hopH_b (p m : Int) : 0 ≤ hopH p m ∧ hopH p m ≤ kp p tMost / 2 ∧ hopH p m ≤ kp m 65535 := by
  have := kb m; have := kt p; unfold hopH; split <;> omega
theorem partP_mono (l a b : Int) (h : a ≤ b) : partP l a ≤ partP l b := by
  have h1 := kt l
  have h3 := Int.mul_le_mul_of_nonneg_left (kp_mono a b 8 h) h1.1
  unfold partP; omega
theorem hopH_mono (p q m : Int) (h : p ≤ q) : hopH p m ≤ hopH q m := by
  have := kp_mono p q tMost h
  unfold hopH; split <;> split <;> omega
theorem leftT_pos (dl now : Int) (h : 0 < leftT dl now) : leftT dl now = kp dl tMost - kp now tMost := by
  have h1 := kt dl; have h2 := kt now
  unfold leftT at h ⊢
  have h0 : 0 < kp dl tMost - kp now tMost := by
    rcases Int.lt_or_le 0 (kp dl tMost - kp now tMost) with h3 | h3
    · exact h3
    · rw [kp_neg _ _ h3] at h; omega
  exact kp_id _ _ (by omega) (by unfold tMost at *; omega)
theorem call_in (now dl w m : Int) (h : callOk now dl w m = true) :
    callD now dl w m ≤ kp dl tMost ∧ kp now tMost < callD now dl w m ∧ 1 ≤ callW now dl w m ∧ callW now dl w m < callD now dl w m - kp now tMost ∧ callW now dl w m ≤ kp m 65535 := by
  have hD : callD now dl w m = laterT now (partP (leftT dl now) w) := if_pos h
  have hW : callW now dl w m = hopH (partP (leftT dl now) w) m := if_pos h
  simp only [callOk, decide_eq_true_eq] at h
  have h1 := partP_b (leftT dl now) w
  have h2 := hopH_b (partP (leftT dl now) w) m
  have h3 := kt dl; have h4 := kt now
  have h5 := leftT_b dl now
  have e1 : kp (leftT dl now) tMost = leftT dl now := kp_id _ _ h5.1 h5.2
  have e2 : kp (partP (leftT dl now) w) tMost = partP (leftT dl now) w := kp_id _ _ h1.1 (by unfold tMost; omega)
  rw [e1] at h1
  rw [e2] at h2
  have e3 := leftT_pos dl now (by omega)
  have e4 : laterT now (partP (leftT dl now) w) = kp now tMost + partP (leftT dl now) w := by
    unfold laterT
    rw [e2]
    exact kp_id _ _ (by omega) (by unfold tMost at *; omega)
  rw [hD, hW, e4]
  omega
theorem call_no (now dl w m : Int) (h : callOk now dl w m = false) : callD now dl w m = 0 ∧ callW now dl w m = 0 := by
  unfold callD callW; rw [h]; exact ⟨rfl, rfl⟩
theorem call_mono (now dl a b m : Int) (h : a ≤ b) (h2 : callOk now dl a m = true) :
    callOk now dl b m = true ∧ callD now dl a m ≤ callD now dl b m ∧ callW now dl a m ≤ callW now dl b m := by
  have hp := partP_mono (leftT dl now) a b h
  have hh := hopH_mono _ _ m hp
  have h3 : callOk now dl b m = true := by
    simp only [callOk, decide_eq_true_eq] at h2 ⊢; omega
  refine ⟨h3, ?_, ?_⟩
  · unfold callD
    rw [if_pos h2, if_pos h3]
    unfold laterT
    have := kp_mono _ _ tMost hp
    exact kp_mono _ _ _ (by omega)
  · unfold callW
    rw [if_pos h2, if_pos h3]
    exact hh
/-- The deadlines of a chain of calls. -/
def chainL (now : Int) : Int → List Int → List Int
  | _, [] => []
  | dl, w :: ws => if callOk now dl w 65535 then callD now dl w 65535 :: chainL now (callD now dl w 65535) ws else []
theorem chainL_step (now dl : Int) (ws : List Int) (k : Nat) (h : k < ws.length) :
    chainL now dl (ws.drop k) = if callOk now dl ws[k] 65535 then callD now dl ws[k] 65535 :: chainL now (callD now dl ws[k] 65535) (ws.drop (k + 1)) else [] := by
  rw [List.drop_eq_getElem_cons h]; rfl
theorem chainL_length (now : Int) (ws : List Int) (dl : Int) : (chainL now dl ws).length ≤ ws.length := by
  induction ws generalizing dl with
  | nil => simp [chainL]
  | cons w ws ih =>
    unfold chainL
    split
    · have := ih (callD now dl w 65535); simp; omega
    · simp
/-- None above the one ahead, and all behind now. -/
def falls (now : Int) : Int → List Int → Prop
  | _, [] => True
  | last, d :: ds => d ≤ last ∧ kp now tMost < d ∧ falls now d ds
theorem chainL_falls (now : Int) (ws : List Int) (dl : Int) : falls now (kp dl tMost) (chainL now dl ws) := by
  induction ws generalizing dl with
  | nil => simp [chainL, falls]
  | cons w ws ih =>
    unfold chainL
    split
    · rename_i h
      have h1 := call_in now dl w 65535 h
      have h2 := kt dl; have h3 := kt now
      refine ⟨h1.1, h1.2.1, ?_⟩
      have e : kp (callD now dl w 65535) tMost = callD now dl w 65535 := kp_id _ _ (by omega) (by unfold tMost at *; omega)
      have := ih (callD now dl w 65535)
      rw [e] at this
      exact this
    · simp [falls]
theorem falls_at (now : Int) (l : List Int) (last : Int) (h : falls now last l) (k : Nat) (hk : k < l.length) : l[k] ≤ (last :: l)[k]'(by simp; omega) ∧ kp now tMost < l[k] := by
  induction l generalizing last k with
  | nil => simp at hk
  | cons d ds ih =>
    obtain ⟨h1, h2, h3⟩ := h
    cases k with
    | zero => exact ⟨h1, h2⟩
    | succ k => exact ih d h3 k (by simpa using hk)
end Sp
end Go.Proofs.Ytnkfibkmjmnhjaa
