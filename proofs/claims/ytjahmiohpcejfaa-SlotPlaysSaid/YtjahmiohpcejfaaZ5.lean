/-
  Layer 31: the document's Put.
-/
import Derived.Test.YtjahmiohpcejfaaZ4
namespace Go.Proofs.Ytjahmiohpcejfaa.AE
set_option maxRecDepth 100000
open Go.RowKit
theorem rq_sl : slotsOf 8 = 33 := by kernel_rfl
theorem rq_re : resultsOf 8 = [.tmp 4, .tmp 5, .tmp 6] := by kernel_rfl
theorem rq_fl : (flatten (bodyOf 8)).drop 4 = .block 0 (.loop (sub (bodyOf 8) [1, 1, 0, 1, 0, 0])) :: (flatten (bodyOf 8)).drop 5 := by kernel_rfl
def rputV (P : Nat → Option It) (n : Nat) (f : It) : AV := .tuple [rlst (rsL (putP P n f) n), gi (putK P n (f 0)), gi (putE P n (f 0))]
theorem fit_some {f : It} (h : ∀ j, 7 ≤ j → f j = 0) : Fit (some f) := fun g hg => by cases hg; exact h
theorem fs_rput {P : Nat → Option It} {n : Nat} (hG : Good P n) {f : It} (hf : ∀ j, 7 ≤ j → f j = 0) : Fs Try.prog nro 8 [rlst (rsL P n), .v (itV f)] (hp [] []) fun r _ => r = rputV P n f := by
  have hn := hG.1
  refine Fs.of_body (has_fn (by kernel_rfl)) ?_
  rw [rq_sl, rq_re]
  have pre := fun R => rq_pre rsX (rsL P n) f R
  simp only [r_pl hG] at pre
  refine Tr.of_flat (Trl.split 4 (Trl.of_code (mu := fun _ => false) knownR (neN (by kernel_rfl)) (pre _) (holds_bif (fun h1 => ⟨cdb_iff.2 ⟨trivial, okR_to hG⟩, .inr rfl, trivial, ?_⟩) fun h1 => ⟨cdb_iff.2 ⟨trivial, okR_to hG⟩, ?_⟩)))
  · have h1 : (0 : Int) ≤ rplV P n (f 0) := of_decide_eq_true h1
    have hs : (fnd (wI P (f 0)) n 0).isSome = true := by
      unfold rplV at h1
      split at h1
      · rename_i k hk; rw [hk]; rfl
      · omega
    unfold rputV putK putE putP
    rw [hs]; rfl
  · have h1 : ¬ (0 : Int) ≤ rplV P n (f 0) := of_decide_eq_false h1
    have hs : (fnd (wI P (f 0)) n 0).isSome = false := by
      unfold rplV at h1
      split at h1
      · omega
      · rename_i hk; rw [hk]; rfl
    show Trl _ _ ((flatten (bodyOf 8)).drop 4) _ _ _
    rw [rq_fl]
    let I : Nat → List AV → AH → Prop := fun m act H => ∃ k : Nat, k ≤ n ∧ m = n - k ∧ act = rqA (rsL P n) k ∧ H = hp [(30, itC f)] [] ∧ fnd (wN P) n 0 = fnd (wN P) (n - k) k
    refine Tr.block (Tr.loop I ?_ (m := n) ⟨0, Nat.zero_le _, rfl, rfl, rfl, by rw [Nat.sub_zero]⟩)
    rintro m act H ⟨k, hk, rfl, rfl, rfl, hF⟩
    by_cases h0 : k < n
    · have body := fun R => rq_in rsX (rsL P n) f k R
      simp only [rs_get h0, rs_len] at body
      have hnk : n - k = (n - (k + 1)) + 1 := by omega
      rw [hnk] at hF
      refine Tr.of_code (mu := fun _ => false) knownR (body _) (holds_bif (fun h2 => ?_) fun h2 => absurd (of_decide_eq_false h2) (by omega))
      cases hP : P k with
      | none =>
        have hF : fnd (wN P) n 0 = some k := by rw [hF]; unfold fnd; exact if_pos (by show (P k).isNone = true; rw [hP]; rfl)
        have hw : rsX.w (rsL P n) k (slA (some f)) = rsL (putP P n f) n := by
          rw [r_w hG (fit_some hf)]
          unfold putP
          rw [hs, hF]; rfl
        refine holds_bif (fun h3 => ⟨?_, .inr rfl, trivial, ?_⟩) fun h3 => ?_
        · rw [← hP]
          exact cdb_iff.2 ⟨cds_of trivial (rs_el h0), okW_to hG h0 (fit_some hf)⟩
        · show AV.tuple [rlst (rsX.w (rsL P n) k (slA (some f))), gi k, gi 0] = _
          rw [hw]
          unfold rputV putK putE
          rw [hs, hF]; rfl
        · cases h3
      | some g =>
        refine holds_bif (fun h3 => ?_) fun h3 => ⟨?_, n - (k + 1), by omega, k + 1, by omega, rfl, ?_, rfl, ?_⟩
        · cases h3
        · rw [← hP]; exact cds_of trivial (rs_el h0)
        · rw [wr1 k (by omega)]; rfl
        · rw [hF]; show (if _ then _ else _) = _; exact if_neg (by show ¬ (P k).isNone = true; rw [hP]; simp)
    · have h1 : k = n := by omega
      subst h1
      have body := fun R => rq_in rsX (rsL P k) f k R
      simp only [rs_len] at body
      rw [Nat.sub_self] at hF
      refine Tr.of_code (mu := fun _ => false) knownR (body _) (holds_bif (fun h2 => absurd (of_decide_eq_true h2) (by omega)) fun h2 => ⟨trivial, ?_⟩)
      show Trl _ _ ((flatten (bodyOf 8)).drop 5) _ _ _
      refine Trl.of_code (mu := fun _ => false) (known_none _) (neN (by kernel_rfl)) (rq_post (rsL P k) f k _) ⟨trivial, .inr rfl, trivial, ?_⟩
      have hF : fnd (wN P) k 0 = none := hF
      unfold rputV putK putE putP
      rw [hs, hF]; rfl
end Go.Proofs.Ytjahmiohpcejfaa.AE
