/-
  Layer 24: requests of bodies, and bodies of requests, as the program has them.
-/
import Derived.Test.YtkaodceeiagflaaDoorT24D
namespace Go.Proofs.YtkaodceeiagflaaDoor.AE
open Go.RowKit Oc
set_option maxHeartbeats 1000000 in
theorem fs_get (s : ByteArray) (hs : s.size ≤ maxLen) : Fs Tryd.prog ro24 12 [.v (.string s)] (hp [] []) fun r _ => r = .v (getV s) := by
  refine Fs.of_call knownB (t_get s _) ?_
  unfold maxLen at hs
  obtain ⟨s1, q1⟩ : ∃ x, x = takeR s 6 := ⟨_, rfl⟩
  obtain ⟨s2, q2⟩ : ∃ x, x = takeR s1 1 := ⟨_, rfl⟩
  obtain ⟨s3, q3⟩ : ∃ x, x = takeR s2 1 := ⟨_, rfl⟩
  obtain ⟨s4, q4⟩ : ∃ x, x = takeR s3 1 := ⟨_, rfl⟩
  obtain ⟨s5, q5⟩ : ∃ x, x = takeR s4 6 := ⟨_, rfl⟩
  obtain ⟨s6, q6⟩ : ∃ x, x = takeR s5 2 := ⟨_, rfl⟩
  rw [← q1, ← q2, ← q3, ← q4, ← q5, ← q6]
  refine holds_bif (fun h => holds_bif (fun _ => ?_) (fun h' => by rw [h] at h'; cases h')) (fun h0 => ?_)
  · have b := take_bad_of h (by decide) (by decide)
    rw [b.1]
    refine ⟨?_, get_err (e3 (by omega)) (by decide)⟩
    repeat' first
      | with_reducible exact trivial
      | with_reducible refine cdb_iff.2 ⟨?_, ?_⟩
    all_goals (refine decide_eq_true ?_; omega)
  have o0 := take_ok_of h0 (by decide) (by decide)
  rw [← q1] at o0
  refine holds_bif (fun h => holds_bif (fun _ => ?_) (fun h' => by rw [h] at h'; cases h')) (fun h1 => ?_)
  · have b := take_bad_of h (by decide) (by decide)
    rw [b.1]
    refine ⟨?_, get_err (e3 (by omega)) (by decide)⟩
    repeat' first
      | with_reducible exact trivial
      | with_reducible refine cdb_iff.2 ⟨?_, ?_⟩
    all_goals (refine decide_eq_true ?_; omega)
  have o1 := take_ok_of h1 (by decide) (by decide)
  rw [← q2] at o1
  refine holds_bif (fun h => holds_bif (fun _ => ?_) (fun h' => by rw [h] at h'; cases h')) (fun h2 => ?_)
  · have b := take_bad_of h (by decide) (by decide)
    rw [b.1]
    refine ⟨?_, get_err (e3 (by omega)) (by decide)⟩
    repeat' first
      | with_reducible exact trivial
      | with_reducible refine cdb_iff.2 ⟨?_, ?_⟩
    all_goals (refine decide_eq_true ?_; omega)
  have o2 := take_ok_of h2 (by decide) (by decide)
  rw [← q3] at o2
  refine holds_bif (fun h => holds_bif (fun _ => ?_) (fun h' => by rw [h] at h'; cases h')) (fun h3 => ?_)
  · have b := take_bad_of h (by decide) (by decide)
    rw [b.1]
    refine ⟨?_, get_err (e3 (by omega)) (by decide)⟩
    repeat' first
      | with_reducible exact trivial
      | with_reducible refine cdb_iff.2 ⟨?_, ?_⟩
    all_goals (refine decide_eq_true ?_; omega)
  have o3 := take_ok_of h3 (by decide) (by decide)
  rw [← q4] at o3
  refine holds_bif (fun h => holds_bif (fun _ => ?_) (fun h' => by rw [h] at h'; cases h')) (fun h4 => ?_)
  · have b := take_bad_of h (by decide) (by decide)
    rw [b.1]
    refine ⟨?_, get_err (e3 (by omega)) (by decide)⟩
    repeat' first
      | with_reducible exact trivial
      | with_reducible refine cdb_iff.2 ⟨?_, ?_⟩
    all_goals (refine decide_eq_true ?_; omega)
  have o4 := take_ok_of h4 (by decide) (by decide)
  rw [← q5] at o4
  refine holds_bif (fun h => holds_bif (fun _ => ?_) (fun h' => by rw [h] at h'; cases h')) (fun h5 => ?_)
  · have b := take_bad_of h (by decide) (by decide)
    rw [b.1]
    refine ⟨?_, get_err (e3 (by omega)) (by decide)⟩
    repeat' first
      | with_reducible exact trivial
      | with_reducible refine cdb_iff.2 ⟨?_, ?_⟩
    all_goals (refine decide_eq_true ?_; omega)
  have o5 := take_ok_of h5 (by decide) (by decide)
  rw [← q6] at o5
  refine holds_bif (fun h => by rw [h5] at h; cases h) (fun _ => ?_)
  refine holds_bif (fun h => ?_) (fun h => ?_)
  · have h := of_decide_eq_true h
    refine ⟨?_, get_err (e2 (by omega) (.inl (by omega))) (by decide)⟩
    repeat' first
      | with_reducible exact trivial
      | with_reducible refine cdb_iff.2 ⟨?_, ?_⟩
    all_goals (refine decide_eq_true ?_; omega)
  have h := of_decide_eq_false h
  refine holds_bif (fun h3 => ?_) (fun h3 => ?_)
  · have h3 : (chk24 (vals24 s) != 0) = true := Eq.trans (by subst q6 q5 q4 q3 q2 q1; kernel_rfl) h3
    refine ⟨?_, get_err (e2 (by omega) (.inr (by simpa using h3))) (by decide)⟩
    repeat' first
      | with_reducible exact trivial
      | with_reducible refine cdb_iff.2 ⟨?_, ?_⟩
    all_goals (refine decide_eq_true ?_; omega)
  · have h3 : (chk24 (vals24 s) != 0) = false := Eq.trans (by subst q6 q5 q4 q3 q2 q1; kernel_rfl) h3
    refine ⟨?_, ?_⟩
    · repeat' first
        | with_reducible exact trivial
        | with_reducible refine cdb_iff.2 ⟨?_, ?_⟩
      all_goals (refine decide_eq_true ?_; omega)
    · rw [← get_good (e0 (by omega) (by simpa using h3))]
      subst q6 q5 q4 q3 q2 q1
      kernel_rfl
/-! Bodies. -/
def bytes24 (f : Nat → Int) : List UInt8 := be 6 (f 0).toNat ++ be 1 (f 1 + 1).toNat ++ be 1 (f 2).toNat ++ be 1 (f 3).toNat ++ be 6 (f 4).toNat ++ be 2 (f 5).toNat
def putR (f : Nat → Int) : ByteArray := if okP f then ⟨(bytes24 f).toArray⟩ else ⟨#[]⟩
def putV (f : Nat → Int) : Value := .tuple #[.string (putR f), .int .i64 (chk24 f)]
theorem fits_of {n m : Int} (h1 : 1 ≤ m) (h2 : m ≤ 6) (h3 : 0 ≤ n) (h4 : n < 256 ^ m.toNat) : fits n m = true := by
  simp only [fits, Bool.and_eq_true, decide_eq_true_eq]; exact ⟨⟨⟨h1, h2⟩, h3⟩, h4⟩
theorem putS_mk {l : List UInt8} {n m : Int} (h : fits n m = true) : putS ⟨l.toArray⟩ n m = ⟨(l ++ be m.toNat n.toNat).toArray⟩ := by
  unfold putS; rw [if_pos h]
theorem num_mk {n m : Int} (h : fits n m = true) : numStr n m = ⟨(be m.toNat n.toNat).toArray⟩ := by
  simp only [fits, Bool.and_eq_true, decide_eq_true_eq] at h
  unfold numStr; rw [if_neg (by omega)]
theorem mk_app (l t : List UInt8) : (⟨l.toArray⟩ : ByteArray) ++ ⟨t.toArray⟩ = ⟨(l ++ t).toArray⟩ := by
  apply ByteArray.ext; simp
theorem mk_size (l : List UInt8) : (⟨l.toArray⟩ : ByteArray).size = l.length := by simp [ByteArray.size]
theorem fits24 {f : Nat → Int} (h : okP f) : fits (f 0) 6 = true ∧ fits (f 1 + 1) 1 = true ∧ fits (f 2) 1 = true ∧ fits (f 3) 1 = true ∧ fits (f 4) 6 = true ∧ fits (f 5) 2 = true := by
  obtain ⟨a0, b0, a1, b1, a2, b2, _, a3, b3, a4, b4, a5, b5⟩ := h
  refine ⟨fits_of (by decide) (by decide) (by omega) ?_, fits_of (by decide) (by decide) (by omega) ?_, fits_of (by decide) (by decide) (by omega) ?_, fits_of (by decide) (by decide) (by omega) ?_, fits_of (by decide) (by decide) (by omega) ?_, fits_of (by decide) (by decide) (by omega) ?_⟩
  all_goals (simp; omega)
theorem exInt_v (k : IntKind) (n : Int) : exInt (AV.v (.int k n)) = n := rfl
theorem wr1 {f : Nat → Int} (h : okP f) : IntKind.wrap .i64 (f 1 + 1) = f 1 + 1 := by
  obtain ⟨a0, b0, a1, b1, _⟩ := h
  rw [IntKind.wrap_i64]; omega
theorem put_bad {f : Nat → Int} (h : ¬ okP f) : AV.v (.tuple #[.string ⟨#[]⟩, .int .i64 1]) = AV.v (putV f) := by
  unfold putV putR chk24; rw [if_neg h, decide_eq_false h]; rfl
theorem put_good {f : Nat → Int} (h : okP f) : AV.v (.tuple #[.string ⟨(bytes24 f).toArray⟩, .int .i64 0]) = AV.v (putV f) := by
  unfold putV putR chk24; rw [if_pos h, decide_eq_true h]; rfl
theorem chk_ok {f : Nat → Int} (h : (chk24 f != 0) = false) : okP f := by
  unfold chk24 at h
  by_cases hok : okP f
  · exact hok
  · rw [decide_eq_false hok] at h; cases h
theorem chk_bad {f : Nat → Int} (h : (chk24 f != 0) = true) : ¬ okP f := fun hok => by
  unfold chk24 at h; rw [decide_eq_true hok] at h; cases h
theorem fs_put (f : Nat → Int) : Fs Tryd.prog ro24 6 [req f] (hp [] []) fun r _ => r = .v (putV f) := by
  refine Fs.of_call knownB (t_put f _) ?_
  refine holds_bif (fun h => ?_) (fun h => ?_)
  · have h : (chk24 f != 0) = true := Eq.trans (by kernel_rfl) h
    refine ⟨trivial, ?_⟩
    rw [← put_bad (chk_bad h)]
    have hc : chk24 f = 1 := by unfold chk24; rw [decide_eq_false (chk_bad h)]; rfl
    show AV.v (.tuple #[.string ⟨#[]⟩, .int .i64 (chk24 f)]) = _
    rw [hc]
  · have h : (chk24 f != 0) = false := Eq.trans (by kernel_rfl) h
    have hok := chk_ok h
    obtain ⟨g0, g1, g2, g3, g4, g5⟩ := fits24 hok
    have e0 : (ByteArray.mk (Array.mk (@List.nil UInt8))) = ⟨([] : List UInt8).toArray⟩ := rfl
    rw [e0]
    simp only [exInt_v, wr1 hok, putS_mk g0, putS_mk g1, putS_mk g2, putS_mk g3, putS_mk g4, putS_mk g5, mk_size]
    refine ⟨?_, put_good hok⟩
    repeat' first
      | with_reducible exact trivial
      | with_reducible refine cdb_iff.2 ⟨?_, ?_⟩
    all_goals (refine decide_eq_true ?_; simp [be_length])
theorem fs_rput (f : Nat → Int) : Fs Tryd.prog ro24 7 [req f] (hp [] []) fun r _ => r = .v (putV f) := by
  refine Fs.of_call knownB (t_rput f _) ?_
  refine holds_bif (fun h => ?_) (fun h => ?_)
  · have h : (chk24 f != 0) = true := Eq.trans (by kernel_rfl) h
    exact ⟨trivial, put_bad (chk_bad h)⟩
  · have h : (chk24 f != 0) = false := Eq.trans (by kernel_rfl) h
    have hok := chk_ok h
    obtain ⟨g0, g1, g2, g3, g4, g5⟩ := fits24 hok
    have e0 : (ByteArray.mk (Array.mk (@List.nil UInt8))) = ⟨([] : List UInt8).toArray⟩ := rfl
    rw [e0]
    simp only [exInt_v, wr1 hok, num_mk g0, num_mk g1, num_mk g2, num_mk g3, num_mk g4, num_mk g5, mk_app, mk_size, List.nil_append, show (6 : Int).toNat = 6 from rfl, show (1 : Int).toNat = 1 from rfl, show (2 : Int).toNat = 2 from rfl]
    refine ⟨?_, by have hg := put_good hok; unfold bytes24 at hg; exact hg⟩
    obtain ⟨a0, b0, a1, b1, a2, b2, _, a3, b3, a4, b4, a5, b5⟩ := hok
    repeat' first
      | with_reducible exact trivial
      | with_reducible refine cdb_iff.2 ⟨?_, ?_⟩
    all_goals (refine decide_eq_true ?_; first | omega | simp [be_length])
end Go.Proofs.YtkaodceeiagflaaDoor.AE
