/-
  The law RequestBack of layer 24: the call comes to true.
-/
import Derived.Test.YtkaodceeiagflaaDoorL24Law
namespace Go.Proofs.YtkaodceeiagflaaDoor
open Go.RowKit AE Oc
theorem w_RequestBack (w : World) (hR : Ro ro24 (G0 w) w) (a b c d e f : Int) (s : ByteArray) (_ : s.size ≤ 9223372036854775807) : Calls Tryd.prog 5 #[.agg #[.int .i64 a, .int .i64 b, .int .i64 c, .int .i64 d, .int .i64 e, .int .i64 f], .string s] w fun e w' => e = .returned (.bool true) ∧ Below w.heap.size w w' := by
  obtain ⟨f, hf⟩ : ∃ x, x = six [a, b, c, d, e, f] := ⟨_, rfl⟩
  have hF : six [f 0, f 1, f 2, f 3, f 4, f 5] = f := by subst hf; rfl
  refine law_true (ro := ro24) (args := [req f, .v (.string s)]) ?_ w _ hR (.cons (by subst hf; exact .v _) (.cons (.v _) .nil))
  refine Fs.of_call knownC (t_RequestBack f s _) ?_ flatC
  have hG : chk24 (six [getN s 0, getN s 1, getN s 2, getN s 3, getN s 4, getN s 5]) = chk24 (getN s) := by kernel_rfl
  have hP : putR (six [getN s 0, getN s 1, getN s 2, getN s 3, getN s 4, getN s 5]) = putR (getN s) := by kernel_rfl
  rw [hF, hG, hP]
  refine holds_bif (fun _ => ⟨trivial, rfl⟩) (fun h40 => ?_)
  have h40 := of_decide_eq_false h40
  have hs : s.size ≤ 9223372036854775807 := by omega
  have hp : (putR f).size ≤ 9223372036854775807 := by
    by_cases hok : okP f
    · rw [(put_back hok).1]; decide
    · unfold putR; rw [if_neg hok]; decide
  by_cases hok : okP f
  · have c0 := ok_zero hok
    obtain ⟨b0, b1, b2, b3, b4, b5, b6⟩ := get_back hok
    have z := (put_back hok).1
    refine holds_bif (fun _ => ?_) (fun h => by rw [c0] at h; simp at h)
    refine holds_bif (fun h => by rw [b1, b2, b3, b4, b5, b6] at h; simp at h) (fun _ => ?_)
    refine holds_bif (fun h => by rw [b0] at h; simp at h) (fun _ => ?_)
    refine holds_bif (fun h => by rw [z] at h; simp at h) (fun _ => ?_)
    refine holds_bif (fun h => by rw [c0] at h; simp at h) (fun _ => ?_)
    refine holds_bif (fun h2 => ⟨by (repeat' first | with_reducible exact trivial | with_reducible refine cdb_iff.2 ⟨?_, ?_⟩ | exact decide_eq_true hs | exact decide_eq_true hp), rfl⟩) (fun h2 => ?_)
    have h2 : getE s = 0 := by simpa using h2
    obtain ⟨r1, r2⟩ := get_then h2
    refine holds_bif (fun _ => ?_) (fun h => by rw [r1] at h; simp at h)
    refine holds_bif (fun _ => ⟨by (repeat' first | with_reducible exact trivial | with_reducible refine cdb_iff.2 ⟨?_, ?_⟩ | exact decide_eq_true hs | exact decide_eq_true hp), rfl⟩) (fun h => by rw [r2] at h; simp at h)
  · have c1 : chk24 f = 1 := by unfold chk24; rw [decide_eq_false hok]; rfl
    have pe : putR f = ⟨#[]⟩ := by unfold putR; rw [if_neg hok]
    refine holds_bif (fun h => by rw [c1] at h; simp at h) (fun _ => ?_)
    refine holds_bif (fun _ => ?_) (fun h => by rw [c1] at h; simp at h)
    refine holds_bif (fun h => by rw [c1] at h; simp at h) (fun _ => ?_)
    refine holds_bif (fun h => by rw [pe, ByteArray.toList_eq] at h; simp at h) (fun _ => ?_)
    refine holds_bif (fun h2 => ⟨by (repeat' first | with_reducible exact trivial | with_reducible refine cdb_iff.2 ⟨?_, ?_⟩ | exact decide_eq_true hs | exact decide_eq_true hp), rfl⟩) (fun h2 => ?_)
    have h2 : getE s = 0 := by simpa using h2
    obtain ⟨r1, r2⟩ := get_then h2
    refine holds_bif (fun _ => ?_) (fun h => by rw [r1] at h; simp at h)
    refine holds_bif (fun _ => ⟨by (repeat' first | with_reducible exact trivial | with_reducible refine cdb_iff.2 ⟨?_, ?_⟩ | exact decide_eq_true hs | exact decide_eq_true hp), rfl⟩) (fun h => by rw [r2] at h; simp at h)
end Go.Proofs.YtkaodceeiagflaaDoor
