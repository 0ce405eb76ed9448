
/-
  The law ReplyBack of layer 25: the call comes to true.
-/
import Derived.Test.YtemjnfncncmbdaaDoorZ1
namespace Go.Proofs.YtemjnfncncmbdaaDoor
open Go.RowKit AE Oc
theorem w_ReplyBack (w : World) (hR : Ro ro25 (G0 w) w) (a b c d e f g : Int) (s : ByteArray) (_ : s.size ≤ 9223372036854775807) : Calls Tryd.prog 5 #[.agg #[.int .i64 a, .int .i64 b, .int .i64 c, .int .i64 d, .int .i64 e, .int .i64 f, .int .i64 g], .string s] w fun e w' => e = .returned (.bool true) ∧ Below w.heap.size w w' := by
  obtain ⟨f, hf⟩ : ∃ x, x = six [a, b, c, d, e, f, g] := ⟨_, rfl⟩
  have hF : six [f 0, f 1, f 2, f 3, f 4, f 5, f 6] = f := by subst hf; rfl
  refine law_true (ro := ro25) (args := [req f, .v (.string s)]) ?_ w _ hR (.cons (by subst hf; exact .v _) (.cons (.v _) .nil))
  refine Fs.of_call knownD (t_ReplyBack f s _) ?_ flatD
  have hG : chk25 (six [getN s 0, getN s 1, getN s 2, getN s 3, getN s 4, getN s 5, getN s 6]) = chk25 (getN s) := by kernel_rfl
  have hP : putR (six [getN s 0, getN s 1, getN s 2, getN s 3, getN s 4, getN s 5, getN s 6]) = putR (getN s) := by kernel_rfl
  rw [hF, hG, hP]
  refine holds_bif (fun _ => ⟨trivial, rfl⟩) (fun h40 => ?_)
  have h40 := of_decide_eq_false h40
  have hs : s.size ≤ 9223372036854775807 := by omega
  have hp : (putR f).size ≤ 9223372036854775807 := by
    by_cases hok : okP f
    · rw [(put_back hok).1]; decide
    · unfold putR; rw [if_neg hok]; decide
  by_cases hok : okP f
  · have c0 := ok_zero hok
    obtain ⟨b0, b1, b2, b3, b4, b5, b6, b7⟩ := get_back hok
    have z := (put_back hok).1
    refine holds_bif (fun _ => ?_) (fun h => by rw [c0] at h; simp at h)
    refine holds_bif (fun h => by rw [b1, b2, b3, b4, b5, b6, b7] at h; simp at h) (fun _ => ?_)
    refine holds_bif (fun h => by rw [b0] at h; simp at h) (fun _ => ?_)
    refine holds_bif (fun h => by rw [z] at h; simp at h) (fun _ => ?_)
    refine holds_bif (fun h => by rw [c0] at h; simp at h) (fun _ => ?_)
    refine holds_bif (fun h2 => ?_) (fun h2 => ?_)
    · refine holds_bif (fun _ => holds_bif (fun _ => ⟨by (repeat' first | with_reducible exact trivial | with_reducible refine cdb_iff.2 ⟨?_, ?_⟩ | exact decide_eq_true hs | exact decide_eq_true hp), rfl⟩) (fun hb => holds_bif (fun _ => ⟨by (repeat' first | with_reducible exact trivial | with_reducible refine cdb_iff.2 ⟨?_, ?_⟩ | exact decide_eq_true hs | exact decide_eq_true hp), rfl⟩) (fun h => by rw [(name_code (f 3)).2 (by simpa using hb)] at h; simp at h))) (fun h => by rw [(name_code (f 3)).1] at h; simp at h)
    have h2 : getE s = 0 := by simpa using h2
    obtain ⟨r1, r2⟩ := get_then h2
    refine holds_bif (fun _ => ?_) (fun h => by rw [r1] at h; simp at h)
    refine holds_bif (fun _ => ?_) (fun h => by rw [r2] at h; simp at h)
    refine holds_bif (fun _ => holds_bif (fun _ => ⟨by (repeat' first | with_reducible exact trivial | with_reducible refine cdb_iff.2 ⟨?_, ?_⟩ | exact decide_eq_true hs | exact decide_eq_true hp), rfl⟩) (fun hb => holds_bif (fun _ => ⟨by (repeat' first | with_reducible exact trivial | with_reducible refine cdb_iff.2 ⟨?_, ?_⟩ | exact decide_eq_true hs | exact decide_eq_true hp), rfl⟩) (fun h => by rw [(name_code (f 3)).2 (by simpa using hb)] at h; simp at h))) (fun h => by rw [(name_code (f 3)).1] at h; simp at h)
  · have c1 : chk25 f = 1 := by unfold chk25; rw [decide_eq_false hok]; rfl
    have pe : putR f = ⟨#[]⟩ := by unfold putR; rw [if_neg hok]
    refine holds_bif (fun h => by rw [c1] at h; simp at h) (fun _ => ?_)
    refine holds_bif (fun _ => ?_) (fun h => by rw [c1] at h; simp at h)
    refine holds_bif (fun h => by rw [c1] at h; simp at h) (fun _ => ?_)
    refine holds_bif (fun h => by rw [pe, ByteArray.toList_eq] at h; simp at h) (fun _ => ?_)
    refine holds_bif (fun h2 => ?_) (fun h2 => ?_)
    · refine holds_bif (fun _ => holds_bif (fun _ => ⟨by (repeat' first | with_reducible exact trivial | with_reducible refine cdb_iff.2 ⟨?_, ?_⟩ | exact decide_eq_true hs | exact decide_eq_true hp), rfl⟩) (fun hb => holds_bif (fun _ => ⟨by (repeat' first | with_reducible exact trivial | with_reducible refine cdb_iff.2 ⟨?_, ?_⟩ | exact decide_eq_true hs | exact decide_eq_true hp), rfl⟩) (fun h => by rw [(name_code (f 3)).2 (by simpa using hb)] at h; simp at h))) (fun h => by rw [(name_code (f 3)).1] at h; simp at h)
    have h2 : getE s = 0 := by simpa using h2
    obtain ⟨r1, r2⟩ := get_then h2
    refine holds_bif (fun _ => ?_) (fun h => by rw [r1] at h; simp at h)
    refine holds_bif (fun _ => ?_) (fun h => by rw [r2] at h; simp at h)
    refine holds_bif (fun _ => holds_bif (fun _ => ⟨by (repeat' first | with_reducible exact trivial | with_reducible refine cdb_iff.2 ⟨?_, ?_⟩ | exact decide_eq_true hs | exact decide_eq_true hp), rfl⟩) (fun hb => holds_bif (fun _ => ⟨by (repeat' first | with_reducible exact trivial | with_reducible refine cdb_iff.2 ⟨?_, ?_⟩ | exact decide_eq_true hs | exact decide_eq_true hp), rfl⟩) (fun h => by rw [(name_code (f 3)).2 (by simpa using hb)] at h; simp at h))) (fun h => by rw [(name_code (f 3)).1] at h; simp at h)
end Go.Proofs.YtemjnfncncmbdaaDoor
