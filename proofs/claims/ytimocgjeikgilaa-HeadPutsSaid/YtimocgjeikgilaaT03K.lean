/-
  Layer 3: what is opened.
-/
import Derived.Test.YtimocgjeikgilaaT03J
namespace Go.Proofs.Ytimocgjeikgilaa.AE
open Go.RowKit Cr Oc
def bodyB (s : ByteArray) : ByteArray := s.extract 0 (s.size - 2)
def tailB (s : ByteArray) : ByteArray := s.extract (s.size - 2) s.size
def opens (s : ByteArray) : Bool := bytsOf (sealS (bodyB s)) == bytsOf s
def openV (s : ByteArray) : Value := if s.size < 2 then .tuple #[.string ⟨#[]⟩, .int .i64 3] else if opens s then .tuple #[.string (bodyB s), .int .i64 0] else .tuple #[.string ⟨#[]⟩, .int .i64 4]
theorem hw2 (s : ByteArray) (h2 : 2 ≤ s.size) (hs : s.size ≤ 100000) : IntKind.wrap .i64 ((s.size : Int) - 2) = ((s.size - 2 : Nat) : Int) := by rw [IntKind.wrap_i64]; omega
theorem body_size (s : ByteArray) : (bodyB s).size ≤ s.size := by unfold bodyB; rw [ByteArray.size_extract]; omega
theorem split_b (s : ByteArray) (h2 : 2 ≤ s.size) : bytsOf s = bytsOf (bodyB s) ++ bytsOf (tailB s) := by
  have h : bytsOf s = (bytsOf s).take (s.size - 2) ++ (bytsOf s).drop (s.size - 2) := (List.take_append_drop _ _).symm
  have e1 : bytsOf (bodyB s) = (bytsOf s).take (s.size - 2) := by
    unfold bodyB bytsOf
    rw [ByteArray.data_extract, Array.toList_extract]
    show ((bytsOf s).drop 0).take (s.size - 2 - 0) = _
    simp
    rfl
  have e2 : bytsOf (tailB s) = (bytsOf s).drop (s.size - 2) := by
    unfold tailB
    rw [show bytsOf (s.extract (s.size - 2) s.size) = (s.data.extract (s.size - 2) s.size).toList by unfold bytsOf; rw [ByteArray.data_extract], Array.toList_extract]
    show ((bytsOf s).drop (s.size - 2)).take (s.size - (s.size - 2)) = _
    rw [List.take_of_length_le (by rw [List.length_drop, len_byts]; omega)]
  rw [e1, e2]; exact h
theorem tail_len (s : ByteArray) (h2 : 2 ≤ s.size) : (bytsOf (tailB s)).length = 2 := by
  rw [len_byts]; unfold tailB; rw [ByteArray.size_extract]; omega
theorem opens_iff (s : ByteArray) (h2 : 2 ≤ s.size) : opens s = decide (sumS (bodyB s) = num (bytsOf (tailB s))) := by
  rw [Bool.eq_iff_iff, decide_eq_true_eq]
  unfold opens
  rw [beq_iff_eq, split_b s h2]
  show bytsOf (bodyB s) ++ be 2 (sumS (bodyB s)) = _ ↔ _
  rw [List.append_cancel_left_eq]
  exact be_iff _ _ (tail_len s h2) (sumS_lt _)
theorem fs_open (s : ByteArray) (hs : s.size ≤ 100000) : Fs Try.prog nro 19 [.v (.string s)] (hp [] []) fun r _ => r = .v (openV s) := by
  by_cases h2 : s.size < 2
  · refine Fs.of_call (knownL nro) (t_open s fun r => r = .v (openV s)) (holds_bif (fun _ => ⟨trivial, ?_⟩) fun h => ?_)
    · unfold openV; rw [if_pos h2]
    · have := of_decide_eq_false h; omega
  · have t := t_open s fun r => r = .v (openV s)
    rw [hw2 s (by omega) hs, Int.toNat_natCast] at t
    have hb := body_size s
    refine Fs.of_call (knownL nro) t (holds_bif (fun h => ?_) fun _ => holds_bif (fun h => ?_) fun h => ?_)
    · have := of_decide_eq_true h; omega
    · have ho : opens s = false := by
        rw [ByteArray.toList_eq, ByteArray.toList_eq] at h
        simpa [opens, bytsOf, bodyB] using h
      refine ⟨?_, ?_⟩
      · with_reducible refine cdb_iff.2 ⟨cdb_iff.2 ⟨trivial, decide_eq_true ⟨?_, ?_, ?_⟩⟩, decide_eq_true ?_⟩ <;> first | omega | exact Nat.le_trans hb hs
      · unfold openV; rw [if_neg h2, ho]; rfl
    · have ho : opens s = true := by
        rw [ByteArray.toList_eq, ByteArray.toList_eq] at h
        simpa [opens, bytsOf, bodyB] using h
      refine ⟨?_, ?_⟩
      · with_reducible refine cdb_iff.2 ⟨cdb_iff.2 ⟨trivial, decide_eq_true ⟨?_, ?_, ?_⟩⟩, decide_eq_true ?_⟩ <;> first | omega | exact Nat.le_trans hb hs
      · unfold openV; rw [if_neg h2, ho]; rfl
theorem fs_ropen (s : ByteArray) (hs : s.size ≤ 100000) : Fs Try.prog nro 20 [.v (.string s)] (hp [] []) fun r _ => r = .v (openV s) := by
  by_cases h2 : s.size < 2
  · refine Fs.of_call (knownK nro) (t_ropen s fun r => r = .v (openV s)) (holds_bif (fun _ => ⟨trivial, ?_⟩) fun h => ?_)
    · unfold openV; rw [if_pos h2]
    · have := of_decide_eq_false h; omega
  · have t := t_ropen s fun r => r = .v (openV s)
    rw [hw2 s (by omega) hs, Int.toNat_natCast, Int.toNat_natCast] at t
    have hb := body_size s
    have ho := opens_iff s (by omega)
    have ht := tail_len s (by omega)
    rw [len_byts] at ht
    have hb6 : (s.extract 0 (s.size - 2)).size ≤ 100000 := Nat.le_trans hb hs
    have ht6 : (s.extract (s.size - 2) s.size).size ≤ 6 := by
      have : (s.extract (s.size - 2) s.size).size = 2 := ht
      omega
    refine Fs.of_call (knownK nro) t (holds_bif (fun h => ?_) fun _ => holds_bif (fun h => ?_) fun h => ?_)
    · have := of_decide_eq_true h; omega
    · have hne : ¬ sumS (bodyB s) = num (bytsOf (tailB s)) := fun e => by
        have h : (((sumS (bodyB s) : Nat) : Int) != ((num (bytsOf (tailB s)) : Nat) : Int)) = true := h
        rw [e] at h; simp at h
      rw [decide_eq_false hne] at ho
      refine ⟨?_, ?_⟩
      · repeat' first
          | with_reducible exact trivial
          | with_reducible refine cdb_iff.2 ⟨?_, ?_⟩
        all_goals (refine decide_eq_true ?_; first | with_reducible exact hb6 | with_reducible exact ht6 | omega)
      · unfold openV; rw [if_neg h2, ho]; rfl
    · have he : sumS (bodyB s) = num (bytsOf (tailB s)) := by
        have h : (((sumS (bodyB s) : Nat) : Int) != ((num (bytsOf (tailB s)) : Nat) : Int)) = false := h
        have h : ((sumS (bodyB s) : Nat) : Int) = ((num (bytsOf (tailB s)) : Nat) : Int) := by simpa using h
        exact Int.ofNat_inj.1 h
      have sz : s.size ≤ 100000 := hs
      rw [decide_eq_true he] at ho
      refine ⟨?_, ?_⟩
      · repeat' first
          | with_reducible exact trivial
          | with_reducible refine cdb_iff.2 ⟨?_, ?_⟩
        all_goals (refine decide_eq_true ?_; first | with_reducible exact hb6 | with_reducible exact ht6 | with_reducible exact sz | omega)
      · unfold openV; rw [if_neg h2, ho]; rfl
def openS (s : ByteArray) : ByteArray := if s.size < 2 then ⟨#[]⟩ else if opens s then bodyB s else ⟨#[]⟩
def openE (s : ByteArray) : Int := if s.size < 2 then 3 else if opens s then 0 else 4
theorem openV_eq (s : ByteArray) : openV s = .tuple #[.string (openS s), .int .i64 (openE s)] := by
  unfold openV openS openE
  by_cases h : s.size < 2
  · rw [if_pos h, if_pos h, if_pos h]
  · rw [if_neg h, if_neg h, if_neg h]
    cases opens s <;> rfl
def openP : List Value → Option (Value × Bool) := fun us => match us with
  | [.string s] => some (.tuple #[.string (openS s), .int .i64 (openE s)], decide (s.size ≤ 100000))
  | _ => none
theorem open_ok (ro : Nat → Option (List Value)) : ∀ args H r H', pure? openP args H = some (r, H') → HSound1 Try.prog ro 19 args H r H' := by
  refine pure_ok (fun us c hs => Fs.ro ?_ ro) (has_fn (by kernel_rfl))
  unfold openP at hs
  split at hs
  · rename_i s
    simp only [Option.some.injEq, Prod.mk.injEq, decide_eq_true_eq] at hs
    obtain ⟨rfl, h⟩ := hs
    rw [← openV_eq]
    exact fs_open s h
  · cases hs
theorem ropen_ok (ro : Nat → Option (List Value)) : ∀ args H r H', pure? openP args H = some (r, H') → HSound1 Try.prog ro 20 args H r H' := by
  refine pure_ok (fun us c hs => Fs.ro ?_ ro) (has_fn (by kernel_rfl))
  unfold openP at hs
  split at hs
  · rename_i s
    simp only [Option.some.injEq, Prod.mk.injEq, decide_eq_true_eq] at hs
    obtain ⟨rfl, h⟩ := hs
    rw [← openV_eq]
    exact fs_ropen s h
  · cases hs
end Go.Proofs.Ytimocgjeikgilaa.AE
