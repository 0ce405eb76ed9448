/-
  The laws of layer 24: each call comes to true.
-/
import Derived.Test.YtkaodceeiagflaaDoorT24F
import Derived.Test.YtkaodceeiagflaaDoorAEIn
namespace Go.Proofs.YtkaodceeiagflaaDoor
open Go.RowKit AE Oc
theorem piece_back (r : ByteArray) (m : Int) (h1 : 1 ≤ m) (h2 : m ≤ 6) (h : m ≤ r.size) : be m.toNat (takeN r m).toNat ++ (takeR r m).data.toList = r.data.toList := by
  have hin : inT r m = true := by simp only [inT, Bool.and_eq_true, decide_eq_true_eq]; omega
  have hl : r.data.toList.length = r.size := by rw [Array.length_toList]; rfl
  have e1 : (r.extract 0 m.toNat).data.toList = r.data.toList.take m.toNat := by simp
  have e2 : (r.extract m.toNat r.size).data.toList = r.data.toList.drop m.toNat := by
    simp only [ByteArray.data_extract, Array.toList_extract, List.extract]
    rw [List.take_of_length_le (by rw [List.length_drop]; omega)]
  rw [takeN, if_pos hin, takeR, if_pos hin, e1, e2, Int.toNat_natCast]
  have e3 : (r.data.toList.take m.toNat).length = m.toNat := by rw [List.length_take]; omega
  have := be_num (r.data.toList.take m.toNat)
  rw [e3] at this
  rw [this, List.take_append_drop]
theorem takeN_one {r : ByteArray} (h : (1 : Int) ≤ r.size) : 0 ≤ takeN r 1 ∧ takeN r 1 < 256 := by
  have hin : inT r 1 = true := by simp only [inT, Bool.and_eq_true, decide_eq_true_eq]; omega
  rw [takeN, if_pos hin]
  have hl : r.data.toList.length = r.size := by rw [Array.length_toList]; rfl
  have e1 : (r.extract 0 (1 : Int).toNat).data.toList = r.data.toList.take 1 := by simp
  rw [e1]
  have h2 := num_lt (r.data.toList.take 1)
  have h3 : (r.data.toList.take 1).length = 1 := by rw [List.length_take]; omega
  rw [h3] at h2
  omega
theorem ok_zero {f : Nat → Int} (h : okP f) : chk24 f = 0 := by unfold chk24; rw [decide_eq_true h]; rfl
theorem zero_ok {f : Nat → Int} (h : chk24 f = 0) : okP f := chk_ok (by rw [h]; rfl)
theorem put_back {f : Nat → Int} (h : okP f) : (putR f).size = 17 ∧ numsOf w24 (putR f) = [f 0, (f 1 + 1), f 2, f 3, f 4, f 5] := by
  obtain ⟨g0, g1, g2, g3, g4, g5⟩ := fits24 h
  have hb : putR f = ⟨(bytes24 f).toArray⟩ := by unfold putR; rw [if_pos h]
  rw [hb]
  refine ⟨by rw [mk_size]; simp [bytes24, be_length], ?_⟩
  have e : bytes24 f = be 6 (f 0).toNat ++ (be 1 (f 1 + 1).toNat ++ (be 1 (f 2).toNat ++ (be 1 (f 3).toNat ++ (be 6 (f 4).toNat ++ (be 2 (f 5).toNat ++ []))))) := by simp [bytes24, List.append_assoc]
  rw [e]
  have x0 := take_piece (f 0) 6 (be 1 (f 1 + 1).toNat ++ (be 1 (f 2).toNat ++ (be 1 (f 3).toNat ++ (be 6 (f 4).toNat ++ (be 2 (f 5).toNat ++ []))))) g0
  have x1 := take_piece (f 1 + 1) 1 (be 1 (f 2).toNat ++ (be 1 (f 3).toNat ++ (be 6 (f 4).toNat ++ (be 2 (f 5).toNat ++ [])))) g1
  have x2 := take_piece (f 2) 1 (be 1 (f 3).toNat ++ (be 6 (f 4).toNat ++ (be 2 (f 5).toNat ++ []))) g2
  have x3 := take_piece (f 3) 1 (be 6 (f 4).toNat ++ (be 2 (f 5).toNat ++ [])) g3
  have x4 := take_piece (f 4) 6 (be 2 (f 5).toNat ++ []) g4
  have x5 := take_piece (f 5) 2 ([]) g5
  simp only [w24, numsOf]
  have u0 : (1 : Int).toNat = 1 := rfl
  have u1 : (6 : Int).toNat = 6 := rfl
  have u2 : (2 : Int).toNat = 2 := rfl
  simp only [u0, u1, u2] at x0 x1 x2 x3 x4 x5
  rw [x0.1, x0.2.2]
  rw [x1.1, x1.2.2]
  rw [x2.1, x2.2.2]
  rw [x3.1, x3.2.2]
  rw [x4.1, x4.2.2]
  rw [x5.1]
theorem vals_back {f : Nat → Int} (h : okP f) : vals24 (putR f) = six [f 0, f 1, f 2, f 3, f 4, f 5] := by
  unfold vals24
  rw [(put_back h).2]
  have hw : IntKind.wrap .i64 (f 1 + 1 - 1) = f 1 := by
    obtain ⟨a0, b0, a1, b1, _⟩ := h
    rw [IntKind.wrap_i64]; omega
  show six [f 0, IntKind.wrap .i64 (f 1 + 1 - 1), f 2, f 3, f 4, f 5] = _
  rw [hw]
theorem get_back {f : Nat → Int} (h : okP f) : getE (putR f) = 0 ∧ getN (putR f) 0 = f 0 ∧ getN (putR f) 1 = f 1 ∧ getN (putR f) 2 = f 2 ∧ getN (putR f) 3 = f 3 ∧ getN (putR f) 4 = f 4 ∧ getN (putR f) 5 = f 5 := by
  have h1 := (put_back h).1
  have hv : chk24 (vals24 (putR f)) = chk24 f := by rw [vals_back h]; kernel_rfl
  have he : getE (putR f) = 0 := e0 (by omega) (by rw [hv]; exact ok_zero h)
  refine ⟨he, ?_⟩
  have hg : getN (putR f) = six [f 0, f 1, f 2, f 3, f 4, f 5] := by unfold getN; rw [if_pos he, vals_back h]
  rw [hg]
  exact ⟨rfl, rfl, rfl, rfl, rfl, rfl⟩
theorem get_then {s : ByteArray} (h : getE s = 0) : chk24 (getN s) = 0 ∧ putR (getN s) = s := by
  have hg : getN s = vals24 s := by unfold getN; rw [if_pos h]
  have h0 := h
  unfold getE at h0
  split at h0
  · cases h0
  rename_i n14
  split at h0
  · cases h0
  rename_i hor
  have hz : s.size = 17 := by omega
  have hc : chk24 (vals24 s) = 0 := Decidable.byContradiction fun hne => hor (.inr hne)
  rw [hg]
  refine ⟨hc, ?_⟩
  have hok := zero_ok hc
  unfold putR
  rw [if_pos hok]
  have hb : bytes24 (vals24 s) = s.data.toList := by
    obtain ⟨s1, q1⟩ : ∃ x, x = takeR s 6 := ⟨_, rfl⟩
    obtain ⟨s2, q2⟩ : ∃ x, x = takeR s1 1 := ⟨_, rfl⟩
    obtain ⟨s3, q3⟩ : ∃ x, x = takeR s2 1 := ⟨_, rfl⟩
    obtain ⟨s4, q4⟩ : ∃ x, x = takeR s3 1 := ⟨_, rfl⟩
    obtain ⟨s5, q5⟩ : ∃ x, x = takeR s4 6 := ⟨_, rfl⟩
    obtain ⟨s6, q6⟩ : ∃ x, x = takeR s5 2 := ⟨_, rfl⟩
    have z0 := takeR_size (r := s) (m := 6) (by decide) (by decide) (by omega)
    rw [← q1] at z0
    have p0 := piece_back s 6 (by decide) (by decide) (by omega)
    rw [← q1] at p0
    have z1 := takeR_size (r := s1) (m := 1) (by decide) (by decide) (by omega)
    rw [← q2] at z1
    have p1 := piece_back s1 1 (by decide) (by decide) (by omega)
    rw [← q2] at p1
    have z2 := takeR_size (r := s2) (m := 1) (by decide) (by decide) (by omega)
    rw [← q3] at z2
    have p2 := piece_back s2 1 (by decide) (by decide) (by omega)
    rw [← q3] at p2
    have z3 := takeR_size (r := s3) (m := 1) (by decide) (by decide) (by omega)
    rw [← q4] at z3
    have p3 := piece_back s3 1 (by decide) (by decide) (by omega)
    rw [← q4] at p3
    have z4 := takeR_size (r := s4) (m := 6) (by decide) (by decide) (by omega)
    rw [← q5] at z4
    have p4 := piece_back s4 6 (by decide) (by decide) (by omega)
    rw [← q5] at p4
    have z5 := takeR_size (r := s5) (m := 2) (by decide) (by decide) (by omega)
    rw [← q6] at z5
    have p5 := piece_back s5 2 (by decide) (by decide) (by omega)
    rw [← q6] at p5
    have last : s6.data.toList = [] := by
      have : s6.data.toList.length = s6.size := by rw [Array.length_toList]; rfl
      exact List.eq_nil_of_length_eq_zero (by omega)
    rw [last] at p5
    have e : vals24 s = six [takeN s 6, IntKind.wrap .i64 (takeN s1 1 - 1), takeN s2 1, takeN s3 1, takeN s4 6, takeN s5 2] := by
      subst q6 q5 q4 q3 q2 q1; kernel_rfl
    have b1 := takeN_one (r := s1) (by omega)
    have hw : IntKind.wrap .i64 (takeN s1 1 - 1) = takeN s1 1 - 1 := by rw [IntKind.wrap_i64]; omega
    rw [hw] at e
    rw [e, ← p0, ← p1, ← p2, ← p3, ← p4, ← p5]
    have c1 : takeN s1 1 - 1 + 1 = takeN s1 1 := by omega
    simp [bytes24, six, List.append_assoc, c1]
  rw [hb]
theorem w_RequestPuts (w : World) (hR : Ro ro24 (G0 w) w) (a b c d e f : Int) (now : Int) (_ : (Lit.int .i64 now).wf = true) (seq : Int) (_ : (Lit.int .i64 seq).wf = true) : Calls Tryd.prog 3 #[.agg #[.int .i64 a, .int .i64 b, .int .i64 c, .int .i64 d, .int .i64 e, .int .i64 f], .int .i64 now, .int .i64 seq] w fun e w' => e = .returned (.bool true) ∧ Below w.heap.size w w' := by
  obtain ⟨f, hf⟩ : ∃ x, x = six [a, b, c, d, e, f] := ⟨_, rfl⟩
  have hF : six [f 0, f 1, f 2, f 3, f 4, f 5] = f := by subst hf; rfl
  refine law_true (ro := ro24) (args := [req f, .v (.int .i64 now), .v (.int .i64 seq)]) ?_ w _ hR (.cons (by subst hf; exact .v _) (.cons (.v _) (.cons (.v _) .nil)))
  refine Fs.of_call knownC (t_RequestPuts f now seq _) ?_ flatC
  rw [hF]
  refine holds_bif (fun _ => holds_bif (fun _ => holds_bif (fun _ => holds_bif (fun _ => ⟨trivial, rfl⟩) (fun h => ?_)) (fun h => ?_)) (fun h => ?_)) (fun h => ?_)
  all_goals simp at h
theorem w_RequestGets (w : World) (hR : Ro ro24 (G0 w) w) (s : ByteArray) (_ : s.size ≤ 9223372036854775807) : Calls Tryd.prog 4 #[.string s] w fun e w' => e = .returned (.bool true) ∧ Below w.heap.size w w' := by
  refine law_true (ro := ro24) (args := [.v (.string s)]) ?_ w _ hR (.cons (.v _) .nil)
  refine Fs.of_call knownC (t_RequestGets s _) ?_ flatC
  refine holds_bif (fun _ => ⟨trivial, rfl⟩) (fun h => ?_)
  have h := of_decide_eq_false h
  have hs : s.size ≤ maxLen := by unfold maxLen; omega
  refine holds_bif (fun _ => holds_bif (fun _ => ⟨?_, rfl⟩) (fun h => ?_)) (fun h => ?_)
  · repeat' first
      | with_reducible exact trivial
      | with_reducible refine cdb_iff.2 ⟨?_, ?_⟩
      | exact decide_eq_true hs
  · simp at h
  · simp at h
end Go.Proofs.YtkaodceeiagflaaDoor
