/-
  The laws of layer 26: each call comes to true.
-/
import Derived.Test.YtobelaadflcemaaDoorT26F
import Derived.Test.YtobelaadflcemaaDoorAEIn
namespace Go.Proofs.YtobelaadflcemaaDoor
open Go.RowKit AE Oc
theorem piece_back (r : ByteArray) (m : Int) (h1 : 1 ≤ m) (h2 : m ≤ 6) (h : m ≤ r.size) : be m.toNat (takeN r m).toNat ++ (takeR r m).data.toList = r.data.toList := by
  have hin : inT r m = true := by simp only [inT, Bool.and_eq_true, decide_eq_true_eq]; omega
  have hl : r.data.toList.length = r.size := by rw [Array.length_toList]; rfl
  have e1 : (r.extract 0 m.toNat).data.toList = r.data.toList.take m.toNat := by simp
  have e2 : (r.extract m.toNat r.size).data.toList = r.data.toList.drop m.toNat := by
    simp only [ByteArray.data_extract, Array.toList_extract, List.extract]
    rw [List.take_of_length_le (by rw [List.length_drop]; omega)]
  rw [takeN, if_pos hin, takeR, if_pos hin, e1, e2, Int.toNat_natCast]
  have e3 : (r.data.toList.take m.toNat).length = m.toNat := by rw [List.length_take]; omega
  have := be_num (r.data.toList.take m.toNat)
  rw [e3] at this
  rw [this, List.take_append_drop]
theorem ok_zero {f : Nat → Int} (h : okP f) : chk26 f = 0 := by unfold chk26; rw [decide_eq_true h]; rfl
theorem zero_ok {f : Nat → Int} (h : chk26 f = 0) : okP f := chk_ok (by rw [h]; rfl)
theorem put_back {f : Nat → Int} (h : okP f) : (putR f).size = 14 ∧ numsOf w26 (putR f) = [f 0, f 1, f 2, f 3, f 4, f 5, f 6, f 7, f 8] := by
  obtain ⟨g0, g1, g2, g3, g4, g5, g6, g7, g8⟩ := fits26 h
  have hb : putR f = ⟨(bytes26 f).toArray⟩ := by unfold putR; rw [if_pos h]
  rw [hb]
  refine ⟨by rw [mk_size]; simp [bytes26, be_length], ?_⟩
  have e : bytes26 f = be 1 (f 0).toNat ++ (be 4 (f 1).toNat ++ (be 2 (f 2).toNat ++ (be 2 (f 3).toNat ++ (be 1 (f 4).toNat ++ (be 1 (f 5).toNat ++ (be 1 (f 6).toNat ++ (be 1 (f 7).toNat ++ (be 1 (f 8).toNat ++ [])))))))) := by simp [bytes26, List.append_assoc]
  rw [e]
  have t := fun (n m : Int) (t : List UInt8) (h : fits n m = true) => take_piece n m t h
  have t0 := fun u => t (f 0) 1 u g0
  have t1 := fun u => t (f 1) 4 u g1
  have t2 := fun u => t (f 2) 2 u g2
  have t3 := fun u => t (f 3) 2 u g3
  have t4 := fun u => t (f 4) 1 u g4
  have t5 := fun u => t (f 5) 1 u g5
  have t6 := fun u => t (f 6) 1 u g6
  have t7 := fun u => t (f 7) 1 u g7
  have t8 := fun u => t (f 8) 1 u g8
  simp only [w26, numsOf]
  have x0 := t0 (be 4 (f 1).toNat ++ (be 2 (f 2).toNat ++ (be 2 (f 3).toNat ++ (be 1 (f 4).toNat ++ (be 1 (f 5).toNat ++ (be 1 (f 6).toNat ++ (be 1 (f 7).toNat ++ (be 1 (f 8).toNat ++ []))))))))
  have x1 := t1 (be 2 (f 2).toNat ++ (be 2 (f 3).toNat ++ (be 1 (f 4).toNat ++ (be 1 (f 5).toNat ++ (be 1 (f 6).toNat ++ (be 1 (f 7).toNat ++ (be 1 (f 8).toNat ++ [])))))))
  have x2 := t2 (be 2 (f 3).toNat ++ (be 1 (f 4).toNat ++ (be 1 (f 5).toNat ++ (be 1 (f 6).toNat ++ (be 1 (f 7).toNat ++ (be 1 (f 8).toNat ++ []))))))
  have x3 := t3 (be 1 (f 4).toNat ++ (be 1 (f 5).toNat ++ (be 1 (f 6).toNat ++ (be 1 (f 7).toNat ++ (be 1 (f 8).toNat ++ [])))))
  have x4 := t4 (be 1 (f 5).toNat ++ (be 1 (f 6).toNat ++ (be 1 (f 7).toNat ++ (be 1 (f 8).toNat ++ []))))
  have x5 := t5 (be 1 (f 6).toNat ++ (be 1 (f 7).toNat ++ (be 1 (f 8).toNat ++ [])))
  have x6 := t6 (be 1 (f 7).toNat ++ (be 1 (f 8).toNat ++ []))
  have x7 := t7 (be 1 (f 8).toNat ++ [])
  have x8 := t8 ([])
  have u0 : (1 : Int).toNat = 1 := rfl
  have u1 : (4 : Int).toNat = 4 := rfl
  have u2 : (2 : Int).toNat = 2 := rfl
  simp only [u0, u1, u2] at x0 x1 x2 x3 x4 x5 x6 x7 x8
  rw [x0.1, x0.2.2]
  rw [x1.1, x1.2.2]
  rw [x2.1, x2.2.2]
  rw [x3.1, x3.2.2]
  rw [x4.1, x4.2.2]
  rw [x5.1, x5.2.2]
  rw [x6.1, x6.2.2]
  rw [x7.1, x7.2.2]
  rw [x8.1]
theorem get_back {f : Nat → Int} (h : okP f) : getE (putR f) = 0 ∧ getN (putR f) 0 = f 0 ∧ getN (putR f) 1 = f 1 ∧ getN (putR f) 2 = f 2 ∧ getN (putR f) 3 = f 3 ∧ getN (putR f) 4 = f 4 ∧ getN (putR f) 5 = f 5 ∧ getN (putR f) 6 = f 6 ∧ getN (putR f) 7 = f 7 ∧ getN (putR f) 8 = f 8 := by
  obtain ⟨h1, h2⟩ := put_back h
  have hv : chk26 (vals26 (putR f)) = chk26 f := by unfold vals26; rw [h2]; kernel_rfl
  have he : getE (putR f) = 0 := e0 (by omega) (by rw [hv]; exact ok_zero h)
  refine ⟨he, ?_⟩
  have hg : getN (putR f) = nine [f 0, f 1, f 2, f 3, f 4, f 5, f 6, f 7, f 8] := by unfold getN; rw [if_pos he]; unfold vals26; rw [h2]
  rw [hg]
  exact ⟨rfl, rfl, rfl, rfl, rfl, rfl, rfl, rfl, rfl⟩
theorem get_then {s : ByteArray} (h : getE s = 0) : chk26 (getN s) = 0 ∧ putR (getN s) = s := by
  have hg : getN s = vals26 s := by unfold getN; rw [if_pos h]
  have h0 := h
  unfold getE at h0
  split at h0
  · cases h0
  rename_i n14
  split at h0
  · cases h0
  rename_i hor
  have hz : s.size = 14 := by omega
  have hc : chk26 (vals26 s) = 0 := Decidable.byContradiction fun hne => hor (.inr hne)
  rw [hg]
  refine ⟨hc, ?_⟩
  have hok := zero_ok hc
  unfold putR
  rw [if_pos hok]
  have hb : bytes26 (vals26 s) = s.data.toList := by
    have e : vals26 s = nine (numsOf w26 s) := rfl
    rw [e]
    simp only [w26, numsOf]
    obtain ⟨s1, q1⟩ : ∃ x, x = takeR s 1 := ⟨_, rfl⟩
    obtain ⟨s2, q2⟩ : ∃ x, x = takeR s1 4 := ⟨_, rfl⟩
    obtain ⟨s3, q3⟩ : ∃ x, x = takeR s2 2 := ⟨_, rfl⟩
    obtain ⟨s4, q4⟩ : ∃ x, x = takeR s3 2 := ⟨_, rfl⟩
    obtain ⟨s5, q5⟩ : ∃ x, x = takeR s4 1 := ⟨_, rfl⟩
    obtain ⟨s6, q6⟩ : ∃ x, x = takeR s5 1 := ⟨_, rfl⟩
    obtain ⟨s7, q7⟩ : ∃ x, x = takeR s6 1 := ⟨_, rfl⟩
    obtain ⟨s8, q8⟩ : ∃ x, x = takeR s7 1 := ⟨_, rfl⟩
    obtain ⟨s9, q9⟩ : ∃ x, x = takeR s8 1 := ⟨_, rfl⟩
    rw [← q1, ← q2, ← q3, ← q4, ← q5, ← q6, ← q7, ← q8]
    have z0 := takeR_size (r := s) (m := 1) (by decide) (by decide) (by omega)
    rw [← q1] at z0
    have p0 := piece_back s 1 (by decide) (by decide) (by omega)
    rw [← q1] at p0
    have z1 := takeR_size (r := s1) (m := 4) (by decide) (by decide) (by omega)
    rw [← q2] at z1
    have p1 := piece_back s1 4 (by decide) (by decide) (by omega)
    rw [← q2] at p1
    have z2 := takeR_size (r := s2) (m := 2) (by decide) (by decide) (by omega)
    rw [← q3] at z2
    have p2 := piece_back s2 2 (by decide) (by decide) (by omega)
    rw [← q3] at p2
    have z3 := takeR_size (r := s3) (m := 2) (by decide) (by decide) (by omega)
    rw [← q4] at z3
    have p3 := piece_back s3 2 (by decide) (by decide) (by omega)
    rw [← q4] at p3
    have z4 := takeR_size (r := s4) (m := 1) (by decide) (by decide) (by omega)
    rw [← q5] at z4
    have p4 := piece_back s4 1 (by decide) (by decide) (by omega)
    rw [← q5] at p4
    have z5 := takeR_size (r := s5) (m := 1) (by decide) (by decide) (by omega)
    rw [← q6] at z5
    have p5 := piece_back s5 1 (by decide) (by decide) (by omega)
    rw [← q6] at p5
    have z6 := takeR_size (r := s6) (m := 1) (by decide) (by decide) (by omega)
    rw [← q7] at z6
    have p6 := piece_back s6 1 (by decide) (by decide) (by omega)
    rw [← q7] at p6
    have z7 := takeR_size (r := s7) (m := 1) (by decide) (by decide) (by omega)
    rw [← q8] at z7
    have p7 := piece_back s7 1 (by decide) (by decide) (by omega)
    rw [← q8] at p7
    have z8 := takeR_size (r := s8) (m := 1) (by decide) (by decide) (by omega)
    rw [← q9] at z8
    have p8 := piece_back s8 1 (by decide) (by decide) (by omega)
    rw [← q9] at p8
    have last : s9.data.toList = [] := by
      have : s9.data.toList.length = s9.size := by rw [Array.length_toList]; rfl
      exact List.eq_nil_of_length_eq_zero (by omega)
    rw [last] at p8
    rw [← p0, ← p1, ← p2, ← p3, ← p4, ← p5, ← p6, ← p7, ← p8]
    simp [bytes26, nine, List.append_assoc]
  rw [hb]
theorem w_PushPuts (w : World) (hR : Ro ro26 (G0 w) w) (a b c d e f g h i v : Int) (_ : (Lit.int .i64 v).wf = true) : Calls Tryd.prog 3 #[.agg #[.int .i64 a, .int .i64 b, .int .i64 c, .int .i64 d, .int .i64 e, .int .i64 f, .int .i64 g, .int .i64 h, .int .i64 i], .int .i64 v] w fun e w' => e = .returned (.bool true) ∧ Below w.heap.size w w' := by
  obtain ⟨f, hf⟩ : ∃ x, x = nine [a, b, c, d, e, f, g, h, i] := ⟨_, rfl⟩
  have hF : nine [f 0, f 1, f 2, f 3, f 4, f 5, f 6, f 7, f 8] = f := by subst hf; rfl
  refine law_true (ro := ro26) (args := [push f, .v (.int .i64 v)]) ?_ w _ hR (.cons (by subst hf; exact .v _) (.cons (.v _) .nil))
  refine Fs.of_call knownC (t_PushPuts f v _) ?_ flatC
  rw [hF]
  refine holds_bif (fun _ => holds_bif (fun _ => holds_bif (fun _ => holds_bif (fun _ => ⟨trivial, rfl⟩) (fun h => ?_)) (fun h => ?_)) (fun h => ?_)) (fun h => ?_)
  all_goals simp at h
theorem w_PushGets (w : World) (hR : Ro ro26 (G0 w) w) (s : ByteArray) (_ : s.size ≤ 9223372036854775807) : Calls Tryd.prog 4 #[.string s] w fun e w' => e = .returned (.bool true) ∧ Below w.heap.size w w' := by
  refine law_true (ro := ro26) (args := [.v (.string s)]) ?_ w _ hR (.cons (.v _) .nil)
  refine Fs.of_call knownC (t_PushGets s _) ?_ flatC
  refine holds_bif (fun _ => ⟨trivial, rfl⟩) (fun h => ?_)
  have h := of_decide_eq_false h
  have hs : s.size ≤ maxLen := by unfold maxLen; omega
  refine holds_bif (fun _ => holds_bif (fun _ => ⟨?_, rfl⟩) (fun h => ?_)) (fun h => ?_)
  · repeat' first
      | with_reducible exact trivial
      | with_reducible refine cdb_iff.2 ⟨?_, ?_⟩
      | exact decide_eq_true hs
  · simp at h
  · simp at h
end Go.Proofs.YtobelaadflcemaaDoor
