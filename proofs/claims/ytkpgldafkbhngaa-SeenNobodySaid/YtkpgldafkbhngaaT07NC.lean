/-
  Layer 7: SeenNobody comes to true.
-/
import Derived.Test.YtkpgldafkbhngaaT07NB
namespace Go.Proofs.Ytkpgldafkbhngaa.AE
set_option maxRecDepth 100000
open Go.RowKit
theorem neN7 {l : List Code} (h : l.isEmpty = false) : l ≠ [] := by rintro rfl; cases h
theorem known7 (ro : Nat → Option (List Value)) : Known ro (fun _ => none) := fun g p h => by cases h
theorem flatS7 {pr : FuncId → Option (List AV → AH → Ans)} : Flats muS7 pr := by
  intro (g : Nat) h
  unfold muS7 at h
  have h2 := Nat.eq_of_beq_eq_true h
  omega
theorem al_sl : slotsOf 12 = 33 := by kernel_rfl
theorem al_re : resultsOf 12 = [.tmp 2] := by kernel_rfl
theorem al_3 : (flatten (bodyOf 12)).drop 3 = .block 0 (.loop (sub (bodyOf 12) [1, 1, 0, 1, 0, 0])) :: (flatten (bodyOf 12)).drop 4 := by kernel_rfl
theorem al_l : (flatten (sub (bodyOf 12) [1, 1, 0, 1, 0, 0])).drop 2 = .block 1 (sub (bodyOf 12) [1, 1, 0, 1, 0, 0, 1, 1, 0, 0]) :: (flatten (sub (bodyOf 12) [1, 1, 0, 1, 0, 0])).drop 3 := by kernel_rfl
theorem al_b : (flatten (sub (bodyOf 12) [1, 1, 0, 1, 0, 0, 1, 1, 0, 0])).drop 1 = [sub (bodyOf 12) [1, 1, 0, 1, 0, 0, 1, 1, 0, 0, 1]] := by kernel_rfl
theorem al_tl : tailOk (sub (bodyOf 12) [1, 1, 0, 1, 0, 0, 1, 1, 0, 0, 1]) 20 = true := by kernel_rfl
theorem al_ap : appT ((opsOf (sub (bodyOf 12) [1, 1, 0, 1, 0, 0, 1, 1, 0, 0, 1])).toList.drop 20) 10 29 30 3 28 := ⟨_, _, _, rfl, ⟨rfl, rfl, rfl, rfl, rfl, rfl⟩, rfl, rfl, rfl⟩
theorem al_ei : einfo Try.prog 28 = some ⟨3, 8, 1, .int .i64 0⟩ := by kernel_rfl
def alP (n : Int) (r : AV) (H' : AH) : Prop := ∃ (cap : Nat) (D : List AV), r = .sl 4 0 1 cap ∧ H' = hp (snB n ++ [(3, gi n :: D)]) []
theorem fs_all1 (n : Int) : Fs Try.prog nro 12 [.ptr 3 0] (hp (snB n) []) (alP n) := by
  refine Fs.of_body (has_fn (by kernel_rfl)) ?_
  rw [al_sl, al_re]
  refine Tr.of_flat (Trl.split 3 (Trl.of_code (known7 _) (neN7 (by kernel_rfl)) (al_1 n _) (holds_some ⟨trivial, ?_⟩) flatS7))
  show Trl Try.prog nro ((flatten (bodyOf 12)).drop 3) (alA (gi 1) (.v (.slice none 0 0)) (gi 0) .dead .dead .dead) (hp (snB n) []) _
  rw [al_3]
  let I : Nat → List AV → AH → Prop := fun m act H => (m = 1 ∧ act = alA (gi 1) (.v (.slice none 0 0)) (gi 0) .dead .dead .dead ∧ H = hp (snB n) []) ∨ (m = 0 ∧ ∃ (cap : Nat) (D : List AV), act = alA (gi 1) (.sl 4 0 1 cap) (gi 1) .dead .dead .dead ∧ H = hp (snB n ++ [(3, gi n :: D)]) [])
  refine Tr.block (Tr.loop I ?_ (m := 1) (.inl ⟨rfl, rfl, rfl⟩))
  rintro m act H (⟨rfl, rfl, rfl⟩ | ⟨rfl, cap, D, rfl, rfl⟩)
  · refine Tr.of_flat (Trl.split 2 (Trl.of_code (known7 _) (neN7 (by kernel_rfl)) (al_hd (.v (.slice none 0 0)) 0 (snB n) _) (holds_bif (fun _ => ⟨trivial, ?_⟩) fun h => absurd h (by decide)) flatS7))
    show Trl Try.prog nro ((flatten (sub (bodyOf 12) [1, 1, 0, 1, 0, 0])).drop 2) (alA (gi 1) (.v (.slice none 0 0)) (gi 0) .dead .dead .dead) (hp (snB n) []) _
    rw [al_l]
    refine Tr.block (Tr.of_flat (Trl.split 1 (Trl.of_code (known7 _) (neN7 (by kernel_rfl)) (al_r4 n _) (holds_some ⟨trivial, ?_⟩) flatS7)))
    show Trl Try.prog nro ((flatten (sub (bodyOf 12) [1, 1, 0, 1, 0, 0, 1, 1, 0, 0])).drop 1) (alA (gi 1) (.v (.slice none 0 0)) (gi 0) (gi 0) .dead .dead) (hp (snB n) []) _
    rw [al_b]
    refine Tr.of_tail (R := fun e act1 H1 => act1 = keepI 0 [0, 6, 7, 10, 29] (alA (gi 1) (.v (.slice none 0 0)) (gi 0) (gi 0) (.v (.slice none 0 0)) (.lst 1 [gi n] .exact)) ∧ H1 = hp (snB n) []) (known7 _) al_tl (al_r5 n _) (holds_some ⟨trivial, rfl, rfl⟩) (fun act1 H1 hr => ?_) flatS7
    obtain ⟨rfl, rfl⟩ := hr
    intro G W a hI hR hA
    refine wpList_mono2 ?_ _ _ _ (tl_app (x0 := .v (.slice none 0 0)) (x := .lst 1 [gi n] .exact) (xs := [gi n]) (us := [.int .i64 n]) al_ei al_ap trivial rfl (fun G W c h => ⟨none, rv_v h⟩) (by kernel_rfl) rfl (by kernel_rfl) (by show 0 < 1; decide) rfl (by show 1 * 8 ≤ _; decide) (by show 1 ≤ maxLen; decide) (by show 30 < 33; decide) G W a hI hR hA)
    rintro e a' W' ⟨act', H', G', ⟨rfl, cap, C, h1, h2, h3, h4, rfl, rfl⟩, e1, e2, e3, e4⟩
    refine ⟨_, _, G', ?_, e1, e2, e3, e4⟩
    have hC : ∃ D, C.map AV.v = gi n :: D := by
      cases C with
      | nil => cases h4
      | cons u C =>
        have : u = .int .i64 n := by have h := h4; simp at h; first | exact h | exact h.1
        exact ⟨C.map AV.v, by rw [this]; rfl⟩
    obtain ⟨D, hD⟩ := hC
    show Trl Try.prog nro ((flatten (sub (bodyOf 12) [1, 1, 0, 1, 0, 0])).drop 3) (((alA (gi 1) .dead (gi 0) .dead (.v (.slice none 0 0)) (.lst 1 [gi n] .exact)).set 30 (.sl 4 0 1 cap)).set 3 (.sl 4 0 1 cap)) (hp (snB n ++ [(3, C.map AV.v)]) []) _
    rw [hD]
    refine Tr.keepL [0, 3, 6, 7] (by kernel_rfl) ?_
    exact Trl.of_code (known7 _) (neN7 (by kernel_rfl)) (al_r6 (.sl 4 0 1 cap) (snB n ++ [(3, gi n :: D)]) _) (holds_some ⟨trivial, 0, by omega, .inr ⟨rfl, cap, D, rfl, rfl⟩⟩) flatS7
  · refine Tr.of_flat (Trl.split 2 (Trl.of_code (known7 _) (neN7 (by kernel_rfl)) (al_hd (.sl 4 0 1 cap) 1 (snB n ++ [(3, gi n :: D)]) _) (holds_bif (fun h => absurd h (by decide)) fun _ => ⟨trivial, ?_⟩) flatS7))
    show Trl Try.prog nro ((flatten (bodyOf 12)).drop 4) (alA (gi 1) (.sl 4 0 1 cap) (gi 1) .dead .dead .dead) (hp (snB n ++ [(3, gi n :: D)]) []) _
    exact Trl.of_code (known7 _) (neN7 (by kernel_rfl)) (al_end cap (snB n ++ [(3, gi n :: D)]) _) (holds_some ⟨trivial, .inr rfl, trivial, cap, D, rfl, rfl⟩) flatS7
theorem keq_n (n : Int) : keq (.int .i64) (.int .i64 n) (.v (.int .i64 n)) = true := by simp [keq, Instr.sameNow]
theorem sn_sl : slotsOf 5 = 90 := by kernel_rfl
theorem sn_re : resultsOf 5 = [.tmp 2] := by kernel_rfl
theorem sn_7 : (flatten (bodyOf 5)).drop 7 = sub (bodyOf 5) [1, 1, 1, 1, 1, 1, 1, 0] :: (flatten (bodyOf 5)).drop 8 := by kernel_rfl
theorem sn_call : call3 (sub (bodyOf 5) [1, 1, 1, 1, 1, 1, 1, 0]) 12 5 21 22 7 := by
  refine ⟨_, _, _, _, rfl, ⟨rfl, rfl, rfl⟩, ⟨fun act => rfl, rfl, rfl⟩, rfl, rfl, rfl⟩
theorem fs_sn (n : Int) : Fs Try.prog nro 5 [gi n] (hp [] []) fun r _ => r = .v (.bool true) := by
  refine Fs.of_body (has_fn (by kernel_rfl)) ?_
  rw [sn_sl, sn_re]
  refine Tr.of_flat (Trl.split 7 (Trl.of_code (known7 _) (neN7 (by kernel_rfl)) (n_pre n _) (holds_some ⟨trivial, ?_⟩) flatS7))
  show Trl Try.prog nro ((flatten (bodyOf 5)).drop 7) (snA n .dead) (hp (snB n) []) _
  rw [sn_7]
  refine Tr.mono (tr_call3 named sn_call (x := .ptr 3 0) rfl (by show 21 < 90; decide) (by show 22 < 90; decide) (fs_all1 n)) ?_
  rintro e act h ⟨rfl, r, ⟨cap, D, rfl, rfl⟩, rfl⟩
  refine Tr.keepL [0, 3, 4, 5, 6, 7] (by kernel_rfl) ?_
  show Trl Try.prog nro ((flatten (bodyOf 5)).drop 8) (snA n (.sl 4 0 1 cap)) (hp (snB n ++ [(3, gi n :: D)]) []) _
  refine Trl.split 3 (Trl.of_code (known7 _) (neN7 (by kernel_rfl)) (n_mid n cap D _) (holds_some ⟨trivial, ?_⟩) flatS7)
  show Trl Try.prog nro ((flatten (bodyOf 5)).drop 11) (snA n .dead) (hp (snB n ++ [(3, gi (IntKind.wrap .i64 (n + 1)) :: D)]) []) _
  have tf := fun R => n_fin n (IntKind.wrap .i64 (n + 1)) D R
  have hk := keq_n n
  have hn : (n != n) = false := by simp
  simp only [hk, hn, cond_true, cond_false, Bool.true_or] at tf
  refine Trl.of_code known07 (neN7 (by kernel_rfl)) (tf _) (holds_some ⟨?_, .inr rfl, trivial, rfl⟩) flatS7
  refine cds_of trivial (fun _ => ?_)
  show shape1 Try.prog 3 (bif keq (.int .i64) (.int .i64 n) (.v (.int .i64 n)) then .v (.int .i64 0) else .dead) = true
  rw [hk]
  rfl
end Go.Proofs.Ytkpgldafkbhngaa.AE
