/-
  Layer 7: what the window's calls come to, over a window that is well made.
-/
import Derived.Test.YtkpgldafkbhngaaT07G
namespace Go.Proofs.Ytkpgldafkbhngaa.AE
open Go.RowKit
theorem x_nb (n o : Nat) (x : List Int) (id : Int) : wsx.nb (mcs n o x) id = decide (id ∉ x) := by
  show decide (id ∉ keysI (mcs n o x)) = _; rw [keys_mcs]
theorem x_no (n o : Nat) (x : List Int) (id : Int) : wsx.no n (o : Int) (mcs n o x) id = ((nO n o x id : Nat) : Int) := by
  show ((nO n (o : Int).toNat (keysI (mcs n o x)) id : Nat) : Int) = _; rw [keys_mcs, Int.toNat_natCast]
theorem x_nr (n o : Nat) (L x : List Int) (id : Int) : wsx.nr n (o : Int) (L.map gi) (mcs n o x) id = (nL n o L x id).map gi := by
  show (nL n (o : Int).toNat (rowI (L.map gi)) (keysI (mcs n o x)) id).map gi = _; rw [keys_mcs, Int.toNat_natCast, rowI_gi]
theorem x_nm (n o : Nat) (x : List Int) (id : Int) : wsx.nm n (o : Int) (mcs n o x) id = mcs n (nO n o x id) (noteL x n id) := by
  show mcs n (nO n (o : Int).toNat (keysI (mcs n o x)) id) (noteL (keysI (mcs n o x)) n id) = _; rw [keys_mcs, Int.toNat_natCast]
theorem x_all (n o : Nat) (x : List Int) : wsx.all (mcs n o x) = x := keys_mcs n x o
theorem x_has (n o : Nat) (x : List Int) (id : Int) : wsx.has (mcs n o x) id = decide (id ∈ x) := by
  show decide (id ∈ keysI (mcs n o x)) = _; rw [keys_mcs]
theorem x_len (n o : Nat) (x : List Int) : wsx.len (mcs n o x) = x.length := by
  show (keysI (mcs n o x)).length = _; rw [keys_mcs]
theorem x_ok {n o : Nat} {L x : List Int} (h : Win n o L x) : wsx.ok 42 3 n n (o : Int) (L.map gi) (mcs n o x) = true := wok_of h
theorem x_rn (x : List Int) (t : Tip) (m : Nat) (id : Int) : wsx.rn (.lst 1 (x.map gi) t) (.v (.int .i64 (m : Int))) (.v (.int .i64 id)) = noteL x m id := rnX_gi x t m id
theorem x_rb (x : List Int) (t : Tip) (id : Int) : wsx.rb (.lst 1 (x.map gi) t) (.v (.int .i64 id)) = decide (id ∉ x) := rnB_gi x t id
theorem x_rh (x : List Int) (t : Tip) (id : Int) : wsx.rh (.lst 1 (x.map gi) t) (.v (.int .i64 id)) = decide (id ∈ x) := rhX_gi x t id
theorem x_rh0 (id : Int) : wsx.rh (.v (.slice none 0 0)) (.v (.int .i64 id)) = decide (id ∈ ([] : List Int)) := rfl
theorem x_si (x y : List Int) (t u : Tip) : wsx.si (.lst 1 (x.map gi) t) (.lst 1 (y.map gi) u) = decide (x = y) := by
  show decide (intsY _ = intsY _) = _; rw [intsY_lst, intsY_lst]
theorem x_si0 (x : List Int) (t : Tip) : wsx.si (.lst 1 (x.map gi) t) (.v (.slice none 0 0)) = decide (x = []) := by
  show decide (intsY _ = intsY (.v (.slice none 0 0))) = _; rw [intsY_lst]; rfl
theorem x_all0 : wsx.all [] = [] := rfl
theorem x_has0 (id : Int) : wsx.has [] id = decide (id ∈ ([] : List Int)) := rfl
theorem x_len0 : wsx.len [] = 0 := rfl
theorem x_ok0 {n o : Nat} {L x : List Int} (h : Win n o L x) : wsx.ok 42 3 n n 0 (L.map gi) [] = true := wok_of h.clear
theorem sameIOk0 (l : List Int) (t : Tip) (h : l.length ≤ 1000000) : sameIOk [.lst 1 (l.map gi) t, .v (.slice none 0 0)] = true := by
  show ((match intsA? (.lst 1 (l.map gi) t) with | some l => decide (l.length ≤ 1000000) | none => false) && true) = true
  rw [intsA_lst]
  exact Bool.and_eq_true_iff.2 ⟨decide_eq_true h, rfl⟩
theorem rhOk0 (id : Int) : rhOk [.v (.slice none 0 0), .v (.int .i64 id)] = true := rfl
theorem ac_get {qs : List (Int × Int)} {i : Nat} (h : i < qs.length) : (qs.map acA).getD i .dead = acA qs[i] := by
  rw [List.getD_eq_getElem?_getD, List.getElem?_eq_getElem (by simpa using h), List.getElem_map]; rfl
theorem ac_el {qs : List (Int × Int)} {i : Nat} (h : i < qs.length) : (0 : Int) ≤ (i : Int) ∧ (qs.map acA)[i]? = some (.v (.agg #[.int .i64 qs[i].1, .int .i64 qs[i].2])) := by
  refine ⟨Int.natCast_nonneg _, ?_⟩
  rw [List.getElem?_eq_getElem (by simpa using h), List.getElem_map]; rfl
theorem acl (l : List (Int × Int)) : (l.map acA).length = l.length := List.length_map ..
theorem ac_k (a : Int × Int) : exInt (List.getD (AV.cells.match_1 (fun (_ : AV) => (List AV)) (acA a) (fun (cs : (Array Go.Value)) => (List.map AV.v (Array.toList cs))) (fun (cs : (List AV)) => cs) (fun (x : AV) => [x])) (0 : Nat) AV.dead) = a.1 := rfl
theorem ac_i (a : Int × Int) : exInt (List.getD (AV.cells.match_1 (fun (_ : AV) => (List AV)) (acA a) (fun (cs : (Array Go.Value)) => (List.map AV.v (Array.toList cs))) (fun (cs : (List AV)) => cs) (fun (x : AV) => [x])) (1 : Nat) AV.dead) = a.2 := rfl
theorem Le.nil1 : Le nilS (.lst 1 (([] : List Int).map gi) .no) := fun G W c h => by
  cases h
  exact .lst (cs := []) rfl .nil (fun x hx => by cases hx) ⟨by simp, fun hne => absurd rfl hne⟩ (Nat.le_refl _) (Nat.zero_le _) trivial
theorem sp_sl : slotsOf 3 = 107 := by kernel_rfl
theorem sp_re : resultsOf 3 = [.tmp 4] := by kernel_rfl
theorem sp_fl : (flatten (bodyOf 3)).drop 8 = .block 0 (.loop (sub (bodyOf 3) [1, 1, 1, 1, 1, 0, 1, 0, 0])) :: (flatten (bodyOf 3)).drop 9 := by kernel_rfl
end Go.Proofs.Ytkpgldafkbhngaa.AE
