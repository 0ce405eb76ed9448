
/-
  Layer 10: what the laws know, shown.
-/
import Derived.RowKit3
import Derived.Test.YtbfeoggdalepmaaMem
import Derived.Test.YtbfeoggdalepmaaAERng
import Derived.Test.YtbfeoggdalepmaaAEOwn
import Derived.Test.YtbfeoggdalepmaaAEObj
import Derived.Test.YtbfeoggdalepmaaAEFsIce
namespace Go.Proofs.Ytbfeoggdalepmaa
set_option maxRecDepth 100000
namespace Bd
/-- A number, kept from 0 to a most. -/
def kp (n m : Int) : Int := if n < 0 ∨ m < 0 then 0 else if m < n then m else n
def cMost : Int := 2147483647
def tMost : Int := 1099511627776
theorem kp_lo (n m : Int) : 0 ≤ kp n m := by unfold kp; split <;> (try split) <;> omega
theorem kp_hi (n m : Int) (h : 0 ≤ m) : kp n m ≤ m := by unfold kp; split <;> (try split) <;> omega
theorem kp_le (n m : Int) (h : 0 ≤ n) : kp n m ≤ n := by unfold kp; split <;> (try split) <;> omega
theorem kp_id (n m : Int) (h : 0 ≤ n) (h2 : n ≤ m) : kp n m = n := by unfold kp; split <;> (try split) <;> omega
theorem kp_big (n m : Int) (h : 0 ≤ m) (h2 : m ≤ n) : kp n m = m := by unfold kp; split <;> (try split) <;> omega
theorem kp_neg (n m : Int) (h : n ≤ 0) : kp n m = 0 := by unfold kp; split <;> (try split) <;> omega
theorem kp_mono (a b m : Int) (h : a ≤ b) : kp a m ≤ kp b m := by unfold kp; repeat' split <;> omega
theorem kc (n : Int) : 0 ≤ kp n cMost ∧ kp n cMost ≤ 2147483647 := ⟨kp_lo _ _, kp_hi _ _ (by decide)⟩
theorem kt (n : Int) : 0 ≤ kp n tMost ∧ kp n tMost ≤ 1099511627776 := ⟨kp_lo _ _, kp_hi _ _ (by decide)⟩
theorem kh (n : Int) : 0 ≤ kp n 100 ∧ kp n 100 ≤ 100 := ⟨kp_lo _ _, kp_hi _ _ (by decide)⟩
def addC (a b : Int) : Int := kp (kp a cMost + kp b cMost) cMost
def subC (a b : Int) : Int := kp (kp a cMost - kp b cMost) cMost
def mulC (a b : Int) : Int := kp (kp a cMost * kp b cMost) cMost
def divZ (a b : Int) : Int := if b = 0 then 0 else a / b
def meanC (a b : Int) : Int := divZ (kp a cMost) (kp b cMost)
def shareC (n p : Int) : Int := kp n cMost * kp p 100 / 100
def partC (n p : Int) : Int := (kp n cMost * kp p 100 + 99) / 100
def laterT (a b : Int) : Int := kp (kp a tMost + kp b tMost) tMost
def leftT (a b : Int) : Int := kp (kp a tMost - kp b tMost) tMost
theorem addC_comm (a b : Int) : addC a b = addC b a := by unfold addC; rw [Int.add_comm]
theorem mulC_comm (a b : Int) : mulC a b = mulC b a := by unfold mulC; rw [Int.mul_comm]
theorem prodC (a b : Int) : 0 ≤ kp a cMost * kp b cMost ∧ kp a cMost * kp b cMost ≤ 4611686014132420609 := by
  have h1 := kc a; have h2 := kc b
  exact ⟨Int.mul_nonneg h1.1 h2.1, Int.le_trans (Int.mul_le_mul h1.2 h2.2 h2.1 (by decide)) (by decide)⟩
theorem prodH (a b : Int) : 0 ≤ kp a cMost * kp b 100 ∧ kp a cMost * kp b 100 ≤ 214748364700 := by
  have h1 := kc a; have h2 := kh b
  exact ⟨Int.mul_nonneg h1.1 h2.1, Int.le_trans (Int.mul_le_mul h1.2 h2.2 h2.1 (by decide)) (by decide)⟩
theorem addC_b (a b : Int) : 0 ≤ addC a b ∧ addC a b ≤ 2147483647 := kc _
theorem subC_b (a b : Int) : 0 ≤ subC a b ∧ subC a b ≤ 2147483647 := kc _
theorem mulC_b (a b : Int) : 0 ≤ mulC a b ∧ mulC a b ≤ 2147483647 := kc _
theorem laterT_b (a b : Int) : 0 ≤ laterT a b ∧ laterT a b ≤ 1099511627776 := kt _
theorem leftT_b (a b : Int) : 0 ≤ leftT a b ∧ leftT a b ≤ 1099511627776 := kt _
theorem meanC_b (a b : Int) : 0 ≤ meanC a b ∧ meanC a b ≤ 2147483647 := by
  unfold meanC divZ
  have h1 := kc a; have h2 := kc b
  split
  · exact ⟨by decide, by decide⟩
  · exact ⟨Int.ediv_nonneg h1.1 h2.1, Int.le_trans (Int.ediv_le_self _ h1.1) h1.2⟩
theorem meanC_keep (a b : Int) : kp (meanC a b) cMost = meanC a b := kp_id _ _ (meanC_b a b).1 (meanC_b a b).2
theorem shareC_b (n p : Int) : 0 ≤ shareC n p ∧ shareC n p ≤ 2147483647 := by
  have := prodH n p; unfold shareC; omega
theorem partC_b (n p : Int) : 0 ≤ partC n p ∧ partC n p ≤ 2147483647 := by
  have := prodH n p; unfold partC; omega
theorem addC_id (a b : Int) (h1 : 0 ≤ a) (h2 : 0 ≤ b) (h : a + b ≤ 2147483647) : addC a b = a + b := by
  have e1 : kp a cMost = a := kp_id _ _ h1 (by unfold cMost; omega)
  have e2 : kp b cMost = b := kp_id _ _ h2 (by unfold cMost; omega)
  unfold addC; rw [e1, e2]; exact kp_id _ _ (by omega) (by unfold cMost; omega)
def sumC (l : List Int) : Int := l.foldl addC 0
theorem sumC_snoc (l : List Int) (k : Nat) (h : k < l.length) : sumC (l.take (k + 1)) = addC (sumC (l.take k)) l[k] := by
  unfold sumC
  rw [List.take_succ_eq_append_getElem h, List.foldl_append]
  simp
theorem share_part (n p : Int) : shareC n p + partC n (100 - kp p 100) = kp n cMost := by
  have h1 := kc n; have h2 := kh p
  have e : kp (100 - kp p 100) 100 = 100 - kp p 100 := kp_id _ _ (by omega) (by omega)
  have e2 : kp n cMost * (100 - kp p 100) = kp n cMost * 100 - kp n cMost * kp p 100 := Int.mul_sub _ _ _
  unfold shareC partC
  rw [e, e2]
  omega
theorem share_mono (n p q : Int) (h : kp p 100 ≤ kp q 100) : shareC n p ≤ shareC n q := by
  have h1 := kc n
  have := Int.mul_le_mul_of_nonneg_left h h1.1
  unfold shareC
  omega
end Bd
end Go.Proofs.Ytbfeoggdalepmaa
namespace Go.Proofs.Ytbfeoggdalepmaa
set_option maxRecDepth 100000
open Go.RowKit Bd
theorem clamp1_any (n m : Int) (a : Addr) (w : World) (hc : w.cell? a = some (.int .i64 m)) :
    Calls Try.prog 37 #[.int .i64 n, .pointer (some a)] w fun e w' => e = .returned (.int .i64 (kp n m)) ∧ w = w' := by
  go_enter Try.func37, Try.ntmps37
  go_wp2
  all_goals
    go_ret
    exact ⟨ret_int (by unfold kp; (repeat' split at *) <;> omega), rfl⟩

theorem clamp_any (m : Int) (w : World) :
    Calls Try.prog 35 #[.int .i64 m] w fun e w' => e = .returned (.func (.func 37) #[] #[.pointer (some ⟨w.heap.size, 0, none⟩)]) ∧ w.alloc (.cells #[.int .i64 m] 3) = w' := by
  have hmf := mf_any
  go_enter Try.func35, Try.ntmps35
  go_wp2
  go_ret
  exact ⟨rfl, rfl⟩

theorem keep_any (n m : Int) (w : World) :
    Calls Try.prog 27 #[.int .i64 n, .int .i64 m] w fun e w' => e = .returned (.int .i64 (kp n m)) ∧ Below w.heap.size w w' := by
  have hmf := mf_any
  go_enter Try.func27, Try.ntmps27
  go_wp2_with (first | (go_at_call 37; refine (clamp1_any _ m _ _ (by go_simp)).mono ?_; rintro e w' ⟨rfl, rfl⟩) | go_in)
  go_ret
  exact ⟨rfl, (Below.refl _ _).alloc (Nat.le_refl _) _⟩

theorem doAdd_any (a b : Int) (h1 : -1099511627776 ≤ a + b) (h2 : a + b ≤ 4611686014132420609) (w : World) :
    Calls Try.prog 34 #[.int .i64 a, .int .i64 b] w fun e w' => e = .returned (.int .i64 (a + b)) ∧ w = w' := by
  go_enter Try.func34, Try.ntmps34
  go_wp2
  go_ret
  exact ⟨rfl, rfl⟩
theorem pairAdd_any (a b : Int) (w : World) :
    Calls Try.prog 33 #[.int .i64 2147483647, .int .i64 a, .int .i64 b, .func (.func 34) #[] #[]] w fun e w' => e = .returned (.int .i64 (addC a b)) ∧ Below w.heap.size w w' := by
  have h1 := (kc a).1
  have h2 := (kc a).2
  have h3 := (kc b).1
  have h4 := (kc b).2
  go_enter Try.func33, Try.ntmps33
  go_wp2_with (first | (go_at_call 35; refine (clamp_any _ _).mono ?_; rintro e w' ⟨rfl, rfl⟩) | (go_at_call 37; refine (clamp1_any _ cMost _ _ (by go_simp; rfl)).mono ?_; rintro e w' ⟨rfl, rfl⟩) | (go_at_call 34; refine (doAdd_any _ _ (by omega) (by omega) _).mono ?_; rintro e w' ⟨rfl, rfl⟩))
  go_ret
  exact ⟨rfl, (Below.refl _ _).alloc (Nat.le_refl _) _⟩
theorem add_any (a b : Int) (w : World) :
    Calls Try.prog 26 #[.int .i64 a, .int .i64 b] w fun e w' => e = .returned (.int .i64 (addC a b)) ∧ Below w.heap.size w w' := by
  go_enter Try.func26, Try.ntmps26
  go_wp2_with (go_at_call 33; refine (pairAdd_any _ _ _).mono ?_; rintro e w' ⟨rfl, hb⟩)
  go_ret
  exact ⟨rfl, hb⟩



end Go.Proofs.Ytbfeoggdalepmaa
namespace Go.Proofs.Ytbfeoggdalepmaa
set_option maxRecDepth 100000
open Go.RowKit Bd
theorem rkeep_any (n m : Int) (w : World) :
    Calls Try.prog 32 #[.int .i64 n, .int .i64 m] w fun e w' => e = .returned (.int .i64 (kp n m)) ∧ w = w' := by
  go_enter Try.func32, Try.ntmps32
  go_wp2
  all_goals
    go_ret
    exact ⟨ret_int (by unfold kp; (repeat' split at *) <;> omega), rfl⟩
theorem rcount_any (n : Int) (w : World) :
    Calls Try.prog 23 #[.int .i64 n] w fun e w' => e = .returned (.int .i64 (kp n cMost)) ∧ w = w' := by
  go_enter Try.func23, Try.ntmps23
  go_wp2_with (go_at_call 32; refine (rkeep_any _ cMost _).mono ?_; rintro e w' ⟨rfl, rfl⟩)
  go_ret
  exact ⟨rfl, rfl⟩
theorem radd_any (a b : Int) (w : World) :
    Calls Try.prog 24 #[.int .i64 a, .int .i64 b] w fun e w' => e = .returned (.int .i64 (addC a b)) ∧ w = w' := by
  have h1 := (kc a).1
  have h2 := (kc a).2
  have h3 := (kc b).1
  have h4 := (kc b).2
  go_enter Try.func24, Try.ntmps24
  go_wp2_with (go_at_call 23; refine (rcount_any _ _).mono ?_; rintro e w' ⟨rfl, rfl⟩)
  go_ret
  exact ⟨rfl, rfl⟩
theorem rsame_eq (a b : Option Addr) (cap cap' : Nat) (zs : List Int) (w : World) (hz : Ints w .i64 a zs) (hz' : Ints w .i64 b zs) (hl : zs.length ≤ 9223372036854775807) :
    Calls Try.prog 20 #[.slice a zs.length cap, .slice b zs.length cap'] w fun e w' => e = .returned (.bool true) ∧ Below w.heap.size w w' := by
  have HZ := Lib.hid hz
  have HZ' := Lib.hid hz'
  clear hz hz'
  go_enter Try.func20, Try.ntmps20
  go_wp2_with fail
  go_loopw [5] (fun i wr => ∃ k : Nat, k ≤ zs.length ∧ i = .int .i64 k ∧ Below w.heap.size w wr) (fun i _ => zs.length - (intOf i).toNat)
  case atStart => exact ⟨0, Nat.zero_le _, rfl, Below.refl _ _⟩
  case round =>
    obtain ⟨k, hk, rfl, hb⟩ := hrel
    by_cases hlt : k < zs.length
    · obtain ⟨b1, off1, ha1, hc1⟩ := (HZ.out.below hb).get hlt
      obtain ⟨b2, off2, ha2, hc2⟩ := (HZ'.out.below hb).get hlt
      subst ha1
      subst ha2
      have Hb := Lib.hid hb
      clear hb
      go_wp2_with fail
      go_quiet (fail)
      go_wp2_with fail
      go_roundw
      case rel => exact ⟨k + 1, by omega, by go_num, bl_drewN Hb.out _⟩
      case measure => simp [intOf]; omega
    · go_wp2_with fail
      go_ret
      exact ⟨rfl, hb⟩
end Go.Proofs.Ytbfeoggdalepmaa
namespace Go.Proofs.Ytbfeoggdalepmaa.AE
set_option maxRecDepth 100000
open Go.RowKit
/-- What the calls answer; a variable in the trees. -/
structure BS where
  add : Int → Int → Int
  kp : Int → Int → Int
  ct : Int → Int
def adP (S : BS) : List Value → Option (Value × Bool) := fun us => match us with
  | [.int .i64 a, .int .i64 b] => some (.int .i64 (S.add a b), true)
  | _ => none
def kpP (S : BS) : List Value → Option (Value × Bool) := fun us => match us with
  | [.int .i64 a, .int .i64 b] => some (.int .i64 (S.kp a b), true)
  | _ => none
def ctP (S : BS) : List Value → Option (Value × Bool) := fun us => match us with
  | [.int .i64 a] => some (.int .i64 (S.ct a), true)
  | _ => none
noncomputable def prN (S : BS) : FuncId → Option (List AV → AH → Ans) := fun g => match g with
  | 26 => some (pure? (adP S))
  | 27 => some (pure? (kpP S))
  | 24 => some (pure? (adP S))
  | 32 => some (pure? (kpP S))
  | 23 => some (pure? (ctP S))
  | _ => none
def bsX : BS := ⟨Bd.addC, Bd.kp, fun n => Bd.kp n Bd.cMost⟩
theorem badd_ok {ro : Nat → Option (List Value)} : ∀ args H r H', pure? (adP bsX) args H = some (r, H') → HSound1 Try.prog ro 26 args H r H' := by
  refine pure_of_calls (has_fn (by kernel_rfl)) fun us c h W _ => ?_
  unfold adP at h
  split at h
  · simp only [Option.some.injEq, Prod.mk.injEq, and_true] at h
    subst h
    refine (add_any _ _ W).mono ?_
    rintro e W' ⟨rfl, hb⟩
    exact ⟨rfl, hb⟩
  · cases h
theorem bkeep_ok {ro : Nat → Option (List Value)} : ∀ args H r H', pure? (kpP bsX) args H = some (r, H') → HSound1 Try.prog ro 27 args H r H' := by
  refine pure_of_calls (has_fn (by kernel_rfl)) fun us c h W _ => ?_
  unfold kpP at h
  split at h
  · simp only [Option.some.injEq, Prod.mk.injEq, and_true] at h
    subst h
    refine (keep_any _ _ W).mono ?_
    rintro e W' ⟨rfl, hb⟩
    exact ⟨rfl, hb⟩
  · cases h
theorem radd_ok {ro : Nat → Option (List Value)} : ∀ args H r H', pure? (adP bsX) args H = some (r, H') → HSound1 Try.prog ro 24 args H r H' := by
  refine pure_of_calls (has_fn (by kernel_rfl)) fun us c h W _ => ?_
  unfold adP at h
  split at h
  · simp only [Option.some.injEq, Prod.mk.injEq, and_true] at h
    subst h
    refine (radd_any _ _ W).mono ?_
    rintro e W' ⟨rfl, rfl⟩
    exact ⟨rfl, Below.refl _ _⟩
  · cases h
theorem rkeep_ok {ro : Nat → Option (List Value)} : ∀ args H r H', pure? (kpP bsX) args H = some (r, H') → HSound1 Try.prog ro 32 args H r H' := by
  refine pure_of_calls (has_fn (by kernel_rfl)) fun us c h W _ => ?_
  unfold kpP at h
  split at h
  · simp only [Option.some.injEq, Prod.mk.injEq, and_true] at h
    subst h
    refine (rkeep_any _ _ W).mono ?_
    rintro e W' ⟨rfl, rfl⟩
    exact ⟨rfl, Below.refl _ _⟩
  · cases h
theorem rcount_ok {ro : Nat → Option (List Value)} : ∀ args H r H', pure? (ctP bsX) args H = some (r, H') → HSound1 Try.prog ro 23 args H r H' := by
  refine pure_of_calls (has_fn (by kernel_rfl)) fun us c h W _ => ?_
  unfold ctP at h
  split at h
  · simp only [Option.some.injEq, Prod.mk.injEq, and_true] at h
    subst h
    refine (rcount_any _ W).mono ?_
    rintro e W' ⟨rfl, rfl⟩
    exact ⟨rfl, Below.refl _ _⟩
  · cases h
theorem knownN {ro : Nat → Option (List Value)} : Known ro (prN bsX) := by
  intro g p h
  unfold prN at h
  split at h <;> cases h
  · exact badd_ok
  · exact bkeep_ok
  · exact radd_ok
  · exact rkeep_ok
  · exact rcount_ok
theorem neN {l : List Code} (h : l.isEmpty = false) : l ≠ [] := by intro e; rw [e] at h; cases h
def mu0 : FuncId → Bool := fun _ => false
def ded (n : Nat) : List AV := List.replicate n .dead
def und (n : Nat) : List AV := List.replicate n (.v undef)
/-- A histogram's block: as many counts as there may be, and how many there are. -/
def hL (x : List Int) : List Int := x ++ List.replicate (128 - x.length) 0 ++ [(x.length : Int)]
def hC (x : List Int) : List AV := (hL x).map gi
theorem hL_len {x : List Int} (h : x.length ≤ 128) : (hL x).length = 129 := by unfold hL; simp; omega
theorem one_at {L : List Int} {k : Nat} (h : k < L.length) : ((L.map gi).drop k).take 1 = [gi (exInt ((L.map gi).getD k .dead))] := by
  rw [List.drop_eq_getElem_cons (by simpa using h), List.take_succ_cons, List.take_zero, List.getD_eq_getElem?_getD, List.getElem?_eq_getElem (by simpa using h), List.getElem_map]
  rfl
/-- How many there are below a threshold, by the block's cells. -/
def belC (S : BS) (C : List AV) : Nat → Int
  | 0 => 0
  | t + 1 => S.add (belC S C t) (exInt (C.getD t .dead))
def lvC (C : List AV) : Int := exInt (C.getD 128 .dead)
abbrev yld (l : Nat) : AV := .v (.func (.yield l) #[] #[])
end Go.Proofs.Ytbfeoggdalepmaa.AE
namespace Go.Proofs.Ytbfeoggdalepmaa.AE
set_option maxRecDepth 100000
open Go.RowKit
def suH (C : List AV) : AH := hp [(48, C), (24, [.pi 0 0])] []
def suA (l : Nat) (b t : Int) : List AV := [yld l, .ptr 1 0, .dead, gi b, gi t] ++ ded 29
def suB (l : Nat) (b t : Int) (z : Bool) : List AV := [yld l, .ptr 1 0, .dead, gi b, gi t] ++ ded 14 ++ [.v (.bool z)] ++ ded 14
theorem su_pre (S : BS) (l : Nat) (C : List AV) (R : Exit → List AV → AH → Prop) : codeL nro mu0 (prN S) 10 ((flatten (bodyOf 36)).take 4) ([yld l, .ptr 1 0] ++ und 32) (suH C) (kp [0, 1, 3, 4] R) =
    (some (True ∧ (R Exit.normal [(AV.v (Value.func (Go.Fn.yield l) (Array.mk (@List.nil Go.Value)) (Array.mk (@List.nil Go.Value)))), (AV.ptr (1 : Nat) (0 : Nat)), AV.dead, (AV.v (Value.int IntKind.i64 (0 : Int))), (AV.v (Value.int IntKind.i64 (0 : Int))), AV.dead, AV.dead, AV.dead, AV.dead, AV.dead, AV.dead, AV.dead, AV.dead, AV.dead, AV.dead, AV.dead, AV.dead, AV.dead, AV.dead, AV.dead, AV.dead, AV.dead, AV.dead, AV.dead, AV.dead, AV.dead, AV.dead, AV.dead, AV.dead, AV.dead, AV.dead, AV.dead, AV.dead, AV.dead] (AH.mk [((48 : Nat), C), ((24 : Nat), [(AV.pi (0 : Nat) (0 : Nat))])] (@List.nil Nat) (0 : Nat) (0 : Nat) true (@List.nil (Prod Nat Bool)) True)))) := by kernel_rfl
theorem su_h (S : BS) (l : Nat) (C : List AV) (b t : Int) (R : Exit → List AV → AH → Prop) : codeL nro mu0 (prN S) 10 ((flatten (sub (bodyOf 36) [1, 1, 1, 0, 0])).take 2) (suA l b t) (suH C) (kp [0, 1, 3, 4] R) =
    (bif (decide (t ≤ (exInt (List.getD C (128 : Nat) AV.dead)))) then (some ((cds True (shapes Try.prog (List.take (1 : Nat) (List.drop (128 : Nat) C)) [(3 : Nat)]) ((List.take (1 : Nat) (List.drop (128 : Nat) C)) = [(AV.v (Value.int IntKind.i64 (exInt (List.getD C (128 : Nat) AV.dead))))])) ∧ (R Exit.normal [(AV.v (Value.func (Go.Fn.yield l) (Array.mk (@List.nil Go.Value)) (Array.mk (@List.nil Go.Value)))), (AV.ptr (1 : Nat) (0 : Nat)), AV.dead, (AV.v (Value.int IntKind.i64 b)), (AV.v (Value.int IntKind.i64 t)), AV.dead, AV.dead, AV.dead, AV.dead, AV.dead, AV.dead, AV.dead, AV.dead, AV.dead, AV.dead, AV.dead, AV.dead, AV.dead, AV.dead, AV.dead, AV.dead, AV.dead, AV.dead, AV.dead, AV.dead, AV.dead, AV.dead, AV.dead, AV.dead, AV.dead, AV.dead, AV.dead, AV.dead, AV.dead] (AH.mk [((48 : Nat), C), ((24 : Nat), [(AV.pi (0 : Nat) (0 : Nat))])] (@List.nil Nat) (0 : Nat) (0 : Nat) true (@List.nil (Prod Nat Bool)) True)))) else (some ((cds True (shapes Try.prog (List.take (1 : Nat) (List.drop (128 : Nat) C)) [(3 : Nat)]) ((List.take (1 : Nat) (List.drop (128 : Nat) C)) = [(AV.v (Value.int IntKind.i64 (exInt (List.getD C (128 : Nat) AV.dead))))])) ∧ (R (Exit.exit (0 : Nat)) [(AV.v (Value.func (Go.Fn.yield l) (Array.mk (@List.nil Go.Value)) (Array.mk (@List.nil Go.Value)))), (AV.ptr (1 : Nat) (0 : Nat)), AV.dead, (AV.v (Value.int IntKind.i64 b)), (AV.v (Value.int IntKind.i64 t)), AV.dead, AV.dead, AV.dead, AV.dead, AV.dead, AV.dead, AV.dead, AV.dead, AV.dead, AV.dead, AV.dead, AV.dead, AV.dead, AV.dead, AV.dead, AV.dead, AV.dead, AV.dead, AV.dead, AV.dead, AV.dead, AV.dead, AV.dead, AV.dead, AV.dead, AV.dead, AV.dead, AV.dead, AV.dead] (AH.mk [((48 : Nat), C), ((24 : Nat), [(AV.pi (0 : Nat) (0 : Nat))])] (@List.nil Nat) (0 : Nat) (0 : Nat) true (@List.nil (Prod Nat Bool)) True))))) := by kernel_rfl
theorem su_y1 (S : BS) (l : Nat) (C : List AV) (b t : Int) (R : List AV → AH → Prop) : codeO nro mu0 (prN S) 10 (osOf (sub (bodyOf 36) [1, 1, 1, 0, 0, 1, 0, 0, 0, 0])) ((osOf (sub (bodyOf 36) [1, 1, 1, 0, 0, 1, 0, 0, 0, 0])).toList.take 3) (suA l b t) (suH C) (kp [0, 1, 3, 4, 15, 16, 17] (onN R)) =
    (some (True ∧ (R [(AV.v (Value.func (Go.Fn.yield l) (Array.mk (@List.nil Go.Value)) (Array.mk (@List.nil Go.Value)))), (AV.ptr (1 : Nat) (0 : Nat)), AV.dead, (AV.v (Value.int IntKind.i64 b)), (AV.v (Value.int IntKind.i64 t)), AV.dead, AV.dead, AV.dead, AV.dead, AV.dead, AV.dead, AV.dead, AV.dead, AV.dead, AV.dead, (AV.v (Value.func (Go.Fn.yield l) (Array.mk (@List.nil Go.Value)) (Array.mk (@List.nil Go.Value)))), (AV.v (Value.int IntKind.i64 t)), (AV.v (Value.int IntKind.i64 b)), AV.dead, AV.dead, AV.dead, AV.dead, AV.dead, AV.dead, AV.dead, AV.dead, AV.dead, AV.dead, AV.dead, AV.dead, AV.dead, AV.dead, AV.dead, AV.dead] (AH.mk [((48 : Nat), C), ((24 : Nat), [(AV.pi (0 : Nat) (0 : Nat))])] (@List.nil Nat) (0 : Nat) (0 : Nat) true (@List.nil (Prod Nat Bool)) True)))) := by kernel_rfl
def suY (l : Nat) (b t : Int) (z : Bool) : List AV := [yld l, .ptr 1 0, .dead, gi b, gi t] ++ ded 10 ++ [yld l, gi t, gi b, .v (.bool z)] ++ ded 15
theorem su_y2 (S : BS) (l : Nat) (C : List AV) (b t : Int) (z : Bool) (R : List AV → AH → Prop) : codeO nro mu0 (prN S) 10 (osOf (sub (bodyOf 36) [1, 1, 1, 0, 0, 1, 0, 0, 0, 0])) ((osOf (sub (bodyOf 36) [1, 1, 1, 0, 0, 1, 0, 0, 0, 0])).toList.drop 4) (suY l b t z) (suH C) (kp [0, 1, 3, 4, 19] (onN R)) =
    (some (True ∧ (R [(AV.v (Value.func (Go.Fn.yield l) (Array.mk (@List.nil Go.Value)) (Array.mk (@List.nil Go.Value)))), (AV.ptr (1 : Nat) (0 : Nat)), AV.dead, (AV.v (Value.int IntKind.i64 b)), (AV.v (Value.int IntKind.i64 t)), AV.dead, AV.dead, AV.dead, AV.dead, AV.dead, AV.dead, AV.dead, AV.dead, AV.dead, AV.dead, AV.dead, AV.dead, AV.dead, AV.dead, (AV.v (Value.bool (!z))), AV.dead, AV.dead, AV.dead, AV.dead, AV.dead, AV.dead, AV.dead, AV.dead, AV.dead, AV.dead, AV.dead, AV.dead, AV.dead, AV.dead] (AH.mk [((48 : Nat), C), ((24 : Nat), [(AV.pi (0 : Nat) (0 : Nat))])] (@List.nil Nat) (0 : Nat) (0 : Nat) true (@List.nil (Prod Nat Bool)) True)))) := by kernel_rfl
theorem su_n0 (S : BS) (l : Nat) (C : List AV) (b t : Int) (R : Exit → List AV → AH → Prop) : codeL nro mu0 (prN S) 10 ((flatten (sub (bodyOf 36) [1, 1, 1, 0, 0, 1, 0, 0])).drop 1) (suB l b t false) (suH C) (kp [0, 1, 3, 4] R) =
    (bif (decide (t < (exInt (List.getD C (128 : Nat) AV.dead)))) then (some ((cds (cdb (cds True (shapes Try.prog (List.take (1 : Nat) (List.drop (128 : Nat) C)) [(3 : Nat)]) ((List.take (1 : Nat) (List.drop (128 : Nat) C)) = [(AV.v (Value.int IntKind.i64 (exInt (List.getD C (128 : Nat) AV.dead))))])) (decide (((0 : Int) ≤ t) ∧ (t < (128 : Int))))) (shapes Try.prog (List.take (1 : Nat) (List.drop ((0 : Nat) + ((Int.toNat t) * (1 : Nat))) C)) [(3 : Nat)]) ((List.take (1 : Nat) (List.drop ((0 : Nat) + ((Int.toNat t) * (1 : Nat))) C)) = [(AV.v (Value.int IntKind.i64 (exInt (List.getD C (((0 : Nat) + ((Int.toNat t) * (1 : Nat))) + (0 : Nat)) AV.dead))))])) ∧ (R Exit.normal [(AV.v (Value.func (Go.Fn.yield l) (Array.mk (@List.nil Go.Value)) (Array.mk (@List.nil Go.Value)))), (AV.ptr (1 : Nat) (0 : Nat)), AV.dead, (AV.v (Value.int IntKind.i64 ((S).1 b (exInt (List.getD C (((0 : Nat) + ((Int.toNat t) * (1 : Nat))) + (0 : Nat)) AV.dead))))), (AV.v (Value.int IntKind.i64 t)), AV.dead, AV.dead, AV.dead, AV.dead, AV.dead, AV.dead, AV.dead, AV.dead, AV.dead, AV.dead, AV.dead, AV.dead, AV.dead, AV.dead, AV.dead, AV.dead, AV.dead, AV.dead, AV.dead, AV.dead, AV.dead, AV.dead, AV.dead, AV.dead, AV.dead, AV.dead, AV.dead, AV.dead, AV.dead] (AH.mk [((48 : Nat), C), ((24 : Nat), [(AV.pi (0 : Nat) (0 : Nat))])] (@List.nil Nat) (0 : Nat) (0 : Nat) true (@List.nil (Prod Nat Bool)) True)))) else (some ((cds True (shapes Try.prog (List.take (1 : Nat) (List.drop (128 : Nat) C)) [(3 : Nat)]) ((List.take (1 : Nat) (List.drop (128 : Nat) C)) = [(AV.v (Value.int IntKind.i64 (exInt (List.getD C (128 : Nat) AV.dead))))])) ∧ (R Exit.normal [(AV.v (Value.func (Go.Fn.yield l) (Array.mk (@List.nil Go.Value)) (Array.mk (@List.nil Go.Value)))), (AV.ptr (1 : Nat) (0 : Nat)), AV.dead, (AV.v (Value.int IntKind.i64 b)), (AV.v (Value.int IntKind.i64 t)), AV.dead, AV.dead, AV.dead, AV.dead, AV.dead, AV.dead, AV.dead, AV.dead, AV.dead, AV.dead, AV.dead, AV.dead, AV.dead, AV.dead, AV.dead, AV.dead, AV.dead, AV.dead, AV.dead, AV.dead, AV.dead, AV.dead, AV.dead, AV.dead, AV.dead, AV.dead, AV.dead, AV.dead, AV.dead] (AH.mk [((48 : Nat), C), ((24 : Nat), [(AV.pi (0 : Nat) (0 : Nat))])] (@List.nil Nat) (0 : Nat) (0 : Nat) true (@List.nil (Prod Nat Bool)) True))))) := by kernel_rfl
theorem su_n1 (S : BS) (l : Nat) (C : List AV) (b t : Int) (R : Exit → List AV → AH → Prop) : codeL nro mu0 (prN S) 10 ((flatten (sub (bodyOf 36) [1, 1, 1, 0, 0, 1, 0, 0])).drop 1) (suB l b t true) (suH C) (kp [0, 1, 3, 4] R) =
    (some (True ∧ (R Exit.ret [(AV.v (Value.func (Go.Fn.yield l) (Array.mk (@List.nil Go.Value)) (Array.mk (@List.nil Go.Value)))), (AV.ptr (1 : Nat) (0 : Nat)), AV.dead, (AV.v (Value.int IntKind.i64 b)), (AV.v (Value.int IntKind.i64 t)), AV.dead, AV.dead, AV.dead, AV.dead, AV.dead, AV.dead, AV.dead, AV.dead, AV.dead, AV.dead, AV.dead, AV.dead, AV.dead, AV.dead, AV.dead, AV.dead, AV.dead, AV.dead, AV.dead, AV.dead, AV.dead, AV.dead, AV.dead, AV.dead, AV.dead, AV.dead, AV.dead, AV.dead, AV.dead] (AH.mk [((48 : Nat), C), ((24 : Nat), [(AV.pi (0 : Nat) (0 : Nat))])] (@List.nil Nat) (0 : Nat) (0 : Nat) true (@List.nil (Prod Nat Bool)) True)))) := by kernel_rfl
theorem su_i (S : BS) (l : Nat) (C : List AV) (b t : Int) (R : Exit → List AV → AH → Prop) : codeL nro mu0 (prN S) 10 ((flatten (sub (bodyOf 36) [1, 1, 1, 0, 0])).drop 3) (suA l b t) (suH C) (kp [0, 1, 3, 4] R) =
    (some (True ∧ (R Exit.normal [(AV.v (Value.func (Go.Fn.yield l) (Array.mk (@List.nil Go.Value)) (Array.mk (@List.nil Go.Value)))), (AV.ptr (1 : Nat) (0 : Nat)), AV.dead, (AV.v (Value.int IntKind.i64 b)), (AV.v (Value.int IntKind.i64 (IntKind.wrap IntKind.i64 (t + (1 : Int))))), AV.dead, AV.dead, AV.dead, AV.dead, AV.dead, AV.dead, AV.dead, AV.dead, AV.dead, AV.dead, AV.dead, AV.dead, AV.dead, AV.dead, AV.dead, AV.dead, AV.dead, AV.dead, AV.dead, AV.dead, AV.dead, AV.dead, AV.dead, AV.dead, AV.dead, AV.dead, AV.dead, AV.dead, AV.dead] (AH.mk [((48 : Nat), C), ((24 : Nat), [(AV.pi (0 : Nat) (0 : Nat))])] (@List.nil Nat) (0 : Nat) (0 : Nat) true (@List.nil (Prod Nat Bool)) True)))) := by kernel_rfl
end Go.Proofs.Ytbfeoggdalepmaa.AE
namespace Go.Proofs.Ytbfeoggdalepmaa.AE
set_option maxRecDepth 100000
open Go.RowKit
theorem opt_map {α β : Type} {x : Option α} {f : α → β} {b : β} (h : x.map f = some b) : ∃ a, x = some a ∧ f a = b := by
  cases x with
  | none => cases h
  | some a => exact ⟨a, rfl, by simpa using h⟩
def ysH (S : BS) (x : List Int) : List (List Value) := (List.range (x.length + 1)).map fun (t : Nat) => [.int .i64 (t : Int), .int .i64 (belC S (hC x) t)]
theorem ysH_len (S : BS) (x : List Int) : (ysH S x).length = x.length + 1 := by unfold ysH; simp
theorem ysH_take (S : BS) (x : List Int) {t : Nat} (h : t < x.length + 1) : (ysH S x).take (t + 1) = (ysH S x).take t ++ [[.int .i64 (t : Int), .int .i64 (belC S (hC x) t)]] := by
  have hl : t < (ysH S x).length := by rw [ysH_len]; exact h
  rw [List.take_succ_eq_append_getElem hl]
  congr 2
  simp [ysH]
theorem hC_128 (x : List Int) (h : x.length ≤ 128) : exInt ((hC x).getD 128 .dead) = x.length := by
  have h1 : (hC x)[128]? = some (gi (x.length : Int)) := by
    unfold hC hL
    rw [List.getElem?_map, List.getElem?_append_right (by simp; omega)]
    simp
    exact ⟨_, by rw [show 128 - (x.length + (128 - x.length)) = 0 by omega]; rfl, rfl⟩
  rw [List.getD_eq_getElem?_getD, h1]; rfl
theorem hC_rig (x : List Int) : (hC x).all rig = true := by
  rw [List.all_eq_true]
  intro y hy
  obtain ⟨n, _, rfl⟩ := List.mem_map.1 hy
  rfl
theorem suH_rig (x : List Int) : ((suH (hC x)).blks.take 2).all rigB = true := by
  show (rigB (_, hC x) && (rigB (_, [.pi 0 0]) && true)) = true
  have : rigB (48, hC x) = true := by
    unfold rigB
    simp only [hC_rig]
    rfl
  rw [this]; rfl
theorem su_sl : slotsOf 36 = 34 := by kernel_rfl
theorem su_re : resultsOf 36 = [] := by kernel_rfl
theorem su_fl : (flatten (bodyOf 36)).drop 4 = [.block 0 (.loop (sub (bodyOf 36) [1, 1, 1, 0, 0]))] := by kernel_rfl
theorem su_f2 : (flatten (sub (bodyOf 36) [1, 1, 1, 0, 0])).drop 2 = [.block 1 (sub (bodyOf 36) [1, 1, 1, 0, 0, 1, 0, 0])] ++ (flatten (sub (bodyOf 36) [1, 1, 1, 0, 0])).drop 3 := by kernel_rfl
theorem su_f3 : flatten (sub (bodyOf 36) [1, 1, 1, 0, 0, 1, 0, 0]) = [.region 5 (osOf (sub (bodyOf 36) [1, 1, 1, 0, 0, 1, 0, 0, 0, 0])) false] ++ (flatten (sub (bodyOf 36) [1, 1, 1, 0, 0, 1, 0, 0])).drop 1 := by kernel_rfl
theorem su_o : ((osOf (sub (bodyOf 36) [1, 1, 1, 0, 0, 1, 0, 0, 0, 0])).toList[3]?).map (fun o => (yop o, o.guard)) = some (some (.tmp 15, [.tmp 16, .tmp 17], some 18), none) := by kernel_rfl
theorem gd_none {os : Array Oper} {act : List AV} {o : Oper} (h : o.guard = none) : gd os act o = .yes := by unfold gd; rw [h]
theorem shape_any {C : List AV} {L : List Int} (hC : C = L.map gi) {k : Nat} (h : k < L.length) : (C.drop k).take 1 = [gi (exInt (C.getD k .dead))] := by rw [hC]; exact one_at h
theorem su_ok (S : BS) (hp : Known nro (prN S)) (x : List Int) (hx : x.length ≤ 128) : ItOk Try.prog nro 36 [.ptr 1 0] (suH (hC x)) 2 (ysH S x) := by
  refine ItOk.of_body (has_fn (by kernel_rfl)) su_re fun l => ?_
  rw [su_sl]
  show TrY Try.prog nro l 2 (ysH S x) _ ([yld l, .ptr 1 0] ++ und 32) _ _ _ _
  have hr := suH_rig x
  have h128 : (128 : Nat) < (hL x).length := by rw [hL_len hx]; omega
  have c128 := shape_any (C := hC x) rfl h128
  refine TrY.of_parts (TrYs.split 4 (TrYs.of_trl hr (Trl.of_code hp (neN (by kernel_rfl)) (su_pre S l (hC x) _) ?_)))
  refine holds_some ⟨trivial, rfl, ?_⟩
  show TrYs Try.prog nro l 2 (ysH S x) ((flatten (bodyOf 36)).drop 4) (suA l 0 0) (suH (hC x)) [] false _
  rw [su_fl]
  refine TrYs.one (TrY.block (TrY.loop (fun m act H pre st => ∃ t : Nat, t ≤ x.length + 1 ∧ m = x.length + 1 - t ∧ act = suA l (belC S (hC x) (min t x.length)) t ∧ H = suH (hC x) ∧ pre = (ysH S x).take t ∧ st = false) ?_ ⟨0, by omega, rfl, by simp [belC], rfl, rfl, rfl⟩))
  rintro m act H pre st ⟨t, ht, rfl, rfl, rfl, rfl, rfl⟩
  refine TrY.of_parts (TrYs.split 2 (TrYs.of_trl hr (Trl.of_code hp (neN (by kernel_rfl)) (su_h S l (hC x) _ _ _) ?_)))
  rw [hC_128 x hx]
  refine holds_bif (fun h => ?_) (fun h => ?_)
  · have h : t ≤ x.length := by have := of_decide_eq_true h; omega
    rw [Nat.min_eq_left h]
    refine holds_some ⟨cds_of trivial (by rw [← hC_128 x hx]; exact c128), rfl, ?_⟩
    show TrYs Try.prog nro l 2 (ysH S x) ((flatten (sub (bodyOf 36) [1, 1, 1, 0, 0])).drop 2) (suA l (belC S (hC x) t) t) (suH (hC x)) ((ysH S x).take t) false _
    rw [su_f2]
    refine TrYs.append (TrYs.one (TrY.block (TrY.of_parts ?_)))
    rw [su_f3]
    refine TrYs.append (TrYs.one ?_)
    obtain ⟨o, ho, ho2⟩ := opt_map su_o
    have hy : yop o = some (.tmp 15, [.tmp 16, .tmp 17], some 18) := congrArg Prod.fst ho2
    have hg : o.guard = none := congrArg Prod.snd ho2
    refine TrY.yield 3 ho hy hr (TrO.of_code hp (by kernel_rfl) (su_y1 S l (hC x) _ _ _) ?_)
    refine holds_some ⟨trivial, rfl, .inl ⟨0, true, .inl (gd_none hg), rfl, [.int .i64 (t : Int), .int .i64 (belC S (hC x) t)], rfl, ?_, fun b => ?_⟩⟩
    · rw [← ysH_take S x (by omega)]; exact List.take_prefix _ _
    refine TrO.of_code hp (by kernel_rfl) (su_y2 S l (hC x) _ _ b _) ?_
    refine holds_some ⟨trivial, rfl, ?_⟩
    rw [← ysH_take S x (by omega)]
    cases b with
    | false =>
      refine TrYs.of_trl hr (Trl.of_code hp (neN (by kernel_rfl)) (su_n1 S l (hC x) _ _ _) ?_)
      exact holds_some ⟨trivial, rfl, .inr rfl, .inl rfl⟩
    | true =>
      refine TrYs.of_trl hr (Trl.of_code hp (neN (by kernel_rfl)) (su_n0 S l (hC x) _ _ _) ?_)
      have next : ∀ b, b = belC S (hC x) (min (t + 1) x.length) → TrYs Try.prog nro l 2 (ysH S x) ((flatten (sub (bodyOf 36) [1, 1, 1, 0, 0])).drop 3) (suA l b t) (suH (hC x)) ((ysH S x).take (t + 1)) false (fun e a h p s => match e with
          | .normal => ∃ m', m' < x.length + 1 - t ∧ ∃ t : Nat, t ≤ x.length + 1 ∧ m' = x.length + 1 - t ∧ a = suA l (belC S (hC x) (min t x.length)) t ∧ h = suH (hC x) ∧ p = (ysH S x).take t ∧ s = false
          | e => leaveY 0 (fun e _ _ p s => (e = .normal ∨ e = .ret) ∧ (s = true ∨ p = ysH S x)) e a h p s) := fun b hb => by
        subst hb
        refine TrYs.of_trl hr (Trl.of_code hp (neN (by kernel_rfl)) (su_i S l (hC x) _ _ _) ?_)
        refine holds_some ⟨trivial, rfl, x.length + 1 - (t + 1), by omega, t + 1, by omega, rfl, ?_, rfl, rfl, rfl⟩
        rw [inc64 t (by omega)]; rfl
      rw [hC_128 x hx]
      refine holds_bif (fun h => ?_) (fun h => ?_)
      · have h : t < x.length := by have := of_decide_eq_true h; omega
        have e1 : (0 : Nat) + Int.toNat (t : Int) * 1 = t := by omega
        rw [e1]
        refine holds_some ⟨cds_of (cdb_iff.2 ⟨cds_of trivial (by rw [← hC_128 x hx]; exact c128), by simp; omega⟩) (shape_any rfl (by rw [hL_len hx]; omega)), rfl, ?_⟩
        exact next _ (by rw [Nat.min_eq_left (by omega)]; rfl)
      · have h : ¬ t < x.length := by have := of_decide_eq_false h; omega
        refine holds_some ⟨cds_of trivial (by rw [← hC_128 x hx]; exact c128), rfl, ?_⟩
        exact next _ (by rw [Nat.min_eq_right (by omega), show t = x.length by omega])
  · have h : ¬ t ≤ x.length := by have := of_decide_eq_false h; omega
    refine holds_some ⟨cds_of trivial (by rw [← hC_128 x hx]; exact c128), rfl, ?_⟩
    refine ⟨.inl rfl, .inr ?_⟩
    rw [show t = (ysH S x).length by rw [ysH_len]; omega, List.take_length]
end Go.Proofs.Ytbfeoggdalepmaa.AE
namespace Go.Proofs.Ytbfeoggdalepmaa.AE
set_option maxRecDepth 100000
open Go.RowKit
def rfA : Code → Code
  | .rangeFunc _ _ a _ => a
  | _ => .skip
def rfB : Code → Code
  | .rangeFunc _ _ _ b => b
  | _ => .skip
def beH (C : List AV) (a v : Int) : AH := hp [(48, C), (3, [gi a]), (3, [gi v]), (24, [.pi 0 0])] []
def beA : List AV := ded 3 ++ [.ptr 1 0, .dead, .ptr 2 0, .dead, .dead, .dead, .fn (.func 36) [] [.ptr 3 0]] ++ ded 7
def beB (t b : Int) : List AV := ded 3 ++ [.ptr 1 0, .dead, .ptr 2 0, .dead, .dead, .dead, .fn (.func 36) [] [.ptr 3 0], gi t, gi b] ++ ded 5
def beD (t b : Int) : List AV := ded 3 ++ [.ptr 1 0, .dead, .ptr 2 0, gi t, gi b] ++ ded 9
theorem be_pre (S : BS) (C : List AV) (a : Int) (R : Exit → List AV → AH → Prop) : codeL nro mu0 (prN S) 10 ((flatten (bodyOf 17)).take 3) ([.pi 0 0, gi a] ++ und 15) (hp [(48, C)] []) (kp [3, 5, 9] R) =
    (some (True ∧ (R Exit.normal [AV.dead, AV.dead, AV.dead, (AV.ptr (List.length [((48 : Nat), C)]) (0 : Nat)), AV.dead, (AV.ptr (List.length [((48 : Nat), C), ((3 : Nat), [(AV.v (Value.int IntKind.i64 a))])]) (0 : Nat)), AV.dead, AV.dead, AV.dead, (AV.fn (Go.Fn.func (36 : Nat)) (@List.nil AV) [(AV.ptr (List.length [((48 : Nat), C), ((3 : Nat), [(AV.v (Value.int IntKind.i64 a))]), ((3 : Nat), [(AV.v (Value.int IntKind.i64 (0 : Int)))])]) (0 : Nat))]), AV.dead, AV.dead, AV.dead, AV.dead, AV.dead, AV.dead, AV.dead] (AH.mk [((48 : Nat), C), ((3 : Nat), [(AV.v (Value.int IntKind.i64 a))]), ((3 : Nat), [(AV.v (Value.int IntKind.i64 (0 : Int)))]), ((24 : Nat), [(AV.pi (0 : Nat) (0 : Nat))])] (@List.nil Nat) (0 : Nat) (0 : Nat) true (@List.nil (Prod Nat Bool)) True)))) := by kernel_rfl
theorem be_as (S : BS) (C : List AV) (a v t b : Int) (R : Exit → List AV → AH → Prop) : code nro mu0 (prN S) 10 (rfA (sub (bodyOf 17) [1, 1, 0, 1, 0])) (beB t b) (beH C a v) (kp [3, 5, 6, 7] R) =
    (some (True ∧ (R Exit.normal [AV.dead, AV.dead, AV.dead, (AV.ptr (1 : Nat) (0 : Nat)), AV.dead, (AV.ptr (2 : Nat) (0 : Nat)), (AV.v (Value.int IntKind.i64 t)), (AV.v (Value.int IntKind.i64 b)), AV.dead, AV.dead, AV.dead, AV.dead, AV.dead, AV.dead, AV.dead, AV.dead, AV.dead] (AH.mk [((48 : Nat), C), ((3 : Nat), [(AV.v (Value.int IntKind.i64 a))]), ((3 : Nat), [(AV.v (Value.int IntKind.i64 v))]), ((24 : Nat), [(AV.pi (0 : Nat) (0 : Nat))])] (@List.nil Nat) (0 : Nat) (0 : Nat) true (@List.nil (Prod Nat Bool)) True)))) := by kernel_rfl
theorem be_bo (S : BS) (C : List AV) (a v t b : Int) (R : Exit → List AV → AH → Prop) : code nro mu0 (prN S) 10 (rfB (sub (bodyOf 17) [1, 1, 0, 1, 0])) (beD t b) (beH C a v) (kp [] R) =
    (bif (decide (a < t)) then (some (True ∧ (R (Exit.exit (0 : Nat)) [AV.dead, AV.dead, AV.dead, AV.dead, AV.dead, AV.dead, AV.dead, AV.dead, AV.dead, AV.dead, AV.dead, AV.dead, AV.dead, AV.dead, AV.dead, AV.dead, AV.dead] (AH.mk [((48 : Nat), C), ((3 : Nat), [(AV.v (Value.int IntKind.i64 a))]), ((3 : Nat), [(AV.v (Value.int IntKind.i64 v))]), ((24 : Nat), [(AV.pi (0 : Nat) (0 : Nat))])] (@List.nil Nat) (0 : Nat) (0 : Nat) true (@List.nil (Prod Nat Bool)) True)))) else (some (True ∧ (R Exit.normal [AV.dead, AV.dead, AV.dead, AV.dead, AV.dead, AV.dead, AV.dead, AV.dead, AV.dead, AV.dead, AV.dead, AV.dead, AV.dead, AV.dead, AV.dead, AV.dead, AV.dead] (AH.mk [((48 : Nat), C), ((3 : Nat), [(AV.v (Value.int IntKind.i64 a))]), ((3 : Nat), [(AV.v (Value.int IntKind.i64 b))]), ((24 : Nat), [(AV.pi (0 : Nat) (0 : Nat))])] (@List.nil Nat) (0 : Nat) (0 : Nat) true (@List.nil (Prod Nat Bool)) True))))) := by kernel_rfl
theorem be_post (S : BS) (C : List AV) (a v : Int) (R : Exit → List AV → AH → Prop) : codeL nro mu0 (prN S) 10 ((flatten (bodyOf 17)).drop 4) beA (beH C a v) (kp [4] R) =
    (some (True ∧ (R Exit.ret [AV.dead, AV.dead, AV.dead, AV.dead, (AV.v (Value.int IntKind.i64 v)), AV.dead, AV.dead, AV.dead, AV.dead, AV.dead, AV.dead, AV.dead, AV.dead, AV.dead, AV.dead, AV.dead, AV.dead] (AH.mk [((48 : Nat), C), ((3 : Nat), [(AV.v (Value.int IntKind.i64 a))]), ((3 : Nat), [(AV.v (Value.int IntKind.i64 v))]), ((24 : Nat), [(AV.pi (0 : Nat) (0 : Nat))])] (@List.nil Nat) (0 : Nat) (0 : Nat) true (@List.nil (Prod Nat Bool)) True)))) := by kernel_rfl
end Go.Proofs.Ytbfeoggdalepmaa.AE
namespace Go.Proofs.Ytbfeoggdalepmaa.AE
set_option maxRecDepth 100000
open Go.RowKit
theorem pre_next {α : Type} {ys : List α} {t : Nat} {y : α} (h : (ys.take t ++ [y]) <+: ys) : ∃ hl : t < ys.length, y = ys[t] := by
  have h1 := h.length_le
  rw [List.length_append, List.length_take, List.length_singleton] at h1
  have hl : t < ys.length := by omega
  refine ⟨hl, ?_⟩
  have h2 := List.prefix_iff_eq_take.1 h
  rw [List.length_append, List.length_take, List.length_singleton, Nat.min_eq_left (by omega), List.take_succ_eq_append_getElem hl] at h2
  have h3 := List.append_cancel_left h2
  simpa using h3
theorem ys_at (S : BS) (x : List Int) {t : Nat} (h : t < (ysH S x).length) : (ysH S x)[t] = [.int .i64 (t : Int), .int .i64 (belC S (hC x) t)] := by simp [ysH]
/-- How many there are below a threshold. -/
def bwI (S : BS) (x : List Int) (a : Int) : Int := if a < 0 then 0 else belC S (hC x) (min a.toNat x.length)
def cntB (S : BS) (x : List Int) : Nat → Int
  | 0 => 0
  | t + 1 => belC S (hC x) t
theorem cnt_stop (S : BS) (x : List Int) {a : Int} {t : Nat} (ht : t ≤ x.length) (h : ∀ j, j < t → (j : Int) ≤ a) (h2 : a < t) : cntB S x t = bwI S x a := by
  cases t with
  | zero => unfold bwI; rw [if_pos (by simpa using h2)]; rfl
  | succ t =>
    have := h t (by omega)
    unfold bwI
    rw [if_neg (by omega), show min a.toNat x.length = t by omega]; rfl
theorem cnt_done (S : BS) (x : List Int) {a : Int} (h : ∀ j, j < x.length + 1 → (j : Int) ≤ a) : cntB S x (x.length + 1) = bwI S x a := by
  have := h x.length (by omega)
  unfold bwI
  rw [if_neg (by omega), Nat.min_eq_right (by omega)]; rfl
theorem be_sl : slotsOf 17 = 17 := by kernel_rfl
theorem be_re : resultsOf 17 = [.tmp 4] := by kernel_rfl
theorem be_fl : flatten (bodyOf 17) = (flatten (bodyOf 17)).take 3 ++ (.block 0 (.rangeFunc (.tmp 9) #[10, 11] (rfA (sub (bodyOf 17) [1, 1, 0, 1, 0])) (rfB (sub (bodyOf 17) [1, 1, 0, 1, 0])))) :: (flatten (bodyOf 17)).drop 4 := by kernel_rfl
theorem hC_rigB (x : List Int) (t : TypeId) (h1 : Nat.beq t 999997 = false) (h2 : Nat.beq t 999998 = false) (h3 : Nat.beq t 999999 = false) : rigB (t, hC x) = true := by
  unfold rigB
  simp only [hC_rig, h1, h2, h3]
  rfl
theorem hC_plain (x : List Int) : plainC (hC x) = true := plainC_gi _
theorem fs_below (S : BS) (hp' : Known nro (prN S)) (x : List Int) (hx : x.length ≤ 128) (a : Int) : Fs Try.prog nro 17 [.pi 0 0, gi a] (hp [(48, hC x)] []) fun r H' => r = gi (bwI S x a) ∧ ∃ tips more, H' = hp ([(48, hC x)] ++ more) tips := by
  refine Fs.of_ranged (has_fn (by kernel_rfl)) be_fl ?_
  rw [be_sl, be_re]
  refine Trl.of_code hp' (neN (by kernel_rfl)) (be_pre S (hC x) a _) ?_
  refine holds_some ⟨trivial, ?_⟩
  show TrM _ _ _ beA (beH (hC x) a 0) _
  refine TrM.block ?_
  have hfin : ∀ v, v = bwI S x a → Trl Try.prog nro ((flatten (bodyOf 17)).drop 4) beA (beH (hC x) a v) (fun e a' h => (e = .normal ∨ e = .ret) ∧ ansOk (fun r H' => r = gi (bwI S x a) ∧ ∃ tips more, H' = hp ([(48, hC x)] ++ more) tips) (resOf Try.prog nro [.tmp 4] a' h)) := fun v hv => by
    subst hv
    refine Trl.of_code hp' (neN (by kernel_rfl)) (be_post S (hC x) a _ _) ?_
    exact holds_some ⟨trivial, .inr rfl, trivial, rfl, _, _, rfl⟩
  refine TrM.range (ids := [0, 3]) (mask := [true, false]) (cap' := [.ptr 1 0]) (bl0 := [(48, hC x), (24, [.pi 0 0])]) (bl := [(48, hC x), (24, [.pi 0 0])]) (ys := ysH S x) (Q := leave 0 _) rfl rfl rfl ?_ rfl ?_ (su_ok S hp' x hx)
    (fun pe pre h => match pe with
      | none => ∃ t : Nat, t ≤ x.length + 1 ∧ pre = (ysH S x).take t ∧ (∀ j, j < t → (j : Int) ≤ a) ∧ h = beH (hC x) a (cntB S x t)
      | some c => c = .exit 0 ∧ h = beH (hC x) a (bwI S x a)) ?_ ⟨0, by omega, rfl, fun j hj => by omega, rfl⟩ ?_ ?_ ?_
  · show some ([(48, hC x), (24, [.pi 0 0])], plainC (hC x) && true) = _
    rw [hC_plain]; rfl
  · show (rigB (_, hC x) && (rigB (_, [.pi 0 0]) && true)) = true
    rw [hC_rigB _ _ rfl rfl rfl]; rfl
  · rintro pe pre h hr
    cases pe with
    | none => obtain ⟨t, _, _, _, rfl⟩ := hr; rfl
    | some c => obtain ⟨_, rfl⟩ := hr; rfl
  · rintro l pre y H2 ⟨t, ht, rfl, hj, rfl⟩ hpre
    obtain ⟨hl, rfl⟩ := pre_next hpre
    have hl2 := hl
    rw [ysH_len] at hl2
    rw [ys_at S x hl]
    refine ⟨rfl, ?_⟩
    show TrR _ _ _ _ (beB t (belC S (hC x) t)) _ _
    refine TrR.of_code hp' (by kernel_rfl) (be_as S (hC x) a _ t _ _) ?_
    refine holds_some ⟨trivial, rfl, rfl, ?_⟩
    show TrR _ _ _ _ (beD t (belC S (hC x) t)) (beH (hC x) a (cntB S x t)) _
    refine TrR.of_code hp' (by kernel_rfl) (be_bo S (hC x) a _ t _ _) ?_
    refine holds_bif (fun h => ?_) (fun h => ?_)
    · have h := of_decide_eq_true h
      refine holds_some ⟨trivial, rfl, ?_⟩
      rw [← cnt_stop S x (by omega) hj h]; rfl
    · have h := of_decide_eq_false h
      refine holds_some ⟨trivial, t + 1, by omega, (ysH_take S x hl2).symm, fun j hj2 => ?_, rfl⟩
      by_cases e : j = t
      · subst e; omega
      · exact hj j (by omega)
  · rintro h ⟨t, ht, hpre, hj, rfl⟩
    have : t = x.length + 1 := by
      have := congrArg List.length hpre
      rw [List.length_take, ysH_len] at this
      omega
    subst this
    exact hfin _ (cnt_done S x hj)
  · rintro c pre h ⟨rfl, rfl⟩
    exact hfin _ rfl
end Go.Proofs.Ytbfeoggdalepmaa.AE
namespace Go.Proofs.Ytbfeoggdalepmaa.AE
set_option maxRecDepth 100000
open Go.RowKit
def fmH (C : List AV) (m r : Int) (z : Bool) : AH := hp [(48, C), (3, [gi m]), (34, [.fn (.func 30) [] [.ptr 1 0]]), (3, [gi r]), (4, [.v (.bool z)]), (24, [.pi 0 0])] []
def fmA : List AV := ded 3 ++ [.ptr 2 0, .ptr 3 0, .ptr 4 0, .dead, .dead, .dead, .fn (.func 36) [] [.ptr 5 0]] ++ ded 7
def fmB (t b : Int) : List AV := ded 3 ++ [.ptr 2 0, .ptr 3 0, .ptr 4 0, .dead, .dead, .dead, .fn (.func 36) [] [.ptr 5 0], gi t, gi b] ++ ded 5
def fmD (t b : Int) : List AV := ded 3 ++ [.ptr 2 0, .ptr 3 0, .ptr 4 0, gi t, gi b] ++ ded 9
theorem fm_pre (S : BS) (C : List AV) (m : Int) (R : Exit → List AV → AH → Prop) : codeL nro mu0 (prN S) 10 ((flatten (bodyOf 28)).take 2) ([.pi 0 0, .fn (.func 30) [] [.ptr 1 0]] ++ und 15) (hp [(48, C), (3, [gi m])] []) (kp [3, 4, 5, 9] R) =
    (some (True ∧ (R Exit.normal [AV.dead, AV.dead, AV.dead, (AV.ptr (List.length [((48 : Nat), C), ((3 : Nat), [(AV.v (Value.int IntKind.i64 m))])]) (0 : Nat)), (AV.ptr (List.length [((48 : Nat), C), ((3 : Nat), [(AV.v (Value.int IntKind.i64 m))]), ((34 : Nat), [(AV.fn (Go.Fn.func (30 : Nat)) (@List.nil AV) [(AV.ptr (1 : Nat) (0 : Nat))])])]) (0 : Nat)), (AV.ptr (List.length [((48 : Nat), C), ((3 : Nat), [(AV.v (Value.int IntKind.i64 m))]), ((34 : Nat), [(AV.fn (Go.Fn.func (30 : Nat)) (@List.nil AV) [(AV.ptr (1 : Nat) (0 : Nat))])]), ((3 : Nat), [(AV.v (Value.int IntKind.i64 (0 : Int)))])]) (0 : Nat)), AV.dead, AV.dead, AV.dead, (AV.fn (Go.Fn.func (36 : Nat)) (@List.nil AV) [(AV.ptr (List.length [((48 : Nat), C), ((3 : Nat), [(AV.v (Value.int IntKind.i64 m))]), ((34 : Nat), [(AV.fn (Go.Fn.func (30 : Nat)) (@List.nil AV) [(AV.ptr (1 : Nat) (0 : Nat))])]), ((3 : Nat), [(AV.v (Value.int IntKind.i64 (0 : Int)))]), ((4 : Nat), [(AV.v (Value.bool false))])]) (0 : Nat))]), AV.dead, AV.dead, AV.dead, AV.dead, AV.dead, AV.dead, AV.dead] (AH.mk [((48 : Nat), C), ((3 : Nat), [(AV.v (Value.int IntKind.i64 m))]), ((34 : Nat), [(AV.fn (Go.Fn.func (30 : Nat)) (@List.nil AV) [(AV.ptr (1 : Nat) (0 : Nat))])]), ((3 : Nat), [(AV.v (Value.int IntKind.i64 (0 : Int)))]), ((4 : Nat), [(AV.v (Value.bool false))]), ((24 : Nat), [(AV.pi (0 : Nat) (0 : Nat))])] (@List.nil Nat) (0 : Nat) (0 : Nat) true (@List.nil (Prod Nat Bool)) True)))) := by kernel_rfl
theorem fm_as (S : BS) (C : List AV) (m t b : Int) (R : Exit → List AV → AH → Prop) : code nro mu0 (prN S) 10 (rfA (sub (bodyOf 28) [1, 0, 1, 0])) (fmB t b) (fmH C m 0 false) (kp [3, 4, 5, 6, 7] R) =
    (some (True ∧ (R Exit.normal [AV.dead, AV.dead, AV.dead, (AV.ptr (2 : Nat) (0 : Nat)), (AV.ptr (3 : Nat) (0 : Nat)), (AV.ptr (4 : Nat) (0 : Nat)), (AV.v (Value.int IntKind.i64 t)), (AV.v (Value.int IntKind.i64 b)), AV.dead, AV.dead, AV.dead, AV.dead, AV.dead, AV.dead, AV.dead, AV.dead, AV.dead] (AH.mk [((48 : Nat), C), ((3 : Nat), [(AV.v (Value.int IntKind.i64 m))]), ((34 : Nat), [(AV.fn (Go.Fn.func (30 : Nat)) (@List.nil AV) [(AV.ptr (1 : Nat) (0 : Nat))])]), ((3 : Nat), [(AV.v (Value.int IntKind.i64 (0 : Int)))]), ((4 : Nat), [(AV.v (Value.bool false))]), ((24 : Nat), [(AV.pi (0 : Nat) (0 : Nat))])] (@List.nil Nat) (0 : Nat) (0 : Nat) true (@List.nil (Prod Nat Bool)) True)))) := by kernel_rfl
theorem fm_bo (S : BS) (C : List AV) (m t b : Int) (R : Exit → List AV → AH → Prop) : code nro mu0 (prN S) 10 (rfB (sub (bodyOf 28) [1, 0, 1, 0])) (fmD t b) (fmH C m 0 false) (kp [] R) =
    (bif (decide (m < b)) then (some (True ∧ (R Exit.ret [AV.dead, AV.dead, AV.dead, AV.dead, AV.dead, AV.dead, AV.dead, AV.dead, AV.dead, AV.dead, AV.dead, AV.dead, AV.dead, AV.dead, AV.dead, AV.dead, AV.dead] (AH.mk [((48 : Nat), C), ((3 : Nat), [(AV.v (Value.int IntKind.i64 m))]), ((34 : Nat), [(AV.fn (Go.Fn.func (30 : Nat)) (@List.nil AV) [(AV.ptr (1 : Nat) (0 : Nat))])]), ((3 : Nat), [(AV.v (Value.int IntKind.i64 t))]), ((4 : Nat), [(AV.v (Value.bool true))]), ((24 : Nat), [(AV.pi (0 : Nat) (0 : Nat))])] (@List.nil Nat) (0 : Nat) (0 : Nat) true (@List.nil (Prod Nat Bool)) True)))) else (some (True ∧ (R Exit.normal [AV.dead, AV.dead, AV.dead, AV.dead, AV.dead, AV.dead, AV.dead, AV.dead, AV.dead, AV.dead, AV.dead, AV.dead, AV.dead, AV.dead, AV.dead, AV.dead, AV.dead] (AH.mk [((48 : Nat), C), ((3 : Nat), [(AV.v (Value.int IntKind.i64 m))]), ((34 : Nat), [(AV.fn (Go.Fn.func (30 : Nat)) (@List.nil AV) [(AV.ptr (1 : Nat) (0 : Nat))])]), ((3 : Nat), [(AV.v (Value.int IntKind.i64 (0 : Int)))]), ((4 : Nat), [(AV.v (Value.bool false))]), ((24 : Nat), [(AV.pi (0 : Nat) (0 : Nat))])] (@List.nil Nat) (0 : Nat) (0 : Nat) true (@List.nil (Prod Nat Bool)) True))))) := by kernel_rfl
theorem fm_post (S : BS) (C : List AV) (m : Int) (R : Exit → List AV → AH → Prop) : codeL nro mu0 (prN S) 10 ((flatten (bodyOf 28)).drop 3) fmA (fmH C m 0 false) (kp [4, 5] R) =
    (some (True ∧ (R Exit.ret [AV.dead, AV.dead, AV.dead, AV.dead, (AV.ptr (3 : Nat) (0 : Nat)), (AV.ptr (4 : Nat) (0 : Nat)), AV.dead, AV.dead, AV.dead, AV.dead, AV.dead, AV.dead, AV.dead, AV.dead, AV.dead, AV.dead, AV.dead] (AH.mk [((48 : Nat), C), ((3 : Nat), [(AV.v (Value.int IntKind.i64 m))]), ((34 : Nat), [(AV.fn (Go.Fn.func (30 : Nat)) (@List.nil AV) [(AV.ptr (1 : Nat) (0 : Nat))])]), ((3 : Nat), [(AV.v (Value.int IntKind.i64 (0 : Int)))]), ((4 : Nat), [(AV.v (Value.bool false))]), ((24 : Nat), [(AV.pi (0 : Nat) (0 : Nat))])] (@List.nil Nat) (0 : Nat) (0 : Nat) true (@List.nil (Prod Nat Bool)) True)))) := by kernel_rfl
def feH (C : List AV) (m r : Int) (z : Bool) : AH := hp [(48, C), (3, [gi m]), (34, [.fn (.func 29) [] [.ptr 1 0]]), (3, [gi r]), (4, [.v (.bool z)]), (24, [.pi 0 0])] []
def feA : List AV := ded 3 ++ [.ptr 2 0, .ptr 3 0, .ptr 4 0, .dead, .dead, .dead, .fn (.func 36) [] [.ptr 5 0]] ++ ded 7
def feB (t b : Int) : List AV := ded 3 ++ [.ptr 2 0, .ptr 3 0, .ptr 4 0, .dead, .dead, .dead, .fn (.func 36) [] [.ptr 5 0], gi t, gi b] ++ ded 5
def feD (t b : Int) : List AV := ded 3 ++ [.ptr 2 0, .ptr 3 0, .ptr 4 0, gi t, gi b] ++ ded 9
theorem fe_pre (S : BS) (C : List AV) (m : Int) (R : Exit → List AV → AH → Prop) : codeL nro mu0 (prN S) 10 ((flatten (bodyOf 28)).take 2) ([.pi 0 0, .fn (.func 29) [] [.ptr 1 0]] ++ und 15) (hp [(48, C), (3, [gi m])] []) (kp [3, 4, 5, 9] R) =
    (some (True ∧ (R Exit.normal [AV.dead, AV.dead, AV.dead, (AV.ptr (List.length [((48 : Nat), C), ((3 : Nat), [(AV.v (Value.int IntKind.i64 m))])]) (0 : Nat)), (AV.ptr (List.length [((48 : Nat), C), ((3 : Nat), [(AV.v (Value.int IntKind.i64 m))]), ((34 : Nat), [(AV.fn (Go.Fn.func (29 : Nat)) (@List.nil AV) [(AV.ptr (1 : Nat) (0 : Nat))])])]) (0 : Nat)), (AV.ptr (List.length [((48 : Nat), C), ((3 : Nat), [(AV.v (Value.int IntKind.i64 m))]), ((34 : Nat), [(AV.fn (Go.Fn.func (29 : Nat)) (@List.nil AV) [(AV.ptr (1 : Nat) (0 : Nat))])]), ((3 : Nat), [(AV.v (Value.int IntKind.i64 (0 : Int)))])]) (0 : Nat)), AV.dead, AV.dead, AV.dead, (AV.fn (Go.Fn.func (36 : Nat)) (@List.nil AV) [(AV.ptr (List.length [((48 : Nat), C), ((3 : Nat), [(AV.v (Value.int IntKind.i64 m))]), ((34 : Nat), [(AV.fn (Go.Fn.func (29 : Nat)) (@List.nil AV) [(AV.ptr (1 : Nat) (0 : Nat))])]), ((3 : Nat), [(AV.v (Value.int IntKind.i64 (0 : Int)))]), ((4 : Nat), [(AV.v (Value.bool false))])]) (0 : Nat))]), AV.dead, AV.dead, AV.dead, AV.dead, AV.dead, AV.dead, AV.dead] (AH.mk [((48 : Nat), C), ((3 : Nat), [(AV.v (Value.int IntKind.i64 m))]), ((34 : Nat), [(AV.fn (Go.Fn.func (29 : Nat)) (@List.nil AV) [(AV.ptr (1 : Nat) (0 : Nat))])]), ((3 : Nat), [(AV.v (Value.int IntKind.i64 (0 : Int)))]), ((4 : Nat), [(AV.v (Value.bool false))]), ((24 : Nat), [(AV.pi (0 : Nat) (0 : Nat))])] (@List.nil Nat) (0 : Nat) (0 : Nat) true (@List.nil (Prod Nat Bool)) True)))) := by kernel_rfl
theorem fe_as (S : BS) (C : List AV) (m t b : Int) (R : Exit → List AV → AH → Prop) : code nro mu0 (prN S) 10 (rfA (sub (bodyOf 28) [1, 0, 1, 0])) (feB t b) (feH C m 0 false) (kp [3, 4, 5, 6, 7] R) =
    (some (True ∧ (R Exit.normal [AV.dead, AV.dead, AV.dead, (AV.ptr (2 : Nat) (0 : Nat)), (AV.ptr (3 : Nat) (0 : Nat)), (AV.ptr (4 : Nat) (0 : Nat)), (AV.v (Value.int IntKind.i64 t)), (AV.v (Value.int IntKind.i64 b)), AV.dead, AV.dead, AV.dead, AV.dead, AV.dead, AV.dead, AV.dead, AV.dead, AV.dead] (AH.mk [((48 : Nat), C), ((3 : Nat), [(AV.v (Value.int IntKind.i64 m))]), ((34 : Nat), [(AV.fn (Go.Fn.func (29 : Nat)) (@List.nil AV) [(AV.ptr (1 : Nat) (0 : Nat))])]), ((3 : Nat), [(AV.v (Value.int IntKind.i64 (0 : Int)))]), ((4 : Nat), [(AV.v (Value.bool false))]), ((24 : Nat), [(AV.pi (0 : Nat) (0 : Nat))])] (@List.nil Nat) (0 : Nat) (0 : Nat) true (@List.nil (Prod Nat Bool)) True)))) := by kernel_rfl
theorem fe_bo (S : BS) (C : List AV) (m t b : Int) (R : Exit → List AV → AH → Prop) : code nro mu0 (prN S) 10 (rfB (sub (bodyOf 28) [1, 0, 1, 0])) (feD t b) (feH C m 0 false) (kp [] R) =
    (bif (decide (m ≤ b)) then (some (True ∧ (R Exit.ret [AV.dead, AV.dead, AV.dead, AV.dead, AV.dead, AV.dead, AV.dead, AV.dead, AV.dead, AV.dead, AV.dead, AV.dead, AV.dead, AV.dead, AV.dead, AV.dead, AV.dead] (AH.mk [((48 : Nat), C), ((3 : Nat), [(AV.v (Value.int IntKind.i64 m))]), ((34 : Nat), [(AV.fn (Go.Fn.func (29 : Nat)) (@List.nil AV) [(AV.ptr (1 : Nat) (0 : Nat))])]), ((3 : Nat), [(AV.v (Value.int IntKind.i64 t))]), ((4 : Nat), [(AV.v (Value.bool true))]), ((24 : Nat), [(AV.pi (0 : Nat) (0 : Nat))])] (@List.nil Nat) (0 : Nat) (0 : Nat) true (@List.nil (Prod Nat Bool)) True)))) else (some (True ∧ (R Exit.normal [AV.dead, AV.dead, AV.dead, AV.dead, AV.dead, AV.dead, AV.dead, AV.dead, AV.dead, AV.dead, AV.dead, AV.dead, AV.dead, AV.dead, AV.dead, AV.dead, AV.dead] (AH.mk [((48 : Nat), C), ((3 : Nat), [(AV.v (Value.int IntKind.i64 m))]), ((34 : Nat), [(AV.fn (Go.Fn.func (29 : Nat)) (@List.nil AV) [(AV.ptr (1 : Nat) (0 : Nat))])]), ((3 : Nat), [(AV.v (Value.int IntKind.i64 (0 : Int)))]), ((4 : Nat), [(AV.v (Value.bool false))]), ((24 : Nat), [(AV.pi (0 : Nat) (0 : Nat))])] (@List.nil Nat) (0 : Nat) (0 : Nat) true (@List.nil (Prod Nat Bool)) True))))) := by kernel_rfl
theorem fe_post (S : BS) (C : List AV) (m : Int) (R : Exit → List AV → AH → Prop) : codeL nro mu0 (prN S) 10 ((flatten (bodyOf 28)).drop 3) feA (feH C m 0 false) (kp [4, 5] R) =
    (some (True ∧ (R Exit.ret [AV.dead, AV.dead, AV.dead, AV.dead, (AV.ptr (3 : Nat) (0 : Nat)), (AV.ptr (4 : Nat) (0 : Nat)), AV.dead, AV.dead, AV.dead, AV.dead, AV.dead, AV.dead, AV.dead, AV.dead, AV.dead, AV.dead, AV.dead] (AH.mk [((48 : Nat), C), ((3 : Nat), [(AV.v (Value.int IntKind.i64 m))]), ((34 : Nat), [(AV.fn (Go.Fn.func (29 : Nat)) (@List.nil AV) [(AV.ptr (1 : Nat) (0 : Nat))])]), ((3 : Nat), [(AV.v (Value.int IntKind.i64 (0 : Int)))]), ((4 : Nat), [(AV.v (Value.bool false))]), ((24 : Nat), [(AV.pi (0 : Nat) (0 : Nat))])] (@List.nil Nat) (0 : Nat) (0 : Nat) true (@List.nil (Prod Nat Bool)) True)))) := by kernel_rfl
end Go.Proofs.Ytbfeoggdalepmaa.AE
namespace Go.Proofs.Ytbfeoggdalepmaa.AE
set_option maxRecDepth 100000
open Go.RowKit
theorem fi_sl : slotsOf 28 = 17 := by kernel_rfl
theorem fi_re : resultsOf 28 = [.cell 4 3, .cell 5 4] := by kernel_rfl
theorem fi_fl : flatten (bodyOf 28) = (flatten (bodyOf 28)).take 2 ++ (.block 0 (.rangeFunc (.tmp 9) #[10, 11] (rfA (sub (bodyOf 28) [1, 0, 1, 0])) (rfB (sub (bodyOf 28) [1, 0, 1, 0])))) :: (flatten (bodyOf 28)).drop 3 := by kernel_rfl
/-- The first threshold, from t on, of k, that p holds of. -/
def fstP (p : Nat → Bool) : Nat → Nat → Option Nat
  | _, 0 => none
  | t, k + 1 => if p t then some t else fstP p (t + 1) k
def outF (o : Option Nat) : AV := match o with
  | some t => .v (.tuple #[.int .i64 (t : Int), .bool true])
  | none => .v (.tuple #[.int .i64 0, .bool false])
theorem fstP_skip {p : Nat → Bool} : ∀ {t k j : Nat}, j ≤ k → (∀ i, i < j → p (t + i) = false) → fstP p t k = fstP p (t + j) (k - j)
  | t, k, 0, _, _ => rfl
  | t, k + 1, j + 1, h, hp => by
    have h0 : p t = false := hp 0 (by omega)
    have : fstP p t (k + 1) = fstP p (t + 1) k := by rw [fstP, h0]; rfl
    rw [this, fstP_skip (j := j) (by omega) (fun i hi => by rw [Nat.add_assoc, Nat.add_comm 1 i]; exact hp (i + 1) (by omega)), show t + 1 + j = t + (j + 1) by omega, show k - j = k + 1 - (j + 1) by omega]
theorem fstP_at {p : Nat → Bool} {n t : Nat} (ht : t < n) (h : ∀ i, i < t → p i = false) (hp : p t = true) : fstP p 0 n = some t := by
  rw [fstP_skip (j := t) (by omega) (fun i hi => by rw [Nat.zero_add]; exact h i hi), Nat.zero_add]
  obtain ⟨k, hk⟩ : ∃ k, n - t = k + 1 := ⟨n - t - 1, by omega⟩
  rw [hk, fstP, hp]; rfl
theorem fstP_none {p : Nat → Bool} {n : Nat} (h : ∀ i, i < n → p i = false) : fstP p 0 n = none := by
  rw [fstP_skip (j := n) (Nat.le_refl _) (fun i hi => by rw [Nat.zero_add]; exact h i hi), Nat.sub_self]; rfl
def pmB (S : BS) (x : List Int) (m : Int) (t : Nat) : Bool := decide (m < belC S (hC x) t)
theorem fs_fm (S : BS) (hp' : Known nro (prN S)) (x : List Int) (hx : x.length ≤ 128) (m : Int) : Fs Try.prog nro 28 [.pi 0 0, .fn (.func 30) [] [.ptr 1 0]] (hp [(48, hC x), (3, [gi m])] []) fun r H' => r = outF (fstP (pmB S x m) 0 (x.length + 1)) ∧ ∃ tips more, H' = hp ([(48, hC x), (3, [gi m])] ++ more) tips := by
  refine Fs.of_ranged (has_fn (by kernel_rfl)) fi_fl ?_
  rw [fi_sl, fi_re]
  refine Trl.of_code hp' (neN (by kernel_rfl)) (fm_pre S (hC x) m _) ?_
  refine holds_some ⟨trivial, ?_⟩
  show TrM _ _ _ fmA (fmH (hC x) m 0 false) _
  refine TrM.block ?_
  refine TrM.range (ids := [0, 5]) (mask := [true, false]) (cap' := [.ptr 1 0]) (bl0 := [(48, hC x), (24, [.pi 0 0])]) (bl := [(48, hC x), (24, [.pi 0 0])]) (ys := ysH S x) (Q := leave 0 _) rfl rfl rfl ?_ rfl ?_ (su_ok S hp' x hx)
    (fun pe pre h => match pe with
      | none => ∃ t : Nat, t ≤ x.length + 1 ∧ pre = (ysH S x).take t ∧ (∀ j, j < t → pmB S x m j = false) ∧ h = fmH (hC x) m 0 false
      | some c => c = .ret ∧ ∃ t : Nat, fstP (pmB S x m) 0 (x.length + 1) = some t ∧ h = fmH (hC x) m t true) ?_ ⟨0, by omega, rfl, fun j hj => by omega, rfl⟩ ?_ ?_ ?_
  · show some ([(48, hC x), (24, [.pi 0 0])], plainC (hC x) && true) = _
    rw [hC_plain]; rfl
  · show (rigB (_, hC x) && (rigB (_, [.pi 0 0]) && true)) = true
    rw [hC_rigB _ _ rfl rfl rfl]; rfl
  · rintro pe pre h hr
    cases pe with
    | none => obtain ⟨t, _, _, _, rfl⟩ := hr; rfl
    | some c => obtain ⟨_, t, _, rfl⟩ := hr; rfl
  · rintro l pre y H2 ⟨t, ht, rfl, hj, rfl⟩ hpre
    obtain ⟨hl, rfl⟩ := pre_next hpre
    have hl2 := hl
    rw [ysH_len] at hl2
    rw [ys_at S x hl]
    refine ⟨rfl, ?_⟩
    show TrR _ _ _ _ (fmB t (belC S (hC x) t)) _ _
    refine TrR.of_code hp' (by kernel_rfl) (fm_as S (hC x) m t _ _) ?_
    refine holds_some ⟨trivial, rfl, rfl, ?_⟩
    show TrR _ _ _ _ (fmD t (belC S (hC x) t)) (fmH (hC x) m 0 false) _
    refine TrR.of_code hp' (by kernel_rfl) (fm_bo S (hC x) m t _ _) ?_
    refine holds_bif (fun h => ?_) (fun h => ?_)
    · exact holds_some ⟨trivial, rfl, t, fstP_at hl2 hj h, rfl⟩
    · refine holds_some ⟨trivial, t + 1, by omega, (ysH_take S x hl2).symm, fun j hj2 => ?_, rfl⟩
      by_cases e : j = t
      · subst e; exact h
      · exact hj j (by omega)
  · rintro h ⟨t, ht, hpre, hj, rfl⟩
    have : t = x.length + 1 := by
      have := congrArg List.length hpre
      rw [List.length_take, ysH_len] at this
      omega
    subst this
    rw [fstP_none hj]
    show Trl Try.prog nro _ fmA (fmH (hC x) m 0 false) _
    refine Trl.of_code hp' (neN (by kernel_rfl)) (fm_post S (hC x) m _) ?_
    exact holds_some ⟨trivial, .inr rfl, trivial, rfl, _, _, rfl⟩
  · rintro c pre h ⟨rfl, t, hf, rfl⟩
    rw [hf]
    exact ⟨.inr rfl, trivial, rfl, _, _, rfl⟩
def peB (S : BS) (x : List Int) (m : Int) (t : Nat) : Bool := decide (m ≤ belC S (hC x) t)
theorem fs_fe (S : BS) (hp' : Known nro (prN S)) (x : List Int) (hx : x.length ≤ 128) (m : Int) : Fs Try.prog nro 28 [.pi 0 0, .fn (.func 29) [] [.ptr 1 0]] (hp [(48, hC x), (3, [gi m])] []) fun r H' => r = outF (fstP (peB S x m) 0 (x.length + 1)) ∧ ∃ tips more, H' = hp ([(48, hC x), (3, [gi m])] ++ more) tips := by
  refine Fs.of_ranged (has_fn (by kernel_rfl)) fi_fl ?_
  rw [fi_sl, fi_re]
  refine Trl.of_code hp' (neN (by kernel_rfl)) (fe_pre S (hC x) m _) ?_
  refine holds_some ⟨trivial, ?_⟩
  show TrM _ _ _ feA (feH (hC x) m 0 false) _
  refine TrM.block ?_
  refine TrM.range (ids := [0, 5]) (mask := [true, false]) (cap' := [.ptr 1 0]) (bl0 := [(48, hC x), (24, [.pi 0 0])]) (bl := [(48, hC x), (24, [.pi 0 0])]) (ys := ysH S x) (Q := leave 0 _) rfl rfl rfl ?_ rfl ?_ (su_ok S hp' x hx)
    (fun pe pre h => match pe with
      | none => ∃ t : Nat, t ≤ x.length + 1 ∧ pre = (ysH S x).take t ∧ (∀ j, j < t → peB S x m j = false) ∧ h = feH (hC x) m 0 false
      | some c => c = .ret ∧ ∃ t : Nat, fstP (peB S x m) 0 (x.length + 1) = some t ∧ h = feH (hC x) m t true) ?_ ⟨0, by omega, rfl, fun j hj => by omega, rfl⟩ ?_ ?_ ?_
  · show some ([(48, hC x), (24, [.pi 0 0])], plainC (hC x) && true) = _
    rw [hC_plain]; rfl
  · show (rigB (_, hC x) && (rigB (_, [.pi 0 0]) && true)) = true
    rw [hC_rigB _ _ rfl rfl rfl]; rfl
  · rintro pe pre h hr
    cases pe with
    | none => obtain ⟨t, _, _, _, rfl⟩ := hr; rfl
    | some c => obtain ⟨_, t, _, rfl⟩ := hr; rfl
  · rintro l pre y H2 ⟨t, ht, rfl, hj, rfl⟩ hpre
    obtain ⟨hl, rfl⟩ := pre_next hpre
    have hl2 := hl
    rw [ysH_len] at hl2
    rw [ys_at S x hl]
    refine ⟨rfl, ?_⟩
    show TrR _ _ _ _ (feB t (belC S (hC x) t)) _ _
    refine TrR.of_code hp' (by kernel_rfl) (fe_as S (hC x) m t _ _) ?_
    refine holds_some ⟨trivial, rfl, rfl, ?_⟩
    show TrR _ _ _ _ (feD t (belC S (hC x) t)) (feH (hC x) m 0 false) _
    refine TrR.of_code hp' (by kernel_rfl) (fe_bo S (hC x) m t _ _) ?_
    refine holds_bif (fun h => ?_) (fun h => ?_)
    · exact holds_some ⟨trivial, rfl, t, fstP_at hl2 hj h, rfl⟩
    · refine holds_some ⟨trivial, t + 1, by omega, (ysH_take S x hl2).symm, fun j hj2 => ?_, rfl⟩
      by_cases e : j = t
      · subst e; exact h
      · exact hj j (by omega)
  · rintro h ⟨t, ht, hpre, hj, rfl⟩
    have : t = x.length + 1 := by
      have := congrArg List.length hpre
      rw [List.length_take, ysH_len] at this
      omega
    subst this
    rw [fstP_none hj]
    show Trl Try.prog nro _ feA (feH (hC x) m 0 false) _
    refine Trl.of_code hp' (neN (by kernel_rfl)) (fe_post S (hC x) m _) ?_
    exact holds_some ⟨trivial, .inr rfl, trivial, rfl, _, _, rfl⟩
  · rintro c pre h ⟨rfl, t, hf, rfl⟩
    rw [hf]
    exact ⟨.inr rfl, trivial, rfl, _, _, rfl⟩
end Go.Proofs.Ytbfeoggdalepmaa.AE
namespace Go.Proofs.Ytbfeoggdalepmaa.AE
set_option maxRecDepth 100000
open Go.RowKit
/-- What the calls answer, over a block's cells; a variable in the trees. -/
structure HS where
  ok : List AV → Bool
  bel : List AV → Int → Int
  mI : List AV → Int → Int
  mB : List AV → Int → Bool
  eI : List AV → Int → Int
  eB : List AV → Int → Bool
def obH (f : List AV → List AV → Option (AV × List AV × Bool)) : ObjS where
  pick := fun args _ => match args with
    | .ptr id 0 :: _ => some [id]
    | .pi id 0 :: _ => some [id]
    | _ => none
  mask := [true]
  maskB := [true]
  spec := fun args bs => match bs with
    | [tC] => match args with
      | .ptr 0 0 :: rest => match f tC.2 rest with
        | some x => some (x.1, [(tC.1, x.2.1)], Nat.beq tC.1 48 && x.2.2)
        | none => none
      | .pi 0 0 :: rest => match f tC.2 rest with
        | some x => some (x.1, [(tC.1, x.2.1)], Nat.beq tC.1 48 && x.2.2)
        | none => none
      | _ => none
    | _ => none
def belF (S : HS) : List AV → List AV → Option (AV × List AV × Bool) := fun C args => match args with
  | [.v (.int .i64 a)] => some (gi (S.bel C a), C, S.ok C)
  | _ => none
def at0 (x : AV) : Bool := match x with
  | .pi 0 0 => true
  | .ptr 0 0 => true
  | _ => false
/-- find, with a closure that looks at one box. -/
def obF (S : HS) : ObjS where
  pick := fun args _ => match args with
    | [x, .fn _ [] [.ptr j 0]] => match x with
      | .pi id 0 => some [id, j]
      | .ptr id 0 => some [id, j]
      | _ => none
    | _ => none
  mask := [true, true]
  maskB := [true, true]
  spec := fun args bs => match args with
    | [x, .fn (.func g) [] [.ptr 1 0]] => match at0 x with
     | true => match bs with
      | [tC, tM] => match tM.2 with
        | [.v (.int .i64 m)] => match Nat.beq g 30 with
          | true => some (.v (.tuple #[.int .i64 (S.mI tC.2 m), .bool (S.mB tC.2 m)]), [tC, tM], Nat.beq tC.1 48 && (Nat.beq tM.1 3 && S.ok tC.2))
          | false => match Nat.beq g 29 with
            | true => some (.v (.tuple #[.int .i64 (S.eI tC.2 m), .bool (S.eB tC.2 m)]), [tC, tM], Nat.beq tC.1 48 && (Nat.beq tM.1 3 && S.ok tC.2))
            | false => none
        | _ => none
      | _ => none
     | false => none
    | _ => none
noncomputable def prH (B : BS) (S : HS) : FuncId → Option (List AV → AH → Ans) := fun g => match g with
  | 26 => some (pure? (adP B))
  | 27 => some (pure? (kpP B))
  | 17 => some (obj? (obH (belF S)))
  | 28 => some (obj? (obF S))
  | _ => none
def hiH (C : List AV) : AH := hp [(48, C)] []
theorem h_add (B : BS) (S : HS) (C : List AV) (a n : Int) (Φ : AV → AH → Prop) : callK nro mu0 (prH B S) 10 11 [.pi 0 0, gi a, gi n] (hiH C) (fun r h => some (h.cd ∧ Φ r (tidy h))) =
    (bif (decide ((0 : Int) ≤ a)) then (bif (!(decide (a < (exInt (List.getD C (128 : Nat) AV.dead))))) then (some ((cds True (shapes Try.prog (List.take (1 : Nat) (List.drop (128 : Nat) C)) [(3 : Nat)]) ((List.take (1 : Nat) (List.drop (128 : Nat) C)) = [(AV.v (Value.int IntKind.i64 (exInt (List.getD C (128 : Nat) AV.dead))))])) ∧ (Φ (AV.v (Value.bool false)) (AH.mk [((48 : Nat), C)] (@List.nil Nat) (0 : Nat) (0 : Nat) true (@List.nil (Prod Nat Bool)) True)))) else (some ((cdb (cdb (cds (cdb (cds True (shapes Try.prog (List.take (1 : Nat) (List.drop (128 : Nat) C)) [(3 : Nat)]) ((List.take (1 : Nat) (List.drop (128 : Nat) C)) = [(AV.v (Value.int IntKind.i64 (exInt (List.getD C (128 : Nat) AV.dead))))])) (decide (((0 : Int) ≤ a) ∧ (a < (128 : Int))))) (shapes Try.prog (List.take (1 : Nat) (List.drop ((0 : Nat) + ((Int.toNat a) * (1 : Nat))) C)) [(3 : Nat)]) ((List.take (1 : Nat) (List.drop ((0 : Nat) + ((Int.toNat a) * (1 : Nat))) C)) = [(AV.v (Value.int IntKind.i64 (exInt (List.getD C (((0 : Nat) + ((Int.toNat a) * (1 : Nat))) + (0 : Nat)) AV.dead))))])) (decide (((0 : Int) ≤ a) ∧ (a < (128 : Int))))) (decide ((((0 : Nat) + ((Int.toNat a) * (1 : Nat))) + (1 : Nat)) ≤ (List.length C)))) ∧ (Φ (AV.v (Value.bool true)) (AH.mk [((48 : Nat), (((List.take ((0 : Nat) + ((Int.toNat a) * (1 : Nat))) C) ++ [(AV.v (Value.int IntKind.i64 ((B).1 (exInt (List.getD C (((0 : Nat) + ((Int.toNat a) * (1 : Nat))) + (0 : Nat)) AV.dead)) n)))]) ++ (List.drop (((0 : Nat) + ((Int.toNat a) * (1 : Nat))) + (List.length [(AV.v (Value.int IntKind.i64 ((B).1 (exInt (List.getD C (((0 : Nat) + ((Int.toNat a) * (1 : Nat))) + (0 : Nat)) AV.dead)) n)))])) C)))] (@List.nil Nat) (0 : Nat) (0 : Nat) true (@List.nil (Prod Nat Bool)) True))))) else (some (True ∧ (Φ (AV.v (Value.bool false)) (AH.mk [((48 : Nat), C)] (@List.nil Nat) (0 : Nat) (0 : Nat) true (@List.nil (Prod Nat Bool)) True))))) := by kernel_rfl
theorem h_cnt (B : BS) (S : HS) (C : List AV) (a : Int) (Φ : AV → AH → Prop) : callK nro mu0 (prH B S) 10 9 [.pi 0 0, gi a] (hiH C) (fun r h => some (h.cd ∧ Φ r (tidy h))) =
    (bif (decide ((0 : Int) ≤ a)) then (bif (!(decide (a < (exInt (List.getD C (128 : Nat) AV.dead))))) then (some ((cds True (shapes Try.prog (List.take (1 : Nat) (List.drop (128 : Nat) C)) [(3 : Nat)]) ((List.take (1 : Nat) (List.drop (128 : Nat) C)) = [(AV.v (Value.int IntKind.i64 (exInt (List.getD C (128 : Nat) AV.dead))))])) ∧ (Φ (AV.v (Value.bool false)) (AH.mk [((48 : Nat), C)] (@List.nil Nat) (0 : Nat) (0 : Nat) true (@List.nil (Prod Nat Bool)) True)))) else (some ((cdb (cdb (cds (cdb (cds True (shapes Try.prog (List.take (1 : Nat) (List.drop (128 : Nat) C)) [(3 : Nat)]) ((List.take (1 : Nat) (List.drop (128 : Nat) C)) = [(AV.v (Value.int IntKind.i64 (exInt (List.getD C (128 : Nat) AV.dead))))])) (decide (((0 : Int) ≤ a) ∧ (a < (128 : Int))))) (shapes Try.prog (List.take (1 : Nat) (List.drop ((0 : Nat) + ((Int.toNat a) * (1 : Nat))) C)) [(3 : Nat)]) ((List.take (1 : Nat) (List.drop ((0 : Nat) + ((Int.toNat a) * (1 : Nat))) C)) = [(AV.v (Value.int IntKind.i64 (exInt (List.getD C (((0 : Nat) + ((Int.toNat a) * (1 : Nat))) + (0 : Nat)) AV.dead))))])) (decide (((0 : Int) ≤ a) ∧ (a < (128 : Int))))) (decide ((((0 : Nat) + ((Int.toNat a) * (1 : Nat))) + (1 : Nat)) ≤ (List.length C)))) ∧ (Φ (AV.v (Value.bool true)) (AH.mk [((48 : Nat), (((List.take ((0 : Nat) + ((Int.toNat a) * (1 : Nat))) C) ++ [(AV.v (Value.int IntKind.i64 ((B).1 (exInt (List.getD C (((0 : Nat) + ((Int.toNat a) * (1 : Nat))) + (0 : Nat)) AV.dead)) (1 : Int))))]) ++ (List.drop (((0 : Nat) + ((Int.toNat a) * (1 : Nat))) + (List.length [(AV.v (Value.int IntKind.i64 ((B).1 (exInt (List.getD C (((0 : Nat) + ((Int.toNat a) * (1 : Nat))) + (0 : Nat)) AV.dead)) (1 : Int))))])) C)))] (@List.nil Nat) (0 : Nat) (0 : Nat) true (@List.nil (Prod Nat Bool)) True))))) else (some (True ∧ (Φ (AV.v (Value.bool false)) (AH.mk [((48 : Nat), C)] (@List.nil Nat) (0 : Nat) (0 : Nat) true (@List.nil (Prod Nat Bool)) True))))) := by kernel_rfl
theorem h_many (B : BS) (S : HS) (C : List AV) (a : Int) (Φ : AV → AH → Prop) : callK nro mu0 (prH B S) 10 22 [.pi 0 0, gi a] (hiH C) (fun r h => some (h.cd ∧ Φ r (tidy h))) =
    (bif (decide ((0 : Int) ≤ a)) then (bif (!(decide (a < (exInt (List.getD C (128 : Nat) AV.dead))))) then (some ((cds True (shapes Try.prog (List.take (1 : Nat) (List.drop (128 : Nat) C)) [(3 : Nat)]) ((List.take (1 : Nat) (List.drop (128 : Nat) C)) = [(AV.v (Value.int IntKind.i64 (exInt (List.getD C (128 : Nat) AV.dead))))])) ∧ (Φ (AV.v (Value.int IntKind.i64 (0 : Int))) (AH.mk [((48 : Nat), C)] (@List.nil Nat) (0 : Nat) (0 : Nat) true (@List.nil (Prod Nat Bool)) True)))) else (some ((cds (cdb (cds True (shapes Try.prog (List.take (1 : Nat) (List.drop (128 : Nat) C)) [(3 : Nat)]) ((List.take (1 : Nat) (List.drop (128 : Nat) C)) = [(AV.v (Value.int IntKind.i64 (exInt (List.getD C (128 : Nat) AV.dead))))])) (decide (((0 : Int) ≤ a) ∧ (a < (128 : Int))))) (shapes Try.prog (List.take (1 : Nat) (List.drop ((0 : Nat) + ((Int.toNat a) * (1 : Nat))) C)) [(3 : Nat)]) ((List.take (1 : Nat) (List.drop ((0 : Nat) + ((Int.toNat a) * (1 : Nat))) C)) = [(AV.v (Value.int IntKind.i64 (exInt (List.getD C (((0 : Nat) + ((Int.toNat a) * (1 : Nat))) + (0 : Nat)) AV.dead))))])) ∧ (Φ (AV.v (Value.int IntKind.i64 (exInt (List.getD C (((0 : Nat) + ((Int.toNat a) * (1 : Nat))) + (0 : Nat)) AV.dead)))) (AH.mk [((48 : Nat), C)] (@List.nil Nat) (0 : Nat) (0 : Nat) true (@List.nil (Prod Nat Bool)) True))))) else (some (True ∧ (Φ (AV.v (Value.int IntKind.i64 (0 : Int))) (AH.mk [((48 : Nat), C)] (@List.nil Nat) (0 : Nat) (0 : Nat) true (@List.nil (Prod Nat Bool)) True))))) := by kernel_rfl
theorem h_clr (B : BS) (S : HS) (C : List AV) (Φ : AV → AH → Prop) : callK nro mu0 (prH B S) 10 12 [.pi 0 0] (hiH C) (fun r h => some (h.cd ∧ Φ r (tidy h))) =
    (some ((cdb True (decide ((128 : Nat) ≤ (List.length C)))) ∧ (Φ (AV.v (Value.tuple (Array.mk (@List.nil Go.Value)))) (AH.mk [((48 : Nat), ((AV.v (Value.int IntKind.i64 (0 : Int))) :: (AV.v (Value.int IntKind.i64 (0 : Int))) :: (AV.v (Value.int IntKind.i64 (0 : Int))) :: (AV.v (Value.int IntKind.i64 (0 : Int))) :: (AV.v (Value.int IntKind.i64 (0 : Int))) :: (AV.v (Value.int IntKind.i64 (0 : Int))) :: (AV.v (Value.int IntKind.i64 (0 : Int))) :: (AV.v (Value.int IntKind.i64 (0 : Int))) :: (AV.v (Value.int IntKind.i64 (0 : Int))) :: (AV.v (Value.int IntKind.i64 (0 : Int))) :: (AV.v (Value.int IntKind.i64 (0 : Int))) :: (AV.v (Value.int IntKind.i64 (0 : Int))) :: (AV.v (Value.int IntKind.i64 (0 : Int))) :: (AV.v (Value.int IntKind.i64 (0 : Int))) :: (AV.v (Value.int IntKind.i64 (0 : Int))) :: (AV.v (Value.int IntKind.i64 (0 : Int))) :: (AV.v (Value.int IntKind.i64 (0 : Int))) :: (AV.v (Value.int IntKind.i64 (0 : Int))) :: (AV.v (Value.int IntKind.i64 (0 : Int))) :: (AV.v (Value.int IntKind.i64 (0 : Int))) :: (AV.v (Value.int IntKind.i64 (0 : Int))) :: (AV.v (Value.int IntKind.i64 (0 : Int))) :: (AV.v (Value.int IntKind.i64 (0 : Int))) :: (AV.v (Value.int IntKind.i64 (0 : Int))) :: (AV.v (Value.int IntKind.i64 (0 : Int))) :: (AV.v (Value.int IntKind.i64 (0 : Int))) :: (AV.v (Value.int IntKind.i64 (0 : Int))) :: (AV.v (Value.int IntKind.i64 (0 : Int))) :: (AV.v (Value.int IntKind.i64 (0 : Int))) :: (AV.v (Value.int IntKind.i64 (0 : Int))) :: (AV.v (Value.int IntKind.i64 (0 : Int))) :: (AV.v (Value.int IntKind.i64 (0 : Int))) :: (AV.v (Value.int IntKind.i64 (0 : Int))) :: (AV.v (Value.int IntKind.i64 (0 : Int))) :: (AV.v (Value.int IntKind.i64 (0 : Int))) :: (AV.v (Value.int IntKind.i64 (0 : Int))) :: (AV.v (Value.int IntKind.i64 (0 : Int))) :: (AV.v (Value.int IntKind.i64 (0 : Int))) :: (AV.v (Value.int IntKind.i64 (0 : Int))) :: (AV.v (Value.int IntKind.i64 (0 : Int))) :: (AV.v (Value.int IntKind.i64 (0 : Int))) :: (AV.v (Value.int IntKind.i64 (0 : Int))) :: (AV.v (Value.int IntKind.i64 (0 : Int))) :: (AV.v (Value.int IntKind.i64 (0 : Int))) :: (AV.v (Value.int IntKind.i64 (0 : Int))) :: (AV.v (Value.int IntKind.i64 (0 : Int))) :: (AV.v (Value.int IntKind.i64 (0 : Int))) :: (AV.v (Value.int IntKind.i64 (0 : Int))) :: (AV.v (Value.int IntKind.i64 (0 : Int))) :: (AV.v (Value.int IntKind.i64 (0 : Int))) :: (AV.v (Value.int IntKind.i64 (0 : Int))) :: (AV.v (Value.int IntKind.i64 (0 : Int))) :: (AV.v (Value.int IntKind.i64 (0 : Int))) :: (AV.v (Value.int IntKind.i64 (0 : Int))) :: (AV.v (Value.int IntKind.i64 (0 : Int))) :: (AV.v (Value.int IntKind.i64 (0 : Int))) :: (AV.v (Value.int IntKind.i64 (0 : Int))) :: (AV.v (Value.int IntKind.i64 (0 : Int))) :: (AV.v (Value.int IntKind.i64 (0 : Int))) :: (AV.v (Value.int IntKind.i64 (0 : Int))) :: (AV.v (Value.int IntKind.i64 (0 : Int))) :: (AV.v (Value.int IntKind.i64 (0 : Int))) :: (AV.v (Value.int IntKind.i64 (0 : Int))) :: (AV.v (Value.int IntKind.i64 (0 : Int))) :: (AV.v (Value.int IntKind.i64 (0 : Int))) :: (AV.v (Value.int IntKind.i64 (0 : Int))) :: (AV.v (Value.int IntKind.i64 (0 : Int))) :: (AV.v (Value.int IntKind.i64 (0 : Int))) :: (AV.v (Value.int IntKind.i64 (0 : Int))) :: (AV.v (Value.int IntKind.i64 (0 : Int))) :: (AV.v (Value.int IntKind.i64 (0 : Int))) :: (AV.v (Value.int IntKind.i64 (0 : Int))) :: (AV.v (Value.int IntKind.i64 (0 : Int))) :: (AV.v (Value.int IntKind.i64 (0 : Int))) :: (AV.v (Value.int IntKind.i64 (0 : Int))) :: (AV.v (Value.int IntKind.i64 (0 : Int))) :: (AV.v (Value.int IntKind.i64 (0 : Int))) :: (AV.v (Value.int IntKind.i64 (0 : Int))) :: (AV.v (Value.int IntKind.i64 (0 : Int))) :: (AV.v (Value.int IntKind.i64 (0 : Int))) :: (AV.v (Value.int IntKind.i64 (0 : Int))) :: (AV.v (Value.int IntKind.i64 (0 : Int))) :: (AV.v (Value.int IntKind.i64 (0 : Int))) :: (AV.v (Value.int IntKind.i64 (0 : Int))) :: (AV.v (Value.int IntKind.i64 (0 : Int))) :: (AV.v (Value.int IntKind.i64 (0 : Int))) :: (AV.v (Value.int IntKind.i64 (0 : Int))) :: (AV.v (Value.int IntKind.i64 (0 : Int))) :: (AV.v (Value.int IntKind.i64 (0 : Int))) :: (AV.v (Value.int IntKind.i64 (0 : Int))) :: (AV.v (Value.int IntKind.i64 (0 : Int))) :: (AV.v (Value.int IntKind.i64 (0 : Int))) :: (AV.v (Value.int IntKind.i64 (0 : Int))) :: (AV.v (Value.int IntKind.i64 (0 : Int))) :: (AV.v (Value.int IntKind.i64 (0 : Int))) :: (AV.v (Value.int IntKind.i64 (0 : Int))) :: (AV.v (Value.int IntKind.i64 (0 : Int))) :: (AV.v (Value.int IntKind.i64 (0 : Int))) :: (AV.v (Value.int IntKind.i64 (0 : Int))) :: (AV.v (Value.int IntKind.i64 (0 : Int))) :: (AV.v (Value.int IntKind.i64 (0 : Int))) :: (AV.v (Value.int IntKind.i64 (0 : Int))) :: (AV.v (Value.int IntKind.i64 (0 : Int))) :: (AV.v (Value.int IntKind.i64 (0 : Int))) :: (AV.v (Value.int IntKind.i64 (0 : Int))) :: (AV.v (Value.int IntKind.i64 (0 : Int))) :: (AV.v (Value.int IntKind.i64 (0 : Int))) :: (AV.v (Value.int IntKind.i64 (0 : Int))) :: (AV.v (Value.int IntKind.i64 (0 : Int))) :: (AV.v (Value.int IntKind.i64 (0 : Int))) :: (AV.v (Value.int IntKind.i64 (0 : Int))) :: (AV.v (Value.int IntKind.i64 (0 : Int))) :: (AV.v (Value.int IntKind.i64 (0 : Int))) :: (AV.v (Value.int IntKind.i64 (0 : Int))) :: (AV.v (Value.int IntKind.i64 (0 : Int))) :: (AV.v (Value.int IntKind.i64 (0 : Int))) :: (AV.v (Value.int IntKind.i64 (0 : Int))) :: (AV.v (Value.int IntKind.i64 (0 : Int))) :: (AV.v (Value.int IntKind.i64 (0 : Int))) :: (AV.v (Value.int IntKind.i64 (0 : Int))) :: (AV.v (Value.int IntKind.i64 (0 : Int))) :: (AV.v (Value.int IntKind.i64 (0 : Int))) :: (AV.v (Value.int IntKind.i64 (0 : Int))) :: (AV.v (Value.int IntKind.i64 (0 : Int))) :: (AV.v (Value.int IntKind.i64 (0 : Int))) :: (AV.v (Value.int IntKind.i64 (0 : Int))) :: (AV.v (Value.int IntKind.i64 (0 : Int))) :: (AV.v (Value.int IntKind.i64 (0 : Int))) :: (List.drop (128 : Nat) C)))] (@List.nil Nat) (0 : Nat) (0 : Nat) true (@List.nil (Prod Nat Bool)) True)))) := by kernel_rfl
theorem h_tot (B : BS) (S : HS) (C : List AV) (Φ : AV → AH → Prop) : callK nro mu0 (prH B S) 10 19 [.pi 0 0] (hiH C) (fun r h => some (h.cd ∧ Φ r (tidy h))) =
    (some ((cdb True (((Nat.beq (48 : Nat) (48 : Nat)) && ((S).1 C)) && (((plainC C) && true) && ((plainC C) && true)))) ∧ (Φ (AV.v (Value.int IntKind.i64 ((S).2 C (128 : Int)))) (AH.mk [((48 : Nat), C)] (@List.nil Nat) (0 : Nat) (0 : Nat) true (@List.nil (Prod Nat Bool)) True)))) := by kernel_rfl
theorem h_most (B : BS) (S : HS) (C : List AV) (m : Int) (Φ : AV → AH → Prop) : callK nro mu0 (prH B S) 10 15 [.pi 0 0, gi m] (hiH C) (fun r h => some (h.cd ∧ Φ r (tidy h))) =
    (bif (!((S).4 C ((B).2 m (2147483647 : Int)))) then (some ((cds (cdb True (((Nat.beq (48 : Nat) (48 : Nat)) && ((Nat.beq (3 : Nat) (3 : Nat)) && ((S).1 C))) && (((plainC C) && ((plainC [(AV.v (Value.int IntKind.i64 ((B).2 m (2147483647 : Int))))]) && true)) && ((plainC C) && ((plainC [(AV.v (Value.int IntKind.i64 ((B).2 m (2147483647 : Int))))]) && true))))) (shapes Try.prog (List.take (1 : Nat) (List.drop (128 : Nat) C)) [(3 : Nat)]) ((List.take (1 : Nat) (List.drop (128 : Nat) C)) = [(AV.v (Value.int IntKind.i64 (exInt (List.getD C (128 : Nat) AV.dead))))])) ∧ (Φ (AV.v (Value.int IntKind.i64 (exInt (List.getD C (128 : Nat) AV.dead)))) (AH.mk [((48 : Nat), C), ((3 : Nat), [(AV.v (Value.int IntKind.i64 ((B).2 m (2147483647 : Int))))])] (@List.nil Nat) (0 : Nat) (0 : Nat) true (@List.nil (Prod Nat Bool)) True)))) else (some ((cdb True (((Nat.beq (48 : Nat) (48 : Nat)) && ((Nat.beq (3 : Nat) (3 : Nat)) && ((S).1 C))) && (((plainC C) && ((plainC [(AV.v (Value.int IntKind.i64 ((B).2 m (2147483647 : Int))))]) && true)) && ((plainC C) && ((plainC [(AV.v (Value.int IntKind.i64 ((B).2 m (2147483647 : Int))))]) && true))))) ∧ (Φ (AV.v (Value.int IntKind.i64 (IntKind.wrap IntKind.i64 (((S).3 C ((B).2 m (2147483647 : Int))) - (1 : Int))))) (AH.mk [((48 : Nat), C), ((3 : Nat), [(AV.v (Value.int IntKind.i64 ((B).2 m (2147483647 : Int))))])] (@List.nil Nat) (0 : Nat) (0 : Nat) true (@List.nil (Prod Nat Bool)) True))))) := by kernel_rfl
theorem h_least (B : BS) (S : HS) (C : List AV) (m : Int) (Φ : AV → AH → Prop) : callK nro mu0 (prH B S) 10 13 [.pi 0 0, gi m] (hiH C) (fun r h => some (h.cd ∧ Φ r (tidy h))) =
    (bif ((exInt (List.getD C (128 : Nat) AV.dead)) == (0 : Int)) then (some ((cds True (shapes Try.prog (List.take (1 : Nat) (List.drop (128 : Nat) C)) [(3 : Nat)]) ((List.take (1 : Nat) (List.drop (128 : Nat) C)) = [(AV.v (Value.int IntKind.i64 (exInt (List.getD C (128 : Nat) AV.dead))))])) ∧ (Φ (AV.v (Value.tuple #[(Value.int IntKind.i64 (0 : Int)), (Value.bool false)])) (AH.mk [((48 : Nat), C)] (@List.nil Nat) (0 : Nat) (0 : Nat) true (@List.nil (Prod Nat Bool)) True)))) else (some ((cdb (cds True (shapes Try.prog (List.take (1 : Nat) (List.drop (128 : Nat) C)) [(3 : Nat)]) ((List.take (1 : Nat) (List.drop (128 : Nat) C)) = [(AV.v (Value.int IntKind.i64 (exInt (List.getD C (128 : Nat) AV.dead))))])) (((Nat.beq (48 : Nat) (48 : Nat)) && ((Nat.beq (3 : Nat) (3 : Nat)) && ((S).1 C))) && (((plainC C) && ((plainC [(AV.v (Value.int IntKind.i64 ((B).2 m (2147483647 : Int))))]) && true)) && ((plainC C) && ((plainC [(AV.v (Value.int IntKind.i64 ((B).2 m (2147483647 : Int))))]) && true))))) ∧ (Φ (AV.v (Value.tuple #[(Value.int IntKind.i64 ((S).5 C ((B).2 m (2147483647 : Int)))), (Value.bool ((S).6 C ((B).2 m (2147483647 : Int))))])) (AH.mk [((48 : Nat), C), ((3 : Nat), [(AV.v (Value.int IntKind.i64 ((B).2 m (2147483647 : Int))))])] (@List.nil Nat) (0 : Nat) (0 : Nat) true (@List.nil (Prod Nat Bool)) True))))) := by kernel_rfl
theorem h_all (B : BS) (S : HS) (C : List AV) (Φ : AV → AH → Prop) : callK nro mu0 (prH B S) 10 21 [.pi 0 0] (hiH C) (fun r h => some (h.cd ∧ Φ r (tidy h))) =
    (some ((cdb (cds (cds True (shapes Try.prog (List.take (128 : Nat) C) [(3 : Nat), (3 : Nat), (3 : Nat), (3 : Nat), (3 : Nat), (3 : Nat), (3 : Nat), (3 : Nat), (3 : Nat), (3 : Nat), (3 : Nat), (3 : Nat), (3 : Nat), (3 : Nat), (3 : Nat), (3 : Nat), (3 : Nat), (3 : Nat), (3 : Nat), (3 : Nat), (3 : Nat), (3 : Nat), (3 : Nat), (3 : Nat), (3 : Nat), (3 : Nat), (3 : Nat), (3 : Nat), (3 : Nat), (3 : Nat), (3 : Nat), (3 : Nat), (3 : Nat), (3 : Nat), (3 : Nat), (3 : Nat), (3 : Nat), (3 : Nat), (3 : Nat), (3 : Nat), (3 : Nat), (3 : Nat), (3 : Nat), (3 : Nat), (3 : Nat), (3 : Nat), (3 : Nat), (3 : Nat), (3 : Nat), (3 : Nat), (3 : Nat), (3 : Nat), (3 : Nat), (3 : Nat), (3 : Nat), (3 : Nat), (3 : Nat), (3 : Nat), (3 : Nat), (3 : Nat), (3 : Nat), (3 : Nat), (3 : Nat), (3 : Nat), (3 : Nat), (3 : Nat), (3 : Nat), (3 : Nat), (3 : Nat), (3 : Nat), (3 : Nat), (3 : Nat), (3 : Nat), (3 : Nat), (3 : Nat), (3 : Nat), (3 : Nat), (3 : Nat), (3 : Nat), (3 : Nat), (3 : Nat), (3 : Nat), (3 : Nat), (3 : Nat), (3 : Nat), (3 : Nat), (3 : Nat), (3 : Nat), (3 : Nat), (3 : Nat), (3 : Nat), (3 : Nat), (3 : Nat), (3 : Nat), (3 : Nat), (3 : Nat), (3 : Nat), (3 : Nat), (3 : Nat), (3 : Nat), (3 : Nat), (3 : Nat), (3 : Nat), (3 : Nat), (3 : Nat), (3 : Nat), (3 : Nat), (3 : Nat), (3 : Nat), (3 : Nat), (3 : Nat), (3 : Nat), (3 : Nat), (3 : Nat), (3 : Nat), (3 : Nat), (3 : Nat), (3 : Nat), (3 : Nat), (3 : Nat), (3 : Nat), (3 : Nat), (3 : Nat), (3 : Nat), (3 : Nat), (3 : Nat), (3 : Nat), (3 : Nat)]) ((List.take (128 : Nat) C) = [(AV.v (Value.int IntKind.i64 (exInt (List.getD C (0 : Nat) AV.dead)))), (AV.v (Value.int IntKind.i64 (exInt (List.getD C (1 : Nat) AV.dead)))), (AV.v (Value.int IntKind.i64 (exInt (List.getD C (2 : Nat) AV.dead)))), (AV.v (Value.int IntKind.i64 (exInt (List.getD C (3 : Nat) AV.dead)))), (AV.v (Value.int IntKind.i64 (exInt (List.getD C (4 : Nat) AV.dead)))), (AV.v (Value.int IntKind.i64 (exInt (List.getD C (5 : Nat) AV.dead)))), (AV.v (Value.int IntKind.i64 (exInt (List.getD C (6 : Nat) AV.dead)))), (AV.v (Value.int IntKind.i64 (exInt (List.getD C (7 : Nat) AV.dead)))), (AV.v (Value.int IntKind.i64 (exInt (List.getD C (8 : Nat) AV.dead)))), (AV.v (Value.int IntKind.i64 (exInt (List.getD C (9 : Nat) AV.dead)))), (AV.v (Value.int IntKind.i64 (exInt (List.getD C (10 : Nat) AV.dead)))), (AV.v (Value.int IntKind.i64 (exInt (List.getD C (11 : Nat) AV.dead)))), (AV.v (Value.int IntKind.i64 (exInt (List.getD C (12 : Nat) AV.dead)))), (AV.v (Value.int IntKind.i64 (exInt (List.getD C (13 : Nat) AV.dead)))), (AV.v (Value.int IntKind.i64 (exInt (List.getD C (14 : Nat) AV.dead)))), (AV.v (Value.int IntKind.i64 (exInt (List.getD C (15 : Nat) AV.dead)))), (AV.v (Value.int IntKind.i64 (exInt (List.getD C (16 : Nat) AV.dead)))), (AV.v (Value.int IntKind.i64 (exInt (List.getD C (17 : Nat) AV.dead)))), (AV.v (Value.int IntKind.i64 (exInt (List.getD C (18 : Nat) AV.dead)))), (AV.v (Value.int IntKind.i64 (exInt (List.getD C (19 : Nat) AV.dead)))), (AV.v (Value.int IntKind.i64 (exInt (List.getD C (20 : Nat) AV.dead)))), (AV.v (Value.int IntKind.i64 (exInt (List.getD C (21 : Nat) AV.dead)))), (AV.v (Value.int IntKind.i64 (exInt (List.getD C (22 : Nat) AV.dead)))), (AV.v (Value.int IntKind.i64 (exInt (List.getD C (23 : Nat) AV.dead)))), (AV.v (Value.int IntKind.i64 (exInt (List.getD C (24 : Nat) AV.dead)))), (AV.v (Value.int IntKind.i64 (exInt (List.getD C (25 : Nat) AV.dead)))), (AV.v (Value.int IntKind.i64 (exInt (List.getD C (26 : Nat) AV.dead)))), (AV.v (Value.int IntKind.i64 (exInt (List.getD C (27 : Nat) AV.dead)))), (AV.v (Value.int IntKind.i64 (exInt (List.getD C (28 : Nat) AV.dead)))), (AV.v (Value.int IntKind.i64 (exInt (List.getD C (29 : Nat) AV.dead)))), (AV.v (Value.int IntKind.i64 (exInt (List.getD C (30 : Nat) AV.dead)))), (AV.v (Value.int IntKind.i64 (exInt (List.getD C (31 : Nat) AV.dead)))), (AV.v (Value.int IntKind.i64 (exInt (List.getD C (32 : Nat) AV.dead)))), (AV.v (Value.int IntKind.i64 (exInt (List.getD C (33 : Nat) AV.dead)))), (AV.v (Value.int IntKind.i64 (exInt (List.getD C (34 : Nat) AV.dead)))), (AV.v (Value.int IntKind.i64 (exInt (List.getD C (35 : Nat) AV.dead)))), (AV.v (Value.int IntKind.i64 (exInt (List.getD C (36 : Nat) AV.dead)))), (AV.v (Value.int IntKind.i64 (exInt (List.getD C (37 : Nat) AV.dead)))), (AV.v (Value.int IntKind.i64 (exInt (List.getD C (38 : Nat) AV.dead)))), (AV.v (Value.int IntKind.i64 (exInt (List.getD C (39 : Nat) AV.dead)))), (AV.v (Value.int IntKind.i64 (exInt (List.getD C (40 : Nat) AV.dead)))), (AV.v (Value.int IntKind.i64 (exInt (List.getD C (41 : Nat) AV.dead)))), (AV.v (Value.int IntKind.i64 (exInt (List.getD C (42 : Nat) AV.dead)))), (AV.v (Value.int IntKind.i64 (exInt (List.getD C (43 : Nat) AV.dead)))), (AV.v (Value.int IntKind.i64 (exInt (List.getD C (44 : Nat) AV.dead)))), (AV.v (Value.int IntKind.i64 (exInt (List.getD C (45 : Nat) AV.dead)))), (AV.v (Value.int IntKind.i64 (exInt (List.getD C (46 : Nat) AV.dead)))), (AV.v (Value.int IntKind.i64 (exInt (List.getD C (47 : Nat) AV.dead)))), (AV.v (Value.int IntKind.i64 (exInt (List.getD C (48 : Nat) AV.dead)))), (AV.v (Value.int IntKind.i64 (exInt (List.getD C (49 : Nat) AV.dead)))), (AV.v (Value.int IntKind.i64 (exInt (List.getD C (50 : Nat) AV.dead)))), (AV.v (Value.int IntKind.i64 (exInt (List.getD C (51 : Nat) AV.dead)))), (AV.v (Value.int IntKind.i64 (exInt (List.getD C (52 : Nat) AV.dead)))), (AV.v (Value.int IntKind.i64 (exInt (List.getD C (53 : Nat) AV.dead)))), (AV.v (Value.int IntKind.i64 (exInt (List.getD C (54 : Nat) AV.dead)))), (AV.v (Value.int IntKind.i64 (exInt (List.getD C (55 : Nat) AV.dead)))), (AV.v (Value.int IntKind.i64 (exInt (List.getD C (56 : Nat) AV.dead)))), (AV.v (Value.int IntKind.i64 (exInt (List.getD C (57 : Nat) AV.dead)))), (AV.v (Value.int IntKind.i64 (exInt (List.getD C (58 : Nat) AV.dead)))), (AV.v (Value.int IntKind.i64 (exInt (List.getD C (59 : Nat) AV.dead)))), (AV.v (Value.int IntKind.i64 (exInt (List.getD C (60 : Nat) AV.dead)))), (AV.v (Value.int IntKind.i64 (exInt (List.getD C (61 : Nat) AV.dead)))), (AV.v (Value.int IntKind.i64 (exInt (List.getD C (62 : Nat) AV.dead)))), (AV.v (Value.int IntKind.i64 (exInt (List.getD C (63 : Nat) AV.dead)))), (AV.v (Value.int IntKind.i64 (exInt (List.getD C (64 : Nat) AV.dead)))), (AV.v (Value.int IntKind.i64 (exInt (List.getD C (65 : Nat) AV.dead)))), (AV.v (Value.int IntKind.i64 (exInt (List.getD C (66 : Nat) AV.dead)))), (AV.v (Value.int IntKind.i64 (exInt (List.getD C (67 : Nat) AV.dead)))), (AV.v (Value.int IntKind.i64 (exInt (List.getD C (68 : Nat) AV.dead)))), (AV.v (Value.int IntKind.i64 (exInt (List.getD C (69 : Nat) AV.dead)))), (AV.v (Value.int IntKind.i64 (exInt (List.getD C (70 : Nat) AV.dead)))), (AV.v (Value.int IntKind.i64 (exInt (List.getD C (71 : Nat) AV.dead)))), (AV.v (Value.int IntKind.i64 (exInt (List.getD C (72 : Nat) AV.dead)))), (AV.v (Value.int IntKind.i64 (exInt (List.getD C (73 : Nat) AV.dead)))), (AV.v (Value.int IntKind.i64 (exInt (List.getD C (74 : Nat) AV.dead)))), (AV.v (Value.int IntKind.i64 (exInt (List.getD C (75 : Nat) AV.dead)))), (AV.v (Value.int IntKind.i64 (exInt (List.getD C (76 : Nat) AV.dead)))), (AV.v (Value.int IntKind.i64 (exInt (List.getD C (77 : Nat) AV.dead)))), (AV.v (Value.int IntKind.i64 (exInt (List.getD C (78 : Nat) AV.dead)))), (AV.v (Value.int IntKind.i64 (exInt (List.getD C (79 : Nat) AV.dead)))), (AV.v (Value.int IntKind.i64 (exInt (List.getD C (80 : Nat) AV.dead)))), (AV.v (Value.int IntKind.i64 (exInt (List.getD C (81 : Nat) AV.dead)))), (AV.v (Value.int IntKind.i64 (exInt (List.getD C (82 : Nat) AV.dead)))), (AV.v (Value.int IntKind.i64 (exInt (List.getD C (83 : Nat) AV.dead)))), (AV.v (Value.int IntKind.i64 (exInt (List.getD C (84 : Nat) AV.dead)))), (AV.v (Value.int IntKind.i64 (exInt (List.getD C (85 : Nat) AV.dead)))), (AV.v (Value.int IntKind.i64 (exInt (List.getD C (86 : Nat) AV.dead)))), (AV.v (Value.int IntKind.i64 (exInt (List.getD C (87 : Nat) AV.dead)))), (AV.v (Value.int IntKind.i64 (exInt (List.getD C (88 : Nat) AV.dead)))), (AV.v (Value.int IntKind.i64 (exInt (List.getD C (89 : Nat) AV.dead)))), (AV.v (Value.int IntKind.i64 (exInt (List.getD C (90 : Nat) AV.dead)))), (AV.v (Value.int IntKind.i64 (exInt (List.getD C (91 : Nat) AV.dead)))), (AV.v (Value.int IntKind.i64 (exInt (List.getD C (92 : Nat) AV.dead)))), (AV.v (Value.int IntKind.i64 (exInt (List.getD C (93 : Nat) AV.dead)))), (AV.v (Value.int IntKind.i64 (exInt (List.getD C (94 : Nat) AV.dead)))), (AV.v (Value.int IntKind.i64 (exInt (List.getD C (95 : Nat) AV.dead)))), (AV.v (Value.int IntKind.i64 (exInt (List.getD C (96 : Nat) AV.dead)))), (AV.v (Value.int IntKind.i64 (exInt (List.getD C (97 : Nat) AV.dead)))), (AV.v (Value.int IntKind.i64 (exInt (List.getD C (98 : Nat) AV.dead)))), (AV.v (Value.int IntKind.i64 (exInt (List.getD C (99 : Nat) AV.dead)))), (AV.v (Value.int IntKind.i64 (exInt (List.getD C (100 : Nat) AV.dead)))), (AV.v (Value.int IntKind.i64 (exInt (List.getD C (101 : Nat) AV.dead)))), (AV.v (Value.int IntKind.i64 (exInt (List.getD C (102 : Nat) AV.dead)))), (AV.v (Value.int IntKind.i64 (exInt (List.getD C (103 : Nat) AV.dead)))), (AV.v (Value.int IntKind.i64 (exInt (List.getD C (104 : Nat) AV.dead)))), (AV.v (Value.int IntKind.i64 (exInt (List.getD C (105 : Nat) AV.dead)))), (AV.v (Value.int IntKind.i64 (exInt (List.getD C (106 : Nat) AV.dead)))), (AV.v (Value.int IntKind.i64 (exInt (List.getD C (107 : Nat) AV.dead)))), (AV.v (Value.int IntKind.i64 (exInt (List.getD C (108 : Nat) AV.dead)))), (AV.v (Value.int IntKind.i64 (exInt (List.getD C (109 : Nat) AV.dead)))), (AV.v (Value.int IntKind.i64 (exInt (List.getD C (110 : Nat) AV.dead)))), (AV.v (Value.int IntKind.i64 (exInt (List.getD C (111 : Nat) AV.dead)))), (AV.v (Value.int IntKind.i64 (exInt (List.getD C (112 : Nat) AV.dead)))), (AV.v (Value.int IntKind.i64 (exInt (List.getD C (113 : Nat) AV.dead)))), (AV.v (Value.int IntKind.i64 (exInt (List.getD C (114 : Nat) AV.dead)))), (AV.v (Value.int IntKind.i64 (exInt (List.getD C (115 : Nat) AV.dead)))), (AV.v (Value.int IntKind.i64 (exInt (List.getD C (116 : Nat) AV.dead)))), (AV.v (Value.int IntKind.i64 (exInt (List.getD C (117 : Nat) AV.dead)))), (AV.v (Value.int IntKind.i64 (exInt (List.getD C (118 : Nat) AV.dead)))), (AV.v (Value.int IntKind.i64 (exInt (List.getD C (119 : Nat) AV.dead)))), (AV.v (Value.int IntKind.i64 (exInt (List.getD C (120 : Nat) AV.dead)))), (AV.v (Value.int IntKind.i64 (exInt (List.getD C (121 : Nat) AV.dead)))), (AV.v (Value.int IntKind.i64 (exInt (List.getD C (122 : Nat) AV.dead)))), (AV.v (Value.int IntKind.i64 (exInt (List.getD C (123 : Nat) AV.dead)))), (AV.v (Value.int IntKind.i64 (exInt (List.getD C (124 : Nat) AV.dead)))), (AV.v (Value.int IntKind.i64 (exInt (List.getD C (125 : Nat) AV.dead)))), (AV.v (Value.int IntKind.i64 (exInt (List.getD C (126 : Nat) AV.dead)))), (AV.v (Value.int IntKind.i64 (exInt (List.getD C (127 : Nat) AV.dead))))])) (shapes Try.prog (List.take (1 : Nat) (List.drop (128 : Nat) C)) [(3 : Nat)]) ((List.take (1 : Nat) (List.drop (128 : Nat) C)) = [(AV.v (Value.int IntKind.i64 (exInt (List.getD C (128 : Nat) AV.dead))))])) (decide (((0 : Int) ≤ (0 : Int)) ∧ (((0 : Int) ≤ (exInt (List.getD C (128 : Nat) AV.dead))) ∧ ((exInt (List.getD C (128 : Nat) AV.dead)) ≤ (128 : Int)))))) ∧ (Φ (AV.sl (List.length [((48 : Nat), C)]) (0 : Nat) (Int.toNat ((exInt (List.getD C (128 : Nat) AV.dead)) - (0 : Int))) (128 : Nat)) (AH.mk [((48 : Nat), C), ((46 : Nat), [(AV.v (Value.int IntKind.i64 (exInt (List.getD C (0 : Nat) AV.dead)))), (AV.v (Value.int IntKind.i64 (exInt (List.getD C (1 : Nat) AV.dead)))), (AV.v (Value.int IntKind.i64 (exInt (List.getD C (2 : Nat) AV.dead)))), (AV.v (Value.int IntKind.i64 (exInt (List.getD C (3 : Nat) AV.dead)))), (AV.v (Value.int IntKind.i64 (exInt (List.getD C (4 : Nat) AV.dead)))), (AV.v (Value.int IntKind.i64 (exInt (List.getD C (5 : Nat) AV.dead)))), (AV.v (Value.int IntKind.i64 (exInt (List.getD C (6 : Nat) AV.dead)))), (AV.v (Value.int IntKind.i64 (exInt (List.getD C (7 : Nat) AV.dead)))), (AV.v (Value.int IntKind.i64 (exInt (List.getD C (8 : Nat) AV.dead)))), (AV.v (Value.int IntKind.i64 (exInt (List.getD C (9 : Nat) AV.dead)))), (AV.v (Value.int IntKind.i64 (exInt (List.getD C (10 : Nat) AV.dead)))), (AV.v (Value.int IntKind.i64 (exInt (List.getD C (11 : Nat) AV.dead)))), (AV.v (Value.int IntKind.i64 (exInt (List.getD C (12 : Nat) AV.dead)))), (AV.v (Value.int IntKind.i64 (exInt (List.getD C (13 : Nat) AV.dead)))), (AV.v (Value.int IntKind.i64 (exInt (List.getD C (14 : Nat) AV.dead)))), (AV.v (Value.int IntKind.i64 (exInt (List.getD C (15 : Nat) AV.dead)))), (AV.v (Value.int IntKind.i64 (exInt (List.getD C (16 : Nat) AV.dead)))), (AV.v (Value.int IntKind.i64 (exInt (List.getD C (17 : Nat) AV.dead)))), (AV.v (Value.int IntKind.i64 (exInt (List.getD C (18 : Nat) AV.dead)))), (AV.v (Value.int IntKind.i64 (exInt (List.getD C (19 : Nat) AV.dead)))), (AV.v (Value.int IntKind.i64 (exInt (List.getD C (20 : Nat) AV.dead)))), (AV.v (Value.int IntKind.i64 (exInt (List.getD C (21 : Nat) AV.dead)))), (AV.v (Value.int IntKind.i64 (exInt (List.getD C (22 : Nat) AV.dead)))), (AV.v (Value.int IntKind.i64 (exInt (List.getD C (23 : Nat) AV.dead)))), (AV.v (Value.int IntKind.i64 (exInt (List.getD C (24 : Nat) AV.dead)))), (AV.v (Value.int IntKind.i64 (exInt (List.getD C (25 : Nat) AV.dead)))), (AV.v (Value.int IntKind.i64 (exInt (List.getD C (26 : Nat) AV.dead)))), (AV.v (Value.int IntKind.i64 (exInt (List.getD C (27 : Nat) AV.dead)))), (AV.v (Value.int IntKind.i64 (exInt (List.getD C (28 : Nat) AV.dead)))), (AV.v (Value.int IntKind.i64 (exInt (List.getD C (29 : Nat) AV.dead)))), (AV.v (Value.int IntKind.i64 (exInt (List.getD C (30 : Nat) AV.dead)))), (AV.v (Value.int IntKind.i64 (exInt (List.getD C (31 : Nat) AV.dead)))), (AV.v (Value.int IntKind.i64 (exInt (List.getD C (32 : Nat) AV.dead)))), (AV.v (Value.int IntKind.i64 (exInt (List.getD C (33 : Nat) AV.dead)))), (AV.v (Value.int IntKind.i64 (exInt (List.getD C (34 : Nat) AV.dead)))), (AV.v (Value.int IntKind.i64 (exInt (List.getD C (35 : Nat) AV.dead)))), (AV.v (Value.int IntKind.i64 (exInt (List.getD C (36 : Nat) AV.dead)))), (AV.v (Value.int IntKind.i64 (exInt (List.getD C (37 : Nat) AV.dead)))), (AV.v (Value.int IntKind.i64 (exInt (List.getD C (38 : Nat) AV.dead)))), (AV.v (Value.int IntKind.i64 (exInt (List.getD C (39 : Nat) AV.dead)))), (AV.v (Value.int IntKind.i64 (exInt (List.getD C (40 : Nat) AV.dead)))), (AV.v (Value.int IntKind.i64 (exInt (List.getD C (41 : Nat) AV.dead)))), (AV.v (Value.int IntKind.i64 (exInt (List.getD C (42 : Nat) AV.dead)))), (AV.v (Value.int IntKind.i64 (exInt (List.getD C (43 : Nat) AV.dead)))), (AV.v (Value.int IntKind.i64 (exInt (List.getD C (44 : Nat) AV.dead)))), (AV.v (Value.int IntKind.i64 (exInt (List.getD C (45 : Nat) AV.dead)))), (AV.v (Value.int IntKind.i64 (exInt (List.getD C (46 : Nat) AV.dead)))), (AV.v (Value.int IntKind.i64 (exInt (List.getD C (47 : Nat) AV.dead)))), (AV.v (Value.int IntKind.i64 (exInt (List.getD C (48 : Nat) AV.dead)))), (AV.v (Value.int IntKind.i64 (exInt (List.getD C (49 : Nat) AV.dead)))), (AV.v (Value.int IntKind.i64 (exInt (List.getD C (50 : Nat) AV.dead)))), (AV.v (Value.int IntKind.i64 (exInt (List.getD C (51 : Nat) AV.dead)))), (AV.v (Value.int IntKind.i64 (exInt (List.getD C (52 : Nat) AV.dead)))), (AV.v (Value.int IntKind.i64 (exInt (List.getD C (53 : Nat) AV.dead)))), (AV.v (Value.int IntKind.i64 (exInt (List.getD C (54 : Nat) AV.dead)))), (AV.v (Value.int IntKind.i64 (exInt (List.getD C (55 : Nat) AV.dead)))), (AV.v (Value.int IntKind.i64 (exInt (List.getD C (56 : Nat) AV.dead)))), (AV.v (Value.int IntKind.i64 (exInt (List.getD C (57 : Nat) AV.dead)))), (AV.v (Value.int IntKind.i64 (exInt (List.getD C (58 : Nat) AV.dead)))), (AV.v (Value.int IntKind.i64 (exInt (List.getD C (59 : Nat) AV.dead)))), (AV.v (Value.int IntKind.i64 (exInt (List.getD C (60 : Nat) AV.dead)))), (AV.v (Value.int IntKind.i64 (exInt (List.getD C (61 : Nat) AV.dead)))), (AV.v (Value.int IntKind.i64 (exInt (List.getD C (62 : Nat) AV.dead)))), (AV.v (Value.int IntKind.i64 (exInt (List.getD C (63 : Nat) AV.dead)))), (AV.v (Value.int IntKind.i64 (exInt (List.getD C (64 : Nat) AV.dead)))), (AV.v (Value.int IntKind.i64 (exInt (List.getD C (65 : Nat) AV.dead)))), (AV.v (Value.int IntKind.i64 (exInt (List.getD C (66 : Nat) AV.dead)))), (AV.v (Value.int IntKind.i64 (exInt (List.getD C (67 : Nat) AV.dead)))), (AV.v (Value.int IntKind.i64 (exInt (List.getD C (68 : Nat) AV.dead)))), (AV.v (Value.int IntKind.i64 (exInt (List.getD C (69 : Nat) AV.dead)))), (AV.v (Value.int IntKind.i64 (exInt (List.getD C (70 : Nat) AV.dead)))), (AV.v (Value.int IntKind.i64 (exInt (List.getD C (71 : Nat) AV.dead)))), (AV.v (Value.int IntKind.i64 (exInt (List.getD C (72 : Nat) AV.dead)))), (AV.v (Value.int IntKind.i64 (exInt (List.getD C (73 : Nat) AV.dead)))), (AV.v (Value.int IntKind.i64 (exInt (List.getD C (74 : Nat) AV.dead)))), (AV.v (Value.int IntKind.i64 (exInt (List.getD C (75 : Nat) AV.dead)))), (AV.v (Value.int IntKind.i64 (exInt (List.getD C (76 : Nat) AV.dead)))), (AV.v (Value.int IntKind.i64 (exInt (List.getD C (77 : Nat) AV.dead)))), (AV.v (Value.int IntKind.i64 (exInt (List.getD C (78 : Nat) AV.dead)))), (AV.v (Value.int IntKind.i64 (exInt (List.getD C (79 : Nat) AV.dead)))), (AV.v (Value.int IntKind.i64 (exInt (List.getD C (80 : Nat) AV.dead)))), (AV.v (Value.int IntKind.i64 (exInt (List.getD C (81 : Nat) AV.dead)))), (AV.v (Value.int IntKind.i64 (exInt (List.getD C (82 : Nat) AV.dead)))), (AV.v (Value.int IntKind.i64 (exInt (List.getD C (83 : Nat) AV.dead)))), (AV.v (Value.int IntKind.i64 (exInt (List.getD C (84 : Nat) AV.dead)))), (AV.v (Value.int IntKind.i64 (exInt (List.getD C (85 : Nat) AV.dead)))), (AV.v (Value.int IntKind.i64 (exInt (List.getD C (86 : Nat) AV.dead)))), (AV.v (Value.int IntKind.i64 (exInt (List.getD C (87 : Nat) AV.dead)))), (AV.v (Value.int IntKind.i64 (exInt (List.getD C (88 : Nat) AV.dead)))), (AV.v (Value.int IntKind.i64 (exInt (List.getD C (89 : Nat) AV.dead)))), (AV.v (Value.int IntKind.i64 (exInt (List.getD C (90 : Nat) AV.dead)))), (AV.v (Value.int IntKind.i64 (exInt (List.getD C (91 : Nat) AV.dead)))), (AV.v (Value.int IntKind.i64 (exInt (List.getD C (92 : Nat) AV.dead)))), (AV.v (Value.int IntKind.i64 (exInt (List.getD C (93 : Nat) AV.dead)))), (AV.v (Value.int IntKind.i64 (exInt (List.getD C (94 : Nat) AV.dead)))), (AV.v (Value.int IntKind.i64 (exInt (List.getD C (95 : Nat) AV.dead)))), (AV.v (Value.int IntKind.i64 (exInt (List.getD C (96 : Nat) AV.dead)))), (AV.v (Value.int IntKind.i64 (exInt (List.getD C (97 : Nat) AV.dead)))), (AV.v (Value.int IntKind.i64 (exInt (List.getD C (98 : Nat) AV.dead)))), (AV.v (Value.int IntKind.i64 (exInt (List.getD C (99 : Nat) AV.dead)))), (AV.v (Value.int IntKind.i64 (exInt (List.getD C (100 : Nat) AV.dead)))), (AV.v (Value.int IntKind.i64 (exInt (List.getD C (101 : Nat) AV.dead)))), (AV.v (Value.int IntKind.i64 (exInt (List.getD C (102 : Nat) AV.dead)))), (AV.v (Value.int IntKind.i64 (exInt (List.getD C (103 : Nat) AV.dead)))), (AV.v (Value.int IntKind.i64 (exInt (List.getD C (104 : Nat) AV.dead)))), (AV.v (Value.int IntKind.i64 (exInt (List.getD C (105 : Nat) AV.dead)))), (AV.v (Value.int IntKind.i64 (exInt (List.getD C (106 : Nat) AV.dead)))), (AV.v (Value.int IntKind.i64 (exInt (List.getD C (107 : Nat) AV.dead)))), (AV.v (Value.int IntKind.i64 (exInt (List.getD C (108 : Nat) AV.dead)))), (AV.v (Value.int IntKind.i64 (exInt (List.getD C (109 : Nat) AV.dead)))), (AV.v (Value.int IntKind.i64 (exInt (List.getD C (110 : Nat) AV.dead)))), (AV.v (Value.int IntKind.i64 (exInt (List.getD C (111 : Nat) AV.dead)))), (AV.v (Value.int IntKind.i64 (exInt (List.getD C (112 : Nat) AV.dead)))), (AV.v (Value.int IntKind.i64 (exInt (List.getD C (113 : Nat) AV.dead)))), (AV.v (Value.int IntKind.i64 (exInt (List.getD C (114 : Nat) AV.dead)))), (AV.v (Value.int IntKind.i64 (exInt (List.getD C (115 : Nat) AV.dead)))), (AV.v (Value.int IntKind.i64 (exInt (List.getD C (116 : Nat) AV.dead)))), (AV.v (Value.int IntKind.i64 (exInt (List.getD C (117 : Nat) AV.dead)))), (AV.v (Value.int IntKind.i64 (exInt (List.getD C (118 : Nat) AV.dead)))), (AV.v (Value.int IntKind.i64 (exInt (List.getD C (119 : Nat) AV.dead)))), (AV.v (Value.int IntKind.i64 (exInt (List.getD C (120 : Nat) AV.dead)))), (AV.v (Value.int IntKind.i64 (exInt (List.getD C (121 : Nat) AV.dead)))), (AV.v (Value.int IntKind.i64 (exInt (List.getD C (122 : Nat) AV.dead)))), (AV.v (Value.int IntKind.i64 (exInt (List.getD C (123 : Nat) AV.dead)))), (AV.v (Value.int IntKind.i64 (exInt (List.getD C (124 : Nat) AV.dead)))), (AV.v (Value.int IntKind.i64 (exInt (List.getD C (125 : Nat) AV.dead)))), (AV.v (Value.int IntKind.i64 (exInt (List.getD C (126 : Nat) AV.dead)))), (AV.v (Value.int IntKind.i64 (exInt (List.getD C (127 : Nat) AV.dead))))])] (@List.nil Nat) (0 : Nat) (0 : Nat) true (@List.nil (Prod Nat Bool)) True)))) := by kernel_rfl
end Go.Proofs.Ytbfeoggdalepmaa.AE
namespace Go.Proofs.Ytbfeoggdalepmaa.AE
set_option maxRecDepth 100000
open Go.RowKit
def isGi (x : AV) : Bool := match x with
  | .v (.int .i64 _) => true
  | _ => false
theorem isGi_eq {x : AV} (h : isGi x = true) : x = gi (exInt x) := by
  unfold isGi at h
  split at h
  · rfl
  · cases h
def xOf (C : List AV) : List Int := (C.map exInt).take (exInt (C.getD 128 .dead)).toNat
def okH (C : List AV) : Bool := C.all isGi && (decide (C.map exInt = hL (xOf C)) && decide ((xOf C).length ≤ 128))
theorem map_gi_ex : ∀ {C : List AV}, C.all isGi = true → (C.map exInt).map gi = C
  | [], _ => rfl
  | x :: l, h => by
    rw [List.all_cons, Bool.and_eq_true] at h
    rw [List.map_cons, List.map_cons, ← isGi_eq h.1, map_gi_ex h.2]
theorem okH_out {C : List AV} (h : okH C = true) : ∃ x : List Int, x.length ≤ 128 ∧ C = hC x ∧ xOf C = x := by
  unfold okH at h
  simp only [Bool.and_eq_true, decide_eq_true_eq] at h
  refine ⟨xOf C, h.2.2, ?_, rfl⟩
  unfold hC
  rw [← h.2.1, map_gi_ex h.1]
theorem hC_ex (x : List Int) : (hC x).map exInt = hL x := by
  unfold hC
  rw [List.map_map]
  exact (List.map_congr_left (fun a _ => rfl)).trans (List.map_id _)
theorem xOf_hC {x : List Int} (h : x.length ≤ 128) : xOf (hC x) = x := by
  unfold xOf
  rw [hC_128 x h, hC_ex, Int.toNat_natCast]
  unfold hL
  rw [List.append_assoc]
  exact List.take_left' rfl
theorem okH_hC {x : List Int} (h : x.length ≤ 128) : okH (hC x) = true := by
  unfold okH
  simp only [Bool.and_eq_true, decide_eq_true_eq]
  refine ⟨?_, ?_, ?_⟩
  · rw [List.all_eq_true]
    intro y hy
    obtain ⟨n, _, rfl⟩ := List.mem_map.1 hy
    rfl
  · rw [xOf_hC h, hC_ex]
  · rw [xOf_hC h]; exact h
def oI (o : Option Nat) : Int := match o with
  | some t => (t : Int)
  | none => 0
theorem outF_eq (o : Option Nat) : outF o = .v (.tuple #[.int .i64 (oI o), .bool o.isSome]) := by cases o <;> rfl
def fmX (x : List Int) (m : Int) : Option Nat := fstP (pmB bsX x m) 0 (x.length + 1)
def feX (x : List Int) (m : Int) : Option Nat := fstP (peB bsX x m) 0 (x.length + 1)
def hsX : HS := { ok := okH, bel := fun C a => bwI bsX (xOf C) a, mI := fun C m => oI (fmX (xOf C) m), mB := fun C m => (fmX (xOf C) m).isSome, eI := fun C m => oI (feX (xOf C) m), eB := fun C m => (feX (xOf C) m).isSome }
/-- Where it is known of one way to write a pointer, it is known of the other. -/
theorem fs_ptr {ro : Nat → Option (List Value)} {g : FuncId} {id off : Nat} {rest : List AV} {H : AH} {Φ : AV → AH → Prop} (h : Fs Try.prog ro g (.pi id off :: rest) H Φ) : Fs Try.prog ro g (.ptr id off :: rest) H Φ :=
  fun G W cargs hI hR hA => h G W cargs hI hR (by
    generalize cargs.toList = l at hA
    cases hA with
    | cons h1 h2 => cases h1 with | ptr hd => exact .cons (.pi hd) h2)
theorem fs_pi {ro : Nat → Option (List Value)} {g : FuncId} {id off : Nat} {rest : List AV} {H : AH} {Φ : AV → AH → Prop} (h : Fs Try.prog ro g (.ptr id off :: rest) H Φ) : Fs Try.prog ro g (.pi id off :: rest) H Φ :=
  fun G W cargs hI hR hA => h G W cargs hI hR (by
    generalize cargs.toList = l at hA
    cases hA with
    | cons h1 h2 => cases h1 with | pi hd => exact .cons (.ptr hd) h2)
theorem obH_ok {ro : Nat → Option (List Value)} {g : FuncId} {f : List AV → List AV → Option (AV × List AV × Bool)} (hf : ∃ fn, Try.prog.funcs[g]? = some fn ∧ fn.body.isSome = true)
    (h : ∀ C rest r C', f C rest = some (r, C', true) → Fs Try.prog ro g (.pi 0 0 :: rest) (hiH C) fun r' H' => (r' = r ∨ ∃ y, clean r' = some y ∧ Le y r) ∧ ∃ tips more, H' = hp ([(48, C')] ++ more) tips) :
    ∀ args H r H', obj? (obH f) args H = some (r, H') → HSound1 Try.prog ro g args H r H' := by
  refine obj_ok hf fun args bs r bs2 hs => ?_
  unfold obH at hs
  simp only at hs
  split at hs
  · rename_i tC
    obtain ⟨t, C⟩ := tC
    split at hs
    · split at hs
      · rename_i x hx
        obtain ⟨r1, C1, q⟩ := x
        simp only [Option.some.injEq, Prod.mk.injEq, Bool.and_eq_true] at hs
        obtain ⟨rfl, rfl, ht, rfl⟩ := hs
        have ht := Nat.eq_of_beq_eq_true ht
        subst ht
        exact fs_ptr (h _ _ _ _ hx)
      · cases hs
    · split at hs
      · rename_i x hx
        obtain ⟨r1, C1, q⟩ := x
        simp only [Option.some.injEq, Prod.mk.injEq, Bool.and_eq_true] at hs
        obtain ⟨rfl, rfl, ht, rfl⟩ := hs
        have ht := Nat.eq_of_beq_eq_true ht
        subst ht
        exact h _ _ _ _ hx
      · cases hs
    · cases hs
  · cases hs
theorem obel_ok : ∀ args H r H', obj? (obH (belF hsX)) args H = some (r, H') → HSound1 Try.prog nro 17 args H r H' := by
  refine obH_ok (has_fn (by kernel_rfl)) fun C rest r C' h => ?_
  unfold belF at h
  split at h
  · simp only [Option.some.injEq, Prod.mk.injEq] at h
    obtain ⟨rfl, rfl, h⟩ := h
    obtain ⟨x, hx, rfl, hxo⟩ := okH_out h
    refine (fs_below bsX knownN x hx _).mono fun r h => ?_
    rintro ⟨rfl, h2⟩
    refine ⟨.inl ?_, h2⟩
    show _ = gi (bwI bsX (xOf (hC x)) _)
    rw [hxo]
  · cases h
theorem ofnd_ok : ∀ args H r H', obj? (obF hsX) args H = some (r, H') → HSound1 Try.prog nro 28 args H r H' := by
  refine obj_ok (has_fn (by kernel_rfl)) fun args bs r bs2 hs => ?_
  unfold obF at hs
  simp only at hs
  split at hs
  · rename_i x0 g
    split at hs
    rotate_left
    · cases hs
    rename_i hx0
    have go : ∀ {rest : List AV} {H : AH} {Φ : AV → AH → Prop}, Fs Try.prog nro 28 (.pi 0 0 :: rest) H Φ → Fs Try.prog nro 28 (x0 :: rest) H Φ := by
      intro rest H Φ h
      unfold at0 at hx0
      split at hx0
      · exact h
      · exact fs_ptr h
      · cases hx0
    split at hs
    · rename_i tC tM
      obtain ⟨t, C⟩ := tC
      obtain ⟨t2, M⟩ := tM
      simp only at hs
      split at hs
      · rename_i m
        split at hs
        · rename_i hg
          have hg := Nat.eq_of_beq_eq_true hg
          subst hg
          simp only [Option.some.injEq, Prod.mk.injEq, Bool.and_eq_true] at hs
          obtain ⟨rfl, rfl, ht, ht2, hok⟩ := hs
          have ht := Nat.eq_of_beq_eq_true ht
          have ht2 := Nat.eq_of_beq_eq_true ht2
          subst ht ht2
          obtain ⟨x, hx, rfl, hxo⟩ := okH_out hok
          refine (go (fs_fm bsX knownN x hx m)).mono fun r h => ?_
          rintro ⟨rfl, h2⟩
          refine ⟨.inl ?_, h2⟩
          show _ = AV.v (.tuple #[.int .i64 (oI (fmX (xOf (hC x)) m)), .bool (fmX (xOf (hC x)) m).isSome])
          rw [hxo]; exact outF_eq _
        · split at hs
          · rename_i hg
            have hg := Nat.eq_of_beq_eq_true hg
            subst hg
            simp only [Option.some.injEq, Prod.mk.injEq, Bool.and_eq_true] at hs
            obtain ⟨rfl, rfl, ht, ht2, hok⟩ := hs
            have ht := Nat.eq_of_beq_eq_true ht
            have ht2 := Nat.eq_of_beq_eq_true ht2
            subst ht ht2
            obtain ⟨x, hx, rfl, hxo⟩ := okH_out hok
            refine (go (fs_fe bsX knownN x hx m)).mono fun r h => ?_
            rintro ⟨rfl, h2⟩
            refine ⟨.inl ?_, h2⟩
            show _ = AV.v (.tuple #[.int .i64 (oI (feX (xOf (hC x)) m)), .bool (feX (xOf (hC x)) m).isSome])
            rw [hxo]; exact outF_eq _
          · cases hs
      · cases hs
    · cases hs
  · cases hs
theorem knownH : Known nro (prH bsX hsX) := by
  intro g p h
  unfold prH at h
  split at h <;> cases h
  · exact badd_ok
  · exact bkeep_ok
  · exact obel_ok
  · exact ofnd_ok
theorem hC_at (x : List Int) {i : Nat} (h : i < x.length) : exInt ((hC x).getD i .dead) = x.getD i 0 := by
  have h1 : (hC x)[i]? = some (gi x[i]) := by
    unfold hC hL
    rw [List.getElem?_map, List.append_assoc, List.getElem?_append_left h, List.getElem?_eq_getElem h]; rfl
  rw [List.getD_eq_getElem?_getD, h1, List.getD_eq_getElem?_getD, List.getElem?_eq_getElem h]; rfl
theorem c128 (x : List Int) (hx : x.length ≤ 128) : ((hC x).drop 128).take 1 = [gi (x.length : Int)] := by
  have := shape_any (C := hC x) (k := 128) rfl (by rw [hL_len hx]; omega)
  rwa [hC_128 x hx] at this
theorem cAt (x : List Int) (hx : x.length ≤ 128) {i : Nat} (h : i < x.length) : ((hC x).drop i).take 1 = [gi (x.getD i 0)] := by
  have := shape_any (C := hC x) (k := i) rfl (by rw [hL_len hx]; omega)
  rwa [hC_at x h] at this
def inX (x : List Int) (a : Int) : Bool := decide (0 ≤ a) && decide (a < (x.length : Int))
/-- The counts, so many more of a level. -/
def addX (x : List Int) (a n : Int) : List Int := if inX x a = true then x.set a.toNat (Bd.addC (x.getD a.toNat 0) n) else x
theorem addX_len (x : List Int) (a n : Int) : (addX x a n).length = x.length := by unfold addX; split <;> simp
theorem hL_set (x : List Int) {i : Nat} (h : i < x.length) (v : Int) : hL (x.set i v) = (hL x).set i v := by
  unfold hL
  rw [List.length_set, List.append_assoc, List.append_assoc, List.set_append_left _ _ h]
theorem hC_set (x : List Int) {i : Nat} (h : i < x.length) (v : Int) : (hC x).take i ++ [gi v] ++ (hC x).drop (i + 1) = hC (x.set i v) := by
  have hl : i < (hL x).length := by unfold hL; simp; omega
  unfold hC
  rw [hL_set x h, List.map_set, List.set_eq_take_append_cons_drop, if_pos (by simpa using hl), List.append_assoc]; rfl
/-- A call answers r0, and leaves the block so; or with blocks behind it. -/
def reP (r0 : AV) (C' : List AV) : AV → AH → Prop := fun r H' => r = r0 ∧ H' = hiH C'
def rmP (r0 : AV) (C' : List AV) : AV → AH → Prop := fun r H' => r = r0 ∧ ∃ tips more, H' = hp ([(48, C')] ++ more) tips
theorem fs_hadd (x : List Int) (hx : x.length ≤ 128) (a n : Int) : Fs Try.prog nro 11 [.pi 0 0, gi a, gi n] (hiH (hC x)) (reP (.v (.bool (inX x a))) (hC (addX x a n))) := by
  refine Fs.of_call knownH (h_add bsX hsX (hC x) a n (reP (.v (.bool (inX x a))) (hC (addX x a n)))) ?_
  rw [hC_128 x hx]
  refine holds_bif (fun h => ?_) (fun h => ?_)
  · have h := of_decide_eq_true h
    refine holds_bif (fun h2 => ?_) (fun h2 => ?_)
    · have h2 : ¬ a < x.length := by simpa using h2
      have hin : inX x a = false := by unfold inX; simp; omega
      refine holds_some ⟨cds_of trivial (c128 x hx), by rw [hin], ?_⟩
      unfold addX; rw [hin]; rfl
    · have h2 : a < x.length := by simpa using h2
      have hin : inX x a = true := by unfold inX; simp; omega
      have hi : a.toNat < x.length := by omega
      have e1 : (0 : Nat) + Int.toNat a * 1 = a.toNat := by omega
      rw [e1, Nat.add_zero, hC_at x hi]
      refine holds_some ⟨cdb_iff.2 ⟨cdb_iff.2 ⟨cds_of (cdb_iff.2 ⟨cds_of trivial (c128 x hx), by simp; omega⟩) (cAt x hx hi), by simp; omega⟩, ?_⟩, by rw [hin], ?_⟩
      · have : (hC x).length = 129 := by unfold hC; rw [List.length_map, hL_len hx]
        rw [this]; simp; omega
      · unfold addX
        rw [hin, if_pos rfl]
        show (AH.mk [(_, (hC x).take a.toNat ++ [gi (Bd.addC (x.getD a.toNat 0) n)] ++ (hC x).drop (a.toNat + 1))] _ _ _ _ _ _) = _
        rw [hC_set x hi]; rfl
  · have h := of_decide_eq_false h
    have hin : inX x a = false := by unfold inX; simp; omega
    refine holds_some ⟨trivial, by rw [hin], ?_⟩
    unfold addX; rw [hin]; rfl
theorem fs_hcnt (x : List Int) (hx : x.length ≤ 128) (a : Int) : Fs Try.prog nro 9 [.pi 0 0, gi a] (hiH (hC x)) (reP (.v (.bool (inX x a))) (hC (addX x a 1))) := by
  refine Fs.of_call knownH (h_cnt bsX hsX (hC x) a (reP (.v (.bool (inX x a))) (hC (addX x a 1)))) ?_
  rw [hC_128 x hx]
  refine holds_bif (fun h => ?_) (fun h => ?_)
  · have h := of_decide_eq_true h
    refine holds_bif (fun h2 => ?_) (fun h2 => ?_)
    · have h2 : ¬ a < x.length := by simpa using h2
      have hin : inX x a = false := by unfold inX; simp; omega
      refine holds_some ⟨cds_of trivial (c128 x hx), by rw [hin], ?_⟩
      unfold addX; rw [hin]; rfl
    · have h2 : a < x.length := by simpa using h2
      have hin : inX x a = true := by unfold inX; simp; omega
      have hi : a.toNat < x.length := by omega
      have e1 : (0 : Nat) + Int.toNat a * 1 = a.toNat := by omega
      rw [e1, Nat.add_zero, hC_at x hi]
      refine holds_some ⟨cdb_iff.2 ⟨cdb_iff.2 ⟨cds_of (cdb_iff.2 ⟨cds_of trivial (c128 x hx), by simp; omega⟩) (cAt x hx hi), by simp; omega⟩, ?_⟩, by rw [hin], ?_⟩
      · have : (hC x).length = 129 := by unfold hC; rw [List.length_map, hL_len hx]
        rw [this]; simp; omega
      · unfold addX
        rw [hin, if_pos rfl]
        show (AH.mk [(_, (hC x).take a.toNat ++ [gi (Bd.addC (x.getD a.toNat 0) 1)] ++ (hC x).drop (a.toNat + 1))] _ _ _ _ _ _) = _
        rw [hC_set x hi]; rfl
  · have h := of_decide_eq_false h
    have hin : inX x a = false := by unfold inX; simp; omega
    refine holds_some ⟨trivial, by rw [hin], ?_⟩
    unfold addX; rw [hin]; rfl
/-- How many there are of a level. -/
def manyX (x : List Int) (a : Int) : Int := if inX x a = true then x.getD a.toNat 0 else 0
theorem fs_hmany (x : List Int) (hx : x.length ≤ 128) (a : Int) : Fs Try.prog nro 22 [.pi 0 0, gi a] (hiH (hC x)) (reP (gi (manyX x a)) (hC x)) := by
  refine Fs.of_call knownH (h_many bsX hsX (hC x) a (reP (gi (manyX x a)) (hC x))) ?_
  rw [hC_128 x hx]
  refine holds_bif (fun h => ?_) (fun h => ?_)
  · have h := of_decide_eq_true h
    refine holds_bif (fun h2 => ?_) (fun h2 => ?_)
    · have h2 : ¬ a < x.length := by simpa using h2
      have hin : inX x a = false := by unfold inX; simp; omega
      refine holds_some ⟨cds_of trivial (c128 x hx), ?_, rfl⟩
      unfold manyX; rw [hin]; rfl
    · have h2 : a < x.length := by simpa using h2
      have hin : inX x a = true := by unfold inX; simp; omega
      have hi : a.toNat < x.length := by omega
      have e1 : (0 : Nat) + Int.toNat a * 1 = a.toNat := by omega
      rw [e1, Nat.add_zero, hC_at x hi]
      refine holds_some ⟨cds_of (cdb_iff.2 ⟨cds_of trivial (c128 x hx), by simp; omega⟩) (cAt x hx hi), ?_, rfl⟩
      unfold manyX; rw [hin]; rfl
  · have h := of_decide_eq_false h
    have hin : inX x a = false := by unfold inX; simp; omega
    refine holds_some ⟨trivial, ?_, rfl⟩
    unfold manyX; rw [hin]; rfl
theorem hC_len (x : List Int) (hx : x.length ≤ 128) : (hC x).length = 129 := by unfold hC; rw [List.length_map, hL_len hx]
def clrX (x : List Int) : List Int := List.replicate x.length 0
theorem clr_cells (x : List Int) (hx : x.length ≤ 128) : (List.replicate 128 (gi 0)) ++ (hC x).drop 128 = hC (clrX x) := by
  have h1 : (hC x).drop 128 = [gi (x.length : Int)] := by
    have := c128 x hx
    rw [List.take_of_length_le] at this
    · exact this
    · rw [List.length_drop, hC_len x hx]; omega
  rw [h1]
  unfold clrX hC hL
  rw [List.length_replicate, List.replicate_append_replicate, show x.length + (128 - x.length) = 128 by omega, List.map_append, List.map_replicate]
  rfl
theorem fs_hclr (x : List Int) (hx : x.length ≤ 128) : Fs Try.prog nro 12 [.pi 0 0] (hiH (hC x)) (reP (.v (.tuple #[])) (hC (clrX x))) := by
  refine Fs.of_call knownH (h_clr bsX hsX (hC x) (reP (.v (.tuple #[])) (hC (clrX x)))) ?_
  refine holds_some ⟨cdb_iff.2 ⟨trivial, by rw [hC_len x hx]; rfl⟩, rfl, ?_⟩
  unfold hiH
  rw [← clr_cells x hx]
  rfl
theorem okx {x : List Int} (hx : x.length ≤ 128) : hsX.ok (hC x) = true := okH_hC hx
theorem fs_htot (x : List Int) (hx : x.length ≤ 128) : Fs Try.prog nro 19 [.pi 0 0] (hiH (hC x)) (reP (gi (bwI bsX x 128)) (hC x)) := by
  refine Fs.of_call knownH (h_tot bsX hsX (hC x) (reP (gi (bwI bsX x 128)) (hC x))) ?_
  refine holds_some ⟨cdb_iff.2 ⟨trivial, by rw [okx hx, hC_plain]; rfl⟩, ?_, rfl⟩
  show gi (bwI bsX (xOf (hC x)) 128) = _
  rw [xOf_hC hx]
/-- Most, by the first threshold below which there are too many. -/
def mostX (x : List Int) (m : Int) : Int := match fmX x (Bd.kp m 2147483647) with
  | some t => (t : Int) - 1
  | none => x.length
theorem fst_le {p : Nat → Bool} : ∀ {t k r : Nat}, fstP p t k = some r → t ≤ r ∧ r < t + k ∧ p r = true
  | t, 0, r, h => by cases h
  | t, k + 1, r, h => by
    unfold fstP at h
    split at h
    · rename_i hp
      cases h
      exact ⟨Nat.le_refl _, by omega, hp⟩
    · obtain ⟨h1, h2, h3⟩ := fst_le h
      exact ⟨by omega, by omega, h3⟩
theorem fs_hmost (x : List Int) (hx : x.length ≤ 128) (m : Int) : Fs Try.prog nro 15 [.pi 0 0, gi m] (hiH (hC x)) (rmP (gi (mostX x m)) (hC x)) := by
  refine Fs.of_call knownH (h_most bsX hsX (hC x) m (rmP (gi (mostX x m)) (hC x))) ?_
  have e1 : hsX.mB (hC x) (bsX.kp m 2147483647) = (fmX x (Bd.kp m 2147483647)).isSome := by show (fmX (xOf (hC x)) _).isSome = _; rw [xOf_hC hx]; rfl
  have e2 : hsX.mI (hC x) (bsX.kp m 2147483647) = oI (fmX x (Bd.kp m 2147483647)) := by show oI (fmX (xOf (hC x)) _) = _; rw [xOf_hC hx]; rfl
  rw [e1, e2, hC_128 x hx]
  unfold mostX
  cases hf : fmX x (Bd.kp m 2147483647) with
  | none =>
    refine holds_some ⟨cds_of (cdb_iff.2 ⟨trivial, by rw [okx hx, hC_plain]; rfl⟩) (c128 x hx), rfl, _, _, rfl⟩
  | some t =>
    have ht := fst_le hf
    refine holds_some ⟨cdb_iff.2 ⟨trivial, by rw [okx hx, hC_plain]; rfl⟩, ?_, _, _, rfl⟩
    show gi (IntKind.wrap .i64 ((t : Int) - 1)) = gi ((t : Int) - 1)
    have e : IntKind.wrap .i64 ((t : Int) - 1) = (t : Int) - 1 := by rw [IntKind.wrap_i64]; omega
    rw [e]
/-- Least. -/
def leastX (x : List Int) (m : Int) : Option Nat := if x.length = 0 then none else feX x (Bd.kp m 2147483647)
theorem fs_hleast (x : List Int) (hx : x.length ≤ 128) (m : Int) : Fs Try.prog nro 13 [.pi 0 0, gi m] (hiH (hC x)) (rmP (.v (.tuple #[.int .i64 (oI (leastX x m)), .bool (leastX x m).isSome])) (hC x)) := by
  refine Fs.of_call knownH (h_least bsX hsX (hC x) m (rmP (.v (.tuple #[.int .i64 (oI (leastX x m)), .bool (leastX x m).isSome])) (hC x))) ?_
  have e1 : hsX.eB (hC x) (bsX.kp m 2147483647) = (feX x (Bd.kp m 2147483647)).isSome := by show (feX (xOf (hC x)) _).isSome = _; rw [xOf_hC hx]; rfl
  have e2 : hsX.eI (hC x) (bsX.kp m 2147483647) = oI (feX x (Bd.kp m 2147483647)) := by show oI (feX (xOf (hC x)) _) = _; rw [xOf_hC hx]; rfl
  rw [e1, e2, hC_128 x hx]
  unfold leastX
  refine holds_bif (fun h => ?_) (fun h => ?_)
  · have h : x.length = 0 := by simpa using h
    rw [if_pos h]
    exact holds_some ⟨cds_of trivial (c128 x hx), rfl, _, _, rfl⟩
  · have h : ¬ x.length = 0 := by simpa using h
    rw [if_neg h]
    exact holds_some ⟨cdb_iff.2 ⟨cds_of trivial (c128 x hx), by rw [okx hx, hC_plain]; rfl⟩, rfl, _, _, rfl⟩
end Go.Proofs.Ytbfeoggdalepmaa.AE
namespace Go.Proofs.Ytbfeoggdalepmaa.AE
set_option maxRecDepth 100000
open Go.RowKit
def siA (x y : AV) (i : Int) : List AV := [x, y, .dead, .dead, .dead, gi i] ++ List.replicate 26 .dead
theorem si_pre (ro : Nat → Option (List Value)) (a b : List Int) (R : Exit → List AV → AH → Prop) : codeL ro (fun _ => false) (fun _ => none) 5 ((flatten (bodyOf 20)).take 4) ([.lst 1 (a.map gi) .no, .lst 1 (b.map gi) .no] ++ List.replicate 30 (.v undef)) (hp [] []) (kp [0, 1, 4, 5] R) =
    (bif (((List.length (List.map gi a)) : Int) != ((List.length (List.map gi b)) : Int)) then (some (True ∧ (R Exit.ret [(AV.lst (1 : Nat) (List.map gi a) Tip.no), (AV.lst (1 : Nat) (List.map gi b) Tip.no), AV.dead, AV.dead, (AV.v (Value.bool false)), (AV.v (Value.tuple (Array.mk (@List.nil Go.Value)))), AV.dead, AV.dead, AV.dead, AV.dead, AV.dead, AV.dead, AV.dead, AV.dead, AV.dead, AV.dead, AV.dead, AV.dead, AV.dead, AV.dead, AV.dead, AV.dead, AV.dead, AV.dead, AV.dead, AV.dead, AV.dead, AV.dead, AV.dead, AV.dead, AV.dead, AV.dead] (AH.mk (@List.nil (Prod Go.TypeId (List AV))) (@List.nil Nat) (0 : Nat) (0 : Nat) true (@List.nil (Prod Nat Bool)) True)))) else (some (True ∧ (R Exit.normal [(AV.lst (1 : Nat) (List.map gi a) Tip.no), (AV.lst (1 : Nat) (List.map gi b) Tip.no), AV.dead, AV.dead, (AV.v (Value.bool false)), (AV.v (Value.int IntKind.i64 (0 : Int))), AV.dead, AV.dead, AV.dead, AV.dead, AV.dead, AV.dead, AV.dead, AV.dead, AV.dead, AV.dead, AV.dead, AV.dead, AV.dead, AV.dead, AV.dead, AV.dead, AV.dead, AV.dead, AV.dead, AV.dead, AV.dead, AV.dead, AV.dead, AV.dead, AV.dead, AV.dead] (AH.mk (@List.nil (Prod Go.TypeId (List AV))) (@List.nil Nat) (0 : Nat) (0 : Nat) true (@List.nil (Prod Nat Bool)) True))))) := by kernel_rfl
theorem si_in (ro : Nat → Option (List Value)) (a b : List Int) (i : Int) (R : Exit → List AV → AH → Prop) : code ro (fun _ => false) (fun _ => none) 5 (sub (bodyOf 20) [1, 1, 0, 1, 0, 0]) (siA (.lst 1 (a.map gi) .no) (.lst 1 (b.map gi) .no) i) (hp [] []) (kp [0, 1, 4, 5] R) =
    (bif (decide (i < ((List.length (List.map gi a)) : Int))) then (bif (decide (i < ((List.length (List.map gi b)) : Int))) then (bif ((exInt (List.getD (List.map gi a) (Int.toNat i) AV.dead)) != (exInt (List.getD (List.map gi b) (Int.toNat i) AV.dead))) then (some ((cds (cds True (elemB Try.prog (3 : Nat) (List.map gi a) i) (((0 : Int) ≤ i) ∧ (((List.map gi a)[(Int.toNat i)]?) = (some (AV.v (Value.int IntKind.i64 (exInt (List.getD (List.map gi a) (Int.toNat i) AV.dead)))))))) (elemB Try.prog (3 : Nat) (List.map gi b) i) (((0 : Int) ≤ i) ∧ (((List.map gi b)[(Int.toNat i)]?) = (some (AV.v (Value.int IntKind.i64 (exInt (List.getD (List.map gi b) (Int.toNat i) AV.dead)))))))) ∧ (R Exit.ret [(AV.lst (1 : Nat) (List.map gi a) Tip.no), (AV.lst (1 : Nat) (List.map gi b) Tip.no), AV.dead, AV.dead, (AV.v (Value.bool false)), (AV.v (Value.int IntKind.i64 i)), AV.dead, AV.dead, AV.dead, AV.dead, AV.dead, AV.dead, AV.dead, AV.dead, AV.dead, AV.dead, AV.dead, AV.dead, AV.dead, AV.dead, AV.dead, AV.dead, AV.dead, AV.dead, AV.dead, AV.dead, AV.dead, AV.dead, AV.dead, AV.dead, AV.dead, AV.dead] (AH.mk (@List.nil (Prod Go.TypeId (List AV))) (@List.nil Nat) (0 : Nat) (0 : Nat) true (@List.nil (Prod Nat Bool)) True)))) else (some ((cds (cds True (elemB Try.prog (3 : Nat) (List.map gi a) i) (((0 : Int) ≤ i) ∧ (((List.map gi a)[(Int.toNat i)]?) = (some (AV.v (Value.int IntKind.i64 (exInt (List.getD (List.map gi a) (Int.toNat i) AV.dead)))))))) (elemB Try.prog (3 : Nat) (List.map gi b) i) (((0 : Int) ≤ i) ∧ (((List.map gi b)[(Int.toNat i)]?) = (some (AV.v (Value.int IntKind.i64 (exInt (List.getD (List.map gi b) (Int.toNat i) AV.dead)))))))) ∧ (R Exit.normal [(AV.lst (1 : Nat) (List.map gi a) Tip.no), (AV.lst (1 : Nat) (List.map gi b) Tip.no), AV.dead, AV.dead, AV.dead, (AV.v (Value.int IntKind.i64 (IntKind.wrap IntKind.i64 (i + (1 : Int))))), AV.dead, AV.dead, AV.dead, AV.dead, AV.dead, AV.dead, AV.dead, AV.dead, AV.dead, AV.dead, AV.dead, AV.dead, AV.dead, AV.dead, AV.dead, AV.dead, AV.dead, AV.dead, AV.dead, AV.dead, AV.dead, AV.dead, AV.dead, AV.dead, AV.dead, AV.dead] (AH.mk (@List.nil (Prod Go.TypeId (List AV))) (@List.nil Nat) (0 : Nat) (0 : Nat) true (@List.nil (Prod Nat Bool)) True))))) else (some (True ∧ (R (Exit.exit (0 : Nat)) [(AV.lst (1 : Nat) (List.map gi a) Tip.no), (AV.lst (1 : Nat) (List.map gi b) Tip.no), AV.dead, AV.dead, AV.dead, (AV.v (Value.int IntKind.i64 i)), AV.dead, AV.dead, AV.dead, AV.dead, AV.dead, AV.dead, AV.dead, AV.dead, AV.dead, AV.dead, AV.dead, AV.dead, AV.dead, AV.dead, AV.dead, AV.dead, AV.dead, AV.dead, AV.dead, AV.dead, AV.dead, AV.dead, AV.dead, AV.dead, AV.dead, AV.dead] (AH.mk (@List.nil (Prod Go.TypeId (List AV))) (@List.nil Nat) (0 : Nat) (0 : Nat) true (@List.nil (Prod Nat Bool)) True))))) else (some (True ∧ (R (Exit.exit (0 : Nat)) [(AV.lst (1 : Nat) (List.map gi a) Tip.no), (AV.lst (1 : Nat) (List.map gi b) Tip.no), AV.dead, AV.dead, AV.dead, (AV.v (Value.int IntKind.i64 i)), AV.dead, AV.dead, AV.dead, AV.dead, AV.dead, AV.dead, AV.dead, AV.dead, AV.dead, AV.dead, AV.dead, AV.dead, AV.dead, AV.dead, AV.dead, AV.dead, AV.dead, AV.dead, AV.dead, AV.dead, AV.dead, AV.dead, AV.dead, AV.dead, AV.dead, AV.dead] (AH.mk (@List.nil (Prod Go.TypeId (List AV))) (@List.nil Nat) (0 : Nat) (0 : Nat) true (@List.nil (Prod Nat Bool)) True))))) := by kernel_rfl
theorem si_post (ro : Nat → Option (List Value)) (x y : AV) (i : Int) (R : Exit → List AV → AH → Prop) : codeL ro (fun _ => false) (fun _ => none) 5 ((flatten (bodyOf 20)).drop 5) (siA x y i) (hp [] []) (kp [4] R) =
    (some (True ∧ (R Exit.ret [AV.dead, AV.dead, AV.dead, AV.dead, (AV.v (Value.bool true)), AV.dead, AV.dead, AV.dead, AV.dead, AV.dead, AV.dead, AV.dead, AV.dead, AV.dead, AV.dead, AV.dead, AV.dead, AV.dead, AV.dead, AV.dead, AV.dead, AV.dead, AV.dead, AV.dead, AV.dead, AV.dead, AV.dead, AV.dead, AV.dead, AV.dead, AV.dead, AV.dead] (AH.mk (@List.nil (Prod Go.TypeId (List AV))) (@List.nil Nat) (0 : Nat) (0 : Nat) true (@List.nil (Prod Nat Bool)) True)))) := by kernel_rfl
end Go.Proofs.Ytbfeoggdalepmaa.AE
namespace Go.Proofs.Ytbfeoggdalepmaa.AE
set_option maxRecDepth 100000
open Go.RowKit
theorem ne_nil {α : Type} {l : List α} (h : l.isEmpty = false) : l ≠ [] := by cases l <;> simp_all
theorem gil (l : List Int) : (l.map gi).length = l.length := List.length_map ..
theorem gi_el {l : List Int} {i : Nat} (h : i < l.length) : (0 : Int) ≤ (i : Int) ∧ (l.map gi)[Int.toNat (i : Int)]? = some (.v (.int .i64 l[i])) := ⟨Int.natCast_nonneg i, gi_get h⟩
theorem si_sl : slotsOf 20 = 32 := by kernel_rfl
theorem si_re : resultsOf 20 = [.tmp 4] := by kernel_rfl
theorem si_fl : (flatten (bodyOf 20)).drop 4 = .block 0 (.loop (sub (bodyOf 20) [1, 1, 0, 1, 0, 0])) :: (flatten (bodyOf 20)).drop 5 := by kernel_rfl
theorem gilS (l : List Int) : (l.map gi).length = l.length := List.length_map ..
set_option maxRecDepth 100000 in
theorem fs_samei {ro : Nat → Option (List Value)} (a b : List Int) (ha : a.length ≤ 1000000) : Fs Try.prog ro 20 [.lst 1 (a.map gi) .no, .lst 1 (b.map gi) .no] (hp [] []) fun r _ => r = .v (.bool (decide (a = b))) := by
  refine Fs.of_body (has_fn (by kernel_rfl)) ?_
  rw [si_sl, si_re]
  have pre := fun R => si_pre ro a b R
  rw [gilS, gilS] at pre
  refine Tr.of_flat (Trl.split 4 (Trl.of_code (known_none _) (ne_nil (by kernel_rfl)) (pre _) (holds_bif (fun h => ⟨trivial, .inr rfl, trivial, ?_⟩) fun h => ⟨trivial, ?_⟩)))
  · have h : ¬ a = b := by rintro rfl; simp at h
    rw [decide_eq_false h]; rfl
  have hlen : a.length = b.length := by simp at h; omega
  show Trl _ _ ((flatten (bodyOf 20)).drop 4) _ _ _
  rw [si_fl]
  refine Tr.keepL [0, 1, 5] rfl ?_
  let I : Nat → List AV → AH → Prop := fun m act H => ∃ i : Nat, i ≤ a.length ∧ m = a.length - i ∧ act = siA (.lst 1 (a.map gi) .no) (.lst 1 (b.map gi) .no) i ∧ H = hp [] [] ∧ a.take i = b.take i
  refine Tr.block (Tr.loop I ?_ (m := a.length) ⟨0, Nat.zero_le _, rfl, rfl, rfl, rfl⟩)
  rintro m act H ⟨i, hi, rfl, rfl, rfl, hp⟩
  have body := fun R => si_in ro a b i R
  rw [gilS, gilS, inc64 i (by omega)] at body
  refine Tr.of_code (known_none _) (body _) (holds_bif (fun h1 => holds_bif (fun h2 => ?_) (fun h2 => ?_)) fun h1 => ⟨trivial, ?_⟩)
  · have h1 : i < a.length := by have := of_decide_eq_true h1; omega
    have h2 : i < b.length := by omega
    have g1 : (a.map gi)[Int.toNat (i : Int)]? = some (.v (.int .i64 a[i])) := gi_get h1
    have g2 : (b.map gi)[Int.toNat (i : Int)]? = some (.v (.int .i64 b[i])) := gi_get h2
    have h0 := Int.natCast_nonneg i
    rw [gi_ex h1, gi_ex h2]
    refine holds_bif (fun h3 => ⟨cds_of (cds_of trivial ⟨h0, g1⟩) ⟨h0, g2⟩, .inr rfl, trivial, ?_⟩) (fun h3 => ⟨cds_of (cds_of trivial ⟨h0, g1⟩) ⟨h0, g2⟩, a.length - (i + 1), by omega, i + 1, h1, rfl, rfl, rfl, ?_⟩)
    · have h3 : ¬ a[i] = b[i] := by simpa using h3
      have : ¬ a = b := by rintro rfl; exact h3 rfl
      rw [decide_eq_false this]; rfl
    · have h3 : a[i] = b[i] := by simpa using h3
      rw [take_snoc h1, take_snoc h2, hp, h3]
  · have h1 := of_decide_eq_true h1
    have h2 := of_decide_eq_false h2
    omega
  · have h1 : i = a.length := by have := of_decide_eq_false h1; omega
    have hab : a = b := by
      rw [h1, List.take_length, hlen, List.take_length] at hp; exact hp
    show Trl _ _ ((flatten (bodyOf 20)).drop 5) _ _ _
    refine Trl.of_code (known_none _) (ne_nil (by kernel_rfl)) (si_post ro _ _ _ _) ⟨trivial, .inr rfl, trivial, ?_⟩
    rw [decide_eq_true hab]; rfl
def sameIV (S : AV → AV → Bool) (args : List AV) : AV := .v (.bool (S (args.headD .dead) (args.tail.headD .dead)))
def sameIOk (args : List AV) : Bool := match args with
  | [x, y] => (match intsA? x with | some l => decide (l.length ≤ 1000000) | none => false) && (match intsA? y with | some _ => true | none => false)
  | _ => false
def intsY (x : AV) : List Int := match intsA? x with
  | some l => l
  | none => []
theorem intsY_some {x : AV} {l : List Int} (h : intsA? x = some l) : intsY x = l := by unfold intsY; rw [h]
theorem intsY_lst (l : List Int) (tip : Tip) : intsY (.lst 1 (l.map gi) tip) = l := intsY_some (intsA_lst l tip)
def sameIX (x y : AV) : Bool := decide (intsY x = intsY y)
theorem sameIOk_of (l m : List Int) (t u : Tip) (h : l.length ≤ 1000000) : sameIOk [.lst 1 (l.map gi) t, .lst 1 (m.map gi) u] = true := by
  show ((match intsA? (.lst 1 (l.map gi) t) with | some l => decide (l.length ≤ 1000000) | none => false) && (match intsA? (.lst 1 (m.map gi) u) with | some _ => true | none => false)) = true
  rw [intsA_lst, intsA_lst]
  simp [h]
theorem samei_ok {ro : Nat → Option (List Value)} : ∀ args H r H', tot? (sameIV sameIX) sameIOk args H = some (r, H') → HSound1 Try.prog ro 20 args H r H' := by
  refine tot_nrm (has_fn (by kernel_rfl)) fun args hok => ?_
  unfold sameIOk at hok
  split at hok
  · rename_i x y
    simp only [Bool.and_eq_true] at hok
    obtain ⟨k1, k2⟩ := hok
    cases h1 : intsA? x with
    | none => rw [h1] at k1; cases k1
    | some a =>
      cases h2 : intsA? y with
      | none => rw [h2] at k2; cases k2
      | some b =>
        rw [h1] at k1
        obtain ⟨a4, a5⟩ := intsA_nrm h1
        obtain ⟨b4, b5⟩ := intsA_nrm h2
        refine ⟨by simp [a4, b4], ?_⟩
        rw [List.map_cons, List.map_cons, List.map_nil, a5, b5]
        refine (fs_samei a b (of_decide_eq_true k1)).mono fun r _ h => ?_
        subst h
        refine ⟨_, rfl, ?_⟩
        show Le _ (.v (.bool (decide (intsY x = intsY y))))
        rw [intsY_some h1, intsY_some h2]
        exact Le.refl _
  · cases hok
end Go.Proofs.Ytbfeoggdalepmaa.AE
namespace Go.Proofs.Ytbfeoggdalepmaa.AE
set_option maxRecDepth 100000
open Go.RowKit
abbrev rl (x : List Int) : AV := .lst 1 (x.map gi) .no
def rbA (x : List Int) (t n i : Int) : List AV := [rl x, gi t, .dead, .dead, .dead, gi n, gi i] ++ ded 18
theorem rb_pre (S : BS) (x : List Int) (t : Int) (R : Exit → List AV → AH → Prop) : codeL nro mu0 (prN S) 10 ((flatten (bodyOf 18)).take 3) ([rl x, gi t] ++ und 23) (hp [] []) (kp [0, 1, 5, 6] R) =
    (some (True ∧ (R Exit.normal [(AV.lst (1 : Nat) (List.map gi x) Tip.no), (AV.v (Value.int IntKind.i64 t)), AV.dead, AV.dead, AV.dead, (AV.v (Value.int IntKind.i64 (0 : Int))), (AV.v (Value.int IntKind.i64 (0 : Int))), AV.dead, AV.dead, AV.dead, AV.dead, AV.dead, AV.dead, AV.dead, AV.dead, AV.dead, AV.dead, AV.dead, AV.dead, AV.dead, AV.dead, AV.dead, AV.dead, AV.dead, AV.dead] (AH.mk (@List.nil (Prod Go.TypeId (List AV))) (@List.nil Nat) (0 : Nat) (0 : Nat) true (@List.nil (Prod Nat Bool)) True)))) := by kernel_rfl
theorem rb_in (S : BS) (x : List Int) (t n i : Int) (R : Exit → List AV → AH → Prop) : code nro mu0 (prN S) 10 (sub (bodyOf 18) [1, 1, 0, 1, 0, 0]) (rbA x t n i) (hp [] []) (kp [0, 1, 5, 6] R) =
    (bif (decide (i < ((List.length (List.map gi x)) : Int))) then (bif (decide (i < t)) then (some ((cds True (elemB Try.prog (3 : Nat) (List.map gi x) i) (((0 : Int) ≤ i) ∧ (((List.map gi x)[(Int.toNat i)]?) = (some (AV.v (Value.int IntKind.i64 (exInt (List.getD (List.map gi x) (Int.toNat i) AV.dead)))))))) ∧ (R Exit.normal [(AV.lst (1 : Nat) (List.map gi x) Tip.no), (AV.v (Value.int IntKind.i64 t)), AV.dead, AV.dead, AV.dead, (AV.v (Value.int IntKind.i64 ((S).1 n (exInt (List.getD (List.map gi x) (Int.toNat i) AV.dead))))), (AV.v (Value.int IntKind.i64 (IntKind.wrap IntKind.i64 (i + (1 : Int))))), AV.dead, AV.dead, AV.dead, AV.dead, AV.dead, AV.dead, AV.dead, AV.dead, AV.dead, AV.dead, AV.dead, AV.dead, AV.dead, AV.dead, AV.dead, AV.dead, AV.dead, AV.dead] (AH.mk (@List.nil (Prod Go.TypeId (List AV))) (@List.nil Nat) (0 : Nat) (0 : Nat) true (@List.nil (Prod Nat Bool)) True)))) else (some (True ∧ (R (Exit.exit (0 : Nat)) [(AV.lst (1 : Nat) (List.map gi x) Tip.no), (AV.v (Value.int IntKind.i64 t)), AV.dead, AV.dead, AV.dead, (AV.v (Value.int IntKind.i64 n)), (AV.v (Value.int IntKind.i64 i)), AV.dead, AV.dead, AV.dead, AV.dead, AV.dead, AV.dead, AV.dead, AV.dead, AV.dead, AV.dead, AV.dead, AV.dead, AV.dead, AV.dead, AV.dead, AV.dead, AV.dead, AV.dead] (AH.mk (@List.nil (Prod Go.TypeId (List AV))) (@List.nil Nat) (0 : Nat) (0 : Nat) true (@List.nil (Prod Nat Bool)) True))))) else (some (True ∧ (R (Exit.exit (0 : Nat)) [(AV.lst (1 : Nat) (List.map gi x) Tip.no), (AV.v (Value.int IntKind.i64 t)), AV.dead, AV.dead, AV.dead, (AV.v (Value.int IntKind.i64 n)), (AV.v (Value.int IntKind.i64 i)), AV.dead, AV.dead, AV.dead, AV.dead, AV.dead, AV.dead, AV.dead, AV.dead, AV.dead, AV.dead, AV.dead, AV.dead, AV.dead, AV.dead, AV.dead, AV.dead, AV.dead, AV.dead] (AH.mk (@List.nil (Prod Go.TypeId (List AV))) (@List.nil Nat) (0 : Nat) (0 : Nat) true (@List.nil (Prod Nat Bool)) True))))) := by kernel_rfl
theorem rb_post (S : BS) (x : List Int) (t n i : Int) (R : Exit → List AV → AH → Prop) : codeL nro mu0 (prN S) 10 ((flatten (bodyOf 18)).drop 4) (rbA x t n i) (hp [] []) (kp [4] R) =
    (some (True ∧ (R Exit.ret [AV.dead, AV.dead, AV.dead, AV.dead, (AV.v (Value.int IntKind.i64 n)), AV.dead, AV.dead, AV.dead, AV.dead, AV.dead, AV.dead, AV.dead, AV.dead, AV.dead, AV.dead, AV.dead, AV.dead, AV.dead, AV.dead, AV.dead, AV.dead, AV.dead, AV.dead, AV.dead, AV.dead] (AH.mk (@List.nil (Prod Go.TypeId (List AV))) (@List.nil Nat) (0 : Nat) (0 : Nat) true (@List.nil (Prod Nat Bool)) True)))) := by kernel_rfl
/-- The document's answers, where Below is known. -/
def rbP (W : List Int → Int → Int) : List AV → Option (AV × Bool) := fun us => match us with
  | [.lst 1 xs .no, .v (.int .i64 a)] => some (gi (W (xs.map exInt) a), xs.all isGi && decide (xs.length ≤ 1000000))
  | _ => none
noncomputable def prR (S : BS) (W : List Int → Int → Int) : FuncId → Option (List AV → AH → Ans) := fun g => match g with
  | 24 => some (pure? (adP S))
  | 23 => some (pure? (ctP S))
  | 18 => some (data? (rbP W))
  | _ => none
def rmA (x : List Int) (m b i : Int) : List AV := [rl x, gi m, .dead, .dead, .dead, gi b, gi i] ++ ded 14
def reA (x : List Int) (m i : Int) : List AV := [rl x, gi m, .dead, .dead, .dead, .dead, gi i] ++ ded 13
theorem rm_pre (S : BS) (W : List Int → Int → Int) (x : List Int) (m : Int) (R : Exit → List AV → AH → Prop) : codeL nro mu0 (prR S W) 10 ((flatten (bodyOf 16)).take 3) ([rl x, gi m] ++ und 19) (hp [] []) (kp [0, 1, 5, 6] R) =
    (some (True ∧ (R Exit.normal [(AV.lst (1 : Nat) (List.map gi x) Tip.no), (AV.v (Value.int IntKind.i64 m)), AV.dead, AV.dead, AV.dead, (AV.v (Value.int IntKind.i64 (0 : Int))), (AV.v (Value.int IntKind.i64 (0 : Int))), AV.dead, AV.dead, AV.dead, AV.dead, AV.dead, AV.dead, AV.dead, AV.dead, AV.dead, AV.dead, AV.dead, AV.dead, AV.dead, AV.dead] (AH.mk (@List.nil (Prod Go.TypeId (List AV))) (@List.nil Nat) (0 : Nat) (0 : Nat) true (@List.nil (Prod Nat Bool)) True)))) := by kernel_rfl
theorem rm_in (S : BS) (W : List Int → Int → Int) (x : List Int) (m b i : Int) (R : Exit → List AV → AH → Prop) : code nro mu0 (prR S W) 10 (sub (bodyOf 16) [1, 1, 0, 1, 0, 0]) (rmA x m b i) (hp [] []) (kp [0, 1, 5, 6] R) =
    (bif (decide (i ≤ ((List.length (List.map gi x)) : Int))) then (bif (decide ((W (List.map exInt (List.map gi x)) i) ≤ ((S).3 m))) then (some ((cdb True ((List.all (List.map gi x) isGi) && (decide ((List.length (List.map gi x)) ≤ (1000000 : Nat))))) ∧ (R Exit.normal [(AV.lst (1 : Nat) (List.map gi x) Tip.no), (AV.v (Value.int IntKind.i64 m)), AV.dead, AV.dead, AV.dead, (AV.v (Value.int IntKind.i64 i)), (AV.v (Value.int IntKind.i64 (IntKind.wrap IntKind.i64 (i + (1 : Int))))), AV.dead, AV.dead, AV.dead, AV.dead, AV.dead, AV.dead, AV.dead, AV.dead, AV.dead, AV.dead, AV.dead, AV.dead, AV.dead, AV.dead] (AH.mk (@List.nil (Prod Go.TypeId (List AV))) (@List.nil Nat) (0 : Nat) (0 : Nat) true (@List.nil (Prod Nat Bool)) True)))) else (some ((cdb True ((List.all (List.map gi x) isGi) && (decide ((List.length (List.map gi x)) ≤ (1000000 : Nat))))) ∧ (R Exit.normal [(AV.lst (1 : Nat) (List.map gi x) Tip.no), (AV.v (Value.int IntKind.i64 m)), AV.dead, AV.dead, AV.dead, (AV.v (Value.int IntKind.i64 b)), (AV.v (Value.int IntKind.i64 (IntKind.wrap IntKind.i64 (i + (1 : Int))))), AV.dead, AV.dead, AV.dead, AV.dead, AV.dead, AV.dead, AV.dead, AV.dead, AV.dead, AV.dead, AV.dead, AV.dead, AV.dead, AV.dead] (AH.mk (@List.nil (Prod Go.TypeId (List AV))) (@List.nil Nat) (0 : Nat) (0 : Nat) true (@List.nil (Prod Nat Bool)) True))))) else (some (True ∧ (R (Exit.exit (0 : Nat)) [(AV.lst (1 : Nat) (List.map gi x) Tip.no), (AV.v (Value.int IntKind.i64 m)), AV.dead, AV.dead, AV.dead, (AV.v (Value.int IntKind.i64 b)), (AV.v (Value.int IntKind.i64 i)), AV.dead, AV.dead, AV.dead, AV.dead, AV.dead, AV.dead, AV.dead, AV.dead, AV.dead, AV.dead, AV.dead, AV.dead, AV.dead, AV.dead] (AH.mk (@List.nil (Prod Go.TypeId (List AV))) (@List.nil Nat) (0 : Nat) (0 : Nat) true (@List.nil (Prod Nat Bool)) True))))) := by kernel_rfl
theorem rm_post (S : BS) (W : List Int → Int → Int) (x : List Int) (m b i : Int) (R : Exit → List AV → AH → Prop) : codeL nro mu0 (prR S W) 10 ((flatten (bodyOf 16)).drop 4) (rmA x m b i) (hp [] []) (kp [4] R) =
    (some (True ∧ (R Exit.ret [AV.dead, AV.dead, AV.dead, AV.dead, (AV.v (Value.int IntKind.i64 b)), AV.dead, AV.dead, AV.dead, AV.dead, AV.dead, AV.dead, AV.dead, AV.dead, AV.dead, AV.dead, AV.dead, AV.dead, AV.dead, AV.dead, AV.dead, AV.dead] (AH.mk (@List.nil (Prod Go.TypeId (List AV))) (@List.nil Nat) (0 : Nat) (0 : Nat) true (@List.nil (Prod Nat Bool)) True)))) := by kernel_rfl
theorem re_pre (S : BS) (W : List Int → Int → Int) (x : List Int) (m : Int) (R : Exit → List AV → AH → Prop) : codeL nro mu0 (prR S W) 10 ((flatten (bodyOf 14)).take 2) ([rl x, gi m] ++ und 18) (hp [] []) (kp [0, 1, 6] R) =
    (some (True ∧ (R Exit.normal [(AV.lst (1 : Nat) (List.map gi x) Tip.no), (AV.v (Value.int IntKind.i64 m)), AV.dead, AV.dead, AV.dead, AV.dead, (AV.v (Value.int IntKind.i64 (0 : Int))), AV.dead, AV.dead, AV.dead, AV.dead, AV.dead, AV.dead, AV.dead, AV.dead, AV.dead, AV.dead, AV.dead, AV.dead, AV.dead] (AH.mk (@List.nil (Prod Go.TypeId (List AV))) (@List.nil Nat) (0 : Nat) (0 : Nat) true (@List.nil (Prod Nat Bool)) True)))) := by kernel_rfl
theorem re_in (S : BS) (W : List Int → Int → Int) (x : List Int) (m i : Int) (R : Exit → List AV → AH → Prop) : code nro mu0 (prR S W) 10 (sub (bodyOf 14) [1, 0, 1, 0, 0]) (reA x m i) (hp [] []) (kp [0, 1, 4, 5, 6] R) =
    (bif (decide (i ≤ ((List.length (List.map gi x)) : Int))) then (bif (decide (((S).3 m) ≤ (W (List.map exInt (List.map gi x)) i))) then (some ((cdb True ((List.all (List.map gi x) isGi) && (decide ((List.length (List.map gi x)) ≤ (1000000 : Nat))))) ∧ (R Exit.ret [(AV.lst (1 : Nat) (List.map gi x) Tip.no), (AV.v (Value.int IntKind.i64 m)), AV.dead, AV.dead, (AV.v (Value.int IntKind.i64 i)), (AV.v (Value.bool true)), (AV.v (Value.int IntKind.i64 i)), AV.dead, AV.dead, AV.dead, AV.dead, AV.dead, AV.dead, AV.dead, AV.dead, AV.dead, AV.dead, AV.dead, AV.dead, AV.dead] (AH.mk (@List.nil (Prod Go.TypeId (List AV))) (@List.nil Nat) (0 : Nat) (0 : Nat) true (@List.nil (Prod Nat Bool)) True)))) else (some ((cdb True ((List.all (List.map gi x) isGi) && (decide ((List.length (List.map gi x)) ≤ (1000000 : Nat))))) ∧ (R Exit.normal [(AV.lst (1 : Nat) (List.map gi x) Tip.no), (AV.v (Value.int IntKind.i64 m)), AV.dead, AV.dead, AV.dead, AV.dead, (AV.v (Value.int IntKind.i64 (IntKind.wrap IntKind.i64 (i + (1 : Int))))), AV.dead, AV.dead, AV.dead, AV.dead, AV.dead, AV.dead, AV.dead, AV.dead, AV.dead, AV.dead, AV.dead, AV.dead, AV.dead] (AH.mk (@List.nil (Prod Go.TypeId (List AV))) (@List.nil Nat) (0 : Nat) (0 : Nat) true (@List.nil (Prod Nat Bool)) True))))) else (some (True ∧ (R (Exit.exit (0 : Nat)) [(AV.lst (1 : Nat) (List.map gi x) Tip.no), (AV.v (Value.int IntKind.i64 m)), AV.dead, AV.dead, AV.dead, AV.dead, (AV.v (Value.int IntKind.i64 i)), AV.dead, AV.dead, AV.dead, AV.dead, AV.dead, AV.dead, AV.dead, AV.dead, AV.dead, AV.dead, AV.dead, AV.dead, AV.dead] (AH.mk (@List.nil (Prod Go.TypeId (List AV))) (@List.nil Nat) (0 : Nat) (0 : Nat) true (@List.nil (Prod Nat Bool)) True))))) := by kernel_rfl
theorem re_post (S : BS) (W : List Int → Int → Int) (x : List Int) (m i : Int) (R : Exit → List AV → AH → Prop) : codeL nro mu0 (prR S W) 10 ((flatten (bodyOf 14)).drop 3) (reA x m i) (hp [] []) (kp [4, 5] R) =
    (some (True ∧ (R Exit.ret [AV.dead, AV.dead, AV.dead, AV.dead, (AV.v (Value.int IntKind.i64 (0 : Int))), (AV.v (Value.bool false)), AV.dead, AV.dead, AV.dead, AV.dead, AV.dead, AV.dead, AV.dead, AV.dead, AV.dead, AV.dead, AV.dead, AV.dead, AV.dead, AV.dead] (AH.mk (@List.nil (Prod Go.TypeId (List AV))) (@List.nil Nat) (0 : Nat) (0 : Nat) true (@List.nil (Prod Nat Bool)) True)))) := by kernel_rfl
def raA (x : List Int) (a n : Int) (s8 : AV) : List AV := [rl x, gi a, gi n, .dead, .dead, .dead, .dead, .dead, s8] ++ ded 22
theorem ra_pre (S : BS) (x : List Int) (a n : Int) (R : Exit → List AV → AH → Prop) : codeL nro mu0 (prN S) 10 ((flatten (bodyOf 10)).take 4) ([rl x, gi a, gi n] ++ und 28) (hp [] []) (kp [0, 1, 2, 6, 7, 8] R) =
    (bif (decide (a < (0 : Int))) then (some (True ∧ (R Exit.ret [(AV.lst (1 : Nat) (List.map gi x) Tip.no), (AV.v (Value.int IntKind.i64 a)), (AV.v (Value.int IntKind.i64 n)), AV.dead, AV.dead, AV.dead, (AV.lst (1 : Nat) (List.map gi x) Tip.no), (AV.v (Value.bool false)), (AV.v (Value.tuple (Array.mk (@List.nil Go.Value)))), AV.dead, AV.dead, AV.dead, AV.dead, AV.dead, AV.dead, AV.dead, AV.dead, AV.dead, AV.dead, AV.dead, AV.dead, AV.dead, AV.dead, AV.dead, AV.dead, AV.dead, AV.dead, AV.dead, AV.dead, AV.dead, AV.dead] (AH.mk (@List.nil (Prod Go.TypeId (List AV))) (@List.nil Nat) (0 : Nat) (0 : Nat) true (@List.nil (Prod Nat Bool)) True)))) else (bif (decide (((List.length (List.map gi x)) : Int) ≤ a)) then (some (True ∧ (R Exit.ret [(AV.lst (1 : Nat) (List.map gi x) Tip.no), (AV.v (Value.int IntKind.i64 a)), (AV.v (Value.int IntKind.i64 n)), AV.dead, AV.dead, AV.dead, (AV.lst (1 : Nat) (List.map gi x) Tip.no), (AV.v (Value.bool false)), (AV.v (Value.tuple (Array.mk (@List.nil Go.Value)))), AV.dead, AV.dead, AV.dead, AV.dead, AV.dead, AV.dead, AV.dead, AV.dead, AV.dead, AV.dead, AV.dead, AV.dead, AV.dead, AV.dead, AV.dead, AV.dead, AV.dead, AV.dead, AV.dead, AV.dead, AV.dead, AV.dead] (AH.mk (@List.nil (Prod Go.TypeId (List AV))) (@List.nil Nat) (0 : Nat) (0 : Nat) true (@List.nil (Prod Nat Bool)) True)))) else (some (True ∧ (R Exit.normal [(AV.lst (1 : Nat) (List.map gi x) Tip.no), (AV.v (Value.int IntKind.i64 a)), (AV.v (Value.int IntKind.i64 n)), AV.dead, AV.dead, AV.dead, (AV.v (Value.slice none (0 : Nat) (0 : Nat))), (AV.v (Value.bool false)), (AV.v (Value.slice none (0 : Nat) (0 : Nat))), AV.dead, AV.dead, AV.dead, AV.dead, AV.dead, AV.dead, AV.dead, AV.dead, AV.dead, AV.dead, AV.dead, AV.dead, AV.dead, AV.dead, AV.dead, AV.dead, AV.dead, AV.dead, AV.dead, AV.dead, AV.dead, AV.dead] (AH.mk (@List.nil (Prod Go.TypeId (List AV))) (@List.nil Nat) (0 : Nat) (0 : Nat) true (@List.nil (Prod Nat Bool)) True)))))) := by kernel_rfl
theorem ra_set (S : BS) (x : List Int) (a n : Int) (C : List AV) (len cap : Nat) (R : Exit → List AV → AH → Prop) : codeL nro mu0 (prN S) 10 ((flatten (bodyOf 10)).drop 5) (raA x a n (.sl 0 0 len cap)) (hp [(3, C)] []) (kp [6, 7] R) =
    (some ((cdb (cdb (cds (cdb True (decide (((0 : Int) ≤ a) ∧ (a < (len : Int))))) (shapes Try.prog (List.take (1 : Nat) (List.drop ((0 : Nat) + ((Int.toNat a) * (1 : Nat))) C)) [(3 : Nat)]) ((List.take (1 : Nat) (List.drop ((0 : Nat) + ((Int.toNat a) * (1 : Nat))) C)) = [(AV.v (Value.int IntKind.i64 (exInt (List.getD C (((0 : Nat) + ((Int.toNat a) * (1 : Nat))) + (0 : Nat)) AV.dead))))])) (decide (((0 : Int) ≤ a) ∧ (a < (len : Int))))) (decide ((((0 : Nat) + ((Int.toNat a) * (1 : Nat))) + (1 : Nat)) ≤ (List.length C)))) ∧ (R Exit.ret [AV.dead, AV.dead, AV.dead, AV.dead, AV.dead, AV.dead, (AV.sl (0 : Nat) (0 : Nat) len cap), (AV.v (Value.bool true)), AV.dead, AV.dead, AV.dead, AV.dead, AV.dead, AV.dead, AV.dead, AV.dead, AV.dead, AV.dead, AV.dead, AV.dead, AV.dead, AV.dead, AV.dead, AV.dead, AV.dead, AV.dead, AV.dead, AV.dead, AV.dead, AV.dead, AV.dead] (AH.mk [((3 : Nat), (((List.take ((0 : Nat) + ((Int.toNat a) * (1 : Nat))) C) ++ [(AV.v (Value.int IntKind.i64 ((S).1 (exInt (List.getD C (((0 : Nat) + ((Int.toNat a) * (1 : Nat))) + (0 : Nat)) AV.dead)) n)))]) ++ (List.drop (((0 : Nat) + ((Int.toNat a) * (1 : Nat))) + (List.length [(AV.v (Value.int IntKind.i64 ((S).1 (exInt (List.getD C (((0 : Nat) + ((Int.toNat a) * (1 : Nat))) + (0 : Nat)) AV.dead)) n)))])) C)))] (@List.nil Nat) (0 : Nat) (0 : Nat) true (@List.nil (Prod Nat Bool)) True)))) := by kernel_rfl
theorem h_new (B : BS) (S : HS) (n : Int) (Φ : AV → AH → Prop) : callK nro mu0 (prH B S) 10 7 [gi n] (hp [] []) (fun r h => some (h.cd ∧ Φ r (tidy h))) =
    (bif (decide (n < (1 : Int))) then (some (True ∧ (Φ (AV.v (Value.tuple #[(Value.pointer none), (Value.int IntKind.i64 (1 : Int))])) (AH.mk (@List.nil (Prod Go.TypeId (List AV))) (@List.nil Nat) (0 : Nat) (0 : Nat) true (@List.nil (Prod Nat Bool)) True)))) else (bif (decide ((128 : Int) < n)) then (some (True ∧ (Φ (AV.v (Value.tuple #[(Value.pointer none), (Value.int IntKind.i64 (1 : Int))])) (AH.mk (@List.nil (Prod Go.TypeId (List AV))) (@List.nil Nat) (0 : Nat) (0 : Nat) true (@List.nil (Prod Nat Bool)) True)))) else (some (True ∧ (Φ (AV.tuple [(AV.ptr (List.length (@List.nil (Prod Go.TypeId (List AV)))) (0 : Nat)), (AV.v (Value.int IntKind.i64 (0 : Int)))]) (AH.mk [((48 : Nat), [(AV.v (Value.int IntKind.i64 (0 : Int))), (AV.v (Value.int IntKind.i64 (0 : Int))), (AV.v (Value.int IntKind.i64 (0 : Int))), (AV.v (Value.int IntKind.i64 (0 : Int))), (AV.v (Value.int IntKind.i64 (0 : Int))), (AV.v (Value.int IntKind.i64 (0 : Int))), (AV.v (Value.int IntKind.i64 (0 : Int))), (AV.v (Value.int IntKind.i64 (0 : Int))), (AV.v (Value.int IntKind.i64 (0 : Int))), (AV.v (Value.int IntKind.i64 (0 : Int))), (AV.v (Value.int IntKind.i64 (0 : Int))), (AV.v (Value.int IntKind.i64 (0 : Int))), (AV.v (Value.int IntKind.i64 (0 : Int))), (AV.v (Value.int IntKind.i64 (0 : Int))), (AV.v (Value.int IntKind.i64 (0 : Int))), (AV.v (Value.int IntKind.i64 (0 : Int))), (AV.v (Value.int IntKind.i64 (0 : Int))), (AV.v (Value.int IntKind.i64 (0 : Int))), (AV.v (Value.int IntKind.i64 (0 : Int))), (AV.v (Value.int IntKind.i64 (0 : Int))), (AV.v (Value.int IntKind.i64 (0 : Int))), (AV.v (Value.int IntKind.i64 (0 : Int))), (AV.v (Value.int IntKind.i64 (0 : Int))), (AV.v (Value.int IntKind.i64 (0 : Int))), (AV.v (Value.int IntKind.i64 (0 : Int))), (AV.v (Value.int IntKind.i64 (0 : Int))), (AV.v (Value.int IntKind.i64 (0 : Int))), (AV.v (Value.int IntKind.i64 (0 : Int))), (AV.v (Value.int IntKind.i64 (0 : Int))), (AV.v (Value.int IntKind.i64 (0 : Int))), (AV.v (Value.int IntKind.i64 (0 : Int))), (AV.v (Value.int IntKind.i64 (0 : Int))), (AV.v (Value.int IntKind.i64 (0 : Int))), (AV.v (Value.int IntKind.i64 (0 : Int))), (AV.v (Value.int IntKind.i64 (0 : Int))), (AV.v (Value.int IntKind.i64 (0 : Int))), (AV.v (Value.int IntKind.i64 (0 : Int))), (AV.v (Value.int IntKind.i64 (0 : Int))), (AV.v (Value.int IntKind.i64 (0 : Int))), (AV.v (Value.int IntKind.i64 (0 : Int))), (AV.v (Value.int IntKind.i64 (0 : Int))), (AV.v (Value.int IntKind.i64 (0 : Int))), (AV.v (Value.int IntKind.i64 (0 : Int))), (AV.v (Value.int IntKind.i64 (0 : Int))), (AV.v (Value.int IntKind.i64 (0 : Int))), (AV.v (Value.int IntKind.i64 (0 : Int))), (AV.v (Value.int IntKind.i64 (0 : Int))), (AV.v (Value.int IntKind.i64 (0 : Int))), (AV.v (Value.int IntKind.i64 (0 : Int))), (AV.v (Value.int IntKind.i64 (0 : Int))), (AV.v (Value.int IntKind.i64 (0 : Int))), (AV.v (Value.int IntKind.i64 (0 : Int))), (AV.v (Value.int IntKind.i64 (0 : Int))), (AV.v (Value.int IntKind.i64 (0 : Int))), (AV.v (Value.int IntKind.i64 (0 : Int))), (AV.v (Value.int IntKind.i64 (0 : Int))), (AV.v (Value.int IntKind.i64 (0 : Int))), (AV.v (Value.int IntKind.i64 (0 : Int))), (AV.v (Value.int IntKind.i64 (0 : Int))), (AV.v (Value.int IntKind.i64 (0 : Int))), (AV.v (Value.int IntKind.i64 (0 : Int))), (AV.v (Value.int IntKind.i64 (0 : Int))), (AV.v (Value.int IntKind.i64 (0 : Int))), (AV.v (Value.int IntKind.i64 (0 : Int))), (AV.v (Value.int IntKind.i64 (0 : Int))), (AV.v (Value.int IntKind.i64 (0 : Int))), (AV.v (Value.int IntKind.i64 (0 : Int))), (AV.v (Value.int IntKind.i64 (0 : Int))), (AV.v (Value.int IntKind.i64 (0 : Int))), (AV.v (Value.int IntKind.i64 (0 : Int))), (AV.v (Value.int IntKind.i64 (0 : Int))), (AV.v (Value.int IntKind.i64 (0 : Int))), (AV.v (Value.int IntKind.i64 (0 : Int))), (AV.v (Value.int IntKind.i64 (0 : Int))), (AV.v (Value.int IntKind.i64 (0 : Int))), (AV.v (Value.int IntKind.i64 (0 : Int))), (AV.v (Value.int IntKind.i64 (0 : Int))), (AV.v (Value.int IntKind.i64 (0 : Int))), (AV.v (Value.int IntKind.i64 (0 : Int))), (AV.v (Value.int IntKind.i64 (0 : Int))), (AV.v (Value.int IntKind.i64 (0 : Int))), (AV.v (Value.int IntKind.i64 (0 : Int))), (AV.v (Value.int IntKind.i64 (0 : Int))), (AV.v (Value.int IntKind.i64 (0 : Int))), (AV.v (Value.int IntKind.i64 (0 : Int))), (AV.v (Value.int IntKind.i64 (0 : Int))), (AV.v (Value.int IntKind.i64 (0 : Int))), (AV.v (Value.int IntKind.i64 (0 : Int))), (AV.v (Value.int IntKind.i64 (0 : Int))), (AV.v (Value.int IntKind.i64 (0 : Int))), (AV.v (Value.int IntKind.i64 (0 : Int))), (AV.v (Value.int IntKind.i64 (0 : Int))), (AV.v (Value.int IntKind.i64 (0 : Int))), (AV.v (Value.int IntKind.i64 (0 : Int))), (AV.v (Value.int IntKind.i64 (0 : Int))), (AV.v (Value.int IntKind.i64 (0 : Int))), (AV.v (Value.int IntKind.i64 (0 : Int))), (AV.v (Value.int IntKind.i64 (0 : Int))), (AV.v (Value.int IntKind.i64 (0 : Int))), (AV.v (Value.int IntKind.i64 (0 : Int))), (AV.v (Value.int IntKind.i64 (0 : Int))), (AV.v (Value.int IntKind.i64 (0 : Int))), (AV.v (Value.int IntKind.i64 (0 : Int))), (AV.v (Value.int IntKind.i64 (0 : Int))), (AV.v (Value.int IntKind.i64 (0 : Int))), (AV.v (Value.int IntKind.i64 (0 : Int))), (AV.v (Value.int IntKind.i64 (0 : Int))), (AV.v (Value.int IntKind.i64 (0 : Int))), (AV.v (Value.int IntKind.i64 (0 : Int))), (AV.v (Value.int IntKind.i64 (0 : Int))), (AV.v (Value.int IntKind.i64 (0 : Int))), (AV.v (Value.int IntKind.i64 (0 : Int))), (AV.v (Value.int IntKind.i64 (0 : Int))), (AV.v (Value.int IntKind.i64 (0 : Int))), (AV.v (Value.int IntKind.i64 (0 : Int))), (AV.v (Value.int IntKind.i64 (0 : Int))), (AV.v (Value.int IntKind.i64 (0 : Int))), (AV.v (Value.int IntKind.i64 (0 : Int))), (AV.v (Value.int IntKind.i64 (0 : Int))), (AV.v (Value.int IntKind.i64 (0 : Int))), (AV.v (Value.int IntKind.i64 (0 : Int))), (AV.v (Value.int IntKind.i64 (0 : Int))), (AV.v (Value.int IntKind.i64 (0 : Int))), (AV.v (Value.int IntKind.i64 (0 : Int))), (AV.v (Value.int IntKind.i64 (0 : Int))), (AV.v (Value.int IntKind.i64 (0 : Int))), (AV.v (Value.int IntKind.i64 (0 : Int))), (AV.v (Value.int IntKind.i64 (0 : Int))), (AV.v (Value.int IntKind.i64 n))])] (@List.nil Nat) (0 : Nat) (0 : Nat) true (@List.nil (Prod Nat Bool)) True)))))) := by kernel_rfl
end Go.Proofs.Ytbfeoggdalepmaa.AE
namespace Go.Proofs.Ytbfeoggdalepmaa.AE
set_option maxRecDepth 100000
open Go.RowKit
def belL (S : BS) (x : List Int) : Nat → Int
  | 0 => 0
  | t + 1 => S.add (belL S x t) (x.getD t 0)
def belR (S : BS) (x : List Int) (a : Int) : Int := if a < 0 then 0 else belL S x (min a.toNat x.length)
theorem belC_L (S : BS) (x : List Int) : ∀ t, t ≤ x.length → belC S (hC x) t = belL S x t
  | 0, _ => rfl
  | t + 1, h => by
    show S.add (belC S (hC x) t) _ = S.add (belL S x t) _
    rw [belC_L S x t (by omega), hC_at x (by omega)]
theorem bwI_R (S : BS) (x : List Int) (a : Int) : bwI S x a = belR S x a := by
  unfold bwI belR
  split
  · rfl
  · exact belC_L S x _ (Nat.min_le_right _ _)
theorem rb_sl : slotsOf 18 = 25 := by kernel_rfl
theorem rb_re : resultsOf 18 = [.tmp 4] := by kernel_rfl
theorem rb_fl : (flatten (bodyOf 18)).drop 3 = .block 0 (.loop (sub (bodyOf 18) [1, 1, 0, 1, 0, 0])) :: (flatten (bodyOf 18)).drop 4 := by kernel_rfl
theorem gx {x : List Int} {i : Nat} (h : i < x.length) : exInt ((x.map gi).getD (Int.toNat (i : Int)) .dead) = x.getD i 0 := by
  rw [List.getD_eq_getElem?_getD, gi_get h, List.getD_eq_getElem?_getD, List.getElem?_eq_getElem h]; rfl
theorem fs_rbel (S : BS) (hp' : Known nro (prN S)) (x : List Int) (hx : x.length ≤ 1000000) (a : Int) : Fs Try.prog nro 18 [rl x, gi a] (hp [] []) fun r _ => r = gi (belR S x a) := by
  refine Fs.of_body (has_fn (by kernel_rfl)) ?_
  rw [rb_sl, rb_re]
  refine Tr.of_flat (Trl.split 3 (Trl.of_code hp' (neN (by kernel_rfl)) (rb_pre S x a _) (holds_some ⟨trivial, ?_⟩)))
  show Trl _ _ ((flatten (bodyOf 18)).drop 3) (rbA x a 0 0) (hp [] []) _
  rw [rb_fl]
  have post : ∀ n i, n = belR S x a → Trl Try.prog nro ((flatten (bodyOf 18)).drop 4) (rbA x a n i) (hp [] []) (fun e a' h => (e = .normal ∨ e = .ret) ∧ ansOk (fun r _ => r = gi (belR S x a)) (resOf Try.prog nro [.tmp 4] a' h)) := fun n i hn => by
    subst hn
    exact Trl.of_code hp' (neN (by kernel_rfl)) (rb_post S x a _ _ _) (holds_some ⟨trivial, .inr rfl, trivial, rfl⟩)
  refine Tr.block (Tr.loop (fun m act H => ∃ i : Nat, i ≤ x.length ∧ m = x.length - i ∧ (i : Int) ≤ max a 0 ∧ act = rbA x a (belL S x i) i ∧ H = hp [] []) ?_ ⟨0, Nat.zero_le _, rfl, by omega, rfl, rfl⟩)
  rintro m act H ⟨i, hi, rfl, hia, rfl, rfl⟩
  have body := fun R => rb_in S x a (belL S x i) (i : Int) R
  rw [gil, inc64 i (by omega)] at body
  refine Tr.of_code hp' (body _) (holds_bif (fun h1 => holds_bif (fun h2 => ?_) (fun h2 => ?_)) fun h1 => ?_)
  · have h1 : i < x.length := by have := of_decide_eq_true h1; omega
    have h2 := of_decide_eq_true h2
    rw [gx h1]
    refine holds_some ⟨cds_of trivial ⟨Int.natCast_nonneg i, ?_⟩, x.length - (i + 1), by omega, i + 1, h1, rfl, by omega, rfl, rfl⟩
    rw [gi_get h1, List.getD_eq_getElem?_getD, List.getElem?_eq_getElem h1]; rfl
  · have h2 := of_decide_eq_false h2
    refine holds_some ⟨trivial, post _ _ ?_⟩
    unfold belR
    split
    · have : i = 0 := by omega
      subst this; rfl
    · rw [show min a.toNat x.length = i by omega]
  · have h1 : i = x.length := by have := of_decide_eq_false h1; omega
    refine holds_some ⟨trivial, post _ _ ?_⟩
    unfold belR
    split
    · have : i = 0 := by omega
      subst this; rfl
    · rw [show min a.toNat x.length = i by omega]
theorem allgi (x : List Int) : (x.map gi).all isGi = true := by
  rw [List.all_eq_true]
  intro y hy
  obtain ⟨n, _, rfl⟩ := List.mem_map.1 hy
  rfl
theorem ex_gi (x : List Int) : (x.map gi).map exInt = x := by
  rw [List.map_map]; exact (List.map_congr_left (fun a _ => rfl)).trans (List.map_id _)
theorem rbel_ok : ∀ args H r H', data? (rbP (belR bsX)) args H = some (r, H') → HSound1 Try.prog nro 18 args H r H' := by
  refine data_ok (has_fn (by kernel_rfl)) fun args r h => ?_
  unfold rbP at h
  split at h
  · rename_i xs a
    simp only [Option.some.injEq, Prod.mk.injEq, Bool.and_eq_true, decide_eq_true_eq] at h
    obtain ⟨rfl, h1, h2⟩ := h
    have e := map_gi_ex h1
    rw [← e]
    rw [ex_gi]
    exact (fs_rbel bsX knownN (xs.map exInt) (by rw [List.length_map]; exact h2) a).mono fun r _ h => by subst h; rfl
  · cases h
theorem knownR : Known nro (prR bsX (belR bsX)) := by
  intro g p h
  unfold prR at h
  split at h <;> cases h
  · exact radd_ok
  · exact rcount_ok
  · exact rbel_ok
/-- The last of n numbers that p holds of. -/
def lastP (p : Nat → Bool) : Nat → Nat
  | 0 => 0
  | n + 1 => if p n then n else lastP p n
def rmX (x : List Int) (m : Int) : Int := (lastP (fun i => decide (belR bsX x (i : Int) ≤ Bd.kp m Bd.cMost)) (x.length + 1) : Nat)
def reX (x : List Int) (m : Int) : Option Nat := fstP (fun i => decide (Bd.kp m Bd.cMost ≤ belR bsX x (i : Int))) 0 (x.length + 1)
theorem rm_sl : slotsOf 16 = 21 := by kernel_rfl
theorem rm_re : resultsOf 16 = [.tmp 4] := by kernel_rfl
theorem rm_fl : (flatten (bodyOf 16)).drop 3 = .block 0 (.loop (sub (bodyOf 16) [1, 1, 0, 1, 0, 0])) :: (flatten (bodyOf 16)).drop 4 := by kernel_rfl
theorem fs_rmost (x : List Int) (hx : x.length ≤ 1000000) (m : Int) : Fs Try.prog nro 16 [rl x, gi m] (hp [] []) fun r _ => r = gi (rmX x m) := by
  refine Fs.of_body (has_fn (by kernel_rfl)) ?_
  rw [rm_sl, rm_re]
  refine Tr.of_flat (Trl.split 3 (Trl.of_code knownR (neN (by kernel_rfl)) (rm_pre bsX (belR bsX) x m _) (holds_some ⟨trivial, ?_⟩)))
  show Trl _ _ ((flatten (bodyOf 16)).drop 3) (rmA x m 0 0) (hp [] []) _
  rw [rm_fl]
  refine Tr.block (Tr.loop (fun k act H => ∃ i : Nat, i ≤ x.length + 1 ∧ k = x.length + 1 - i ∧ act = rmA x m (lastP (fun i => decide (belR bsX x (i : Int) ≤ Bd.kp m Bd.cMost)) i : Nat) i ∧ H = hp [] []) ?_ ⟨0, Nat.zero_le _, rfl, rfl, rfl⟩)
  rintro k act H ⟨i, hi, rfl, rfl, rfl⟩
  have body := fun R => rm_in bsX (belR bsX) x m (lastP (fun i => decide (belR bsX x (i : Int) ≤ Bd.kp m Bd.cMost)) i : Nat) (i : Int) R
  rw [gil, inc64 i (by omega), allgi, ex_gi] at body
  have hok : (true && decide (x.length ≤ 1000000)) = true := by simp [hx]
  refine Tr.of_code knownR (body _) (holds_bif (fun h1 => holds_bif (fun h2 => ?_) (fun h2 => ?_)) fun h1 => ?_)
  · have h1 : i ≤ x.length := by have := of_decide_eq_true h1; omega
    have h2 : decide (belR bsX x (i : Int) ≤ Bd.kp m Bd.cMost) = true := h2
    refine holds_some ⟨cdb_iff.2 ⟨trivial, hok⟩, x.length + 1 - (i + 1), by omega, i + 1, by omega, rfl, ?_, rfl⟩
    rw [lastP, h2]; rfl
  · have h1 : i ≤ x.length := by have := of_decide_eq_true h1; omega
    have h2 : decide (belR bsX x (i : Int) ≤ Bd.kp m Bd.cMost) = false := h2
    refine holds_some ⟨cdb_iff.2 ⟨trivial, hok⟩, x.length + 1 - (i + 1), by omega, i + 1, by omega, rfl, ?_, rfl⟩
    rw [lastP, h2]; rfl
  · have h1 : i = x.length + 1 := by have := of_decide_eq_false h1; omega
    subst h1
    refine holds_some ⟨trivial, ?_⟩
    show Trl _ _ ((flatten (bodyOf 16)).drop 4) (rmA x m _ _) (hp [] []) _
    exact Trl.of_code knownR (neN (by kernel_rfl)) (rm_post bsX (belR bsX) x m _ _ _) (holds_some ⟨trivial, .inr rfl, trivial, rfl⟩)
theorem re_sl : slotsOf 14 = 20 := by kernel_rfl
theorem re_re : resultsOf 14 = [.tmp 4, .tmp 5] := by kernel_rfl
theorem re_fl : (flatten (bodyOf 14)).drop 2 = .block 0 (.loop (sub (bodyOf 14) [1, 0, 1, 0, 0])) :: (flatten (bodyOf 14)).drop 3 := by kernel_rfl
theorem fs_rleast (x : List Int) (hx : x.length ≤ 1000000) (m : Int) : Fs Try.prog nro 14 [rl x, gi m] (hp [] []) fun r _ => r = .v (.tuple #[.int .i64 (oI (reX x m)), .bool (reX x m).isSome]) := by
  refine Fs.of_body (has_fn (by kernel_rfl)) ?_
  rw [re_sl, re_re]
  refine Tr.of_flat (Trl.split 2 (Trl.of_code knownR (neN (by kernel_rfl)) (re_pre bsX (belR bsX) x m _) (holds_some ⟨trivial, ?_⟩)))
  show Trl _ _ ((flatten (bodyOf 14)).drop 2) (reA x m 0) (hp [] []) _
  rw [re_fl]
  refine Tr.block (Tr.loop (fun k act H => ∃ i : Nat, i ≤ x.length + 1 ∧ k = x.length + 1 - i ∧ (∀ j, j < i → decide (Bd.kp m Bd.cMost ≤ belR bsX x (j : Int)) = false) ∧ act = reA x m i ∧ H = hp [] []) ?_ ⟨0, Nat.zero_le _, rfl, fun j hj => by omega, rfl, rfl⟩)
  rintro k act H ⟨i, hi, rfl, hj, rfl, rfl⟩
  have body := fun R => re_in bsX (belR bsX) x m (i : Int) R
  rw [gil, inc64 i (by omega), allgi, ex_gi] at body
  have hok : (true && decide (x.length ≤ 1000000)) = true := by simp [hx]
  refine Tr.of_code knownR (body _) (holds_bif (fun h1 => holds_bif (fun h2 => ?_) (fun h2 => ?_)) fun h1 => ?_)
  · have h1 : i ≤ x.length := by have := of_decide_eq_true h1; omega
    have h2 : decide (Bd.kp m Bd.cMost ≤ belR bsX x (i : Int)) = true := h2
    refine holds_some ⟨cdb_iff.2 ⟨trivial, hok⟩, .inr rfl, trivial, ?_⟩
    unfold reX
    rw [fstP_at (t := i) (by omega) hj h2]; rfl
  · have h1 : i ≤ x.length := by have := of_decide_eq_true h1; omega
    have h2 : decide (Bd.kp m Bd.cMost ≤ belR bsX x (i : Int)) = false := h2
    refine holds_some ⟨cdb_iff.2 ⟨trivial, hok⟩, x.length + 1 - (i + 1), by omega, i + 1, by omega, rfl, fun j hj2 => ?_, rfl, rfl⟩
    by_cases e : j = i
    · subst e; exact h2
    · exact hj j (by omega)
  · have h1 : i = x.length + 1 := by have := of_decide_eq_false h1; omega
    subst h1
    refine holds_some ⟨trivial, ?_⟩
    show Trl _ _ ((flatten (bodyOf 14)).drop 3) (reA x m _) (hp [] []) _
    refine Trl.of_code knownR (neN (by kernel_rfl)) (re_post bsX (belR bsX) x m _ _) (holds_some ⟨trivial, .inr rfl, trivial, ?_⟩)
    unfold reX
    rw [fstP_none hj]; rfl
theorem ra_sl : slotsOf 10 = 31 := by kernel_rfl
theorem ra_re : resultsOf 10 = [.tmp 6, .tmp 7] := by kernel_rfl
theorem ra_fl : (flatten (bodyOf 10)).drop 4 = sub (bodyOf 10) [1, 1, 1, 0] :: (flatten (bodyOf 10)).drop 5 := by kernel_rfl
theorem ra_app : appC (sub (bodyOf 10) [1, 1, 1, 0]) 8 0 18 19 20 29 := ⟨_, _, _, _, _, _, rfl, ⟨rfl, rfl, rfl⟩, ⟨rfl, rfl, rfl⟩, ⟨rfl, rfl, rfl, rfl, rfl, rfl⟩, rfl, rfl, rfl⟩
def eInt : EI := ⟨3, 8, 1, .int .i64 0⟩
theorem einfoI : einfo Try.prog 29 = some eInt := by kernel_rfl
theorem gi_cells : ∀ l : List Int, (l.map gi).flatMap AV.cells = (l.map (Value.int .i64)).map AV.v
  | [] => rfl
  | a :: l => by
    rw [List.map_cons, List.map_cons, List.map_cons, List.flatMap_cons, gi_cells l]; rfl
theorem gi_vs (l : List Int) : (l.map (Value.int .i64)).map AV.v = l.map gi := by rw [List.map_map]; rfl
theorem fs_radd (x : List Int) (hx : x.length ≤ 1000000) (a n : Int) : Fs Try.prog nro 10 [rl x, gi a, gi n] (hp [] []) fun r H' => r = .tuple [rl (addX x a n), .v (.bool (inX x a))] ∧ ∃ tips more, H' = hp more tips := by
  by_cases hin : inX x a = true
  · have ha : 0 ≤ a ∧ a < x.length := by unfold inX at hin; simpa using hin
    have hi : a.toNat < x.length := by omega
    refine Fs.iceT 1 ?_
    refine Fs.of_body (has_fn (by kernel_rfl)) ?_
    rw [ra_sl, ra_re]
    have pre := fun R => ra_pre bsX x a n R
    rw [gil] at pre
    refine Tr.of_flat (Trl.split 4 (Trl.of_code knownN (neN (by kernel_rfl)) (pre _) (holds_bif (fun h => ?_) fun h => holds_bif (fun h2 => ?_) fun h2 => holds_some ⟨trivial, ?_⟩)))
    · have := of_decide_eq_true h; omega
    · have := of_decide_eq_true h2; omega
    show Trl _ _ ((flatten (bodyOf 10)).drop 4) ([rl x, gi a, gi n, .dead, .dead, .dead, nilS, .v (.bool false), nilS] ++ ded 22) (hp [] []) _
    rw [ra_fl]
    refine Tr.mono (tr_appNew einfoI ra_app (xs := x.map gi) (tip := .no) (us := x.map (Value.int .i64)) rfl rfl (by rw [gil]; omega) (gi_cells x) (by rw [gil]; show x.length * 8 ≤ _; omega) (by rw [gil]; simp only [maxLen]; omega) (by show 18 < 31; omega) (by show 19 < 31; omega) (by show 20 < 31; omega) (by omega) (by omega)) ?_
    rintro e ac h ⟨rfl, cap, C, hc1, hc2, hC, hCt, rfl, rfl⟩
    rw [gil] at hc1 hCt
    rw [gil]
    have hC : C.length = cap := by have : C.length = cap * 1 := hC; omega
    have hCt : C.take x.length = x.map (Value.int .i64) := by have : C.take (x.length * 1) = _ := hCt; rwa [Nat.mul_one] at this
    show Trl _ _ ((flatten (bodyOf 10)).drop 5) _ _ _
    refine Tr.keepL [0, 1, 2, 8] (by kernel_rfl) ?_
    obtain ⟨Z, hZ⟩ : ∃ Z, C.drop x.length = Z := ⟨_, rfl⟩
    have hCZ : C = x.map (Value.int .i64) ++ Z := by rw [← hCt, ← hZ, List.take_append_drop]
    have e1 : (0 : Nat) + Int.toNat a * 1 = a.toNat := by omega
    have hget : (C.map AV.v)[a.toNat]? = some (gi (x.getD a.toNat 0)) := by
      rw [hCZ, List.map_append, gi_vs, List.getElem?_append_left (by rw [gil]; exact hi), List.getElem?_map, List.getD_eq_getElem?_getD, List.getElem?_eq_getElem hi]; rfl
    have hgd : exInt ((C.map AV.v).getD a.toNat .dead) = x.getD a.toNat 0 := by rw [List.getD_eq_getElem?_getD, hget]; rfl
    have hlen : a.toNat < (C.map AV.v).length := by rw [List.length_map]; omega
    have hone : ((C.map AV.v).drop a.toNat).take 1 = [gi (x.getD a.toNat 0)] := by
      rw [List.drop_eq_getElem_cons hlen, List.take_succ_cons, List.take_zero]
      rw [List.getElem?_eq_getElem hlen] at hget
      rw [Option.some.inj hget]
    have st := fun R => ra_set bsX x a n (C.map AV.v) x.length cap R
    rw [e1, Nat.add_zero, hgd] at st
    refine Trl.of_code knownN (neN (by kernel_rfl)) (st _) (holds_some ⟨cdb_iff.2 ⟨cdb_iff.2 ⟨cds_of (cdb_iff.2 ⟨trivial, decide_eq_true ha⟩) hone, decide_eq_true ha⟩, decide_eq_true (by omega)⟩, .inr rfl, trivial, [], 3, C.take a.toNat ++ [.int .i64 (Bd.addC (x.getD a.toNat 0) n)] ++ C.drop (a.toNat + 1), [], x.length, cap, (addX x a n).map gi, ?_, by decide, by simp [hp], rfl, hc1, hc2, by rw [gil, addX_len], fun y hy => ?_, ?_, .inr ⟨.bool true, rfl, ?_, _, _, rfl⟩⟩)
    · show [(_, (C.map AV.v).take a.toNat ++ [gi (Bd.addC (x.getD a.toNat 0) n)] ++ (C.map AV.v).drop (a.toNat + 1))] = _
      rw [← List.map_take, ← List.map_drop]
      simp only [List.map_append, List.nil_append]
      rfl
    · obtain ⟨k, _, rfl⟩ := List.mem_map.1 hy
      rfl
    · rw [gi_cells, Nat.mul_one]
      congr 1
      have hset : C.take a.toNat ++ [.int .i64 (Bd.addC (x.getD a.toNat 0) n)] ++ C.drop (a.toNat + 1) = C.set a.toNat (.int .i64 (Bd.addC (x.getD a.toNat 0) n)) := by
        rw [List.set_eq_take_append_cons_drop, if_pos (by omega), List.append_assoc]; rfl
      rw [hset, List.take_set, hCt]
      unfold addX
      rw [hin, if_pos rfl, List.map_set]
    · rw [hin]
  · have hin : inX x a = false := by simpa using hin
    have hne : addX x a n = x := by unfold addX; rw [hin]; rfl
    rw [hne, hin]
    refine Fs.of_body (has_fn (by kernel_rfl)) ?_
    rw [ra_sl, ra_re]
    have pre := fun R => ra_pre bsX x a n R
    rw [gil] at pre
    refine Tr.of_flat (Trl.split 4 (Trl.of_code knownN (neN (by kernel_rfl)) (pre _) (holds_bif (fun h => ?_) fun h => holds_bif (fun h2 => ?_) fun h2 => ?_)))
    · exact holds_some ⟨trivial, .inr rfl, trivial, rfl, _, _, rfl⟩
    · exact holds_some ⟨trivial, .inr rfl, trivial, rfl, _, _, rfl⟩
    · have h := of_decide_eq_false h
      have h2 := of_decide_eq_false h2
      unfold inX at hin
      simp at hin
      omega
end Go.Proofs.Ytbfeoggdalepmaa.AE
namespace Go.Proofs.Ytbfeoggdalepmaa.AE
set_option maxRecDepth 100000
open Go.RowKit
def nwX (n : Int) : List Int := List.replicate n.toNat 0
def rightN (n : Int) : Bool := decide (1 ≤ n) && decide (n ≤ 128)
theorem nw_cells (n : Int) (h : rightN n = true) : hC (nwX n) = List.replicate 128 (gi 0) ++ [gi n] := by
  have h : 1 ≤ n ∧ n ≤ 128 := by unfold rightN at h; simpa using h
  unfold hC hL nwX
  rw [List.length_replicate, List.replicate_append_replicate, show n.toNat + (128 - n.toNat) = 128 by omega, List.map_append, List.map_replicate, show ((n.toNat : Nat) : Int) = n by omega]
  rfl
def newP' (n : Int) : AV → AH → Prop := fun r H' => if rightN n = true then r = .tuple [.ptr 0 0, gi 0] ∧ H' = hiH (hC (nwX n)) else r = .v (.tuple #[.pointer none, .int .i64 1]) ∧ H' = hp [] []
theorem fs_hnew (n : Int) : Fs Try.prog nro 7 [gi n] (hp [] []) (newP' n) := by
  refine Fs.of_call knownH (h_new bsX hsX n (newP' n)) ?_
  refine holds_bif (fun h => ?_) (fun h => holds_bif (fun h2 => ?_) (fun h2 => ?_))
  · have h := of_decide_eq_true h
    have hr : ¬ rightN n = true := by unfold rightN; simp; omega
    refine holds_some ⟨trivial, ?_⟩
    unfold newP'; rw [if_neg hr]; exact ⟨rfl, rfl⟩
  · have h2 := of_decide_eq_true h2
    have hr : ¬ rightN n = true := by unfold rightN; simp; omega
    refine holds_some ⟨trivial, ?_⟩
    unfold newP'; rw [if_neg hr]; exact ⟨rfl, rfl⟩
  · have h := of_decide_eq_false h
    have h2 := of_decide_eq_false h2
    have hr : rightN n = true := by unfold rightN; simp; omega
    refine holds_some ⟨trivial, ?_⟩
    unfold newP'; rw [if_pos hr]
    refine ⟨rfl, ?_⟩
    rw [nw_cells n hr]; rfl
theorem take_ex (x : List Int) (hx : x.length ≤ 128) : (hC x).take 128 = (List.range 128).map fun i => gi (exInt ((hC x).getD i .dead)) := by
  refine List.ext_getElem ?_ fun i h1 h2 => ?_
  · rw [List.length_take, hC_len x hx]; simp
  · have hi : i < (hC x).length := by rw [List.length_take] at h1; omega
    rw [List.getElem_take, List.getElem_map, List.getElem_range, List.getD_eq_getElem?_getD, List.getElem?_eq_getElem hi]
    have hm : (hC x)[i] ∈ hC x := List.getElem_mem hi
    obtain ⟨n, _, hn⟩ := List.mem_map.1 (show (hC x)[i] ∈ (hL x).map gi from hm)
    rw [Option.getD_some, ← hn]; rfl
theorem cells_take (x : List Int) (hx : x.length ≤ 128) : (hC x).take 128 = ((hL x).take 128).map gi := by unfold hC; rw [List.map_take]
theorem hL_take (x : List Int) : (hL x).take x.length = x := by
  unfold hL; rw [List.append_assoc]; exact List.take_left' rfl
def alP (x : List Int) : AV → AH → Prop := fun r h => ∃ (B : List (TypeId × List AV)) (t : TypeId) (vs : List Value) (B' : List (TypeId × List AV)) (n cap : Nat) (xs : List AV), h.blks = B ++ [(t, vs.map AV.v)] ∧ OkT t ∧ (hiH (hC x)).blks.length ≤ B.length ∧ frB B.length (vs.map .v) B = some B' ∧ n ≤ cap ∧ cap ≤ maxLen ∧ xs.length = n ∧ (∀ x ∈ xs, x.cells.length = 1) ∧ xs.flatMap AV.cells = (vs.take (n * 1)).map AV.v ∧
      ((r = .sl B.length 0 n cap ∧ reP (rl x) (hC x) (.lst 1 xs .no) { h with blks := B' }) ∨ ∃ w, r = .tuple [.sl B.length 0 n cap, .v w] ∧ reP (rl x) (hC x) (.tuple [.lst 1 xs .no, .v w]) { h with blks := B' })
theorem fs_hall (x : List Int) (hx : x.length ≤ 128) : Fs Try.prog nro 21 [.pi 0 0] (hiH (hC x)) (reP (rl x) (hC x)) := by
  have key : Fs Try.prog nro 21 [.pi 0 0] (hiH (hC x)) (alP x) := by
    refine Fs.of_call knownH (h_all bsX hsX (hC x) (alP x)) ?_
    rw [hC_128 x hx]
    have ex := take_ex x hx
    have ex2 : ∀ l : List AV, (List.range 128).map (fun i => gi (exInt ((hC x).getD i .dead))) = l → l = (((hL x).take 128).map (Value.int .i64)).map AV.v := fun l hl => by
      rw [gi_vs, ← cells_take x hx, ← hl, ex]
    refine holds_some ⟨cdb_iff.2 ⟨cds_of (cds_of trivial (ex.trans (by kernel_rfl))) (c128 x hx), decide_eq_true ⟨by omega, by omega, by omega⟩⟩, ?_⟩
    refine ⟨[(48, hC x)], 46, ((hL x).take 128).map (Value.int .i64), [(48, hC x)], x.length, 128, x.map gi, ?_, by decide, Nat.le_refl _, ?_, hx, by simp [maxLen], gil x, fun y hy => ?_, ?_, .inl ⟨?_, rfl, rfl⟩⟩
    · show [(_, hC x), (_, _)] = _
      rw [← ex2 _ (by kernel_rfl)]
      rfl
    · show (match frLs _ _ ((hL x).map gi) with | some y => _ | none => none) = _
      rw [frLs_gi]; rfl
    · obtain ⟨k, _, rfl⟩ := List.mem_map.1 hy
      rfl
    · rw [gi_cells, Nat.mul_one, ← List.map_take, List.take_take, Nat.min_eq_left hx, hL_take]
    · show AV.sl 1 0 (Int.toNat ((x.length : Int) - 0)) 128 = AV.sl 1 0 x.length 128
      rw [show Int.toNat ((x.length : Int) - 0) = x.length by omega]
  exact Fs.iceT 1 key
end Go.Proofs.Ytbfeoggdalepmaa.AE
namespace Go.Proofs.Ytbfeoggdalepmaa.AE
set_option maxRecDepth 100000
open Go.RowKit
def nilH : AV := .v (.pointer none)
def snH : AH := hp [(24, [nilH])] []
def bnH (a : Int) : AH := hp [(3, [gi a]), (3, [gi 0]), (24, [nilH])] []
def bnA : List AV := ded 3 ++ [.ptr 0 0, .dead, .ptr 1 0, .dead, .dead, .dead, .fn (.func 36) [] [.ptr 2 0]] ++ ded 7
theorem sn_all (S : BS) (l : Nat) (R : Exit → List AV → AH → Prop) : codeL nro mu0 (prN S) 10 ((flatten (bodyOf 36)).take 2) ([yld l, .ptr 0 0] ++ und 32) snH (kp [] R) =
    (some (True ∧ (R Exit.ret [AV.dead, AV.dead, AV.dead, AV.dead, AV.dead, AV.dead, AV.dead, AV.dead, AV.dead, AV.dead, AV.dead, AV.dead, AV.dead, AV.dead, AV.dead, AV.dead, AV.dead, AV.dead, AV.dead, AV.dead, AV.dead, AV.dead, AV.dead, AV.dead, AV.dead, AV.dead, AV.dead, AV.dead, AV.dead, AV.dead, AV.dead, AV.dead, AV.dead, AV.dead] (AH.mk [((24 : Nat), [(AV.v (Value.pointer none))])] (@List.nil Nat) (0 : Nat) (0 : Nat) true (@List.nil (Prod Nat Bool)) True)))) := by kernel_rfl
theorem bn_pre (S : BS) (a : Int) (R : Exit → List AV → AH → Prop) : codeL nro mu0 (prN S) 10 ((flatten (bodyOf 17)).take 3) ([nilH, gi a] ++ und 15) (hp [] []) (kp [3, 5, 9] R) =
    (some (True ∧ (R Exit.normal [AV.dead, AV.dead, AV.dead, (AV.ptr (0 : Nat) (0 : Nat)), AV.dead, (AV.ptr (List.length [((3 : Nat), [(AV.v (Value.int IntKind.i64 a))])]) (0 : Nat)), AV.dead, AV.dead, AV.dead, (AV.fn (Go.Fn.func (36 : Nat)) (@List.nil AV) [(AV.ptr (List.length [((3 : Nat), [(AV.v (Value.int IntKind.i64 a))]), ((3 : Nat), [(AV.v (Value.int IntKind.i64 (0 : Int)))])]) (0 : Nat))]), AV.dead, AV.dead, AV.dead, AV.dead, AV.dead, AV.dead, AV.dead] (AH.mk [((3 : Nat), [(AV.v (Value.int IntKind.i64 a))]), ((3 : Nat), [(AV.v (Value.int IntKind.i64 (0 : Int)))]), ((24 : Nat), [(AV.v (Value.pointer none))])] (@List.nil Nat) (0 : Nat) (0 : Nat) true (@List.nil (Prod Nat Bool)) True)))) := by kernel_rfl
theorem bn_post (S : BS) (a : Int) (R : Exit → List AV → AH → Prop) : codeL nro mu0 (prN S) 10 ((flatten (bodyOf 17)).drop 4) bnA (bnH a) (kp [4] R) =
    (some (True ∧ (R Exit.ret [AV.dead, AV.dead, AV.dead, AV.dead, (AV.v (Value.int IntKind.i64 (0 : Int))), AV.dead, AV.dead, AV.dead, AV.dead, AV.dead, AV.dead, AV.dead, AV.dead, AV.dead, AV.dead, AV.dead, AV.dead] (AH.mk [((3 : Nat), [(AV.v (Value.int IntKind.i64 a))]), ((3 : Nat), [(AV.v (Value.int IntKind.i64 (0 : Int)))]), ((24 : Nat), [(AV.v (Value.pointer none))])] (@List.nil Nat) (0 : Nat) (0 : Nat) true (@List.nil (Prod Nat Bool)) True)))) := by kernel_rfl
end Go.Proofs.Ytbfeoggdalepmaa.AE
namespace Go.Proofs.Ytbfeoggdalepmaa.AE
set_option maxRecDepth 100000
open Go.RowKit
theorem sn_ok (S : BS) (hp' : Known nro (prN S)) : ItOk Try.prog nro 36 [.ptr 0 0] snH 1 [] := by
  refine ItOk.of_body (has_fn (by kernel_rfl)) su_re fun l => ?_
  rw [su_sl]
  show TrY Try.prog nro l 1 [] _ ([yld l, .ptr 0 0] ++ und 32) _ _ _ _
  refine TrY.of_parts (TrYs.split 2 (TrYs.of_trl rfl (Trl.of_code hp' (neN (by kernel_rfl)) (sn_all S l _) ?_)))
  exact holds_some ⟨trivial, rfl, .inr rfl, .inr rfl⟩
theorem fs_below0 (S : BS) (hp' : Known nro (prN S)) (a : Int) : Fs Try.prog nro 17 [nilH, gi a] (hp [] []) fun r _ => r = gi 0 := by
  refine Fs.of_ranged (has_fn (by kernel_rfl)) be_fl ?_
  rw [be_sl, be_re]
  refine Trl.of_code hp' (neN (by kernel_rfl)) (bn_pre S a _) ?_
  refine holds_some ⟨trivial, ?_⟩
  show TrM _ _ _ bnA (bnH a) _
  refine TrM.block ?_
  refine TrM.range (ids := [2]) (mask := [false]) (cap' := [.ptr 0 0]) (bl0 := [(24, [nilH])]) (bl := [(24, [nilH])]) (ys := []) (Q := leave 0 _) rfl rfl rfl rfl rfl rfl (sn_ok S hp')
    (fun pe pre h => pe = none ∧ h = bnH a) ?_ ⟨rfl, rfl⟩ ?_ ?_ ?_
  · rintro pe pre h ⟨_, rfl⟩; rfl
  · rintro l pre y H2 _ hpre
    have := hpre.length_le
    simp at this
  · rintro h ⟨_, rfl⟩
    exact Trl.of_code hp' (neN (by kernel_rfl)) (bn_post S a _) (holds_some ⟨trivial, .inr rfl, trivial, rfl⟩)
  · rintro c pre h ⟨hc, _⟩; cases hc
def nilB : List Value → Option (Value × Bool) := fun us => match us with
  | [.pointer none, .int .i64 _] => some (.int .i64 0, true)
  | _ => none
def blP (S : HS) : List AV → AH → Ans := fun args H => match args with
  | .v (.pointer none) :: _ => pure? nilB args H
  | _ => obj? (obH (belF S)) args H
theorem nilB_ok : ∀ args H r H', pure? nilB args H = some (r, H') → HSound1 Try.prog nro 17 args H r H' := by
  refine pure_ok (fun us c hs => ?_) (has_fn (by kernel_rfl))
  unfold nilB at hs
  split at hs
  · simp only [Option.some.injEq, Prod.mk.injEq, and_true] at hs
    subst hs
    exact fs_below0 bsX knownN _
  · cases hs
theorem blP_ok : ∀ args H r H', blP hsX args H = some (r, H') → HSound1 Try.prog nro 17 args H r H' := by
  intro args H r H' h
  unfold blP at h
  split at h
  · exact nilB_ok _ _ _ _ h
  · exact obel_ok _ _ _ _ h
noncomputable def prG (B : BS) (S : HS) : FuncId → Option (List AV → AH → Ans) := fun g => match g with
  | 26 => some (pure? (adP B))
  | 27 => some (pure? (kpP B))
  | 17 => some (blP S)
  | 28 => some (obj? (obF S))
  | _ => none
theorem knownG : Known nro (prG bsX hsX) := by
  intro g p h
  unfold prG at h
  split at h <;> cases h
  · exact badd_ok
  · exact bkeep_ok
  · exact blP_ok
  · exact ofnd_ok
theorem aw_tree (Φ : AV → Prop) : callK nro mu0 (prG bsX hsX) 12 6 [] (hp [] []) (fun r h => some (h.cd ∧ Φ r)) =
    (some (True ∧ (Φ (AV.v (Value.bool true))))) := by kernel_rfl
end Go.Proofs.Ytbfeoggdalepmaa.AE
namespace Go.Proofs.Ytbfeoggdalepmaa.AE
set_option maxRecDepth 100000
open Go.RowKit
theorem fs_awake : Fs Try.prog nro 6 [] (hp [] []) fun r _ => r = .v (.bool true) := Fs.of_call knownG (aw_tree _) ⟨trivial, rfl⟩
theorem awake_ok10 : ∀ args H r H', pure? awakeS args H = some (r, H') → HSound1 Try.prog nro 6 args H r H' := by
  refine pure_ok (fun us c hs => ?_) (has_fn (by kernel_rfl))
  unfold awakeS at hs
  split at hs
  · cases hs; exact fs_awake
  · cases hs
theorem z_cnt (B : BS) (S : HS) (a : Int) (Φ : AV → Prop) : callK nro mu0 (prG B S) 10 9 [nilH, gi a] (hp [] []) (fun r h => some (h.cd ∧ Φ r)) =
    (some (True ∧ (Φ (AV.v (Value.bool false))))) := by kernel_rfl
theorem z_add (B : BS) (S : HS) (a n : Int) (Φ : AV → Prop) : callK nro mu0 (prG B S) 10 11 [nilH, gi a, gi n] (hp [] []) (fun r h => some (h.cd ∧ Φ r)) =
    (some (True ∧ (Φ (AV.v (Value.bool false))))) := by kernel_rfl
theorem z_many (B : BS) (S : HS) (a : Int) (Φ : AV → Prop) : callK nro mu0 (prG B S) 10 22 [nilH, gi a] (hp [] []) (fun r h => some (h.cd ∧ Φ r)) =
    (some (True ∧ (Φ (AV.v (Value.int IntKind.i64 (0 : Int)))))) := by kernel_rfl
theorem z_tot (B : BS) (S : HS) (Φ : AV → Prop) : callK nro mu0 (prG B S) 10 19 [nilH] (hp [] []) (fun r h => some (h.cd ∧ Φ r)) =
    (some (True ∧ (Φ (AV.v (Value.int IntKind.i64 (0 : Int)))))) := by kernel_rfl
theorem z_most (B : BS) (S : HS) (a : Int) (Φ : AV → Prop) : callK nro mu0 (prG B S) 10 15 [nilH, gi a] (hp [] []) (fun r h => some (h.cd ∧ Φ r)) =
    (some (True ∧ (Φ (AV.v (Value.int IntKind.i64 (0 : Int)))))) := by kernel_rfl
theorem z_least (B : BS) (S : HS) (a : Int) (Φ : AV → Prop) : callK nro mu0 (prG B S) 10 13 [nilH, gi a] (hp [] []) (fun r h => some (h.cd ∧ Φ r)) =
    (some (True ∧ (Φ (AV.v (Value.tuple #[(Value.int IntKind.i64 (0 : Int)), (Value.bool false)]))))) := by kernel_rfl
theorem z_clr (B : BS) (S : HS) (Φ : AV → Prop) : callK nro mu0 (prG B S) 10 12 [nilH] (hp [] []) (fun r h => some (h.cd ∧ Φ r)) =
    (some (True ∧ (Φ (AV.v (Value.tuple (Array.mk (@List.nil Go.Value))))))) := by kernel_rfl
theorem z_all (B : BS) (S : HS) (Φ : AV → Prop) : callK nro mu0 (prG B S) 10 21 [nilH] (hp [] []) (fun r h => some (h.cd ∧ Φ r)) =
    (some (True ∧ (Φ (AV.v (Value.slice none (0 : Nat) (0 : Nat)))))) := by kernel_rfl
/-- What the calls answer, over a block's cells or a list's; a variable in the trees. -/
structure QS where
  ok : List AV → Bool
  ad : List AV → Int → Int → List AV
  ab : List AV → Int → Bool
  cl : List AV → List AV
  lI : List AV → Int → Int
  lB : List AV → Int → Bool
  ms : List AV → Int → Int
  bl : List AV → Int → Int
  al : List AV → List AV
  mn : List AV → Int → Int
  nw : Int → List AV
  rk : List AV → Bool
  ra : List AV → Int → Int → List AV
  rb : List AV → Int → Bool
  rI : List AV → Int → Int
  rB : List AV → Int → Bool
  rm : List AV → Int → Int
  rw : List AV → Int → Int
  ct : Int → Int
  ln : List AV → Nat
  ac : List AV → List AV
def nz (p : List Value → Option (Value × Bool)) (S : ObjS) : List AV → AH → Ans := fun args H => match args with
  | .v (.pointer none) :: _ => pure? p args H
  | _ => obj? S args H
def zC : List Value → Option (Value × Bool) := fun us => match us with
  | [.pointer none, .int .i64 _] => some (.bool false, true)
  | _ => none
def zD : List Value → Option (Value × Bool) := fun us => match us with
  | [.pointer none, .int .i64 _, .int .i64 _] => some (.bool false, true)
  | _ => none
def zI : List Value → Option (Value × Bool) := fun us => match us with
  | [.pointer none, .int .i64 _] => some (.int .i64 0, true)
  | _ => none
def zT : List Value → Option (Value × Bool) := fun us => match us with
  | [.pointer none] => some (.int .i64 0, true)
  | _ => none
def zL : List Value → Option (Value × Bool) := fun us => match us with
  | [.pointer none, .int .i64 _] => some (.tuple #[.int .i64 0, .bool false], true)
  | _ => none
def zA : List Value → Option (Value × Bool) := fun us => match us with
  | [.pointer none] => some (.slice none 0 0, true)
  | _ => none
def zU : List Value → Option (Value × Bool) := fun us => match us with
  | [.pointer none] => some (.tuple #[], true)
  | _ => none
def fCnt (S : QS) : List AV → List AV → Option (AV × List AV × Bool) := fun C args => match args with
  | [.v (.int .i64 a)] => some (.v (.bool (S.ab C a)), S.ad C a 1, S.ok C)
  | _ => none
def fAdd (S : QS) : List AV → List AV → Option (AV × List AV × Bool) := fun C args => match args with
  | [.v (.int .i64 a), .v (.int .i64 n)] => some (.v (.bool (S.ab C a)), S.ad C a n, S.ok C)
  | _ => none
def fClr (S : QS) : List AV → List AV → Option (AV × List AV × Bool) := fun C args => match args with
  | [] => some (.v (.tuple #[]), S.cl C, S.ok C)
  | _ => none
def fLst (S : QS) : List AV → List AV → Option (AV × List AV × Bool) := fun C args => match args with
  | [.v (.int .i64 m)] => some (.v (.tuple #[.int .i64 (S.lI C m), .bool (S.lB C m)]), C, S.ok C)
  | _ => none
def fMst (S : QS) : List AV → List AV → Option (AV × List AV × Bool) := fun C args => match args with
  | [.v (.int .i64 m)] => some (gi (S.ms C m), C, S.ok C)
  | _ => none
def fBel (S : QS) : List AV → List AV → Option (AV × List AV × Bool) := fun C args => match args with
  | [.v (.int .i64 m)] => some (gi (S.bl C m), C, S.ok C)
  | _ => none
def fTot (S : QS) : List AV → List AV → Option (AV × List AV × Bool) := fun C args => match args with
  | [] => some (gi (S.bl C 128), C, S.ok C)
  | _ => none
def fMny (S : QS) : List AV → List AV → Option (AV × List AV × Bool) := fun C args => match args with
  | [.v (.int .i64 m)] => some (gi (S.mn C m), C, S.ok C)
  | _ => none
def fAll (S : QS) : List AV → List AV → Option (AV × List AV × Bool) := fun C args => match args with
  | [] => some (.lst 1 (S.al C) .no, C, S.ok C)
  | _ => none
/-- A new histogram, of as many levels as there may be. -/
def oNew (S : QS) : ObjS where
  pick := fun _ _ => some []
  mask := []
  maskB := [true]
  spec := fun args bs => match bs with
    | [] => match args with
      | [.v (.int .i64 n)] => some (.tuple [.ptr 0 0, gi 0], [(48, S.nw n)], rightN n)
      | _ => none
    | _ => none
def rBel (S : QS) : List AV → Option (AV × Bool) := fun us => match us with
  | [.lst 1 xs .no, .v (.int .i64 a)] => some (gi (S.rw xs a), S.rk xs)
  | _ => none
def rMst (S : QS) : List AV → Option (AV × Bool) := fun us => match us with
  | [.lst 1 xs .no, .v (.int .i64 a)] => some (gi (S.rm xs a), S.rk xs)
  | _ => none
def rLst (S : QS) : List AV → Option (AV × Bool) := fun us => match us with
  | [.lst 1 xs .no, .v (.int .i64 a)] => some (.v (.tuple #[.int .i64 (S.rI xs a), .bool (S.rB xs a)]), S.rk xs)
  | _ => none
def oRAd (S : QS) : ObjS where
  pick := fun _ _ => some []
  mask := []
  maskB := []
  spec := fun args bs => match bs with
    | [] => match args with
      | [.lst 1 xs .no, .v (.int .i64 a), .v (.int .i64 n)] => some (.tuple [.lst 1 (S.ra xs a n) .no, .v (.bool (S.rb xs a))], [], S.rk xs)
      | _ => none
    | _ => none
def ctQ (S : QS) : List Value → Option (Value × Bool) := fun us => match us with
  | [.int .i64 a] => some (.int .i64 (S.ct a), true)
  | _ => none
/-- All counts, as a slice that may be written. -/
def oAl2 (S : QS) : ObjS where
  pick := fun args _ => match args with
    | .ptr id 0 :: _ => some [id]
    | .pi id 0 :: _ => some [id]
    | _ => none
  mask := [true]
  maskB := [true, true]
  spec := fun args bs => match bs with
    | [tC] => match args with
      | [x] => match at0 x with
        | true => some (.sl 1 0 (S.ln tC.2) 128, [tC, (46, S.ac tC.2)], Nat.beq tC.1 48 && S.ok tC.2)
        | false => none
      | _ => none
    | _ => none
noncomputable def prQ (S : QS) : FuncId → Option (List AV → AH → Ans) := fun g => match g with
  | 9 => some (nz zC (obH (fCnt S)))
  | 11 => some (nz zD (obH (fAdd S)))
  | 12 => some (nz zU (obH (fClr S)))
  | 13 => some (nz zL (obH (fLst S)))
  | 15 => some (nz zI (obH (fMst S)))
  | 17 => some (nz zI (obH (fBel S)))
  | 19 => some (nz zT (obH (fTot S)))
  | 22 => some (nz zI (obH (fMny S)))
  | 21 => some (nz zA (obH (fAll S)))
  | 7 => some (obj? (oNew S))
  | 18 => some (data? (rBel S))
  | 16 => some (data? (rMst S))
  | 14 => some (data? (rLst S))
  | 10 => some (obj? (oRAd S))
  | 23 => some (pure? (ctQ S))
  | 20 => some (tot? (sameIV sameIX) sameIOk)
  | 6 => some (pure? awakeS)
  | _ => none
def xsO (xs : List AV) : List Int := xs.map exInt
def qsX : QS where
  ok := okH
  ad := fun C a n => hC (addX (xOf C) a n)
  ab := fun C a => inX (xOf C) a
  cl := fun C => hC (clrX (xOf C))
  lI := fun C m => oI (leastX (xOf C) m)
  lB := fun C m => (leastX (xOf C) m).isSome
  ms := fun C m => mostX (xOf C) m
  bl := fun C a => bwI bsX (xOf C) a
  al := fun C => (xOf C).map gi
  mn := fun C a => manyX (xOf C) a
  nw := fun n => hC (nwX n)
  rk := fun xs => xs.all isGi && decide (xs.length ≤ 1000000)
  ra := fun xs a n => (addX (xsO xs) a n).map gi
  rb := fun xs a => inX (xsO xs) a
  rI := fun xs m => oI (reX (xsO xs) m)
  rB := fun xs m => (reX (xsO xs) m).isSome
  rm := fun xs m => rmX (xsO xs) m
  rw := fun xs a => belR bsX (xsO xs) a
  ct := fun n => Bd.kp n Bd.cMost
  ln := fun C => (xOf C).length
  ac := fun C => C.take 128
theorem obH_rm {g : FuncId} {f : List AV → List AV → Option (AV × List AV × Bool)} (hf : ∃ fn, Try.prog.funcs[g]? = some fn ∧ fn.body.isSome = true)
    (h : ∀ C rest r C', f C rest = some (r, C', true) → okH C = true ∧ ∀ x : List Int, x.length ≤ 128 → xOf C = x → C = hC x → Fs Try.prog nro g (.pi 0 0 :: rest) (hiH (hC x)) (rmP r C') ∨ Fs Try.prog nro g (.pi 0 0 :: rest) (hiH (hC x)) (reP r C')) :
    ∀ args H r H', obj? (obH f) args H = some (r, H') → HSound1 Try.prog nro g args H r H' := by
  refine obH_ok hf fun C rest r C' hfx => ?_
  obtain ⟨hok, h⟩ := h C rest r C' hfx
  obtain ⟨x, hx, rfl, hxo⟩ := okH_out hok
  rcases h x hx hxo rfl with h | h
  · exact h.mono fun r h => fun ⟨a, b⟩ => ⟨.inl a, b⟩
  · refine h.mono fun r h => ?_
    rintro ⟨a, rfl⟩
    exact ⟨.inl a, [], [], rfl⟩
theorem nz_ok {g : FuncId} {p : List Value → Option (Value × Bool)} {S : ObjS} (h1 : ∀ args H r H', pure? p args H = some (r, H') → HSound1 Try.prog nro g args H r H') (h2 : ∀ args H r H', obj? S args H = some (r, H') → HSound1 Try.prog nro g args H r H') : ∀ args H r H', nz p S args H = some (r, H') → HSound1 Try.prog nro g args H r H' := by
  intro args H r H' h
  unfold nz at h
  split at h
  · exact h1 _ _ _ _ h
  · exact h2 _ _ _ _ h
end Go.Proofs.Ytbfeoggdalepmaa.AE
namespace Go.Proofs.Ytbfeoggdalepmaa.AE
set_option maxRecDepth 100000
open Go.RowKit
theorem oCnt_ok : ∀ args H r H', obj? (obH (fCnt qsX)) args H = some (r, H') → HSound1 Try.prog nro 9 args H r H' := by
  refine obH_rm (has_fn (by kernel_rfl)) fun C rest r C' h => ?_
  unfold fCnt at h
  split at h
  · rename_i a
    simp only [Option.some.injEq, Prod.mk.injEq] at h
    obtain ⟨rfl, rfl, h⟩ := h
    refine ⟨h, fun x hx hxo hC => ?_⟩
    subst hC
    have e : xOf (hC x) = x := hxo
    simp only [qsX, e]
    exact .inr (fs_hcnt x hx a)
  · cases h
theorem oAdd_ok : ∀ args H r H', obj? (obH (fAdd qsX)) args H = some (r, H') → HSound1 Try.prog nro 11 args H r H' := by
  refine obH_rm (has_fn (by kernel_rfl)) fun C rest r C' h => ?_
  unfold fAdd at h
  split at h
  · rename_i a n
    simp only [Option.some.injEq, Prod.mk.injEq] at h
    obtain ⟨rfl, rfl, h⟩ := h
    refine ⟨h, fun x hx hxo hC => ?_⟩
    subst hC
    have e : xOf (hC x) = x := hxo
    simp only [qsX, e]
    exact .inr (fs_hadd x hx a n)
  · cases h
theorem oClr_ok : ∀ args H r H', obj? (obH (fClr qsX)) args H = some (r, H') → HSound1 Try.prog nro 12 args H r H' := by
  refine obH_rm (has_fn (by kernel_rfl)) fun C rest r C' h => ?_
  unfold fClr at h
  split at h
  · skip
    simp only [Option.some.injEq, Prod.mk.injEq] at h
    obtain ⟨rfl, rfl, h⟩ := h
    refine ⟨h, fun x hx hxo hC => ?_⟩
    subst hC
    have e : xOf (hC x) = x := hxo
    simp only [qsX, e]
    exact .inr (fs_hclr x hx)
  · cases h
theorem oLst_ok : ∀ args H r H', obj? (obH (fLst qsX)) args H = some (r, H') → HSound1 Try.prog nro 13 args H r H' := by
  refine obH_rm (has_fn (by kernel_rfl)) fun C rest r C' h => ?_
  unfold fLst at h
  split at h
  · rename_i a
    simp only [Option.some.injEq, Prod.mk.injEq] at h
    obtain ⟨rfl, rfl, h⟩ := h
    refine ⟨h, fun x hx hxo hC => ?_⟩
    subst hC
    have e : xOf (hC x) = x := hxo
    simp only [qsX, e]
    exact .inl (fs_hleast x hx a)
  · cases h
theorem oMst_ok : ∀ args H r H', obj? (obH (fMst qsX)) args H = some (r, H') → HSound1 Try.prog nro 15 args H r H' := by
  refine obH_rm (has_fn (by kernel_rfl)) fun C rest r C' h => ?_
  unfold fMst at h
  split at h
  · rename_i a
    simp only [Option.some.injEq, Prod.mk.injEq] at h
    obtain ⟨rfl, rfl, h⟩ := h
    refine ⟨h, fun x hx hxo hC => ?_⟩
    subst hC
    have e : xOf (hC x) = x := hxo
    simp only [qsX, e]
    exact .inl (fs_hmost x hx a)
  · cases h
theorem oBel_ok : ∀ args H r H', obj? (obH (fBel qsX)) args H = some (r, H') → HSound1 Try.prog nro 17 args H r H' := by
  refine obH_rm (has_fn (by kernel_rfl)) fun C rest r C' h => ?_
  unfold fBel at h
  split at h
  · rename_i a
    simp only [Option.some.injEq, Prod.mk.injEq] at h
    obtain ⟨rfl, rfl, h⟩ := h
    refine ⟨h, fun x hx hxo hC => ?_⟩
    subst hC
    have e : xOf (hC x) = x := hxo
    simp only [qsX, e]
    exact .inl (fs_below bsX knownN x hx a)
  · cases h
theorem oTot_ok : ∀ args H r H', obj? (obH (fTot qsX)) args H = some (r, H') → HSound1 Try.prog nro 19 args H r H' := by
  refine obH_rm (has_fn (by kernel_rfl)) fun C rest r C' h => ?_
  unfold fTot at h
  split at h
  · skip
    simp only [Option.some.injEq, Prod.mk.injEq] at h
    obtain ⟨rfl, rfl, h⟩ := h
    refine ⟨h, fun x hx hxo hC => ?_⟩
    subst hC
    have e : xOf (hC x) = x := hxo
    simp only [qsX, e]
    exact .inr (fs_htot x hx)
  · cases h
theorem oMny_ok : ∀ args H r H', obj? (obH (fMny qsX)) args H = some (r, H') → HSound1 Try.prog nro 22 args H r H' := by
  refine obH_rm (has_fn (by kernel_rfl)) fun C rest r C' h => ?_
  unfold fMny at h
  split at h
  · rename_i a
    simp only [Option.some.injEq, Prod.mk.injEq] at h
    obtain ⟨rfl, rfl, h⟩ := h
    refine ⟨h, fun x hx hxo hC => ?_⟩
    subst hC
    have e : xOf (hC x) = x := hxo
    simp only [qsX, e]
    exact .inr (fs_hmany x hx a)
  · cases h
theorem oAll_ok : ∀ args H r H', obj? (obH (fAll qsX)) args H = some (r, H') → HSound1 Try.prog nro 21 args H r H' := by
  refine obH_rm (has_fn (by kernel_rfl)) fun C rest r C' h => ?_
  unfold fAll at h
  split at h
  · skip
    simp only [Option.some.injEq, Prod.mk.injEq] at h
    obtain ⟨rfl, rfl, h⟩ := h
    refine ⟨h, fun x hx hxo hC => ?_⟩
    subst hC
    have e : xOf (hC x) = x := hxo
    simp only [qsX, e]
    exact .inr (fs_hall x hx)
  · cases h
theorem zCnt_ok : ∀ args H r H', pure? zC args H = some (r, H') → HSound1 Try.prog nro 9 args H r H' := by
  refine pure_ok (fun us c hs => ?_) (has_fn (by kernel_rfl))
  unfold zC at hs
  split at hs
  · simp only [Option.some.injEq, Prod.mk.injEq, and_true] at hs
    subst hs
    exact Fs.of_call knownG (z_cnt bsX hsX _ _) (holds_some ⟨trivial, rfl⟩)
  · cases hs
theorem zAdd_ok : ∀ args H r H', pure? zD args H = some (r, H') → HSound1 Try.prog nro 11 args H r H' := by
  refine pure_ok (fun us c hs => ?_) (has_fn (by kernel_rfl))
  unfold zD at hs
  split at hs
  · simp only [Option.some.injEq, Prod.mk.injEq, and_true] at hs
    subst hs
    exact Fs.of_call knownG (z_add bsX hsX _ _ _) (holds_some ⟨trivial, rfl⟩)
  · cases hs
theorem zClr_ok : ∀ args H r H', pure? zU args H = some (r, H') → HSound1 Try.prog nro 12 args H r H' := by
  refine pure_ok (fun us c hs => ?_) (has_fn (by kernel_rfl))
  unfold zU at hs
  split at hs
  · simp only [Option.some.injEq, Prod.mk.injEq, and_true] at hs
    subst hs
    exact Fs.of_call knownG (z_clr bsX hsX  _) (holds_some ⟨trivial, rfl⟩)
  · cases hs
theorem zLst_ok : ∀ args H r H', pure? zL args H = some (r, H') → HSound1 Try.prog nro 13 args H r H' := by
  refine pure_ok (fun us c hs => ?_) (has_fn (by kernel_rfl))
  unfold zL at hs
  split at hs
  · simp only [Option.some.injEq, Prod.mk.injEq, and_true] at hs
    subst hs
    exact Fs.of_call knownG (z_least bsX hsX _ _) (holds_some ⟨trivial, rfl⟩)
  · cases hs
theorem zMst_ok : ∀ args H r H', pure? zI args H = some (r, H') → HSound1 Try.prog nro 15 args H r H' := by
  refine pure_ok (fun us c hs => ?_) (has_fn (by kernel_rfl))
  unfold zI at hs
  split at hs
  · simp only [Option.some.injEq, Prod.mk.injEq, and_true] at hs
    subst hs
    exact Fs.of_call knownG (z_most bsX hsX _ _) (holds_some ⟨trivial, rfl⟩)
  · cases hs
theorem zBel_ok : ∀ args H r H', pure? zI args H = some (r, H') → HSound1 Try.prog nro 17 args H r H' := by
  refine pure_ok (fun us c hs => ?_) (has_fn (by kernel_rfl))
  unfold zI at hs
  split at hs
  · simp only [Option.some.injEq, Prod.mk.injEq, and_true] at hs
    subst hs
    exact fs_below0 bsX knownN _
  · cases hs
theorem zTot_ok : ∀ args H r H', pure? zT args H = some (r, H') → HSound1 Try.prog nro 19 args H r H' := by
  refine pure_ok (fun us c hs => ?_) (has_fn (by kernel_rfl))
  unfold zT at hs
  split at hs
  · simp only [Option.some.injEq, Prod.mk.injEq, and_true] at hs
    subst hs
    exact Fs.of_call knownG (z_tot bsX hsX  _) (holds_some ⟨trivial, rfl⟩)
  · cases hs
theorem zMny_ok : ∀ args H r H', pure? zI args H = some (r, H') → HSound1 Try.prog nro 22 args H r H' := by
  refine pure_ok (fun us c hs => ?_) (has_fn (by kernel_rfl))
  unfold zI at hs
  split at hs
  · simp only [Option.some.injEq, Prod.mk.injEq, and_true] at hs
    subst hs
    exact Fs.of_call knownG (z_many bsX hsX _ _) (holds_some ⟨trivial, rfl⟩)
  · cases hs
theorem zAll_ok : ∀ args H r H', pure? zA args H = some (r, H') → HSound1 Try.prog nro 21 args H r H' := by
  refine pure_ok (fun us c hs => ?_) (has_fn (by kernel_rfl))
  unfold zA at hs
  split at hs
  · simp only [Option.some.injEq, Prod.mk.injEq, and_true] at hs
    subst hs
    exact Fs.of_call knownG (z_all bsX hsX  _) (holds_some ⟨trivial, rfl⟩)
  · cases hs
theorem oNew_ok : ∀ args H r H', obj? (oNew qsX) args H = some (r, H') → HSound1 Try.prog nro 7 args H r H' := by
  refine obj_ok (has_fn (by kernel_rfl)) fun args bs r bs2 hs => ?_
  unfold oNew at hs
  simp only at hs
  split at hs
  · split at hs
    · rename_i n
      simp only [Option.some.injEq, Prod.mk.injEq] at hs
      obtain ⟨rfl, rfl, h⟩ := hs
      refine (fs_hnew n).mono fun r H' hn => ?_
      unfold newP' at hn
      rw [if_pos h] at hn
      obtain ⟨rfl, rfl⟩ := hn
      exact ⟨.inl rfl, [], [], rfl⟩
    · cases hs
  · cases hs
theorem rk_out {xs : List AV} (h : qsX.rk xs = true) : ∃ x : List Int, x.length ≤ 1000000 ∧ xs = x.map gi ∧ xsO xs = x := by
  have h : (xs.all isGi && decide (xs.length ≤ 1000000)) = true := h
  simp only [Bool.and_eq_true, decide_eq_true_eq] at h
  exact ⟨xsO xs, by unfold xsO; rw [List.length_map]; exact h.2, (map_gi_ex h.1).symm, rfl⟩
theorem rBel_ok : ∀ args H r H', data? (rBel qsX) args H = some (r, H') → HSound1 Try.prog nro 18 args H r H' := by
  refine data_ok (has_fn (by kernel_rfl)) fun args r h => ?_
  unfold rBel at h
  split at h
  · rename_i xs a
    simp only [Option.some.injEq, Prod.mk.injEq] at h
    obtain ⟨rfl, h⟩ := h
    obtain ⟨x, hx, rfl, e⟩ := rk_out h
    simp only [qsX, e]
    exact (fs_rbel bsX knownN x hx a).mono fun r _ h => by subst h; rfl
  · cases h
theorem rMst_ok : ∀ args H r H', data? (rMst qsX) args H = some (r, H') → HSound1 Try.prog nro 16 args H r H' := by
  refine data_ok (has_fn (by kernel_rfl)) fun args r h => ?_
  unfold rMst at h
  split at h
  · rename_i xs a
    simp only [Option.some.injEq, Prod.mk.injEq] at h
    obtain ⟨rfl, h⟩ := h
    obtain ⟨x, hx, rfl, e⟩ := rk_out h
    simp only [qsX, e]
    exact (fs_rmost x hx a).mono fun r _ h => by subst h; rfl
  · cases h
theorem rLst_ok : ∀ args H r H', data? (rLst qsX) args H = some (r, H') → HSound1 Try.prog nro 14 args H r H' := by
  refine data_ok (has_fn (by kernel_rfl)) fun args r h => ?_
  unfold rLst at h
  split at h
  · rename_i xs a
    simp only [Option.some.injEq, Prod.mk.injEq] at h
    obtain ⟨rfl, h⟩ := h
    obtain ⟨x, hx, rfl, e⟩ := rk_out h
    simp only [qsX, e]
    exact (fs_rleast x hx a).mono fun r _ h => by subst h; rfl
  · cases h
theorem rAdd_ok : ∀ args H r H', obj? (oRAd qsX) args H = some (r, H') → HSound1 Try.prog nro 10 args H r H' := by
  refine obj_ok (has_fn (by kernel_rfl)) fun args bs r bs2 hs => ?_
  unfold oRAd at hs
  simp only at hs
  split at hs
  · split at hs
    · rename_i xs a n
      simp only [Option.some.injEq, Prod.mk.injEq] at hs
      obtain ⟨rfl, rfl, h⟩ := hs
      obtain ⟨x, hx, rfl, e⟩ := rk_out h
      simp only [qsX, e]
      refine (fs_radd x hx a n).mono fun r H' => ?_
      rintro ⟨rfl, tips, more, rfl⟩
      exact ⟨.inl rfl, tips, more, rfl⟩
    · cases hs
  · cases hs
theorem ctQ_ok : ∀ args H r H', pure? (ctQ qsX) args H = some (r, H') → HSound1 Try.prog nro 23 args H r H' := by
  refine pure_of_calls (has_fn (by kernel_rfl)) fun us c h W _ => ?_
  unfold ctQ at h
  split at h
  · simp only [Option.some.injEq, Prod.mk.injEq, and_true] at h
    subst h
    refine (rcount_any _ W).mono ?_
    rintro e W' ⟨rfl, rfl⟩
    exact ⟨rfl, Below.refl _ _⟩
  · cases h
theorem knownQ : Known nro (prQ qsX) := by
  intro g p h
  unfold prQ at h
  split at h <;> cases h
  · exact nz_ok zCnt_ok oCnt_ok
  · exact nz_ok zAdd_ok oAdd_ok
  · exact nz_ok zClr_ok oClr_ok
  · exact nz_ok zLst_ok oLst_ok
  · exact nz_ok zMst_ok oMst_ok
  · exact nz_ok zBel_ok oBel_ok
  · exact nz_ok zTot_ok oTot_ok
  · exact nz_ok zMny_ok oMny_ok
  · exact nz_ok zAll_ok oAll_ok
  · exact oNew_ok
  · exact rBel_ok
  · exact rMst_ok
  · exact rLst_ok
  · exact rAdd_ok
  · exact ctQ_ok
  · exact samei_ok
  · exact awake_ok10
end Go.Proofs.Ytbfeoggdalepmaa.AE
