/-
  Layer 33: FanPlans comes to true.
-/
import Derived.Test.YtahahflpackiiaaY2
import Derived.Test.YtahahflpackiiaaY1
namespace Go.Proofs.Ytahahflpackiiaa.AE
open Go.RowKit Tb
def xlF (ns : Nat → Nt) (n : Nat) : Option Kno := (ns n).map fun x => ⟨(n : Int), x.1, x.2.1, x.2.2⟩
def xlK (ns : Nat → Nt) : List Kno := (List.range 8).filterMap (xlF ns)
theorem xlK_len (ns : Nat → Nt) : (xlK ns).length ≤ 8 := by unfold xlK; exact Nat.le_trans (List.length_filterMap_le _ _) (by simp)
theorem find_fm (g : Nat → Option Kno) (hg : ∀ n y, g n = some y → y.to = (n : Int)) (to : Int) : ∀ k : Nat, ((List.range k).filterMap g).find? (fun x => x.to == to) = if 0 ≤ to ∧ to < k then g to.toNat else none
  | 0 => by rw [if_neg (by omega)]; rfl
  | k + 1 => by
    rw [List.range_succ, List.filterMap_append, List.find?_append, find_fm g hg to k]
    by_cases h : to = (k : Int)
    · subst h
      rw [if_neg (by omega), if_pos (by omega), Option.none_or, Int.toNat_natCast]
      cases hk : g k with
      | none => rw [List.filterMap_cons_none hk]; rfl
      | some y =>
        rw [List.filterMap_cons_some hk]
        have := hg k y hk
        simp [this]
    · have e : ([k].filterMap g).find? (fun x => x.to == to) = none := by
        cases hk : g k with
        | none => rw [List.filterMap_cons_none hk]; rfl
        | some y =>
          rw [List.filterMap_cons_some hk]
          have := hg k y hk
          have h2 : ¬ y.to = to := by omega
          simp [h2]
      rw [e, Option.or_none]
      by_cases h2 : 0 ≤ to ∧ to < k
      · rw [if_pos h2, if_pos (by omega)]
      · rw [if_neg h2, if_neg (by omega)]
theorem xlF_to (ns : Nat → Nt) (n : Nat) (y : Kno) (h : xlF ns n = some y) : y.to = (n : Int) := by
  unfold xlF at h
  cases hn : ns n with
  | none => rw [hn] at h; cases h
  | some x => rw [hn] at h; cases h; rfl
theorem xl_find (ns : Nat → Nt) (to : Int) : (xlK ns).find? (fun x => x.to == to) = if 0 ≤ to ∧ to < 8 then xlF ns to.toNat else none := find_fm _ (xlF_to ns) to 8
theorem fm_congr {α β : Type} {f g : α → Option β} : ∀ {l : List α}, (∀ x ∈ l, f x = g x) → l.filterMap f = l.filterMap g
  | [], _ => rfl
  | x :: l, h => by
    have e := fm_congr (l := l) (f := f) (g := g) fun y hy => h y (List.mem_cons_of_mem _ hy)
    have e2 := h x List.mem_cons_self
    cases hx : g x with
    | none => rw [List.filterMap_cons_none (e2.trans hx), List.filterMap_cons_none hx, e]
    | some y => rw [List.filterMap_cons_some (e2.trans hx), List.filterMap_cons_some hx, e]
theorem bld_rel (ns : Nat → Nt) (k : Nat) (hk : k < 8) (th ep a : Int) : bldK (xlK ns) ⟨(k : Int), th, ep, a⟩ 8 = xlK (upd ns k (some (th, ep, a))) := by
  unfold bldK
  show _ = (List.range 8).filterMap (xlF (upd ns k (some (th, ep, a))))
  refine fm_congr fun n hn => ?_
  have hn : n < 8 := List.mem_range.1 hn
  unfold bldF
  by_cases h : (n : Int) = (k : Int)
  · rw [if_pos h]
    have : n = k := by omega
    subst this
    unfold xlF
    rw [upd_same]; rfl
  · rw [if_neg h, xl_find, if_pos (by omega), Int.toNat_natCast]
    unfold xlF
    rw [upd_other _ _ _ (by omega)]
theorem lrn_rel (ns : Nat → Nt) (to th ep now : Int) : (lrnK (xlK ns) to th ep now).1 = xlK (lrnN ns to th ep now) := by
  unfold lrnK lrnN
  by_cases hto : 0 ≤ to ∧ to < 8
  · obtain ⟨k, rfl⟩ : ∃ k : Nat, to = k := ⟨to.toNat, by omega⟩
    have hk : k < 8 := by omega
    rw [if_neg (by omega), if_pos hto, xl_find, if_pos hto, Int.toNat_natCast]
    cases hn : ns k with
    | none =>
      have e : xlF ns k = none := by unfold xlF; rw [hn]; rfl
      rw [e]
      exact bld_rel ns k hk th ep _
    | some x =>
      obtain ⟨t0, e0, a0⟩ := x
      have e : xlF ns k = some ⟨(k : Int), t0, e0, a0⟩ := by unfold xlF; rw [hn]; rfl
      rw [e]
      show (if ep < e0 then (xlK ns, false) else (bldK (xlK ns) ⟨(k : Int), if e0 = ep then t0 else th, ep, Bd.kp now Bd.tMost⟩ 8, true)).1 = xlK (upd ns k (if ep < e0 then some (t0, e0, a0) else if e0 = ep then some (t0, ep, Bd.kp now Bd.tMost) else some (th, ep, Bd.kp now Bd.tMost)))
      by_cases h1 : ep < e0
      · rw [if_pos h1, if_pos h1, ← hn, upd_id]
      · rw [if_neg h1, if_neg h1]
        by_cases h2 : e0 = ep
        · rw [if_pos h2, if_pos h2]; exact bld_rel ns k hk t0 ep _
        · rw [if_neg h2, if_neg h2]; exact bld_rel ns k hk th ep _
  · rw [if_pos (by omega), if_neg hto]
end Go.Proofs.Ytahahflpackiiaa.AE
namespace Go.Proofs.Ytahahflpackiiaa.AE
open Go.RowKit
structure Tld where
  to : Int
  th : Int
  ep : Int
  at' : Int
def tlA (x : Tld) : AV := .v (.agg #[.int .i64 x.to, .int .i64 x.th, .int .i64 x.ep, .int .i64 x.at'])
def tlL (l : List Tld) : AV := .lst 4 (l.map tlA) .no
def muO : FuncId → Bool := fun g => (g == 16) || (g == 17 + 1000000)
theorem flatO {S : FS} : Flats muO (prA S) := by
  intro g h
  unfold muO at h
  simp only [Bool.or_eq_true] at h
  rcases h with h | h
  · have : (1000000 : Nat) ≤ 16 := by rw [← eq_of_beq h]; exact Nat.le_add_left _ _
    exact absurd this (by decide)
  · have h := Nat.add_right_cancel (eq_of_beq h)
    subst h
    exact ⟨_, rfl, data_flat _⟩
def ofA (l : List Tld) (i : Int) : List AV := [.dead, tlL l, .dead, .dead, .dead, .dead, .v (.pointer none), .ptr 1 0, .ptr 2 0, .ptr 3 0, .dead, gi i] ++ ded 75
def ofH (xt lv tk dl ttl : Int) (s : AV) (M : List AV) : AH := hp [(24, [gi xt, gi lv, gi tk, gi dl]), (30, [gi 0, gi 0, gi 0, gi 0, gi 0, nilV]), (30, [gi xt, gi lv, gi tk, gi dl, gi ttl, s]), (73, M)] []
theorem of_0 (ro : Nat → Option (List Value)) (S : FS) (l : List Tld) (xt lv tk dl : Int) (R : Exit → List AV → AH → Prop) : codeL ro muO (prA S) 8 ((flatten (bodyOf 6)).take 4) ([gi 20, tlL l, .v (nwV xt lv tk dl)] ++ List.replicate 84 (.v undef)) (hp [] []) (kp [1, 6, 7, 8, 9, 11] R) =
    (some (True ∧ (R Exit.normal [AV.dead, (AV.lst (4 : Nat) (List.map tlA l) Tip.no), AV.dead, AV.dead, AV.dead, AV.dead, (AV.v (Value.pointer none)), (AV.ptr (List.length [((24 : Nat), [(AV.v (Value.int IntKind.i64 xt)), (AV.v (Value.int IntKind.i64 lv)), (AV.v (Value.int IntKind.i64 tk)), (AV.v (Value.int IntKind.i64 dl))])]) (0 : Nat)), (AV.ptr (List.length [((24 : Nat), [(AV.v (Value.int IntKind.i64 xt)), (AV.v (Value.int IntKind.i64 lv)), (AV.v (Value.int IntKind.i64 tk)), (AV.v (Value.int IntKind.i64 dl))]), ((30 : Nat), [(AV.v (Value.int IntKind.i64 (0 : Int))), (AV.v (Value.int IntKind.i64 (0 : Int))), (AV.v (Value.int IntKind.i64 (0 : Int))), (AV.v (Value.int IntKind.i64 (0 : Int))), (AV.v (Value.int IntKind.i64 (0 : Int))), (AV.v (Value.slice none (0 : Nat) (0 : Nat)))])]) (0 : Nat)), (AV.ptr (List.length [((24 : Nat), [(AV.v (Value.int IntKind.i64 xt)), (AV.v (Value.int IntKind.i64 lv)), (AV.v (Value.int IntKind.i64 tk)), (AV.v (Value.int IntKind.i64 dl))]), ((30 : Nat), [(AV.v (Value.int IntKind.i64 (0 : Int))), (AV.v (Value.int IntKind.i64 (0 : Int))), (AV.v (Value.int IntKind.i64 (0 : Int))), (AV.v (Value.int IntKind.i64 (0 : Int))), (AV.v (Value.int IntKind.i64 (0 : Int))), (AV.v (Value.slice none (0 : Nat) (0 : Nat)))]), ((30 : Nat), [(AV.v (Value.int IntKind.i64 xt)), (AV.v (Value.int IntKind.i64 lv)), (AV.v (Value.int IntKind.i64 tk)), (AV.v (Value.int IntKind.i64 dl)), (AV.v (Value.int IntKind.i64 (20 : Int))), (AV.v (Value.slice none (0 : Nat) (0 : Nat)))])]) (0 : Nat)), AV.dead, (AV.v (Value.int IntKind.i64 (0 : Int))), AV.dead, AV.dead, AV.dead, AV.dead, AV.dead, AV.dead, AV.dead, AV.dead, AV.dead, AV.dead, AV.dead, AV.dead, AV.dead, AV.dead, AV.dead, AV.dead, AV.dead, AV.dead, AV.dead, AV.dead, AV.dead, AV.dead, AV.dead, AV.dead, AV.dead, AV.dead, AV.dead, AV.dead, AV.dead, AV.dead, AV.dead, AV.dead, AV.dead, AV.dead, AV.dead, AV.dead, AV.dead, AV.dead, AV.dead, AV.dead, AV.dead, AV.dead, AV.dead, AV.dead, AV.dead, AV.dead, AV.dead, AV.dead, AV.dead, AV.dead, AV.dead, AV.dead, AV.dead, AV.dead, AV.dead, AV.dead, AV.dead, AV.dead, AV.dead, AV.dead, AV.dead, AV.dead, AV.dead, AV.dead, AV.dead, AV.dead, AV.dead, AV.dead, AV.dead, AV.dead, AV.dead, AV.dead, AV.dead, AV.dead, AV.dead] (AH.mk [((24 : Nat), [(AV.v (Value.int IntKind.i64 xt)), (AV.v (Value.int IntKind.i64 lv)), (AV.v (Value.int IntKind.i64 tk)), (AV.v (Value.int IntKind.i64 dl))]), ((30 : Nat), [(AV.v (Value.int IntKind.i64 (0 : Int))), (AV.v (Value.int IntKind.i64 (0 : Int))), (AV.v (Value.int IntKind.i64 (0 : Int))), (AV.v (Value.int IntKind.i64 (0 : Int))), (AV.v (Value.int IntKind.i64 (0 : Int))), (AV.v (Value.slice none (0 : Nat) (0 : Nat)))]), ((30 : Nat), [(AV.v (Value.int IntKind.i64 xt)), (AV.v (Value.int IntKind.i64 lv)), (AV.v (Value.int IntKind.i64 tk)), (AV.v (Value.int IntKind.i64 dl)), (AV.v (Value.int IntKind.i64 (20 : Int))), (AV.v (Value.slice none (0 : Nat) (0 : Nat)))]), ((73 : Nat), [(AV.v (Value.bool true)), (AV.v (Value.int IntKind.i64 (20 : Int))), (AV.v (Value.bool false)), (AV.v (Value.int IntKind.i64 (0 : Int))), (AV.v (Value.int IntKind.i64 (0 : Int))), (AV.v (Value.int IntKind.i64 (0 : Int))), (AV.v (Value.int IntKind.i64 (0 : Int))), (AV.v (Value.bool false)), (AV.v (Value.int IntKind.i64 (0 : Int))), (AV.v (Value.int IntKind.i64 (0 : Int))), (AV.v (Value.int IntKind.i64 (0 : Int))), (AV.v (Value.int IntKind.i64 (0 : Int))), (AV.v (Value.bool false)), (AV.v (Value.int IntKind.i64 (0 : Int))), (AV.v (Value.int IntKind.i64 (0 : Int))), (AV.v (Value.int IntKind.i64 (0 : Int))), (AV.v (Value.int IntKind.i64 (0 : Int))), (AV.v (Value.bool false)), (AV.v (Value.int IntKind.i64 (0 : Int))), (AV.v (Value.int IntKind.i64 (0 : Int))), (AV.v (Value.int IntKind.i64 (0 : Int))), (AV.v (Value.int IntKind.i64 (0 : Int))), (AV.v (Value.bool false)), (AV.v (Value.int IntKind.i64 (0 : Int))), (AV.v (Value.int IntKind.i64 (0 : Int))), (AV.v (Value.int IntKind.i64 (0 : Int))), (AV.v (Value.int IntKind.i64 (0 : Int))), (AV.v (Value.bool false)), (AV.v (Value.int IntKind.i64 (0 : Int))), (AV.v (Value.int IntKind.i64 (0 : Int))), (AV.v (Value.int IntKind.i64 (0 : Int))), (AV.v (Value.int IntKind.i64 (0 : Int))), (AV.v (Value.bool false)), (AV.v (Value.int IntKind.i64 (0 : Int))), (AV.v (Value.int IntKind.i64 (0 : Int))), (AV.v (Value.int IntKind.i64 (0 : Int))), (AV.v (Value.int IntKind.i64 (0 : Int))), (AV.v (Value.bool false)), (AV.v (Value.int IntKind.i64 (0 : Int))), (AV.v (Value.int IntKind.i64 (0 : Int))), (AV.v (Value.int IntKind.i64 (0 : Int))), (AV.v (Value.int IntKind.i64 (0 : Int)))])] (@List.nil Nat) (0 : Nat) (0 : Nat) true (@List.nil (Prod Nat Bool)) True)))) := by kernel_rfl
theorem of_10 (ro : Nat → Option (List Value)) (S : FS) (l : List Tld) (xt lv tk dl : Int) (R : Exit → List AV → AH → Prop) : codeL ro muO (prA S) 8 ((flatten (bodyOf 6)).take 4) ([gi 10, tlL l, .v (nwV xt lv tk dl)] ++ List.replicate 84 (.v undef)) (hp [] []) (kp [1, 6, 7, 8, 9, 11] R) =
    (some (True ∧ (R Exit.normal [AV.dead, (AV.lst (4 : Nat) (List.map tlA l) Tip.no), AV.dead, AV.dead, AV.dead, AV.dead, (AV.v (Value.pointer none)), (AV.ptr (List.length [((24 : Nat), [(AV.v (Value.int IntKind.i64 xt)), (AV.v (Value.int IntKind.i64 lv)), (AV.v (Value.int IntKind.i64 tk)), (AV.v (Value.int IntKind.i64 dl))])]) (0 : Nat)), (AV.ptr (List.length [((24 : Nat), [(AV.v (Value.int IntKind.i64 xt)), (AV.v (Value.int IntKind.i64 lv)), (AV.v (Value.int IntKind.i64 tk)), (AV.v (Value.int IntKind.i64 dl))]), ((30 : Nat), [(AV.v (Value.int IntKind.i64 (0 : Int))), (AV.v (Value.int IntKind.i64 (0 : Int))), (AV.v (Value.int IntKind.i64 (0 : Int))), (AV.v (Value.int IntKind.i64 (0 : Int))), (AV.v (Value.int IntKind.i64 (0 : Int))), (AV.v (Value.slice none (0 : Nat) (0 : Nat)))])]) (0 : Nat)), (AV.ptr (List.length [((24 : Nat), [(AV.v (Value.int IntKind.i64 xt)), (AV.v (Value.int IntKind.i64 lv)), (AV.v (Value.int IntKind.i64 tk)), (AV.v (Value.int IntKind.i64 dl))]), ((30 : Nat), [(AV.v (Value.int IntKind.i64 (0 : Int))), (AV.v (Value.int IntKind.i64 (0 : Int))), (AV.v (Value.int IntKind.i64 (0 : Int))), (AV.v (Value.int IntKind.i64 (0 : Int))), (AV.v (Value.int IntKind.i64 (0 : Int))), (AV.v (Value.slice none (0 : Nat) (0 : Nat)))]), ((30 : Nat), [(AV.v (Value.int IntKind.i64 xt)), (AV.v (Value.int IntKind.i64 lv)), (AV.v (Value.int IntKind.i64 tk)), (AV.v (Value.int IntKind.i64 dl)), (AV.v (Value.int IntKind.i64 (10 : Int))), (AV.v (Value.slice none (0 : Nat) (0 : Nat)))])]) (0 : Nat)), AV.dead, (AV.v (Value.int IntKind.i64 (0 : Int))), AV.dead, AV.dead, AV.dead, AV.dead, AV.dead, AV.dead, AV.dead, AV.dead, AV.dead, AV.dead, AV.dead, AV.dead, AV.dead, AV.dead, AV.dead, AV.dead, AV.dead, AV.dead, AV.dead, AV.dead, AV.dead, AV.dead, AV.dead, AV.dead, AV.dead, AV.dead, AV.dead, AV.dead, AV.dead, AV.dead, AV.dead, AV.dead, AV.dead, AV.dead, AV.dead, AV.dead, AV.dead, AV.dead, AV.dead, AV.dead, AV.dead, AV.dead, AV.dead, AV.dead, AV.dead, AV.dead, AV.dead, AV.dead, AV.dead, AV.dead, AV.dead, AV.dead, AV.dead, AV.dead, AV.dead, AV.dead, AV.dead, AV.dead, AV.dead, AV.dead, AV.dead, AV.dead, AV.dead, AV.dead, AV.dead, AV.dead, AV.dead, AV.dead, AV.dead, AV.dead, AV.dead, AV.dead, AV.dead, AV.dead, AV.dead] (AH.mk [((24 : Nat), [(AV.v (Value.int IntKind.i64 xt)), (AV.v (Value.int IntKind.i64 lv)), (AV.v (Value.int IntKind.i64 tk)), (AV.v (Value.int IntKind.i64 dl))]), ((30 : Nat), [(AV.v (Value.int IntKind.i64 (0 : Int))), (AV.v (Value.int IntKind.i64 (0 : Int))), (AV.v (Value.int IntKind.i64 (0 : Int))), (AV.v (Value.int IntKind.i64 (0 : Int))), (AV.v (Value.int IntKind.i64 (0 : Int))), (AV.v (Value.slice none (0 : Nat) (0 : Nat)))]), ((30 : Nat), [(AV.v (Value.int IntKind.i64 xt)), (AV.v (Value.int IntKind.i64 lv)), (AV.v (Value.int IntKind.i64 tk)), (AV.v (Value.int IntKind.i64 dl)), (AV.v (Value.int IntKind.i64 (10 : Int))), (AV.v (Value.slice none (0 : Nat) (0 : Nat)))]), ((73 : Nat), [(AV.v (Value.bool true)), (AV.v (Value.int IntKind.i64 (10 : Int))), (AV.v (Value.bool false)), (AV.v (Value.int IntKind.i64 (0 : Int))), (AV.v (Value.int IntKind.i64 (0 : Int))), (AV.v (Value.int IntKind.i64 (0 : Int))), (AV.v (Value.int IntKind.i64 (0 : Int))), (AV.v (Value.bool false)), (AV.v (Value.int IntKind.i64 (0 : Int))), (AV.v (Value.int IntKind.i64 (0 : Int))), (AV.v (Value.int IntKind.i64 (0 : Int))), (AV.v (Value.int IntKind.i64 (0 : Int))), (AV.v (Value.bool false)), (AV.v (Value.int IntKind.i64 (0 : Int))), (AV.v (Value.int IntKind.i64 (0 : Int))), (AV.v (Value.int IntKind.i64 (0 : Int))), (AV.v (Value.int IntKind.i64 (0 : Int))), (AV.v (Value.bool false)), (AV.v (Value.int IntKind.i64 (0 : Int))), (AV.v (Value.int IntKind.i64 (0 : Int))), (AV.v (Value.int IntKind.i64 (0 : Int))), (AV.v (Value.int IntKind.i64 (0 : Int))), (AV.v (Value.bool false)), (AV.v (Value.int IntKind.i64 (0 : Int))), (AV.v (Value.int IntKind.i64 (0 : Int))), (AV.v (Value.int IntKind.i64 (0 : Int))), (AV.v (Value.int IntKind.i64 (0 : Int))), (AV.v (Value.bool false)), (AV.v (Value.int IntKind.i64 (0 : Int))), (AV.v (Value.int IntKind.i64 (0 : Int))), (AV.v (Value.int IntKind.i64 (0 : Int))), (AV.v (Value.int IntKind.i64 (0 : Int))), (AV.v (Value.bool false)), (AV.v (Value.int IntKind.i64 (0 : Int))), (AV.v (Value.int IntKind.i64 (0 : Int))), (AV.v (Value.int IntKind.i64 (0 : Int))), (AV.v (Value.int IntKind.i64 (0 : Int))), (AV.v (Value.bool false)), (AV.v (Value.int IntKind.i64 (0 : Int))), (AV.v (Value.int IntKind.i64 (0 : Int))), (AV.v (Value.int IntKind.i64 (0 : Int))), (AV.v (Value.int IntKind.i64 (0 : Int)))])] (@List.nil Nat) (0 : Nat) (0 : Nat) true (@List.nil (Prod Nat Bool)) True)))) := by kernel_rfl
theorem of_in (ro : Nat → Option (List Value)) (S : FS) (M xs : List AV) (l : List Tld) (xt lv tk dl ttl i : Int) (R : Exit → List AV → AH → Prop) : code ro muO (prA S) 8 (sub (bodyOf 6) [1, 1, 1, 0, 1, 0, 0]) (ofA l i) (ofH xt lv tk dl ttl (.lst 4 xs .no) M) (kp [1, 6, 7, 8, 9, 11] R) =
    (bif (decide (i < ((List.length (List.map tlA l)) : Int))) then (some ((cdb (cds (cds (cds (cds (cdb (cds (cds (cds (cds True (elemB Try.prog (55 : Nat) (List.map tlA l) i) (((0 : Int) ≤ i) ∧ (((List.map tlA l)[(Int.toNat i)]?) = (some (AV.v (Value.agg #[(Value.int IntKind.i64 (exInt (List.getD (AV.cells (List.getD (List.map tlA l) (Int.toNat i) AV.dead)) (0 : Nat) AV.dead))), (Value.int IntKind.i64 (exInt (List.getD (AV.cells (List.getD (List.map tlA l) (Int.toNat i) AV.dead)) (1 : Nat) AV.dead))), (Value.int IntKind.i64 (exInt (List.getD (AV.cells (List.getD (List.map tlA l) (Int.toNat i) AV.dead)) (2 : Nat) AV.dead))), (Value.int IntKind.i64 (exInt (List.getD (AV.cells (List.getD (List.map tlA l) (Int.toNat i) AV.dead)) (3 : Nat) AV.dead)))])))))) (elemB Try.prog (55 : Nat) (List.map tlA l) i) (((0 : Int) ≤ i) ∧ (((List.map tlA l)[(Int.toNat i)]?) = (some (AV.v (Value.agg #[(Value.int IntKind.i64 (exInt (List.getD (AV.cells (List.getD (List.map tlA l) (Int.toNat i) AV.dead)) (0 : Nat) AV.dead))), (Value.int IntKind.i64 (exInt (List.getD (AV.cells (List.getD (List.map tlA l) (Int.toNat i) AV.dead)) (1 : Nat) AV.dead))), (Value.int IntKind.i64 (exInt (List.getD (AV.cells (List.getD (List.map tlA l) (Int.toNat i) AV.dead)) (2 : Nat) AV.dead))), (Value.int IntKind.i64 (exInt (List.getD (AV.cells (List.getD (List.map tlA l) (Int.toNat i) AV.dead)) (3 : Nat) AV.dead)))])))))) (elemB Try.prog (55 : Nat) (List.map tlA l) i) (((0 : Int) ≤ i) ∧ (((List.map tlA l)[(Int.toNat i)]?) = (some (AV.v (Value.agg #[(Value.int IntKind.i64 (exInt (List.getD (AV.cells (List.getD (List.map tlA l) (Int.toNat i) AV.dead)) (0 : Nat) AV.dead))), (Value.int IntKind.i64 (exInt (List.getD (AV.cells (List.getD (List.map tlA l) (Int.toNat i) AV.dead)) (1 : Nat) AV.dead))), (Value.int IntKind.i64 (exInt (List.getD (AV.cells (List.getD (List.map tlA l) (Int.toNat i) AV.dead)) (2 : Nat) AV.dead))), (Value.int IntKind.i64 (exInt (List.getD (AV.cells (List.getD (List.map tlA l) (Int.toNat i) AV.dead)) (3 : Nat) AV.dead)))])))))) (elemB Try.prog (55 : Nat) (List.map tlA l) i) (((0 : Int) ≤ i) ∧ (((List.map tlA l)[(Int.toNat i)]?) = (some (AV.v (Value.agg #[(Value.int IntKind.i64 (exInt (List.getD (AV.cells (List.getD (List.map tlA l) (Int.toNat i) AV.dead)) (0 : Nat) AV.dead))), (Value.int IntKind.i64 (exInt (List.getD (AV.cells (List.getD (List.map tlA l) (Int.toNat i) AV.dead)) (1 : Nat) AV.dead))), (Value.int IntKind.i64 (exInt (List.getD (AV.cells (List.getD (List.map tlA l) (Int.toNat i) AV.dead)) (2 : Nat) AV.dead))), (Value.int IntKind.i64 (exInt (List.getD (AV.cells (List.getD (List.map tlA l) (Int.toNat i) AV.dead)) (3 : Nat) AV.dead)))])))))) ((S).1 (73 : Nat) M)) (elemB Try.prog (55 : Nat) (List.map tlA l) i) (((0 : Int) ≤ i) ∧ (((List.map tlA l)[(Int.toNat i)]?) = (some (AV.v (Value.agg #[(Value.int IntKind.i64 (exInt (List.getD (AV.cells (List.getD (List.map tlA l) (Int.toNat i) AV.dead)) (0 : Nat) AV.dead))), (Value.int IntKind.i64 (exInt (List.getD (AV.cells (List.getD (List.map tlA l) (Int.toNat i) AV.dead)) (1 : Nat) AV.dead))), (Value.int IntKind.i64 (exInt (List.getD (AV.cells (List.getD (List.map tlA l) (Int.toNat i) AV.dead)) (2 : Nat) AV.dead))), (Value.int IntKind.i64 (exInt (List.getD (AV.cells (List.getD (List.map tlA l) (Int.toNat i) AV.dead)) (3 : Nat) AV.dead)))])))))) (elemB Try.prog (55 : Nat) (List.map tlA l) i) (((0 : Int) ≤ i) ∧ (((List.map tlA l)[(Int.toNat i)]?) = (some (AV.v (Value.agg #[(Value.int IntKind.i64 (exInt (List.getD (AV.cells (List.getD (List.map tlA l) (Int.toNat i) AV.dead)) (0 : Nat) AV.dead))), (Value.int IntKind.i64 (exInt (List.getD (AV.cells (List.getD (List.map tlA l) (Int.toNat i) AV.dead)) (1 : Nat) AV.dead))), (Value.int IntKind.i64 (exInt (List.getD (AV.cells (List.getD (List.map tlA l) (Int.toNat i) AV.dead)) (2 : Nat) AV.dead))), (Value.int IntKind.i64 (exInt (List.getD (AV.cells (List.getD (List.map tlA l) (Int.toNat i) AV.dead)) (3 : Nat) AV.dead)))])))))) (elemB Try.prog (55 : Nat) (List.map tlA l) i) (((0 : Int) ≤ i) ∧ (((List.map tlA l)[(Int.toNat i)]?) = (some (AV.v (Value.agg #[(Value.int IntKind.i64 (exInt (List.getD (AV.cells (List.getD (List.map tlA l) (Int.toNat i) AV.dead)) (0 : Nat) AV.dead))), (Value.int IntKind.i64 (exInt (List.getD (AV.cells (List.getD (List.map tlA l) (Int.toNat i) AV.dead)) (1 : Nat) AV.dead))), (Value.int IntKind.i64 (exInt (List.getD (AV.cells (List.getD (List.map tlA l) (Int.toNat i) AV.dead)) (2 : Nat) AV.dead))), (Value.int IntKind.i64 (exInt (List.getD (AV.cells (List.getD (List.map tlA l) (Int.toNat i) AV.dead)) (3 : Nat) AV.dead)))])))))) (elemB Try.prog (55 : Nat) (List.map tlA l) i) (((0 : Int) ≤ i) ∧ (((List.map tlA l)[(Int.toNat i)]?) = (some (AV.v (Value.agg #[(Value.int IntKind.i64 (exInt (List.getD (AV.cells (List.getD (List.map tlA l) (Int.toNat i) AV.dead)) (0 : Nat) AV.dead))), (Value.int IntKind.i64 (exInt (List.getD (AV.cells (List.getD (List.map tlA l) (Int.toNat i) AV.dead)) (1 : Nat) AV.dead))), (Value.int IntKind.i64 (exInt (List.getD (AV.cells (List.getD (List.map tlA l) (Int.toNat i) AV.dead)) (2 : Nat) AV.dead))), (Value.int IntKind.i64 (exInt (List.getD (AV.cells (List.getD (List.map tlA l) (Int.toNat i) AV.dead)) (3 : Nat) AV.dead)))])))))) ((S).7 xs)) ∧ (R Exit.normal [AV.dead, (AV.lst (4 : Nat) (List.map tlA l) Tip.no), AV.dead, AV.dead, AV.dead, AV.dead, (AV.v (Value.pointer none)), (AV.ptr (1 : Nat) (0 : Nat)), (AV.ptr (2 : Nat) (0 : Nat)), (AV.ptr (3 : Nat) (0 : Nat)), AV.dead, (AV.v (Value.int IntKind.i64 (IntKind.wrap IntKind.i64 (i + (1 : Int))))), AV.dead, AV.dead, AV.dead, AV.dead, AV.dead, AV.dead, AV.dead, AV.dead, AV.dead, AV.dead, AV.dead, AV.dead, AV.dead, AV.dead, AV.dead, AV.dead, AV.dead, AV.dead, AV.dead, AV.dead, AV.dead, AV.dead, AV.dead, AV.dead, AV.dead, AV.dead, AV.dead, AV.dead, AV.dead, AV.dead, AV.dead, AV.dead, AV.dead, AV.dead, AV.dead, AV.dead, AV.dead, AV.dead, AV.dead, AV.dead, AV.dead, AV.dead, AV.dead, AV.dead, AV.dead, AV.dead, AV.dead, AV.dead, AV.dead, AV.dead, AV.dead, AV.dead, AV.dead, AV.dead, AV.dead, AV.dead, AV.dead, AV.dead, AV.dead, AV.dead, AV.dead, AV.dead, AV.dead, AV.dead, AV.dead, AV.dead, AV.dead, AV.dead, AV.dead, AV.dead, AV.dead, AV.dead, AV.dead, AV.dead, AV.dead] (AH.mk [((24 : Nat), [(AV.v (Value.int IntKind.i64 xt)), (AV.v (Value.int IntKind.i64 lv)), (AV.v (Value.int IntKind.i64 tk)), (AV.v (Value.int IntKind.i64 dl))]), ((30 : Nat), [(AV.v (Value.int IntKind.i64 (0 : Int))), (AV.v (Value.int IntKind.i64 (0 : Int))), (AV.v (Value.int IntKind.i64 (0 : Int))), (AV.v (Value.int IntKind.i64 (0 : Int))), (AV.v (Value.int IntKind.i64 (0 : Int))), (AV.v (Value.slice none (0 : Nat) (0 : Nat)))]), ((30 : Nat), [(AV.v (Value.int IntKind.i64 xt)), (AV.v (Value.int IntKind.i64 lv)), (AV.v (Value.int IntKind.i64 tk)), (AV.v (Value.int IntKind.i64 dl)), (AV.v (Value.int IntKind.i64 ttl)), (AV.lst (4 : Nat) ((S).9 xs (exInt (List.getD (AV.cells (List.getD (List.map tlA l) (Int.toNat i) AV.dead)) (0 : Nat) AV.dead)) (exInt (List.getD (AV.cells (List.getD (List.map tlA l) (Int.toNat i) AV.dead)) (1 : Nat) AV.dead)) (exInt (List.getD (AV.cells (List.getD (List.map tlA l) (Int.toNat i) AV.dead)) (2 : Nat) AV.dead)) (exInt (List.getD (AV.cells (List.getD (List.map tlA l) (Int.toNat i) AV.dead)) (3 : Nat) AV.dead))) Tip.no)]), ((73 : Nat), ((S).3 M (exInt (List.getD (AV.cells (List.getD (List.map tlA l) (Int.toNat i) AV.dead)) (0 : Nat) AV.dead)) (exInt (List.getD (AV.cells (List.getD (List.map tlA l) (Int.toNat i) AV.dead)) (1 : Nat) AV.dead)) (exInt (List.getD (AV.cells (List.getD (List.map tlA l) (Int.toNat i) AV.dead)) (2 : Nat) AV.dead)) (exInt (List.getD (AV.cells (List.getD (List.map tlA l) (Int.toNat i) AV.dead)) (3 : Nat) AV.dead))))] (@List.nil Nat) (0 : Nat) (0 : Nat) true (@List.nil (Prod Nat Bool)) True)))) else (some (True ∧ (R (Exit.exit (0 : Nat)) [AV.dead, (AV.lst (4 : Nat) (List.map tlA l) Tip.no), AV.dead, AV.dead, AV.dead, AV.dead, (AV.v (Value.pointer none)), (AV.ptr (1 : Nat) (0 : Nat)), (AV.ptr (2 : Nat) (0 : Nat)), (AV.ptr (3 : Nat) (0 : Nat)), AV.dead, (AV.v (Value.int IntKind.i64 i)), AV.dead, AV.dead, AV.dead, AV.dead, AV.dead, AV.dead, AV.dead, AV.dead, AV.dead, AV.dead, AV.dead, AV.dead, AV.dead, AV.dead, AV.dead, AV.dead, AV.dead, AV.dead, AV.dead, AV.dead, AV.dead, AV.dead, AV.dead, AV.dead, AV.dead, AV.dead, AV.dead, AV.dead, AV.dead, AV.dead, AV.dead, AV.dead, AV.dead, AV.dead, AV.dead, AV.dead, AV.dead, AV.dead, AV.dead, AV.dead, AV.dead, AV.dead, AV.dead, AV.dead, AV.dead, AV.dead, AV.dead, AV.dead, AV.dead, AV.dead, AV.dead, AV.dead, AV.dead, AV.dead, AV.dead, AV.dead, AV.dead, AV.dead, AV.dead, AV.dead, AV.dead, AV.dead, AV.dead, AV.dead, AV.dead, AV.dead, AV.dead, AV.dead, AV.dead, AV.dead, AV.dead, AV.dead, AV.dead, AV.dead, AV.dead] (AH.mk [((24 : Nat), [(AV.v (Value.int IntKind.i64 xt)), (AV.v (Value.int IntKind.i64 lv)), (AV.v (Value.int IntKind.i64 tk)), (AV.v (Value.int IntKind.i64 dl))]), ((30 : Nat), [(AV.v (Value.int IntKind.i64 (0 : Int))), (AV.v (Value.int IntKind.i64 (0 : Int))), (AV.v (Value.int IntKind.i64 (0 : Int))), (AV.v (Value.int IntKind.i64 (0 : Int))), (AV.v (Value.int IntKind.i64 (0 : Int))), (AV.v (Value.slice none (0 : Nat) (0 : Nat)))]), ((30 : Nat), [(AV.v (Value.int IntKind.i64 xt)), (AV.v (Value.int IntKind.i64 lv)), (AV.v (Value.int IntKind.i64 tk)), (AV.v (Value.int IntKind.i64 dl)), (AV.v (Value.int IntKind.i64 ttl)), (AV.lst (4 : Nat) xs Tip.no)]), ((73 : Nat), M)] (@List.nil Nat) (0 : Nat) (0 : Nat) true (@List.nil (Prod Nat Bool)) True))))) := by kernel_rfl
theorem of_9 (ro : Nat → Option (List Value)) (S : FS) (M xs : List AV) (l : List Tld) (xt lv tk dl ttl i : Int) (R : Exit → List AV → AH → Prop) : codeL ro muO (prA S) 8 ((flatten (bodyOf 6)).drop 5) (ofA l i) (ofH xt lv tk dl ttl (.lst 4 xs .no) M) (kp [6, 7] R) =
    (some (True ∧ (R Exit.ret [AV.dead, AV.dead, AV.dead, AV.dead, AV.dead, AV.dead, (AV.ptr (3 : Nat) (0 : Nat)), (AV.ptr (1 : Nat) (0 : Nat)), AV.dead, AV.dead, AV.dead, AV.dead, AV.dead, AV.dead, AV.dead, AV.dead, AV.dead, AV.dead, AV.dead, AV.dead, AV.dead, AV.dead, AV.dead, AV.dead, AV.dead, AV.dead, AV.dead, AV.dead, AV.dead, AV.dead, AV.dead, AV.dead, AV.dead, AV.dead, AV.dead, AV.dead, AV.dead, AV.dead, AV.dead, AV.dead, AV.dead, AV.dead, AV.dead, AV.dead, AV.dead, AV.dead, AV.dead, AV.dead, AV.dead, AV.dead, AV.dead, AV.dead, AV.dead, AV.dead, AV.dead, AV.dead, AV.dead, AV.dead, AV.dead, AV.dead, AV.dead, AV.dead, AV.dead, AV.dead, AV.dead, AV.dead, AV.dead, AV.dead, AV.dead, AV.dead, AV.dead, AV.dead, AV.dead, AV.dead, AV.dead, AV.dead, AV.dead, AV.dead, AV.dead, AV.dead, AV.dead, AV.dead, AV.dead, AV.dead, AV.dead, AV.dead, AV.dead] (AH.mk [((24 : Nat), [(AV.v (Value.int IntKind.i64 xt)), (AV.v (Value.int IntKind.i64 lv)), (AV.v (Value.int IntKind.i64 tk)), (AV.v (Value.int IntKind.i64 dl))]), ((30 : Nat), [(AV.v (Value.int IntKind.i64 xt)), (AV.v (Value.int IntKind.i64 lv)), (AV.v (Value.int IntKind.i64 tk)), (AV.v (Value.int IntKind.i64 dl)), (AV.v (Value.int IntKind.i64 ttl)), (AV.lst (4 : Nat) xs Tip.no)]), ((30 : Nat), [(AV.v (Value.int IntKind.i64 xt)), (AV.v (Value.int IntKind.i64 lv)), (AV.v (Value.int IntKind.i64 tk)), (AV.v (Value.int IntKind.i64 dl)), (AV.v (Value.int IntKind.i64 ttl)), (AV.lst (4 : Nat) xs Tip.no)]), ((73 : Nat), M)] (@List.nil Nat) (0 : Nat) (0 : Nat) true (@List.nil (Prod Nat Bool)) True)))) := by kernel_rfl
end Go.Proofs.Ytahahflpackiiaa.AE
namespace Go.Proofs.Ytahahflpackiiaa.AE
open Go.RowKit Tb
theorem Inv.nilCell {G : Gh} {H : AH} {W : World} (h : Inv G H W) {id : Nat} {t : TypeId} {cs : List AV} (k sz : Nat) (hb : H.blks[id]? = some (t, cs)) (hk : cs[k]? = some nilS) : Inv G { H with blks := H.blks.set id (t, cs.set k (.lst sz [] .no)) } W := by
  refine Inv.mk (fun id' t' cs' hbk => ?_) h.inj h.δown h.δpr (fun i b' e => by rw [List.length_set]; exact h.δlen i b' e) h.tip h.tlen h.row h.trow h.tδ h.tt h.plt h.olt
  by_cases hid : id' = id
  · subst hid
    have hl : id' < H.blks.length := (List.getElem?_eq_some_iff.1 hb).1
    have hbk : (H.blks.set id' (t, cs.set k (.lst sz [] .no)))[id']? = some (t', cs') := hbk
    rw [List.getElem?_set_self hl] at hbk
    cases hbk
    obtain ⟨b, vs, e1, e2, e3, e4⟩ := h.blk id' _ _ hb
    refine ⟨b, vs, e1, e2, RVs.setL k e3 fun c hc => ?_, e4⟩
    obtain ⟨c', hc', hr⟩ := e3.get k _ hk
    rw [hc] at hc'
    cases hc'
    cases hr
    exact .lst (cs := []) rfl .nil (fun x hx => by cases hx) ⟨by simp, fun hne => absurd rfl hne⟩ (Nat.le_refl _) (Nat.zero_le _) trivial
  · have hbk : (H.blks.set id (t, cs.set k (.lst sz [] .no)))[id']? = some (t', cs') := hbk
    rw [List.getElem?_set_ne (by omega)] at hbk
    exact h.blk id' t' cs' hbk
theorem Tr.nilCell {P : Program} {ro : Nat → Option (List Value)} {c : Code} {act : List AV} {H : AH} {Q : Exit → List AV → AH → Prop} {id : Nat} {t : TypeId} {cs : List AV} (k sz : Nat) (hb : H.blks[id]? = some (t, cs)) (hk : cs[k]? = some nilS) (h : Tr P ro c act { H with blks := H.blks.set id (t, cs.set k (.lst sz [] .no)) } Q) : Tr P ro c act H Q :=
  fun G W a hI hR hA => h G W a (hI.nilCell k sz hb hk) hR hA
theorem Trl.nilCell {P : Program} {ro : Nat → Option (List Value)} {l : List Code} {act : List AV} {H : AH} {Q : Exit → List AV → AH → Prop} {id : Nat} {t : TypeId} {cs : List AV} (k sz : Nat) (hne : l.isEmpty = false) (hb : H.blks[id]? = some (t, cs)) (hk : cs[k]? = some nilS) (h : Trl P ro l act { H with blks := H.blks.set id (t, cs.set k (.lst sz [] .no)) } Q) : Trl P ro l act H Q := by
  cases l with
  | nil => cases hne
  | cons x l => exact Tr.nilCell k sz hb hk h
theorem tl_get {cs : List Tld} {i : Nat} (h : i < cs.length) : (cs.map tlA).getD (Int.toNat (i : Int)) .dead = tlA cs[i] := by
  show (cs.map tlA).getD i .dead = _
  rw [List.getD_eq_getElem?_getD]
  simp [h]
theorem tl_el {cs : List Tld} {i : Nat} (h : i < cs.length) : (0 : Int) ≤ (i : Int) ∧ (cs.map tlA)[Int.toNat (i : Int)]? = some (tlA cs[i]) := ⟨Int.natCast_nonneg i, by
  show (cs.map tlA)[i]? = _
  simp [h]⟩
theorem tll (l : List Tld) : (l.map tlA).length = l.length := List.length_map ..
def nsT (l : List Tld) : Nat → Nt := l.foldl (fun ns x => lrnN ns x.to x.th x.ep x.at') fun _ => none
theorem nsT_snoc (l : List Tld) (x : Tld) : nsT (l ++ [x]) = lrnN (nsT l) x.to x.th x.ep x.at' := by unfold nsT; rw [List.foldl_append]; rfl
theorem lrn_tc (ttl : Int) (ns : Nat → Nt) (to th ep now : Int) : fsX.lrn (tcA ttl ns) to th ep now = tcA ttl (lrnN ns to th ep now) := by
  show tcA (ttlOf (tcA ttl ns)) (lrnN (nsOf (tcA ttl ns)) to th ep now) = _
  rw [ttlOf_tc]
  refine tc_congr fun i hi => ?_
  unfold lrnN
  by_cases h : 0 ≤ to ∧ to < 8
  · rw [if_pos h, if_pos h]
    unfold upd
    rw [nsOf_tc ttl ns to.toNat (by omega), nsOf_tc ttl ns i hi]
  · rw [if_neg h, if_neg h, nsOf_tc ttl ns i hi]
theorem rlr_xl (ns : Nat → Nt) (to th ep now : Int) : fsX.rlr ((xlK ns).map knA) to th ep now = (xlK (lrnN ns to th ep now)).map knA := by
  show (lrnK (knX ((xlK ns).map knA)) to th ep now).1.map knA = _
  rw [knX_map, lrn_rel]
theorem rok_xl (ns : Nat → Nt) : fsX.rok ((xlK ns).map knA) = true := d_kok (Nat.le_trans (xlK_len ns) (by decide))
theorem okM (ttl : Int) (ns : Nat → Nt) : fsX.ok 73 (tcA ttl ns) = true := ok_tc ttl ns
theorem tcA_isV (ttl : Int) (ns : Nat → Nt) : (tcA ttl ns).all isV = true := by
  rw [List.all_eq_true]
  intro x hx
  obtain ⟨v, _, rfl⟩ := List.mem_map.1 hx
  rfl
def rnC (xt lv tk dl ttl : Int) (xs : List AV) : List AV := [gi xt, gi lv, gi tk, gi dl, gi ttl, .lst 4 xs .no]
def ofB (xt lv tk dl ttl : Int) (xs M : List AV) : List (TypeId × List AV) := [(24, [gi xt, gi lv, gi tk, gi dl]), (30, rnC xt lv tk dl ttl xs), (30, rnC xt lv tk dl ttl xs), (73, M)]
abbrev OfQ (l : List Tld) (xt lv tk dl ttl : Int) (r : AV) (H' : AH) : Prop := r = .tuple [.ptr 3 0, rnA xt lv tk dl ttl ((xlK (nsT l)).map knA)] ∧ ∃ tips more, H' = hp (ofB xt lv tk dl ttl ((xlK (nsT l)).map knA) (tcA ttl (nsT l)) ++ more) tips
theorem of_sl : slotsOf 6 = 87 := by kernel_rfl
theorem of_re : resultsOf 6 = [.tmp 6, .cell 7 30] := by kernel_rfl
theorem of_fl : (flatten (bodyOf 6)).drop 4 = .block 0 (.loop (sub (bodyOf 6) [1, 1, 1, 0, 1, 0, 0])) :: (flatten (bodyOf 6)).drop 5 := by kernel_rfl
section
variable {ro : Nat → Option (List Value)}
set_option maxHeartbeats 4000000 in
set_option maxRecDepth 100000 in
theorem of_loop (l : List Tld) (hl : l.length ≤ 1000000) (xt lv tk dl ttl : Int) : Trl Try.prog ro ((flatten (bodyOf 6)).drop 4) (ofA l 0) (ofH xt lv tk dl ttl nilV (tcA ttl fun _ => none))
    fun e a h => (e = .normal ∨ e = .ret) ∧ ansOk (OfQ l xt lv tk dl ttl) (resOf Try.prog ro [.tmp 6, .cell 7 30] a h) := by
  rw [of_fl]
  refine Trl.nilCell (id := 2) 5 4 rfl rfl rfl ?_
  let I : Nat → List AV → AH → Prop := fun m act H => ∃ i : Nat, i ≤ l.length ∧ m = l.length - i ∧ act = ofA l i ∧ H = ofH xt lv tk dl ttl (.lst 4 ((xlK (nsT (l.take i))).map knA) .no) (tcA ttl (nsT (l.take i)))
  refine Tr.keepL [1, 6, 7, 8, 9, 11] rfl (Tr.block (Tr.loop I ?_ (m := l.length) ⟨0, Nat.zero_le _, rfl, rfl, rfl⟩))
  rintro m act H ⟨i, hi, rfl, rfl, rfl⟩
  have body := fun R => of_in ro fsX (tcA ttl (nsT (l.take i))) ((xlK (nsT (l.take i))).map knA) l xt lv tk dl ttl i R
  rw [inc64 i (by omega)] at body
  simp only [tll, lrn_tc, rlr_xl] at body
  refine Tr.of_code knownFS (body _) (holds_bif (fun h1 => ?_) fun h1 => ⟨trivial, ?_⟩) flatO
  · have h1 : i < l.length := by have := of_decide_eq_true h1; omega
    have g1 := tl_el h1
    rw [tl_get h1]
    refine ⟨cdb_iff.2 ⟨cds_of (cds_of (cds_of (cds_of (cdb_iff.2 ⟨cds_of (cds_of (cds_of (cds_of trivial g1) g1) g1) g1, okM _ _⟩) g1) g1) g1) g1, rok_xl _⟩, l.length - (i + 1), by omega, i + 1, h1, rfl, rfl, ?_⟩
    rw [take_snoc h1, nsT_snoc]; rfl
  · have h1 : i = l.length := by have := of_decide_eq_false h1; omega
    subst h1
    show Trl _ _ ((flatten (bodyOf 6)).drop 5) _ _ _
    refine Trl.of_code knownFS (ne_nil (by kernel_rfl)) (of_9 ro fsX _ _ l xt lv tk dl ttl _ _) ⟨trivial, .inr rfl, trivial, ?_⟩ flatO
    rw [List.take_length]
    exact ⟨rfl, _, [], rfl⟩
set_option maxRecDepth 100000 in
theorem fs_of20 (l : List Tld) (hl : l.length ≤ 1000000) (xt lv tk dl : Int) : Fs Try.prog ro 6 [gi 20, tlL l, .v (nwV xt lv tk dl)] (hp [] []) (OfQ l xt lv tk dl 20) := by
  refine Fs.of_body (has_fn (by kernel_rfl)) ?_
  rw [of_sl, of_re]
  exact Tr.of_flat (Trl.split 4 (Trl.of_code knownFS (ne_nil (by kernel_rfl)) (of_0 ro fsX l xt lv tk dl _) ⟨trivial, of_loop l hl xt lv tk dl 20⟩ flatO))
set_option maxRecDepth 100000 in
theorem fs_of10 (l : List Tld) (hl : l.length ≤ 1000000) (xt lv tk dl : Int) : Fs Try.prog ro 6 [gi 10, tlL l, .v (nwV xt lv tk dl)] (hp [] []) (OfQ l xt lv tk dl 10) := by
  refine Fs.of_body (has_fn (by kernel_rfl)) ?_
  rw [of_sl, of_re]
  exact Tr.of_flat (Trl.split 4 (Trl.of_code knownFS (ne_nil (by kernel_rfl)) (of_10 ro fsX l xt lv tk dl _) ⟨trivial, of_loop l hl xt lv tk dl 10⟩ flatO))
end
end Go.Proofs.Ytahahflpackiiaa.AE
namespace Go.Proofs.Ytahahflpackiiaa.AE
open Go.RowKit
def eqA (a : List Sp) (m i : Int) : List AV := [.lst 5 (a.map spA) .no, .lst 5 (a.map spA) .no, .dead, .dead, .dead, .dead, .dead, .dead, .dead, .dead, .dead, .dead, gi m, gi i] ++ ded 12
def rsA (i : Int) : List AV := [.dead, .dead, .ptr 0 0, .ptr 1 0, .v (.bool false), gi i] ++ ded 39
def rsH (k : Int) (a : List Sp) : AH := hp [(35, [gi k, .lst 5 (a.map spA) .no]), (35, [gi k, .lst 5 (a.map spA) .no])] []
theorem eq_pre (ro : Nat → Option (List Value)) (a : List Sp) (R : Exit → List AV → AH → Prop) : codeL ro (fun _ => false) (fun _ => none) 8 ((flatten (bodyOf 18)).take 4) ([.lst 5 (a.map spA) .no, .lst 5 (a.map spA) .no] ++ List.replicate 24 (.v undef)) (hp [] []) (kp [0, 1, 4, 12, 13] R) =
    (bif (((List.length (List.map spA a)) : Int) != ((List.length (List.map spA a)) : Int)) then (some (True ∧ (R Exit.ret [(AV.lst (5 : Nat) (List.map spA a) Tip.no), (AV.lst (5 : Nat) (List.map spA a) Tip.no), AV.dead, AV.dead, (AV.v (Value.bool false)), AV.dead, AV.dead, AV.dead, AV.dead, AV.dead, AV.dead, AV.dead, (AV.v (Value.tuple (Array.mk (@List.nil Go.Value)))), (AV.v (Value.tuple (Array.mk (@List.nil Go.Value)))), AV.dead, AV.dead, AV.dead, AV.dead, AV.dead, AV.dead, AV.dead, AV.dead, AV.dead, AV.dead, AV.dead, AV.dead] (AH.mk (@List.nil (Prod Go.TypeId (List AV))) (@List.nil Nat) (0 : Nat) (0 : Nat) true (@List.nil (Prod Nat Bool)) True)))) else (some (True ∧ (R Exit.normal [(AV.lst (5 : Nat) (List.map spA a) Tip.no), (AV.lst (5 : Nat) (List.map spA a) Tip.no), AV.dead, AV.dead, (AV.v (Value.bool false)), AV.dead, AV.dead, AV.dead, AV.dead, AV.dead, AV.dead, AV.dead, (AV.v (Value.int IntKind.i64 ((List.length (List.map spA a)) : Int))), (AV.v (Value.int IntKind.i64 (0 : Int))), AV.dead, AV.dead, AV.dead, AV.dead, AV.dead, AV.dead, AV.dead, AV.dead, AV.dead, AV.dead, AV.dead, AV.dead] (AH.mk (@List.nil (Prod Go.TypeId (List AV))) (@List.nil Nat) (0 : Nat) (0 : Nat) true (@List.nil (Prod Nat Bool)) True))))) := by kernel_rfl
theorem eq_in (ro : Nat → Option (List Value)) (a : List Sp) (m i : Int) (R : Exit → List AV → AH → Prop) : code ro (fun _ => false) (fun _ => none) 8 (sub (bodyOf 18) [1, 1, 0, 1, 0, 0]) (eqA a m i) (hp [] []) (kp [0, 1, 4, 12, 13] R) =
    (bif (decide (i < m)) then (bif (!(((exInt (List.getD (AV.cells (List.getD (List.map spA a) (Int.toNat i) AV.dead)) (0 : Nat) AV.dead)) == (exInt (List.getD (AV.cells (List.getD (List.map spA a) (Int.toNat i) AV.dead)) (0 : Nat) AV.dead))) && (((exInt (List.getD (AV.cells (List.getD (List.map spA a) (Int.toNat i) AV.dead)) (1 : Nat) AV.dead)) == (exInt (List.getD (AV.cells (List.getD (List.map spA a) (Int.toNat i) AV.dead)) (1 : Nat) AV.dead))) && (((exInt (List.getD (AV.cells (List.getD (List.map spA a) (Int.toNat i) AV.dead)) (2 : Nat) AV.dead)) == (exInt (List.getD (AV.cells (List.getD (List.map spA a) (Int.toNat i) AV.dead)) (2 : Nat) AV.dead))) && (((exInt (List.getD (AV.cells (List.getD (List.map spA a) (Int.toNat i) AV.dead)) (3 : Nat) AV.dead)) == (exInt (List.getD (AV.cells (List.getD (List.map spA a) (Int.toNat i) AV.dead)) (3 : Nat) AV.dead))) && (((exBool (List.getD (AV.cells (List.getD (List.map spA a) (Int.toNat i) AV.dead)) (4 : Nat) AV.dead)) == (exBool (List.getD (AV.cells (List.getD (List.map spA a) (Int.toNat i) AV.dead)) (4 : Nat) AV.dead))) && true)))))) then (some ((cds (cds True (elemB Try.prog (44 : Nat) (List.map spA a) i) (((0 : Int) ≤ i) ∧ (((List.map spA a)[(Int.toNat i)]?) = (some (AV.v (Value.agg #[(Value.int IntKind.i64 (exInt (List.getD (AV.cells (List.getD (List.map spA a) (Int.toNat i) AV.dead)) (0 : Nat) AV.dead))), (Value.int IntKind.i64 (exInt (List.getD (AV.cells (List.getD (List.map spA a) (Int.toNat i) AV.dead)) (1 : Nat) AV.dead))), (Value.int IntKind.i64 (exInt (List.getD (AV.cells (List.getD (List.map spA a) (Int.toNat i) AV.dead)) (2 : Nat) AV.dead))), (Value.int IntKind.i64 (exInt (List.getD (AV.cells (List.getD (List.map spA a) (Int.toNat i) AV.dead)) (3 : Nat) AV.dead))), (Value.bool (exBool (List.getD (AV.cells (List.getD (List.map spA a) (Int.toNat i) AV.dead)) (4 : Nat) AV.dead)))])))))) (elemB Try.prog (44 : Nat) (List.map spA a) i) (((0 : Int) ≤ i) ∧ (((List.map spA a)[(Int.toNat i)]?) = (some (AV.v (Value.agg #[(Value.int IntKind.i64 (exInt (List.getD (AV.cells (List.getD (List.map spA a) (Int.toNat i) AV.dead)) (0 : Nat) AV.dead))), (Value.int IntKind.i64 (exInt (List.getD (AV.cells (List.getD (List.map spA a) (Int.toNat i) AV.dead)) (1 : Nat) AV.dead))), (Value.int IntKind.i64 (exInt (List.getD (AV.cells (List.getD (List.map spA a) (Int.toNat i) AV.dead)) (2 : Nat) AV.dead))), (Value.int IntKind.i64 (exInt (List.getD (AV.cells (List.getD (List.map spA a) (Int.toNat i) AV.dead)) (3 : Nat) AV.dead))), (Value.bool (exBool (List.getD (AV.cells (List.getD (List.map spA a) (Int.toNat i) AV.dead)) (4 : Nat) AV.dead)))])))))) ∧ (R Exit.ret [(AV.lst (5 : Nat) (List.map spA a) Tip.no), (AV.lst (5 : Nat) (List.map spA a) Tip.no), AV.dead, AV.dead, (AV.v (Value.bool false)), AV.dead, AV.dead, AV.dead, AV.dead, AV.dead, AV.dead, AV.dead, (AV.v (Value.int IntKind.i64 m)), (AV.v (Value.int IntKind.i64 i)), AV.dead, AV.dead, AV.dead, AV.dead, AV.dead, AV.dead, AV.dead, AV.dead, AV.dead, AV.dead, AV.dead, AV.dead] (AH.mk (@List.nil (Prod Go.TypeId (List AV))) (@List.nil Nat) (0 : Nat) (0 : Nat) true (@List.nil (Prod Nat Bool)) True)))) else (some ((cds (cds True (elemB Try.prog (44 : Nat) (List.map spA a) i) (((0 : Int) ≤ i) ∧ (((List.map spA a)[(Int.toNat i)]?) = (some (AV.v (Value.agg #[(Value.int IntKind.i64 (exInt (List.getD (AV.cells (List.getD (List.map spA a) (Int.toNat i) AV.dead)) (0 : Nat) AV.dead))), (Value.int IntKind.i64 (exInt (List.getD (AV.cells (List.getD (List.map spA a) (Int.toNat i) AV.dead)) (1 : Nat) AV.dead))), (Value.int IntKind.i64 (exInt (List.getD (AV.cells (List.getD (List.map spA a) (Int.toNat i) AV.dead)) (2 : Nat) AV.dead))), (Value.int IntKind.i64 (exInt (List.getD (AV.cells (List.getD (List.map spA a) (Int.toNat i) AV.dead)) (3 : Nat) AV.dead))), (Value.bool (exBool (List.getD (AV.cells (List.getD (List.map spA a) (Int.toNat i) AV.dead)) (4 : Nat) AV.dead)))])))))) (elemB Try.prog (44 : Nat) (List.map spA a) i) (((0 : Int) ≤ i) ∧ (((List.map spA a)[(Int.toNat i)]?) = (some (AV.v (Value.agg #[(Value.int IntKind.i64 (exInt (List.getD (AV.cells (List.getD (List.map spA a) (Int.toNat i) AV.dead)) (0 : Nat) AV.dead))), (Value.int IntKind.i64 (exInt (List.getD (AV.cells (List.getD (List.map spA a) (Int.toNat i) AV.dead)) (1 : Nat) AV.dead))), (Value.int IntKind.i64 (exInt (List.getD (AV.cells (List.getD (List.map spA a) (Int.toNat i) AV.dead)) (2 : Nat) AV.dead))), (Value.int IntKind.i64 (exInt (List.getD (AV.cells (List.getD (List.map spA a) (Int.toNat i) AV.dead)) (3 : Nat) AV.dead))), (Value.bool (exBool (List.getD (AV.cells (List.getD (List.map spA a) (Int.toNat i) AV.dead)) (4 : Nat) AV.dead)))])))))) ∧ (R Exit.normal [(AV.lst (5 : Nat) (List.map spA a) Tip.no), (AV.lst (5 : Nat) (List.map spA a) Tip.no), AV.dead, AV.dead, AV.dead, AV.dead, AV.dead, AV.dead, AV.dead, AV.dead, AV.dead, AV.dead, (AV.v (Value.int IntKind.i64 m)), (AV.v (Value.int IntKind.i64 (IntKind.wrap IntKind.i64 (i + (1 : Int))))), AV.dead, AV.dead, AV.dead, AV.dead, AV.dead, AV.dead, AV.dead, AV.dead, AV.dead, AV.dead, AV.dead, AV.dead] (AH.mk (@List.nil (Prod Go.TypeId (List AV))) (@List.nil Nat) (0 : Nat) (0 : Nat) true (@List.nil (Prod Nat Bool)) True))))) else (some (True ∧ (R (Exit.exit (0 : Nat)) [(AV.lst (5 : Nat) (List.map spA a) Tip.no), (AV.lst (5 : Nat) (List.map spA a) Tip.no), AV.dead, AV.dead, AV.dead, AV.dead, AV.dead, AV.dead, AV.dead, AV.dead, AV.dead, AV.dead, (AV.v (Value.int IntKind.i64 m)), (AV.v (Value.int IntKind.i64 i)), AV.dead, AV.dead, AV.dead, AV.dead, AV.dead, AV.dead, AV.dead, AV.dead, AV.dead, AV.dead, AV.dead, AV.dead] (AH.mk (@List.nil (Prod Go.TypeId (List AV))) (@List.nil Nat) (0 : Nat) (0 : Nat) true (@List.nil (Prod Nat Bool)) True))))) := by kernel_rfl
theorem eq_post (ro : Nat → Option (List Value)) (a : List Sp) (m i : Int) (R : Exit → List AV → AH → Prop) : codeL ro (fun _ => false) (fun _ => none) 8 ((flatten (bodyOf 18)).drop 5) (eqA a m i) (hp [] []) (kp [4] R) =
    (some (True ∧ (R Exit.ret [AV.dead, AV.dead, AV.dead, AV.dead, (AV.v (Value.bool true)), AV.dead, AV.dead, AV.dead, AV.dead, AV.dead, AV.dead, AV.dead, AV.dead, AV.dead, AV.dead, AV.dead, AV.dead, AV.dead, AV.dead, AV.dead, AV.dead, AV.dead, AV.dead, AV.dead, AV.dead, AV.dead] (AH.mk (@List.nil (Prod Go.TypeId (List AV))) (@List.nil Nat) (0 : Nat) (0 : Nat) true (@List.nil (Prod Nat Bool)) True)))) := by kernel_rfl
theorem rs_pre (ro : Nat → Option (List Value)) (k : Int) (a : List Sp) (R : Exit → List AV → AH → Prop) : codeL ro (fun _ => false) (fun _ => none) 8 ((flatten (bodyOf 9)).take 4) ([.agg [gi k, .lst 5 (a.map spA) .no], .agg [gi k, .lst 5 (a.map spA) .no]] ++ List.replicate 43 (.v undef)) (hp [] []) (kp [2, 3, 4, 5] R) =
    (bif (k != k) then (some (True ∧ (R Exit.ret [AV.dead, AV.dead, (AV.ptr (0 : Nat) (0 : Nat)), (AV.ptr (List.length [((35 : Nat), [(AV.v (Value.int IntKind.i64 k)), (AV.lst (5 : Nat) (List.map spA a) Tip.no)])]) (0 : Nat)), (AV.v (Value.bool false)), (AV.v (Value.tuple (Array.mk (@List.nil Go.Value)))), AV.dead, AV.dead, AV.dead, AV.dead, AV.dead, AV.dead, AV.dead, AV.dead, AV.dead, AV.dead, AV.dead, AV.dead, AV.dead, AV.dead, AV.dead, AV.dead, AV.dead, AV.dead, AV.dead, AV.dead, AV.dead, AV.dead, AV.dead, AV.dead, AV.dead, AV.dead, AV.dead, AV.dead, AV.dead, AV.dead, AV.dead, AV.dead, AV.dead, AV.dead, AV.dead, AV.dead, AV.dead, AV.dead, AV.dead] (AH.mk [((35 : Nat), [(AV.v (Value.int IntKind.i64 k)), (AV.lst (5 : Nat) (List.map spA a) Tip.no)]), ((35 : Nat), [(AV.v (Value.int IntKind.i64 k)), (AV.lst (5 : Nat) (List.map spA a) Tip.no)])] (@List.nil Nat) (0 : Nat) (0 : Nat) true (@List.nil (Prod Nat Bool)) True)))) else (bif (((List.length (List.map spA a)) : Int) != ((List.length (List.map spA a)) : Int)) then (some (True ∧ (R Exit.ret [AV.dead, AV.dead, (AV.ptr (0 : Nat) (0 : Nat)), (AV.ptr (List.length [((35 : Nat), [(AV.v (Value.int IntKind.i64 k)), (AV.lst (5 : Nat) (List.map spA a) Tip.no)])]) (0 : Nat)), (AV.v (Value.bool false)), (AV.v (Value.tuple (Array.mk (@List.nil Go.Value)))), AV.dead, AV.dead, AV.dead, AV.dead, AV.dead, AV.dead, AV.dead, AV.dead, AV.dead, AV.dead, AV.dead, AV.dead, AV.dead, AV.dead, AV.dead, AV.dead, AV.dead, AV.dead, AV.dead, AV.dead, AV.dead, AV.dead, AV.dead, AV.dead, AV.dead, AV.dead, AV.dead, AV.dead, AV.dead, AV.dead, AV.dead, AV.dead, AV.dead, AV.dead, AV.dead, AV.dead, AV.dead, AV.dead, AV.dead] (AH.mk [((35 : Nat), [(AV.v (Value.int IntKind.i64 k)), (AV.lst (5 : Nat) (List.map spA a) Tip.no)]), ((35 : Nat), [(AV.v (Value.int IntKind.i64 k)), (AV.lst (5 : Nat) (List.map spA a) Tip.no)])] (@List.nil Nat) (0 : Nat) (0 : Nat) true (@List.nil (Prod Nat Bool)) True)))) else (some (True ∧ (R Exit.normal [AV.dead, AV.dead, (AV.ptr (0 : Nat) (0 : Nat)), (AV.ptr (List.length [((35 : Nat), [(AV.v (Value.int IntKind.i64 k)), (AV.lst (5 : Nat) (List.map spA a) Tip.no)])]) (0 : Nat)), (AV.v (Value.bool false)), (AV.v (Value.int IntKind.i64 (0 : Int))), AV.dead, AV.dead, AV.dead, AV.dead, AV.dead, AV.dead, AV.dead, AV.dead, AV.dead, AV.dead, AV.dead, AV.dead, AV.dead, AV.dead, AV.dead, AV.dead, AV.dead, AV.dead, AV.dead, AV.dead, AV.dead, AV.dead, AV.dead, AV.dead, AV.dead, AV.dead, AV.dead, AV.dead, AV.dead, AV.dead, AV.dead, AV.dead, AV.dead, AV.dead, AV.dead, AV.dead, AV.dead, AV.dead, AV.dead] (AH.mk [((35 : Nat), [(AV.v (Value.int IntKind.i64 k)), (AV.lst (5 : Nat) (List.map spA a) Tip.no)]), ((35 : Nat), [(AV.v (Value.int IntKind.i64 k)), (AV.lst (5 : Nat) (List.map spA a) Tip.no)])] (@List.nil Nat) (0 : Nat) (0 : Nat) true (@List.nil (Prod Nat Bool)) True)))))) := by kernel_rfl
theorem rs_in (ro : Nat → Option (List Value)) (k : Int) (a : List Sp) (i : Int) (R : Exit → List AV → AH → Prop) : code ro (fun _ => false) (fun _ => none) 8 (sub (bodyOf 9) [1, 1, 0, 1, 0, 0]) (rsA i) (rsH k a) (kp [2, 3, 4, 5] R) =
    (bif (decide (i < ((List.length (List.map spA a)) : Int))) then (bif (decide (i < ((List.length (List.map spA a)) : Int))) then (bif (!(((exInt (List.getD (AV.cells (List.getD (List.map spA a) (Int.toNat i) AV.dead)) (0 : Nat) AV.dead)) == (exInt (List.getD (AV.cells (List.getD (List.map spA a) (Int.toNat i) AV.dead)) (0 : Nat) AV.dead))) && (((exInt (List.getD (AV.cells (List.getD (List.map spA a) (Int.toNat i) AV.dead)) (1 : Nat) AV.dead)) == (exInt (List.getD (AV.cells (List.getD (List.map spA a) (Int.toNat i) AV.dead)) (1 : Nat) AV.dead))) && (((exInt (List.getD (AV.cells (List.getD (List.map spA a) (Int.toNat i) AV.dead)) (2 : Nat) AV.dead)) == (exInt (List.getD (AV.cells (List.getD (List.map spA a) (Int.toNat i) AV.dead)) (2 : Nat) AV.dead))) && (((exInt (List.getD (AV.cells (List.getD (List.map spA a) (Int.toNat i) AV.dead)) (3 : Nat) AV.dead)) == (exInt (List.getD (AV.cells (List.getD (List.map spA a) (Int.toNat i) AV.dead)) (3 : Nat) AV.dead))) && (((exBool (List.getD (AV.cells (List.getD (List.map spA a) (Int.toNat i) AV.dead)) (4 : Nat) AV.dead)) == (exBool (List.getD (AV.cells (List.getD (List.map spA a) (Int.toNat i) AV.dead)) (4 : Nat) AV.dead))) && true)))))) then (some ((cds (cds True (elemB Try.prog (44 : Nat) (List.map spA a) i) (((0 : Int) ≤ i) ∧ (((List.map spA a)[(Int.toNat i)]?) = (some (AV.v (Value.agg #[(Value.int IntKind.i64 (exInt (List.getD (AV.cells (List.getD (List.map spA a) (Int.toNat i) AV.dead)) (0 : Nat) AV.dead))), (Value.int IntKind.i64 (exInt (List.getD (AV.cells (List.getD (List.map spA a) (Int.toNat i) AV.dead)) (1 : Nat) AV.dead))), (Value.int IntKind.i64 (exInt (List.getD (AV.cells (List.getD (List.map spA a) (Int.toNat i) AV.dead)) (2 : Nat) AV.dead))), (Value.int IntKind.i64 (exInt (List.getD (AV.cells (List.getD (List.map spA a) (Int.toNat i) AV.dead)) (3 : Nat) AV.dead))), (Value.bool (exBool (List.getD (AV.cells (List.getD (List.map spA a) (Int.toNat i) AV.dead)) (4 : Nat) AV.dead)))])))))) (elemB Try.prog (44 : Nat) (List.map spA a) i) (((0 : Int) ≤ i) ∧ (((List.map spA a)[(Int.toNat i)]?) = (some (AV.v (Value.agg #[(Value.int IntKind.i64 (exInt (List.getD (AV.cells (List.getD (List.map spA a) (Int.toNat i) AV.dead)) (0 : Nat) AV.dead))), (Value.int IntKind.i64 (exInt (List.getD (AV.cells (List.getD (List.map spA a) (Int.toNat i) AV.dead)) (1 : Nat) AV.dead))), (Value.int IntKind.i64 (exInt (List.getD (AV.cells (List.getD (List.map spA a) (Int.toNat i) AV.dead)) (2 : Nat) AV.dead))), (Value.int IntKind.i64 (exInt (List.getD (AV.cells (List.getD (List.map spA a) (Int.toNat i) AV.dead)) (3 : Nat) AV.dead))), (Value.bool (exBool (List.getD (AV.cells (List.getD (List.map spA a) (Int.toNat i) AV.dead)) (4 : Nat) AV.dead)))])))))) ∧ (R Exit.ret [AV.dead, AV.dead, (AV.ptr (0 : Nat) (0 : Nat)), (AV.ptr (1 : Nat) (0 : Nat)), (AV.v (Value.bool false)), (AV.v (Value.int IntKind.i64 i)), AV.dead, AV.dead, AV.dead, AV.dead, AV.dead, AV.dead, AV.dead, AV.dead, AV.dead, AV.dead, AV.dead, AV.dead, AV.dead, AV.dead, AV.dead, AV.dead, AV.dead, AV.dead, AV.dead, AV.dead, AV.dead, AV.dead, AV.dead, AV.dead, AV.dead, AV.dead, AV.dead, AV.dead, AV.dead, AV.dead, AV.dead, AV.dead, AV.dead, AV.dead, AV.dead, AV.dead, AV.dead, AV.dead, AV.dead] (AH.mk [((35 : Nat), [(AV.v (Value.int IntKind.i64 k)), (AV.lst (5 : Nat) (List.map spA a) Tip.no)]), ((35 : Nat), [(AV.v (Value.int IntKind.i64 k)), (AV.lst (5 : Nat) (List.map spA a) Tip.no)])] (@List.nil Nat) (0 : Nat) (0 : Nat) true (@List.nil (Prod Nat Bool)) True)))) else (some ((cds (cds True (elemB Try.prog (44 : Nat) (List.map spA a) i) (((0 : Int) ≤ i) ∧ (((List.map spA a)[(Int.toNat i)]?) = (some (AV.v (Value.agg #[(Value.int IntKind.i64 (exInt (List.getD (AV.cells (List.getD (List.map spA a) (Int.toNat i) AV.dead)) (0 : Nat) AV.dead))), (Value.int IntKind.i64 (exInt (List.getD (AV.cells (List.getD (List.map spA a) (Int.toNat i) AV.dead)) (1 : Nat) AV.dead))), (Value.int IntKind.i64 (exInt (List.getD (AV.cells (List.getD (List.map spA a) (Int.toNat i) AV.dead)) (2 : Nat) AV.dead))), (Value.int IntKind.i64 (exInt (List.getD (AV.cells (List.getD (List.map spA a) (Int.toNat i) AV.dead)) (3 : Nat) AV.dead))), (Value.bool (exBool (List.getD (AV.cells (List.getD (List.map spA a) (Int.toNat i) AV.dead)) (4 : Nat) AV.dead)))])))))) (elemB Try.prog (44 : Nat) (List.map spA a) i) (((0 : Int) ≤ i) ∧ (((List.map spA a)[(Int.toNat i)]?) = (some (AV.v (Value.agg #[(Value.int IntKind.i64 (exInt (List.getD (AV.cells (List.getD (List.map spA a) (Int.toNat i) AV.dead)) (0 : Nat) AV.dead))), (Value.int IntKind.i64 (exInt (List.getD (AV.cells (List.getD (List.map spA a) (Int.toNat i) AV.dead)) (1 : Nat) AV.dead))), (Value.int IntKind.i64 (exInt (List.getD (AV.cells (List.getD (List.map spA a) (Int.toNat i) AV.dead)) (2 : Nat) AV.dead))), (Value.int IntKind.i64 (exInt (List.getD (AV.cells (List.getD (List.map spA a) (Int.toNat i) AV.dead)) (3 : Nat) AV.dead))), (Value.bool (exBool (List.getD (AV.cells (List.getD (List.map spA a) (Int.toNat i) AV.dead)) (4 : Nat) AV.dead)))])))))) ∧ (R Exit.normal [AV.dead, AV.dead, (AV.ptr (0 : Nat) (0 : Nat)), (AV.ptr (1 : Nat) (0 : Nat)), (AV.v (Value.bool false)), (AV.v (Value.int IntKind.i64 (IntKind.wrap IntKind.i64 (i + (1 : Int))))), AV.dead, AV.dead, AV.dead, AV.dead, AV.dead, AV.dead, AV.dead, AV.dead, AV.dead, AV.dead, AV.dead, AV.dead, AV.dead, AV.dead, AV.dead, AV.dead, AV.dead, AV.dead, AV.dead, AV.dead, AV.dead, AV.dead, AV.dead, AV.dead, AV.dead, AV.dead, AV.dead, AV.dead, AV.dead, AV.dead, AV.dead, AV.dead, AV.dead, AV.dead, AV.dead, AV.dead, AV.dead, AV.dead, AV.dead] (AH.mk [((35 : Nat), [(AV.v (Value.int IntKind.i64 k)), (AV.lst (5 : Nat) (List.map spA a) Tip.no)]), ((35 : Nat), [(AV.v (Value.int IntKind.i64 k)), (AV.lst (5 : Nat) (List.map spA a) Tip.no)])] (@List.nil Nat) (0 : Nat) (0 : Nat) true (@List.nil (Prod Nat Bool)) True))))) else (some (True ∧ (R (Exit.exit (0 : Nat)) [AV.dead, AV.dead, (AV.ptr (0 : Nat) (0 : Nat)), (AV.ptr (1 : Nat) (0 : Nat)), (AV.v (Value.bool false)), (AV.v (Value.int IntKind.i64 i)), AV.dead, AV.dead, AV.dead, AV.dead, AV.dead, AV.dead, AV.dead, AV.dead, AV.dead, AV.dead, AV.dead, AV.dead, AV.dead, AV.dead, AV.dead, AV.dead, AV.dead, AV.dead, AV.dead, AV.dead, AV.dead, AV.dead, AV.dead, AV.dead, AV.dead, AV.dead, AV.dead, AV.dead, AV.dead, AV.dead, AV.dead, AV.dead, AV.dead, AV.dead, AV.dead, AV.dead, AV.dead, AV.dead, AV.dead] (AH.mk [((35 : Nat), [(AV.v (Value.int IntKind.i64 k)), (AV.lst (5 : Nat) (List.map spA a) Tip.no)]), ((35 : Nat), [(AV.v (Value.int IntKind.i64 k)), (AV.lst (5 : Nat) (List.map spA a) Tip.no)])] (@List.nil Nat) (0 : Nat) (0 : Nat) true (@List.nil (Prod Nat Bool)) True))))) else (some (True ∧ (R (Exit.exit (0 : Nat)) [AV.dead, AV.dead, (AV.ptr (0 : Nat) (0 : Nat)), (AV.ptr (1 : Nat) (0 : Nat)), (AV.v (Value.bool false)), (AV.v (Value.int IntKind.i64 i)), AV.dead, AV.dead, AV.dead, AV.dead, AV.dead, AV.dead, AV.dead, AV.dead, AV.dead, AV.dead, AV.dead, AV.dead, AV.dead, AV.dead, AV.dead, AV.dead, AV.dead, AV.dead, AV.dead, AV.dead, AV.dead, AV.dead, AV.dead, AV.dead, AV.dead, AV.dead, AV.dead, AV.dead, AV.dead, AV.dead, AV.dead, AV.dead, AV.dead, AV.dead, AV.dead, AV.dead, AV.dead, AV.dead, AV.dead] (AH.mk [((35 : Nat), [(AV.v (Value.int IntKind.i64 k)), (AV.lst (5 : Nat) (List.map spA a) Tip.no)]), ((35 : Nat), [(AV.v (Value.int IntKind.i64 k)), (AV.lst (5 : Nat) (List.map spA a) Tip.no)])] (@List.nil Nat) (0 : Nat) (0 : Nat) true (@List.nil (Prod Nat Bool)) True))))) := by kernel_rfl
theorem rs_post (ro : Nat → Option (List Value)) (k : Int) (a : List Sp) (i : Int) (R : Exit → List AV → AH → Prop) : codeL ro (fun _ => false) (fun _ => none) 8 ((flatten (bodyOf 9)).drop 5) (rsA i) (rsH k a) (kp [4] R) =
    (some (True ∧ (R Exit.ret [AV.dead, AV.dead, AV.dead, AV.dead, (AV.v (Value.bool true)), AV.dead, AV.dead, AV.dead, AV.dead, AV.dead, AV.dead, AV.dead, AV.dead, AV.dead, AV.dead, AV.dead, AV.dead, AV.dead, AV.dead, AV.dead, AV.dead, AV.dead, AV.dead, AV.dead, AV.dead, AV.dead, AV.dead, AV.dead, AV.dead, AV.dead, AV.dead, AV.dead, AV.dead, AV.dead, AV.dead, AV.dead, AV.dead, AV.dead, AV.dead, AV.dead, AV.dead, AV.dead, AV.dead, AV.dead, AV.dead] (AH.mk [((35 : Nat), [(AV.v (Value.int IntKind.i64 k)), (AV.lst (5 : Nat) (List.map spA a) Tip.no)]), ((35 : Nat), [(AV.v (Value.int IntKind.i64 k)), (AV.lst (5 : Nat) (List.map spA a) Tip.no)])] (@List.nil Nat) (0 : Nat) (0 : Nat) true (@List.nil (Prod Nat Bool)) True)))) := by kernel_rfl
end Go.Proofs.Ytahahflpackiiaa.AE
namespace Go.Proofs.Ytahahflpackiiaa.AE
open Go.RowKit
theorem sp_get {cs : List Sp} {i : Nat} (h : i < cs.length) : (cs.map spA).getD (Int.toNat (i : Int)) .dead = spA cs[i] := by
  show (cs.map spA).getD i .dead = _
  rw [List.getD_eq_getElem?_getD]
  simp [h]
theorem sp_el {cs : List Sp} {i : Nat} (h : i < cs.length) : (0 : Int) ≤ (i : Int) ∧ (cs.map spA)[Int.toNat (i : Int)]? = some (spA cs[i]) := ⟨Int.natCast_nonneg i, by
  show (cs.map spA)[i]? = _
  simp [h]⟩
theorem sp_same (s : Sp) : ¬ (!((s.to == s.to) && ((s.k == s.k) && ((s.d == s.d) && ((s.b == s.b) && ((s.r == s.r) && true)))))) = true := by simp
theorem eq_sl : slotsOf 18 = 26 := by kernel_rfl
theorem eq_re : resultsOf 18 = [.tmp 4] := by kernel_rfl
theorem eq_fl : (flatten (bodyOf 18)).drop 4 = .block 0 (.loop (sub (bodyOf 18) [1, 1, 0, 1, 0, 0])) :: (flatten (bodyOf 18)).drop 5 := by kernel_rfl
theorem ne_self (n : Int) : ¬ (n != n) = true := by simp
set_option maxRecDepth 100000 in
theorem fs_eqs {ro : Nat → Option (List Value)} (a : List Sp) (ha : a.length ≤ 1000000) : Fs Try.prog ro 18 [.lst 5 (a.map spA) .no, .lst 5 (a.map spA) .no] (hp [] []) fun r _ => r = .v (.bool true) := by
  refine Fs.of_body (has_fn (by kernel_rfl)) ?_
  rw [eq_sl, eq_re]
  have pre := fun R => eq_pre ro a R
  rw [spl] at pre
  refine Tr.of_flat (Trl.split 4 (Trl.of_code (known_none _) (ne_nil (by kernel_rfl)) (pre _) (holds_bif (fun h => absurd h (ne_self _)) fun _ => ⟨trivial, ?_⟩)))
  show Trl _ _ ((flatten (bodyOf 18)).drop 4) _ _ _
  rw [eq_fl]
  refine Tr.keepL [0, 1, 12, 13] rfl ?_
  let I : Nat → List AV → AH → Prop := fun m act H => ∃ i : Nat, i ≤ a.length ∧ m = a.length - i ∧ act = eqA a (a.length : Nat) i ∧ H = hp [] []
  refine Tr.block (Tr.loop I ?_ (m := a.length) ⟨0, Nat.zero_le _, rfl, rfl, rfl⟩)
  rintro m act H ⟨i, hi, rfl, rfl, rfl⟩
  have body := fun R => eq_in ro a (a.length : Nat) i R
  rw [inc64 i (by omega)] at body
  refine Tr.of_code (known_none _) (body _) (holds_bif (fun h1 => ?_) fun h1 => ⟨trivial, ?_⟩)
  · have h1 : i < a.length := by have := of_decide_eq_true h1; omega
    have g1 := sp_el h1
    rw [sp_get h1]
    exact holds_bif (fun h3 => absurd h3 (sp_same a[i])) (fun _ => ⟨cds_of (cds_of trivial g1) g1, a.length - (i + 1), by omega, i + 1, h1, rfl, rfl, rfl⟩)
  · have h1 : i = a.length := by have := of_decide_eq_false h1; omega
    show Trl _ _ ((flatten (bodyOf 18)).drop 5) _ _ _
    exact Trl.of_code (known_none _) (ne_nil (by kernel_rfl)) (eq_post ro _ _ _ _) ⟨trivial, .inr rfl, trivial, rfl⟩
theorem rs_sl : slotsOf 9 = 45 := by kernel_rfl
theorem rs_re : resultsOf 9 = [.tmp 4] := by kernel_rfl
theorem rs_fl : (flatten (bodyOf 9)).drop 4 = .block 0 (.loop (sub (bodyOf 9) [1, 1, 0, 1, 0, 0])) :: (flatten (bodyOf 9)).drop 5 := by kernel_rfl
set_option maxRecDepth 100000 in
theorem fs_rsame {ro : Nat → Option (List Value)} (k : Int) (a : List Sp) (ha : a.length ≤ 1000000) : Fs Try.prog ro 9 [.agg [gi k, .lst 5 (a.map spA) .no], .agg [gi k, .lst 5 (a.map spA) .no]] (hp [] []) fun r _ => r = .v (.bool true) := by
  refine Fs.of_body (has_fn (by kernel_rfl)) ?_
  rw [rs_sl, rs_re]
  have pre := fun R => rs_pre ro k a R
  rw [spl] at pre
  refine Tr.of_flat (Trl.split 4 (Trl.of_code (known_none _) (ne_nil (by kernel_rfl)) (pre _) (holds_bif (fun h => absurd h (ne_self _)) fun _ => holds_bif (fun h => absurd h (ne_self _)) fun _ => ⟨trivial, ?_⟩)))
  show Trl _ _ ((flatten (bodyOf 9)).drop 4) _ _ _
  rw [rs_fl]
  refine Tr.keepL [2, 3, 4, 5] rfl ?_
  let I : Nat → List AV → AH → Prop := fun m act H => ∃ i : Nat, i ≤ a.length ∧ m = a.length - i ∧ act = rsA i ∧ H = rsH k a
  refine Tr.block (Tr.loop I ?_ (m := a.length) ⟨0, Nat.zero_le _, rfl, rfl, rfl⟩)
  rintro m act H ⟨i, hi, rfl, rfl, rfl⟩
  have body := fun R => rs_in ro k a i R
  rw [inc64 i (by omega)] at body
  simp only [spl] at body
  refine Tr.of_code (known_none _) (body _) (holds_bif (fun h1 => holds_bif (fun _ => ?_) fun h2 => absurd h1 (by rw [h2]; exact Bool.false_ne_true)) fun h1 => ⟨trivial, ?_⟩)
  · have h1 : i < a.length := by have := of_decide_eq_true h1; omega
    have g1 := sp_el h1
    rw [sp_get h1]
    exact holds_bif (fun h3 => absurd h3 (sp_same a[i])) (fun _ => ⟨cds_of (cds_of trivial g1) g1, a.length - (i + 1), by omega, i + 1, h1, rfl, rfl, rfl⟩)
  · have h1 : i = a.length := by have := of_decide_eq_false h1; omega
    show Trl _ _ ((flatten (bodyOf 9)).drop 5) _ _ _
    exact Trl.of_code (known_none _) (ne_nil (by kernel_rfl)) (rs_post ro _ _ _ _) ⟨trivial, .inr rfl, trivial, rfl⟩
end Go.Proofs.Ytahahflpackiiaa.AE
namespace Go.Proofs.Ytahahflpackiiaa.AE
open Go.RowKit
structure LS where
  om : Int → List AV → List AV
  ox : Int → List AV → List AV
  ook : Int → List AV → Bool
  ps : List AV → List AV → Int → Int → Int → Int → List AV
  pk : List AV → List AV → Int → Int → Int → Int → Int
  p1 : TypeId → List AV → List AV → Int → Int → Int → Int → Bool
  p0 : TypeId → List AV → List AV → Int → Int → Int → Int → Bool
  rs : List AV → Int → List AV → Int → Int → Int → Int → List AV
  rk : List AV → Int → List AV → Int → Int → Int → Int → Int
  r1 : List AV → Int → List AV → Int → Int → Int → Int → Bool
  r0 : List AV → Int → List AV → Int → Int → Int → Int → Bool
  sq : List AV → List AV → Bool
def zs? : Nat → List AV → Option (List AV)
  | 0, l => some l
  | n + 1, .v (.int .i64 m) :: l => match decide (m = 0) with
    | true => zs? n l
    | false => none
  | _, _ => none
def ofO (O : LS) : ObjS where
  pick := fun args _ => match args with
    | [.v (.int .i64 _), .lst 4 _ _, .v (.agg ⟨[.int .i64 _, .int .i64 _, .int .i64 _, .int .i64 _]⟩)] => some []
    | _ => none
  mask := []
  maskB := [false, false, false, true]
  spec := fun args bs => match args, bs with
    | [.v (.int .i64 ttl), .lst 4 ts _, .v (.agg ⟨[.int .i64 xt, .int .i64 lv, .int .i64 tk, .int .i64 dl]⟩)], [] =>
      some (.tuple [.ptr 3 0, rnA xt lv tk dl ttl (O.ox ttl ts)], ofB xt lv tk dl ttl (O.ox ttl ts) (O.om ttl ts), O.ook ttl ts)
    | _, _ => none
def plO (O : LS) (b : List AV → Bool) : ObjS where
  pick := fun args _ => match args with
    | [_, _, .ptr id 0] => some [id]
    | _ => none
  mask := [true]
  maskB := [true]
  spec := fun args bs => match args, bs with
    | [.agg cs, .v (.agg ⟨[.int .i64 xt, .int .i64 lv, .int .i64 tk, .int .i64 dl]⟩), .ptr 0 0], [(t, M)] => match zs? 13 cs with
      | some [.lst 4 ls _] => match b ls with
        | true => some (.agg [gi 0, .lst 5 (O.ps M ls xt lv tk dl) .no], [(t, M)], O.p1 t M ls xt lv tk dl)
        | false => some (.v (.agg #[.int .i64 (O.pk M ls xt lv tk dl), .slice none 0 0]), [(t, M)], O.p0 t M ls xt lv tk dl)
      | _ => none
    | _, _ => none
def rpP (O : LS) (b : List AV → Bool) : List AV → Option (AV × Bool) := fun args => match args with
  | [.lst 4 ls _, .agg [.v (.int .i64 xt), .v (.int .i64 lv), .v (.int .i64 tk), .v (.int .i64 dl), .v (.int .i64 ttl), .lst 4 xs .no]] => match b ls with
    | true => some (.agg [gi 0, .lst 5 (O.rs xs ttl ls xt lv tk dl) .no], O.r1 xs ttl ls xt lv tk dl)
    | false => some (.v (.agg #[.int .i64 (O.rk xs ttl ls xt lv tk dl), .slice none 0 0]), O.r0 xs ttl ls xt lv tk dl)
  | _ => none
def smP (O : LS) : List AV → Option (AV × Bool) := fun args => match args with
  | [.agg [.v (.int .i64 k1), .lst 5 xs _], .agg [.v (.int .i64 k2), .lst 5 ys _]] => some (.v (.bool true), decide (k1 = k2) && O.sq xs ys)
  | [.v (.agg ⟨[.int .i64 k1, .slice none 0 0]⟩), .v (.agg ⟨[.int .i64 k2, .slice none 0 0]⟩)] => some (.v (.bool (k1 == k2)), true)
  | _ => none
def eqP (O : LS) : List AV → Option (AV × Bool) := fun args => match args with
  | [.lst 5 xs _, .lst 5 ys _] => some (.v (.bool true), O.sq xs ys)
  | [.v (.slice none 0 0), .v (.slice none 0 0)] => some (.v (.bool true), true)
  | _ => none
def awkS : List Value → Option (Value × Bool) := fun us => match us with
  | [] => some (.bool true, true)
  | _ => none
noncomputable def prW (F : FS) (S : PS) (O : LS) (b : List AV → Bool) : FuncId → Option (List AV → AH → Ans) := fun g => match g with
  | 6 => some (obj? (ofO O))
  | 7 => some (obj? (plO O b))
  | 8 => some (data? (rpP O b))
  | 11 => some (obj? (stO S))
  | 12 => some (data? (rsP S))
  | 14 => some (ownM? F.ok (cutF F))
  | 13 => some (ownM? F.ok (getF F))
  | _ => none
noncomputable def prV (F : FS) (S : PS) (O : LS) (b : List AV → Bool) : FuncId → Option (List AV → AH → Ans) := fun g => match g with
  | 9 => some (data? (smP O))
  | 18 => some (data? (eqP O))
  | g => prW F S O b g
end Go.Proofs.Ytahahflpackiiaa.AE
namespace Go.Proofs.Ytahahflpackiiaa.AE
open Go.RowKit
theorem zs_eq : ∀ {n : Nat} {l r : List AV}, zs? n l = some r → l = List.replicate n (gi 0) ++ r
  | 0, l, r, h => by cases h; rfl
  | n + 1, [], r, h => by cases h
  | n + 1, x :: l, r, h => by
    unfold zs? at h
    split at h
    · rename_i e; cases e
    · rename_i n' m l' e1 e2
      cases e1; cases e2
      split at h
      · rename_i hm
        have := of_decide_eq_true hm
        subst this
        rw [zs_eq h]; rfl
      · cases h
    · cases h
def cls? : List AV → Option (List Cl)
  | [] => some []
  | .v (.agg ⟨[.int .i64 a, .int .i64 b, .int .i64 c, .int .i64 d]⟩) :: l => match cls? l with
    | some r => some (⟨a, b, c, d⟩ :: r)
    | none => none
  | _ => none
theorem cls_map : ∀ l : List Cl, cls? (l.map clA) = some l
  | [] => rfl
  | e :: l => by
    show (match cls? (l.map clA) with | some r => some (e :: r) | none => none) = _
    rw [cls_map l]
def tlds? : List AV → Option (List Tld)
  | [] => some []
  | .v (.agg ⟨[.int .i64 a, .int .i64 b, .int .i64 c, .int .i64 d]⟩) :: l => match tlds? l with
    | some r => some (⟨a, b, c, d⟩ :: r)
    | none => none
  | _ => none
theorem tlds_map : ∀ l : List Tld, tlds? (l.map tlA) = some l
  | [] => rfl
  | e :: l => by
    show (match tlds? (l.map tlA) with | some r => some (e :: r) | none => none) = _
    rw [tlds_map l]
def clsX (xs : List AV) : List Cl := match cls? xs with
  | some l => l
  | none => []
theorem clsX_map (l : List Cl) : clsX (l.map clA) = l := by unfold clsX; simp only [cls_map]
def tldX (xs : List AV) : List Tld := match tlds? xs with
  | some l => l
  | none => []
theorem tldX_map (l : List Tld) : tldX (l.map tlA) = l := by unfold tldX; simp only [tlds_map]
noncomputable def psX : PS := psF fsX
open Classical in
noncomputable def lsX : LS where
  om ttl ts := tcA ttl (nsT (tldX ts))
  ox ttl ts := (xlK (nsT (tldX ts))).map knA
  ook ttl ts := decide (∃ l : List Tld, ts = l.map tlA ∧ l.length ≤ 1000000 ∧ (ttl = 20 ∨ ttl = 10))
  ps M ls xt lv tk dl := (planS (spF psX M xt lv tk dl) (clsX ls)).map spA
  pk M ls xt lv tk dl := planK (spF psX M xt lv tk dl) (clsX ls)
  p1 t M ls xt lv tk dl := decide (psX.ok t M = true ∧ M.all isV = true ∧ ∃ L : List Cl, ls = L.map clA ∧ L.length ≤ 1000000 ∧ planS (spF psX M xt lv tk dl) L ≠ [])
  p0 t M ls xt lv tk dl := decide (psX.ok t M = true ∧ M.all isV = true ∧ ∃ L : List Cl, ls = L.map clA ∧ L.length ≤ 1000000 ∧ planS (spF psX M xt lv tk dl) L = [])
  rs xs ttl ls xt lv tk dl := (planS (spR psX xs ttl xt lv tk dl) (clsX ls)).map spA
  rk xs ttl ls xt lv tk dl := planK (spR psX xs ttl xt lv tk dl) (clsX ls)
  r1 xs ttl ls xt lv tk dl := decide (psX.rok xs = true ∧ ∃ L : List Cl, ls = L.map clA ∧ L.length ≤ 1000000 ∧ planS (spR psX xs ttl xt lv tk dl) L ≠ [])
  r0 xs ttl ls xt lv tk dl := decide (psX.rok xs = true ∧ ∃ L : List Cl, ls = L.map clA ∧ L.length ≤ 1000000 ∧ planS (spR psX xs ttl xt lv tk dl) L = [])
  sq xs ys := decide (∃ l : List Sp, xs = l.map spA ∧ ys = l.map spA ∧ l.length ≤ 1000000)
theorem plan_k0 {f : Cl → Sp} {L : List Cl} (h : planS f L ≠ []) : planK f L = 0 := by
  unfold planS at h
  unfold planK
  cases hf : L.find? (fun c => badS (f c)) with
  | none => rfl
  | some c => rw [hf] at h; exact absurd rfl h
theorem planX_1 {k : Int} {s : List Sp} (h : s ≠ []) : planX k s = .agg [gi k, .lst 5 (s.map spA) .no] := by
  cases s with
  | nil => exact absurd rfl h
  | cons x s => rfl
theorem okT2 (t : TypeId) (M : List AV) (h : fsX.ok t M = true) : t = 73 := (ok_out h).1
theorem dataLe_ok {ro : Nat → Option (List Value)} {g : FuncId} {spec : List AV → Option (AV × Bool)} (hf : ∃ fn, Try.prog.funcs[g]? = some fn ∧ fn.body.isSome = true)
    (h : ∀ args r, spec args = some (r, true) → Fs Try.prog ro g args (hp [] []) fun r' _ => ∃ y, clean r' = some y ∧ Le y r) :
    ∀ args H r H', data? spec args H = some (r, H') → HSound1 Try.prog ro g args H r H' := by
  intro args H r H' hd
  unfold data? at hd
  split at hd
  · rename_i ar has
    split at hd
    · rename_i rb hs
      obtain ⟨r0, b⟩ := rb
      cases hd
      refine ⟨⟨fun x => (cdb_iff.1 x).1, rfl, rfl, rfl, Nat.le_refl _, Nat.le_refl _, fun _ _ _ => rfl, fun _ _ _ => rfl⟩, fun hcd G W cargs hI hR hA => ⟨hf, ?_⟩⟩
      have hb : b = true := (cdb_iff.1 hcd).2
      subst hb
      refine ((h _ _ hs) (bareG G) W cargs (inv_bare hI) (ro_bare hR) (cleans_to (G := G) (G2 := bareG G) (fun _ _ p => p) hA _ has)).2.mono ?_
      rintro e W' ⟨c, G1', r', H1, rfl, ⟨y, hy, hle⟩, e1, e2, e3⟩
      obtain ⟨G', x1, x2, x3⟩ := hI.data e1 e2
      exact ⟨c, G', rfl, x1, x2.same rfl rfl, hle _ _ _ (clean_to x3 e3 y hy)⟩
    · cases hd
  · cases hd
section
variable {ro : Nat → Option (List Value)}
theorem knownPS : Known ro (prP psX) := knownP knownFS okT2
set_option maxRecDepth 100000 in
theorem fs_plan2 (M : List AV) (hM : psX.ok 73 M = true) (hv : M.all isV = true) (L : List Cl) (hl : L.length ≤ 1000000) (xt lv tk dl : Int) : Fs Try.prog ro 7 [svA L, .v (nwV xt lv tk dl), .ptr 0 0] (tH M) fun r H' => PlQ (spF psX M xt lv tk dl) L r ∧ ∃ tips more, H' = hp ([(73, M)] ++ more) tips := by
  cases L with
  | nil => exact Fs.of_call knownPS (pl_n ro psX M xt lv tk dl fun r H' => PlQ (spF psX M xt lv tk dl) [] r ∧ ∃ tips more, H' = hp ([(73, M)] ++ more) tips) ⟨trivial, plq_nil, _, _, rfl⟩
  | cons c l => exact fs_plan knownPS M hM hv (c :: l) (Nat.succ_pos _) hl xt lv tk dl
set_option maxRecDepth 100000 in
theorem fs_rplan2 (xs : List AV) (ttl : Int) (hM : psX.rok xs = true) (L : List Cl) (hl : L.length ≤ 1000000) (xt lv tk dl : Int) : Fs Try.prog ro 8 [clL L, rnA xt lv tk dl ttl xs] (hp [] []) fun r _ => PlQ (spR psX xs ttl xt lv tk dl) L r := by
  cases L with
  | nil => exact Fs.of_call knownPS (rp_n ro psX xs xt lv tk dl ttl fun r _ => PlQ (spR psX xs ttl xt lv tk dl) [] r) ⟨trivial, plq_nil⟩ flatP
  | cons c l => exact fs_rplan knownPS xs ttl hM (c :: l) (Nat.succ_pos _) hl xt lv tk dl
open Classical in
theorem ofo_ok : ∀ args H r H', obj? (ofO lsX) args H = some (r, H') → HSound1 Try.prog ro 6 args H r H' := by
  refine obj_ok (has_fn (by kernel_rfl)) fun args bs r bs2 h => ?_
  unfold ofO at h
  simp only at h
  split at h
  · rename_i ttl ts t xt lv tk dl
    simp only [Option.some.injEq, Prod.mk.injEq] at h
    obtain ⟨rfl, rfl, hq⟩ := h
    obtain ⟨l, rfl, hl, htt⟩ := of_decide_eq_true hq
    have e1 : lsX.ox ttl (l.map tlA) = (xlK (nsT l)).map knA := by show (xlK (nsT (tldX _))).map knA = _; rw [tldX_map]
    have e2 : lsX.om ttl (l.map tlA) = tcA ttl (nsT l) := by show tcA ttl (nsT (tldX _)) = _; rw [tldX_map]
    rw [e1, e2]
    refine Fs.nrm ?_
    have goal : Fs Try.prog ro 6 [gi ttl, tlL l, .v (nwV xt lv tk dl)] (hp [] []) (OfQ l xt lv tk dl ttl) := by
      rcases htt with rfl | rfl
      · exact fs_of20 l hl xt lv tk dl
      · exact fs_of10 l hl xt lv tk dl
    refine Fs.mono goal ?_
    rintro r' H' ⟨rfl, h2⟩
    exact ⟨.inl rfl, h2⟩
  · cases h
theorem agg_no {G : Gh} {W : World} {ls : List AV} {t : Tip} {c : Value} (h : RV G W (.agg (List.replicate 13 (gi 0) ++ [.lst 4 ls t])) c) : RV G W (.agg (List.replicate 13 (gi 0) ++ [.lst 4 ls .no])) c := by
  cases h with
  | agg h =>
    refine .agg ?_
    refine RVs.setL (l := List.replicate 13 (gi 0) ++ [.lst 4 ls t]) 13 (x := .lst 4 ls .no) h fun c hc => ?_
    obtain ⟨c', hc', hr⟩ := h.get 13 (.lst 4 ls t) rfl
    rw [hc] at hc'
    cases hc'
    exact nrm_rv hr
open Classical in
theorem plo_ok (b : List AV → Bool) : ∀ args H r H', obj? (plO lsX b) args H = some (r, H') → HSound1 Try.prog ro 7 args H r H' := by
  refine obj_ok (has_fn (by kernel_rfl)) fun args bs r bs2 h => ?_
  unfold plO at h
  simp only at h
  split at h
  · rename_i cs xt lv tk dl t M
    split at h
    · rename_i ls tp hz
      have hcs := zs_eq hz
      subst hcs
      have weak : ∀ {L : List Cl} {Φ : AV → AH → Prop}, ls = L.map clA → Fs Try.prog ro 7 [svA L, .v (nwV xt lv tk dl), .ptr 0 0] (tH M) Φ → Fs Try.prog ro 7 [.agg (List.replicate 13 (gi 0) ++ [.lst 4 ls tp]), .v (nwV xt lv tk dl), .ptr 0 0] (tH M) Φ := fun {L Φ} e hF => by
        subst e
        intro G W cargs hI hR hA
        refine hF G W cargs hI hR ?_
        generalize hc : cargs.toList = ca at hA ⊢
        cases hA with
        | cons h1 t => exact .cons (agg_no h1) t
      split at h
      · simp only [Option.some.injEq, Prod.mk.injEq] at h
        obtain ⟨rfl, rfl, hq⟩ := h
        obtain ⟨k1, k2, L, rfl, hl, hne⟩ := of_decide_eq_true hq
        obtain rfl := okT2 _ _ k1
        refine weak rfl (Fs.mono (fs_plan2 M k1 k2 L hl xt lv tk dl) ?_)
        rintro r' H' ⟨⟨y, hy1, hy2⟩, h2⟩
        refine ⟨.inr ⟨y, hy1, ?_⟩, h2⟩
        rw [plan_k0 hne, planX_1 hne] at hy2
        show Le y (.agg [gi 0, .lst 5 ((planS (spF psX M xt lv tk dl) (clsX (L.map clA))).map spA) .no])
        rw [clsX_map]; exact hy2
      · simp only [Option.some.injEq, Prod.mk.injEq] at h
        obtain ⟨rfl, rfl, hq⟩ := h
        obtain ⟨k1, k2, L, rfl, hl, hne⟩ := of_decide_eq_true hq
        obtain rfl := okT2 _ _ k1
        refine weak rfl (Fs.mono (fs_plan2 M k1 k2 L hl xt lv tk dl) ?_)
        rintro r' H' ⟨⟨y, hy1, hy2⟩, h2⟩
        refine ⟨.inr ⟨y, hy1, ?_⟩, h2⟩
        rw [hne] at hy2
        show Le y (.v (.agg #[.int .i64 (planK (spF psX M xt lv tk dl) (clsX (L.map clA))), .slice none 0 0]))
        rw [clsX_map]; exact hy2
    · cases h
  · cases h
open Classical in
theorem rpp_ok (b : List AV → Bool) : ∀ args H r H', data? (rpP lsX b) args H = some (r, H') → HSound1 Try.prog ro 8 args H r H' := by
  refine dataLe_ok (has_fn (by kernel_rfl)) fun args r h => Fs.nrm ?_
  unfold rpP at h
  split at h
  · rename_i ls t xt lv tk dl ttl xs
    split at h
    · simp only [Option.some.injEq, Prod.mk.injEq] at h
      obtain ⟨rfl, hq⟩ := h
      obtain ⟨k1, L, rfl, hl, hne⟩ := of_decide_eq_true hq
      refine Fs.mono (fs_rplan2 xs ttl k1 L hl xt lv tk dl) ?_
      rintro r' H' ⟨y, hy1, hy2⟩
      refine ⟨y, hy1, ?_⟩
      rw [plan_k0 hne, planX_1 hne] at hy2
      show Le y (.agg [gi 0, .lst 5 ((planS (spR psX xs ttl xt lv tk dl) (clsX (L.map clA))).map spA) .no])
      rw [clsX_map]; exact hy2
    · simp only [Option.some.injEq, Prod.mk.injEq] at h
      obtain ⟨rfl, hq⟩ := h
      obtain ⟨k1, L, rfl, hl, hne⟩ := of_decide_eq_true hq
      refine Fs.mono (fs_rplan2 xs ttl k1 L hl xt lv tk dl) ?_
      rintro r' H' ⟨y, hy1, hy2⟩
      refine ⟨y, hy1, ?_⟩
      rw [hne] at hy2
      show Le y (.v (.agg #[.int .i64 (planK (spR psX xs ttl xt lv tk dl) (clsX (L.map clA))), .slice none 0 0]))
      rw [clsX_map]; exact hy2
  · cases h
end
end Go.Proofs.Ytahahflpackiiaa.AE
namespace Go.Proofs.Ytahahflpackiiaa.AE
open Go.RowKit
def twoC (ls : List AV) : Bool := decide (ls.length = 2)
theorem rs_n (ro : Nat → Option (List Value)) (k1 k2 : Int) (Φ : AV → AH → Prop) : callK ro (fun _ => false) (fun _ => none) 8 9 [.v (.agg #[.int .i64 k1, .slice none 0 0]), .v (.agg #[.int .i64 k2, .slice none 0 0])] (hp [] []) (fun r h => some (h.cd ∧ Φ r (tidy h))) =
    (bif (k1 != k2) then (some (True ∧ (Φ (AV.v (Value.bool false)) (AH.mk [((35 : Nat), [(AV.v (Value.int IntKind.i64 k1)), (AV.v (Value.slice none (0 : Nat) (0 : Nat)))]), ((35 : Nat), [(AV.v (Value.int IntKind.i64 k2)), (AV.v (Value.slice none (0 : Nat) (0 : Nat)))])] (@List.nil Nat) (0 : Nat) (0 : Nat) true (@List.nil (Prod Nat Bool)) True)))) else (some (True ∧ (Φ (AV.v (Value.bool true)) (AH.mk [((35 : Nat), [(AV.v (Value.int IntKind.i64 k1)), (AV.v (Value.slice none (0 : Nat) (0 : Nat)))]), ((35 : Nat), [(AV.v (Value.int IntKind.i64 k2)), (AV.v (Value.slice none (0 : Nat) (0 : Nat)))])] (@List.nil Nat) (0 : Nat) (0 : Nat) true (@List.nil (Prod Nat Bool)) True))))) := by kernel_rfl
theorem eq_n (ro : Nat → Option (List Value)) (Φ : AV → AH → Prop) : callK ro (fun _ => false) (fun _ => none) 8 18 [nilV, nilV] (hp [] []) (fun r h => some (h.cd ∧ Φ r (tidy h))) =
    (some (True ∧ (Φ (AV.v (Value.bool true)) (AH.mk (@List.nil (Prod Go.TypeId (List AV))) (@List.nil Nat) (0 : Nat) (0 : Nat) true (@List.nil (Prod Nat Bool)) True)))) := by kernel_rfl
theorem aw_t (ro : Nat → Option (List Value)) (F : FS) (S : PS) (O : LS) (Φ : AV → Prop) : callK ro (fun _ => false) (prV F S O twoC) 8 5 [] (hp [] []) (fun r h => some (h.cd ∧ Φ r)) =
    (bif (((O).5 ((O).1 (10 : Int) [(AV.v (Value.agg #[(Value.int IntKind.i64 (2 : Int)), (Value.int IntKind.i64 (3 : Int)), (Value.int IntKind.i64 (1 : Int)), (Value.int IntKind.i64 (5 : Int))]))]) [(AV.v (Value.agg #[(Value.int IntKind.i64 (2 : Int)), (Value.int IntKind.i64 (0 : Int)), (Value.int IntKind.i64 (4 : Int)), (Value.int IntKind.i64 (9 : Int))]))] (1 : Int) (3 : Int) (6 : Int) (46 : Int)) == (8 : Int)) then (some ((cdb (cdb (cdb (cdb True (((O).3 (10 : Int) [(AV.v (Value.agg #[(Value.int IntKind.i64 (2 : Int)), (Value.int IntKind.i64 (3 : Int)), (Value.int IntKind.i64 (1 : Int)), (Value.int IntKind.i64 (5 : Int))]))]) && (true && ((List.all ((O).1 (10 : Int) [(AV.v (Value.agg #[(Value.int IntKind.i64 (2 : Int)), (Value.int IntKind.i64 (3 : Int)), (Value.int IntKind.i64 (1 : Int)), (Value.int IntKind.i64 (5 : Int))]))]) (fun (x : AV) => (isV.match_1 (fun (_ : AV) => Bool) x (fun (_ : Go.Value) => true) (fun (_ : AV) => false)))) && true)))) (((O).7 (73 : Nat) ((O).1 (10 : Int) [(AV.v (Value.agg #[(Value.int IntKind.i64 (2 : Int)), (Value.int IntKind.i64 (3 : Int)), (Value.int IntKind.i64 (1 : Int)), (Value.int IntKind.i64 (5 : Int))]))]) [(AV.v (Value.agg #[(Value.int IntKind.i64 (2 : Int)), (Value.int IntKind.i64 (0 : Int)), (Value.int IntKind.i64 (4 : Int)), (Value.int IntKind.i64 (9 : Int))]))] (1 : Int) (3 : Int) (6 : Int) (46 : Int)) && (((List.all ((O).1 (10 : Int) [(AV.v (Value.agg #[(Value.int IntKind.i64 (2 : Int)), (Value.int IntKind.i64 (3 : Int)), (Value.int IntKind.i64 (1 : Int)), (Value.int IntKind.i64 (5 : Int))]))]) (fun (x : AV) => (isV.match_1 (fun (_ : AV) => Bool) x (fun (_ : Go.Value) => true) (fun (_ : AV) => false)))) && true) && ((List.all ((O).1 (10 : Int) [(AV.v (Value.agg #[(Value.int IntKind.i64 (2 : Int)), (Value.int IntKind.i64 (3 : Int)), (Value.int IntKind.i64 (1 : Int)), (Value.int IntKind.i64 (5 : Int))]))]) (fun (x : AV) => (isV.match_1 (fun (_ : AV) => Bool) x (fun (_ : Go.Value) => true) (fun (_ : AV) => false)))) && true)))) (((O).6 (73 : Nat) ((O).1 (10 : Int) [(AV.v (Value.agg #[(Value.int IntKind.i64 (2 : Int)), (Value.int IntKind.i64 (3 : Int)), (Value.int IntKind.i64 (1 : Int)), (Value.int IntKind.i64 (5 : Int))]))]) [(AV.v (Value.agg #[(Value.int IntKind.i64 (1 : Int)), (Value.int IntKind.i64 (0 : Int)), (Value.int IntKind.i64 (4 : Int)), (Value.int IntKind.i64 (9 : Int))])), (AV.v (Value.agg #[(Value.int IntKind.i64 (3 : Int)), (Value.int IntKind.i64 (2 : Int)), (Value.int IntKind.i64 (4 : Int)), (Value.int IntKind.i64 (9 : Int))]))] (1 : Int) (3 : Int) (6 : Int) (46 : Int)) && (((List.all ((O).1 (10 : Int) [(AV.v (Value.agg #[(Value.int IntKind.i64 (2 : Int)), (Value.int IntKind.i64 (3 : Int)), (Value.int IntKind.i64 (1 : Int)), (Value.int IntKind.i64 (5 : Int))]))]) (fun (x : AV) => (isV.match_1 (fun (_ : AV) => Bool) x (fun (_ : Go.Value) => true) (fun (_ : AV) => false)))) && true) && ((List.all ((O).1 (10 : Int) [(AV.v (Value.agg #[(Value.int IntKind.i64 (2 : Int)), (Value.int IntKind.i64 (3 : Int)), (Value.int IntKind.i64 (1 : Int)), (Value.int IntKind.i64 (5 : Int))]))]) (fun (x : AV) => (isV.match_1 (fun (_ : AV) => Bool) x (fun (_ : Go.Value) => true) (fun (_ : AV) => false)))) && true)))) (true && ((O).12 ((O).4 ((O).1 (10 : Int) [(AV.v (Value.agg #[(Value.int IntKind.i64 (2 : Int)), (Value.int IntKind.i64 (3 : Int)), (Value.int IntKind.i64 (1 : Int)), (Value.int IntKind.i64 (5 : Int))]))]) [(AV.v (Value.agg #[(Value.int IntKind.i64 (1 : Int)), (Value.int IntKind.i64 (0 : Int)), (Value.int IntKind.i64 (4 : Int)), (Value.int IntKind.i64 (9 : Int))])), (AV.v (Value.agg #[(Value.int IntKind.i64 (3 : Int)), (Value.int IntKind.i64 (2 : Int)), (Value.int IntKind.i64 (4 : Int)), (Value.int IntKind.i64 (9 : Int))]))] (1 : Int) (3 : Int) (6 : Int) (46 : Int)) [(AV.v (Value.agg #[(Value.int IntKind.i64 (1 : Int)), (Value.int IntKind.i64 (0 : Int)), (Value.int IntKind.i64 (26 : Int)), (Value.int IntKind.i64 (9 : Int)), (Value.bool true)])), (AV.v (Value.agg #[(Value.int IntKind.i64 (3 : Int)), (Value.int IntKind.i64 (11 : Int)), (Value.int IntKind.i64 (0 : Int)), (Value.int IntKind.i64 (0 : Int)), (Value.bool false)]))]))) ∧ (Φ (AV.v (Value.bool true))))) else (some ((cdb (cdb (cdb True (((O).3 (10 : Int) [(AV.v (Value.agg #[(Value.int IntKind.i64 (2 : Int)), (Value.int IntKind.i64 (3 : Int)), (Value.int IntKind.i64 (1 : Int)), (Value.int IntKind.i64 (5 : Int))]))]) && (true && ((List.all ((O).1 (10 : Int) [(AV.v (Value.agg #[(Value.int IntKind.i64 (2 : Int)), (Value.int IntKind.i64 (3 : Int)), (Value.int IntKind.i64 (1 : Int)), (Value.int IntKind.i64 (5 : Int))]))]) (fun (x : AV) => (isV.match_1 (fun (_ : AV) => Bool) x (fun (_ : Go.Value) => true) (fun (_ : AV) => false)))) && true)))) (((O).7 (73 : Nat) ((O).1 (10 : Int) [(AV.v (Value.agg #[(Value.int IntKind.i64 (2 : Int)), (Value.int IntKind.i64 (3 : Int)), (Value.int IntKind.i64 (1 : Int)), (Value.int IntKind.i64 (5 : Int))]))]) [(AV.v (Value.agg #[(Value.int IntKind.i64 (2 : Int)), (Value.int IntKind.i64 (0 : Int)), (Value.int IntKind.i64 (4 : Int)), (Value.int IntKind.i64 (9 : Int))]))] (1 : Int) (3 : Int) (6 : Int) (46 : Int)) && (((List.all ((O).1 (10 : Int) [(AV.v (Value.agg #[(Value.int IntKind.i64 (2 : Int)), (Value.int IntKind.i64 (3 : Int)), (Value.int IntKind.i64 (1 : Int)), (Value.int IntKind.i64 (5 : Int))]))]) (fun (x : AV) => (isV.match_1 (fun (_ : AV) => Bool) x (fun (_ : Go.Value) => true) (fun (_ : AV) => false)))) && true) && ((List.all ((O).1 (10 : Int) [(AV.v (Value.agg #[(Value.int IntKind.i64 (2 : Int)), (Value.int IntKind.i64 (3 : Int)), (Value.int IntKind.i64 (1 : Int)), (Value.int IntKind.i64 (5 : Int))]))]) (fun (x : AV) => (isV.match_1 (fun (_ : AV) => Bool) x (fun (_ : Go.Value) => true) (fun (_ : AV) => false)))) && true)))) (((O).6 (73 : Nat) ((O).1 (10 : Int) [(AV.v (Value.agg #[(Value.int IntKind.i64 (2 : Int)), (Value.int IntKind.i64 (3 : Int)), (Value.int IntKind.i64 (1 : Int)), (Value.int IntKind.i64 (5 : Int))]))]) [(AV.v (Value.agg #[(Value.int IntKind.i64 (1 : Int)), (Value.int IntKind.i64 (0 : Int)), (Value.int IntKind.i64 (4 : Int)), (Value.int IntKind.i64 (9 : Int))])), (AV.v (Value.agg #[(Value.int IntKind.i64 (3 : Int)), (Value.int IntKind.i64 (2 : Int)), (Value.int IntKind.i64 (4 : Int)), (Value.int IntKind.i64 (9 : Int))]))] (1 : Int) (3 : Int) (6 : Int) (46 : Int)) && (((List.all ((O).1 (10 : Int) [(AV.v (Value.agg #[(Value.int IntKind.i64 (2 : Int)), (Value.int IntKind.i64 (3 : Int)), (Value.int IntKind.i64 (1 : Int)), (Value.int IntKind.i64 (5 : Int))]))]) (fun (x : AV) => (isV.match_1 (fun (_ : AV) => Bool) x (fun (_ : Go.Value) => true) (fun (_ : AV) => false)))) && true) && ((List.all ((O).1 (10 : Int) [(AV.v (Value.agg #[(Value.int IntKind.i64 (2 : Int)), (Value.int IntKind.i64 (3 : Int)), (Value.int IntKind.i64 (1 : Int)), (Value.int IntKind.i64 (5 : Int))]))]) (fun (x : AV) => (isV.match_1 (fun (_ : AV) => Bool) x (fun (_ : Go.Value) => true) (fun (_ : AV) => false)))) && true)))) ∧ (Φ (AV.v (Value.bool false)))))) := by kernel_rfl
end Go.Proofs.Ytahahflpackiiaa.AE
namespace Go.Proofs.Ytahahflpackiiaa.AE
open Go.RowKit Tb
section
variable {ro : Nat → Option (List Value)}
theorem agg5_no {G : Gh} {W : World} {a : AV} {ls : List AV} {t : Tip} {c : Value} (h : RV G W (.agg [a, .lst 5 ls t]) c) : RV G W (.agg [a, .lst 5 ls .no]) c := by
  cases h with
  | agg h =>
    refine .agg ?_
    refine RVs.setL (l := [a, .lst 5 ls t]) 1 (x := .lst 5 ls .no) h fun c hc => ?_
    obtain ⟨c', hc', hr⟩ := h.get 1 (.lst 5 ls t) rfl
    rw [hc] at hc'
    cases hc'
    exact nrm_rv hr
open Classical in
set_option maxRecDepth 100000 in
theorem sm_ok : ∀ args H r H', data? (smP lsX) args H = some (r, H') → HSound1 Try.prog ro 9 args H r H' := by
  refine data_ok (has_fn (by kernel_rfl)) fun args r h => ?_
  unfold smP at h
  split at h
  · rename_i k1 xs t1 k2 ys t2
    simp only [Option.some.injEq, Prod.mk.injEq, Bool.and_eq_true] at h
    obtain ⟨rfl, hk, hq⟩ := h
    obtain rfl := of_decide_eq_true hk
    obtain ⟨l, rfl, rfl, hl⟩ := of_decide_eq_true hq
    intro G W cargs hI hR hA
    have hF := Fs.mono (fs_rsame (ro := ro) k1 l hl) (Ψ := fun r' _ => clean r' = some (.v (.bool true))) (by rintro r' H' rfl; rfl)
    refine hF G W cargs hI hR ?_
    generalize hc : cargs.toList = ca at hA ⊢
    cases hA with
    | cons h1 t => cases t with
      | cons h2 t => exact .cons (agg5_no h1) (.cons (agg5_no h2) t)
  · rename_i k1 k2
    simp only [Option.some.injEq, Prod.mk.injEq, and_true] at h
    subst h
    refine Fs.of_call (known_none _) (rs_n ro k1 k2 fun r' _ => clean r' = some (.v (.bool (k1 == k2)))) (holds_bif (fun h => ⟨trivial, ?_⟩) fun h => ⟨trivial, ?_⟩)
    · have : (k1 == k2) = false := by simpa using h
      rw [this]; rfl
    · have : (k1 == k2) = true := by simpa using h
      rw [this]; rfl
  · cases h
open Classical in
set_option maxRecDepth 100000 in
theorem eq_ok : ∀ args H r H', data? (eqP lsX) args H = some (r, H') → HSound1 Try.prog ro 18 args H r H' := by
  refine data_ok (has_fn (by kernel_rfl)) fun args r h => ?_
  unfold eqP at h
  split at h
  · simp only [Option.some.injEq, Prod.mk.injEq] at h
    obtain ⟨rfl, hq⟩ := h
    obtain ⟨l, rfl, rfl, hl⟩ := of_decide_eq_true hq
    exact Fs.nrm (Fs.mono (fs_eqs l hl) (by rintro r' H' rfl; rfl))
  · simp only [Option.some.injEq, Prod.mk.injEq, and_true] at h
    subst h
    exact Fs.of_call (known_none _) (eq_n ro fun r' _ => clean r' = some (.v (.bool true))) ⟨trivial, rfl⟩
  · cases h
theorem knownW (b : List AV → Bool) : Known ro (prW fsX psX lsX b) := by
  intro g p h
  unfold prW at h
  split at h
  · cases h; exact ofo_ok
  · cases h; exact plo_ok b
  · cases h; exact rpp_ok b
  · cases h; exact sto_ok knownFS okT2
  · cases h; exact rs_ok knownFS
  · cases h; exact cuts_ok
  · cases h; exact get_ok
  · cases h
theorem knownV (b : List AV → Bool) : Known ro (prV fsX psX lsX b) := by
  intro g p h
  unfold prV at h
  split at h
  · cases h; exact sm_ok
  · cases h; exact eq_ok
  · exact knownW b _ _ h
theorem e_om (ttl : Int) (l : List Tld) : lsX.om ttl (l.map tlA) = tcA ttl (nsT l) := by show tcA ttl (nsT (tldX _)) = _; rw [tldX_map]
theorem e_ox (ttl : Int) (l : List Tld) : lsX.ox ttl (l.map tlA) = (xlK (nsT l)).map knA := by show (xlK (nsT (tldX _))).map knA = _; rw [tldX_map]
open Classical in
theorem e_ook {ttl : Int} {l : List Tld} (hl : l.length ≤ 1000000) (h : ttl = 20 ∨ ttl = 10) : lsX.ook ttl (l.map tlA) = true := decide_eq_true ⟨l, rfl, hl, h⟩
theorem okM2 (ttl : Int) (ns : Nat → Nt) : psX.ok 73 (tcA ttl ns) = true := okM ttl ns
open Classical in
theorem e_p1 {ttl : Int} {ns : Nat → Nt} {L : List Cl} (hl : L.length ≤ 1000000) {xt lv tk dl : Int} (h : planS (spF psX (tcA ttl ns) xt lv tk dl) L ≠ []) : lsX.p1 73 (tcA ttl ns) (L.map clA) xt lv tk dl = true := decide_eq_true ⟨okM2 _ _, tcA_isV _ _, L, rfl, hl, h⟩
open Classical in
theorem e_p0 {ttl : Int} {ns : Nat → Nt} {L : List Cl} (hl : L.length ≤ 1000000) {xt lv tk dl : Int} (h : planS (spF psX (tcA ttl ns) xt lv tk dl) L = []) : lsX.p0 73 (tcA ttl ns) (L.map clA) xt lv tk dl = true := decide_eq_true ⟨okM2 _ _, tcA_isV _ _, L, rfl, hl, h⟩
theorem e_ps (M : List AV) (L : List Cl) (xt lv tk dl : Int) : lsX.ps M (L.map clA) xt lv tk dl = (planS (spF psX M xt lv tk dl) L).map spA := by show (planS _ (clsX _)).map spA = _; rw [clsX_map]
theorem e_pk (M : List AV) (L : List Cl) (xt lv tk dl : Int) : lsX.pk M (L.map clA) xt lv tk dl = planK (spF psX M xt lv tk dl) L := by show planK _ (clsX _) = _; rw [clsX_map]
open Classical in
theorem e_sq {l : List Sp} (hl : l.length ≤ 1000000) : lsX.sq (l.map spA) (l.map spA) = true := decide_eq_true ⟨l, rfl, rfl, hl⟩
theorem all2 (ttl : Int) (ns : Nat → Nt) : ((tcA ttl ns).all isV && true) = true := by rw [tcA_isV]; rfl
theorem all4 (ttl : Int) (ns : Nat → Nt) : (((tcA ttl ns).all isV && true) && ((tcA ttl ns).all isV && true)) = true := by rw [tcA_isV]; rfl
theorem aw_p : planS (spF psX (tcA 10 (nsT [⟨2, 3, 1, 5⟩])) 1 3 6 46) [⟨2, 0, 4, 9⟩] = [] := by kernel_rfl
theorem aw_k : planK (spF psX (tcA 10 (nsT [⟨2, 3, 1, 5⟩])) 1 3 6 46) [⟨2, 0, 4, 9⟩] = 8 := by kernel_rfl
theorem aw_q : planS (spF psX (tcA 10 (nsT [⟨2, 3, 1, 5⟩])) 1 3 6 46) [⟨1, 0, 4, 9⟩, ⟨3, 2, 4, 9⟩] = [⟨1, 0, 26, 9, true⟩, ⟨3, 11, 0, 0, false⟩] := by kernel_rfl
set_option maxRecDepth 100000 in
theorem fs_awake : Fs Try.prog ro 5 [] (hp [] []) fun r _ => r = .v (.bool true) := by
  have tree := fun Φ => aw_t ro fsX psX lsX Φ
  have t1 : ([.v (.agg #[.int .i64 2, .int .i64 3, .int .i64 1, .int .i64 5])] : List AV) = [(⟨2, 3, 1, 5⟩ : Tld)].map tlA := rfl
  have t2 : ([.v (.agg #[.int .i64 2, .int .i64 0, .int .i64 4, .int .i64 9])] : List AV) = [(⟨2, 0, 4, 9⟩ : Cl)].map clA := rfl
  have t3 : ([.v (.agg #[.int .i64 1, .int .i64 0, .int .i64 4, .int .i64 9]), .v (.agg #[.int .i64 3, .int .i64 2, .int .i64 4, .int .i64 9])] : List AV) = [(⟨1, 0, 4, 9⟩ : Cl), ⟨3, 2, 4, 9⟩].map clA := rfl
  have t4 : ([.v (.agg #[.int .i64 1, .int .i64 0, .int .i64 26, .int .i64 9, .bool true]), .v (.agg #[.int .i64 3, .int .i64 11, .int .i64 0, .int .i64 0, .bool false])] : List AV) = [(⟨1, 0, 26, 9, true⟩ : Sp), ⟨3, 11, 0, 0, false⟩].map spA := rfl
  rw [t1, t2, t3, t4] at tree
  simp only [e_om, e_pk, e_ps, aw_k, aw_q] at tree
  refine Fs.of_call (knownV twoC) (tree fun r => r = .v (.bool true)) ?_
  refine holds_bif (fun _ => ⟨?_, rfl⟩) fun h => by cases h
  refine cdb_iff.2 ⟨cdb_iff.2 ⟨cdb_iff.2 ⟨cdb_iff.2 ⟨trivial, ?_⟩, ?_⟩, ?_⟩, ?_⟩
  · rw [e_ook (by decide) (.inr rfl)]; exact all2 10 (nsT [⟨2, 3, 1, 5⟩])
  · rw [e_p0 (by decide) aw_p]; exact all4 10 (nsT [⟨2, 3, 1, 5⟩])
  · rw [e_p1 (by decide) (by rw [aw_q]; exact List.cons_ne_nil _ _)]; exact all4 10 (nsT [⟨2, 3, 1, 5⟩])
  · rw [Bool.true_and]; exact e_sq (by decide)
theorem awk_ok : ∀ args H r H', pure? awkS args H = some (r, H') → HSound1 Try.prog ro 5 args H r H' := by
  refine pure_ok (fun us c hs => ?_) (has_fn (by kernel_rfl))
  unfold awkS at hs
  split at hs
  · cases hs; exact fs_awake
  · cases hs
end
end Go.Proofs.Ytahahflpackiiaa.AE
namespace Go.Proofs.Ytahahflpackiiaa.AE
open Go.RowKit Tb
theorem kc_cases (tier xt : Int) (co cut : Bool) : kcI tier xt co cut = 11 ∨ kcI tier xt co cut = 9 ∨ kcI tier xt co cut = 8 ∨ kcI tier xt co cut = 0 := by
  unfold kcI
  split
  · exact .inl rfl
  · split
    · exact .inr (.inl rfl)
    · split
      · exact .inr (.inr (.inl rfl))
      · exact .inr (.inr (.inr rfl))
section
variable {ro : Nat → Option (List Value)}
end
end Go.Proofs.Ytahahflpackiiaa.AE
