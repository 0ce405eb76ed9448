/-
  A region that draws its order, in two: a run that turns nothing, and the last operations.
-/
import Derived.Test.YtdijakobocnceaaAETail
namespace Go.Proofs.Ytdijakobocnceaa.AE
set_option maxRecDepth 100000
open Go.RowKit
def headC (c : Code) (n : Nat) : Code := match c with
  | .region id os b => .region id (os.toList.take n).toArray b
  | c => c
def opsOf (c : Code) : Array Oper := match c with
  | .region _ os _ => os
  | _ => #[]
def fullL (n m : Nat) : Array Bool := (List.replicate n true ++ List.replicate m false).toArray
def tailOk (c : Code) (n : Nat) : Bool := match c with
  | .region _ os b => b && (stat (os.toList.take n).toArray.toList (bsets (os.toList.take n).toArray.toList []) (os.toList.take n).toArray && (Region.sinkB .any os n && (Region.chainB .any os n && (decide (n < os.size) && ((os.toList.take n).all (fun o => o.guard.isNone) && ((os.toList.take n).zipIdx.all (fun (o, i) => o.after.toList.all fun e => !Region.binds .any e || decide (e.on < i)) && Region.seqB .any os (os.size - n) n (fullL n (os.size - n))))))))
  | _ => false
theorem full_at {n m i : Nat} (h : i < (List.replicate n true ++ List.replicate m false).toArray.size) : (List.replicate n true ++ List.replicate m false).toArray[i] = decide (i < n) := by
  rw [List.getElem_toArray, List.getElem_append]
  split
  · rename_i h1
    rw [List.length_replicate] at h1
    rw [List.getElem_replicate, decide_eq_true h1]
  · rename_i h1
    rw [List.length_replicate] at h1
    rw [List.getElem_replicate, decide_eq_false h1]
/-- A row of operations, one by one. -/
def TlL (P : Program) (ro : Nat → Option (List Value)) (ops : Array Oper) (l : List Oper) (act : List AV) (H : AH) (Q : Exit → List AV → AH → Prop) : Prop :=
  ∀ G W (a : Act), Inv G H W → Ro ro G W → RVs G W act a.tmps.toList →
    wpList P ops (fun e a' W' => ∃ act' H' G', Q e act' H' ∧ Ext G W G' W' ∧ Inv G' H' W' ∧ RVs G' W' act' a'.tmps.toList ∧ a'.defers = a.defers) l a W
theorem wpList_mono2 {P : Program} {ops : Array Oper} {Q Q' : Exit → Act → World → Prop} (h : ∀ e a w, Q e a w → Q' e a w) : ∀ (l : List Oper) (a : Act) (w : World), wpList P ops Q l a w → wpList P ops Q' l a w
  | [], a, w, hh => h _ _ _ hh
  | o :: l, a, w, hh => by
    have hl : LetsOut Q → LetsOut Q' := fun ⟨a, w, x⟩ => ⟨a, w, h _ _ _ x⟩
    unfold wpList at hh ⊢
    split
    · rename_i hw
      rw [if_pos hw] at hh
      exact hh.imp (Oper.wp_mono2 (fun a w => wpList_mono2 h l a w) fun e a w _ => h e a w) fun hx => ⟨hx.1, hl hx.2⟩
    · rename_i hw
      rw [if_neg hw] at hh
      exact wpList_mono2 h l _ _ hh
theorem Tr.of_tail {ro : Nat → Option (List Value)} {mu : FuncId → Bool} {pr : FuncId → Option (List AV → AH → Ans)} {d : Nat} {c : Code} {n : Nat} {act : List AV} {H : AH} {R Q : Exit → List AV → AH → Prop} (hp : Known ro pr) (ht : tailOk c n = true) {is : List Nat} {X : Option Prop} (e : drS ro mu pr d (headC c n) act H (kp is R) = X) (h : holds X)
    (hT : ∀ act1 H1, R .normal act1 H1 → TlL Try.prog ro (opsOf c) ((opsOf c).toList.drop n) act1 H1 Q) (hm : Flats mu pr := by intro g h; cases h) : Tr Try.prog ro c act H Q := by
  cases c with
  | region id os draw =>
    have ht : (draw && (stat (os.toList.take n).toArray.toList (bsets (os.toList.take n).toArray.toList []) (os.toList.take n).toArray && (Region.sinkB .any os n && (Region.chainB .any os n && (decide (n < os.size) && ((os.toList.take n).all (fun o => o.guard.isNone) && ((os.toList.take n).zipIdx.all (fun (o, i) => o.after.toList.all fun e => !Region.binds .any e || decide (e.on < i)) && Region.seqB .any os (os.size - n) n (fullL n (os.size - n))))))))) = true := ht
    simp only [Bool.and_eq_true] at ht
    obtain ⟨rfl, hst, hsink, hchain, hn, hgd, hbk, hseq⟩ := ht
    have hn := of_decide_eq_true hn
    have hHs : (os.toList.take n).toArray.size = n := by simp; omega
    have hH : ∀ i, i < n → (os.toList.take n).toArray[i]? = os[i]? := fun i hi => by
      rw [List.getElem?_toArray, List.getElem?_take, if_pos hi, Array.getElem?_toList]
    have hmem : ∀ i o, i < n → os[i]? = some o → (os.toList.take n)[i]? = some o := fun i o hi ho => by rw [List.getElem?_take, if_pos hi, Array.getElem?_toList, ho]
    intro G W a hI hR hA
    cases X with
    | none => exact h.elim
    | some p =>
      have hpp : p := h
      have e : runDF Try.prog ro (fnK Try.prog ro mu pr d) mu (os.toList.take n).toArray (os.toList.take n).toArray.toList act H [] (fun act' H' tb => match tb.all (fun e => !e.T) with | true => kp is R .normal act' H' | false => none) = some p := e
      rw [runDF_eq, runDK_eq (fnK_like pr d)] at e
      have e' := dr_still hst e
      have hk : ∀ (act' : List AV) (H' : AH), kp is R .normal act' H' = some p → H'.cd ∧ R .normal (keepI 0 is act') (tidy H') := fun act' H' hk => by
        have : (H'.cd ∧ R .normal (keepI 0 is act') (tidy H')) = p := by simpa [kp] using hk
        rw [← this] at hpp
        exact hpp
      let QH : Exit → Act → World → Prop := fun e a' W' => e = .normal ∧ ∃ act' H' G', R .normal act' H' ∧ Ext G W G' W' ∧ Inv G' H' W' ∧ RVs G' W' act' a'.tmps.toList ∧ a'.defers = a.defers
      have hany : wpAny Try.prog .any (os.toList.take n).toArray QH (os.toList.take n).toArray.size (Array.replicate (os.toList.take n).toArray.size false) a W.drew :=
        dr_any named (run_sound' hp hm d) (flat_fn hm d) e' (fun act' H' h => (hk act' H' h).1) hI hR hA (fun act' H' G' a' W' h e1 i1 r1 d1 => ⟨rfl, _, _, G', (hk act' H' h).2, e1, inv_tidy i1, keepI_rel _ _ r1, d1⟩)
      rw [hHs] at hany
      have hr : ∀ m j : Nat, (Array.replicate m false).getD j true = !decide (j < m) := fun m j => by
        rcases Nat.lt_or_ge j m with h | h
        · simp [h]
        · simp [Nat.not_lt.2 h]
      have := wpAny_split (P := Try.prog) (ops := os) (opsH := (os.toList.take n).toArray) (n := n) (g := os.size - n) (QH := QH) (Q := fun e a' W' => ∃ act' H' G', Q e act' H' ∧ Ext G W G' W' ∧ Inv G' H' W' ∧ RVs G' W' act' a'.tmps.toList ∧ a'.defers = a.defers) hsink hchain hn hH hHs
        (fun i o hi ho => by
          have := List.all_eq_true.1 hgd o (List.mem_of_getElem? (hmem i o hi ho))
          simpa using this)
        (fun i o hi ho e he hbe => by
          have h1 := List.all_eq_true.1 hbk (o, i) (List.mem_zipIdx_iff_getElem?.2 (hmem i o hi ho))
          have h2 := List.all_eq_true.1 h1 e (Array.mem_toList_iff.2 he)
          rw [hbe] at h2
          simpa using h2)
        (fun e a w hne hx => absurd hx.1 hne)
        (fun L a' w' inv hl hx => by
          obtain ⟨_, act', H', G', hr', e1, i1, r1, d1⟩ := hx
          have hL : L = fullL n (os.size - n) := by
            have hs := inv.size
            refine Array.ext (by unfold fullL; simp; omega) fun i h1 h2 => ?_
            unfold fullL
            rcases Nat.lt_or_ge i n with hi | hi
            · have := hl i hi
              rw [Array.getD_eq_getD_getElem?, Array.getElem?_eq_getElem h1] at this
              have this : L[i] = true := this
              rw [this]
              exact ((full_at h2).trans (decide_eq_true hi)).symm
            · have := inv.tail i hi (by omega)
              rw [Array.getD_eq_getD_getElem?, Array.getElem?_eq_getElem h1] at this
              have this : L[i] = false := this
              rw [this]
              exact ((full_at h2).trans (decide_eq_false (Nat.not_lt.2 hi))).symm
          have hlen : (os.toList.drop n).length = os.size - n := by simp
          rw [← hlen]
          refine wpAny_of_seq (os.toList.drop n) n L a' w' (fun j => by rw [List.getElem?_drop, Array.getElem?_toList]) (by rw [hlen, hL]; exact hseq) ?_
          refine wpList_mono2 ?_ _ _ _ (hT act' H' hr' G' w' a' i1 (hR.ext e1) r1)
          rintro e a2 w2 ⟨act2, H2, G2, q1, q2, q3, q4, q5⟩
          exact ⟨act2, H2, G2, q1, e1.trans q2, q3, q4, q5.trans d1⟩)
        n (Array.replicate n false) (Array.replicate os.size false) a W.drew (by simp) (fun i hi => by rw [hr, hr]; simp; omega)
        ⟨by simp, fun j oj hj hl e he hb => (by rw [getD_replicate_false] at hl; cases hl), fun t h1 h2 => by rw [hr]; simp [h2]⟩ hany
      rw [show n + (os.size - n) = os.size by omega] at this
      exact wp_region_any mixed this
  | _ => cases ht
end Go.Proofs.Ytdijakobocnceaa.AE
