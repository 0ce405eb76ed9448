/-
  What a piece of code made, and nobody holds any more, is let go: the state has as many blocks and rows as before.
-/
import Derived.Test.YtdijakobocnceaaAEData
namespace Go.Proofs.Ytdijakobocnceaa.AE
set_option maxRecDepth 100000
open Go.RowKit
def tipLow (k : Nat) : Tip → Bool
  | .tp t _ => decide (t < k)
  | _ => true
mutual
/-- The value holds no block from n on, and no row from k on. -/
def low (n k : Nat) : AV → Bool
  | .v _ => true
  | .ptr id _ => decide (id < n)
  | .pi id _ => decide (id < n)
  | .sl id _ _ _ => decide (id < n)
  | .dead => true
  | .mp id => decide (id < n)
  | .lp _ => true
  | .lst _ _ tip => tipLow k tip
  | .agg cells => lows n k cells
  | .tuple vs => lows n k vs
  | .fn _ a b => lows n k a && lows n k b
def lows (n k : Nat) : List AV → Bool
  | [] => true
  | x :: l => low n k x && lows n k l
end
def trimG (n k : Nat) (G : Gh) : Gh := { G with δ := fun i => if i < n then G.δ i else none, tip := fun t => if t < k then G.tip t else none }
def trimH (n k : Nat) (H : AH) : AH := { H with blks := H.blks.take n, tips := H.tips.take k }
theorem trim_δ {n k : Nat} {G : Gh} {i b : Nat} (h : (trimG n k G).δ i = some b) : i < n ∧ G.δ i = some b := by
  have h : (if i < n then G.δ i else none) = some b := h
  split at h
  · exact ⟨by assumption, h⟩
  · cases h
theorem trim_δ' {n k : Nat} {G : Gh} {i b : Nat} (h : G.δ i = some b) (hi : i < n) : (trimG n k G).δ i = some b := by
  show (if i < n then G.δ i else none) = some b
  rw [if_pos hi]; exact h
theorem trim_tip {n k : Nat} {G : Gh} {t : Nat} {i : Info} (h : (trimG n k G).tip t = some i) : t < k ∧ G.tip t = some i := by
  have h : (if t < k then G.tip t else none) = some i := h
  split at h
  · exact ⟨by assumption, h⟩
  · cases h
theorem trim_tip' {n k : Nat} {G : Gh} {t : Nat} {i : Info} (h : G.tip t = some i) (ht : t < k) : (trimG n k G).tip t = some i := by
  show (if t < k then G.tip t else none) = some i
  rw [if_pos ht]; exact h
theorem lows_cons {n k : Nat} {x : AV} {l : List AV} (h : lows n k (x :: l) = true) : low n k x = true ∧ lows n k l = true := by
  unfold lows at h
  simpa using h
theorem low_rv {n k : Nat} {G : Gh} {W : World} {x : AV} {c : Value} (h : RV G W x c) : low n k x = true → RV (trimG n k G) W x c := by
  refine RV.rec (motive_1 := fun x c _ => low n k x = true → RV (trimG n k G) W x c) (motive_2 := fun l cs _ => lows n k l = true → RVs (trimG n k G) W l cs) ?_ ?_ ?_ ?_ ?_ ?_ ?_ ?_ ?_ ?_ ?_ ?_ ?_ h
  · intro x _; exact .v _
  · intro id off b hd hl; exact .ptr (trim_δ' hd (by unfold low at hl; simpa using hl))
  · intro id off b hd hl; exact .pi (trim_δ' hd (by unfold low at hl; simpa using hl))
  · intro cells b off cs hr hm _; exact .lp hr hm
  · intro sz xs tip a m cap cs hn hr hs hm hc hx ht hl
    refine .lst hn hr hs hm hc hx ?_
    cases tip with
    | tp t ver =>
      obtain ⟨i, e1, e2, e3⟩ := ht
      refine ⟨i, trim_tip' e1 ?_, e2, e3⟩
      unfold low tipLow at hl; simpa using hl
    | no => trivial
    | exact => exact ht
  · intro id off len cap b hd hl; exact .sl (trim_δ' hd (by unfold low at hl; simpa using hl))
  · intro cells cs hr ih hl; exact .agg (ih (by unfold low at hl; exact hl))
  · intro cells cs hr ih hl; exact .tuple (ih (by unfold low at hl; exact hl))
  · intro f a b x y h1 h2 i1 i2 hl
    unfold low at hl
    simp only [Bool.and_eq_true] at hl
    exact .fn (i1 hl.1) (i2 hl.2)
  · intro id b hd hl; exact .mp (trim_δ' hd (by unfold low at hl; simpa using hl))
  · intro c _; exact .dead _
  · intro _; exact .nil
  · intro x c l cs hx hl i1 i2 h
    obtain ⟨h1, h2⟩ := lows_cons h
    exact .cons (i1 h1) (i2 h2)
theorem lows_rv {n k : Nat} {G : Gh} {W : World} : ∀ {l : List AV} {cs : List Value}, RVs G W l cs → lows n k l = true → RVs (trimG n k G) W l cs
  | [], _, h, _ => by cases h; exact .nil
  | x :: l, _, h, hl => by
    cases h with
    | cons h t =>
      obtain ⟨h1, h2⟩ := lows_cons hl
      exact .cons (low_rv h h1) (lows_rv t h2)
theorem Inv.trim {n k : Nat} {G : Gh} {H : AH} {W : World} (h : Inv G H W) (hb : (H.blks.take n).all (fun b => lows n k b.2) = true) : Inv (trimG n k G) (trimH n k H) W := by
  refine Inv.mk (fun id t cs hbk => ?_) (fun i j b hi hj => h.inj i j b (trim_δ hi).2 (trim_δ hj).2) (fun i b hi => h.δown i b (trim_δ hi).2) (fun i b o hi => h.δpr i b o (trim_δ hi).2) (fun i b hi => ?_) (fun t ver ht => ?_) (fun t i hi => ?_) (fun t i hi => h.row t i (trim_tip hi).2) (fun t i b off m cap hi hv => h.trow t i b off m cap (trim_tip hi).2 hv) (fun t i b hi hv id hd => h.tδ t i b (trim_tip hi).2 hv id (trim_δ hd).2) (fun t t' i i' b hi hi' => h.tt t t' i i' b (trim_tip hi).2 (trim_tip hi').2) h.plt h.olt
  · have hbk : (H.blks.take n)[id]? = some (t, cs) := hbk
    have hid : id < n := by
      have := (List.getElem?_eq_some_iff.1 hbk).1
      rw [List.length_take] at this; omega
    have hm := List.mem_of_getElem? hbk
    rw [List.getElem?_take_of_lt hid] at hbk
    obtain ⟨b, vs, e1, e2, e3, e4⟩ := h.blk id t cs hbk
    exact ⟨b, vs, trim_δ' e1 hid, e2, lows_rv e3 (List.all_eq_true.1 hb _ hm), e4⟩
  · obtain ⟨h1, h2⟩ := trim_δ hi
    have := h.δlen i b h2
    show i < (H.blks.take n).length
    rw [List.length_take]; omega
  · have ht : (H.tips.take k)[t]? = some ver := ht
    have hk : t < k := by
      have := (List.getElem?_eq_some_iff.1 ht).1
      rw [List.length_take] at this; omega
    rw [List.getElem?_take_of_lt hk] at ht
    obtain ⟨i, e1, e2⟩ := h.tip t ver ht
    exact ⟨i, trim_tip' e1 hk, e2⟩
  · obtain ⟨h1, h2⟩ := trim_tip hi
    have := h.tlen t i h2
    show t < (H.tips.take k).length
    rw [List.length_take]; omega
theorem Ext.trim {n k : Nat} {G0 : Gh} {W0 : World} {G : Gh} {W : World} (h : Ext G0 W0 G W) (h1 : ∀ i b, G0.δ i = some b → i < n) (h2 : ∀ t i, G0.tip t = some i → t < k) : Ext G0 W0 (trimG n k G) W where
  os := h.os
  tape := h.tape
  output := h.output
  size := h.size
  δ := fun id b e => trim_δ' (h.δ id b e) (h1 id b e)
  tip := fun t i e => by
    obtain ⟨i', e', r⟩ := h.tip t i e
    exact ⟨i', trim_tip' e' (h2 t i e), r⟩
  prot := h.prot
  cell := h.cell
  own := h.own
  new := h.new
  block := h.block
  pnew := h.pnew
/-- What was made since, and is not held, is let go. -/
theorem Tr.forget {P : Program} {ro : Nat → Option (List Value)} {c : Code} {act : List AV} {H : AH} {Q : Exit → List AV → AH → Prop} (n k : Nat) (hn : H.blks.length ≤ n) (hk : H.tips.length ≤ k)
    (h : Tr P ro c act H fun e a h => lows n k a = true ∧ (h.blks.take n).all (fun b => lows n k b.2) = true ∧ Q e a (trimH n k h)) : Tr P ro c act H Q := by
  intro G W a hI hR hA
  refine wp_mono (h G W a hI hR hA) ?_
  rintro e a' W' ⟨act', H', G', ⟨q1, q2, q3⟩, e1, i1, r1, d1⟩
  exact ⟨act', trimH n k H', trimG n k G', q3, e1.trim (fun i b hd => Nat.lt_of_lt_of_le (hI.δlen i b hd) hn) (fun t i ht => Nat.lt_of_lt_of_le (hI.tlen t i ht) hk), i1.trim q2, lows_rv r1 q1, d1⟩
end Go.Proofs.Ytdijakobocnceaa.AE
