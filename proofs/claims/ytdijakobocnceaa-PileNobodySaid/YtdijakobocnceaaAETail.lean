/-
  A region that draws its order, whose last operations all others come ahead of: the first ones by a run that turns nothing, the last ones one by one.
-/
import Derived.Test.YtdijakobocnceaaAEStill
import Derived.StillTail
namespace Go.Proofs.Ytdijakobocnceaa.AE
set_option maxRecDepth 100000
open Go.RowKit
section
variable {P : Program} {ro : Nat → Option (List Value)} {C : Hd} {mu : FuncId → Bool}
theorem dr_any (hN : Named P) (hC : HSound P ro C) (hF : Flat C mu) {α : Type} {os : Array Oper} {act : List AV} {H : AH} {K : Kn α} {ans : α} {G : Gh} {W : World} {a : Act} {Q : Exit → Act → World → Prop} (h : dr P ro mu C os act H K = some ans) (hKc : ∀ act' H', K act' H' = some ans → H'.cd) (hI : Inv G H W) (hR : Ro ro G W) (hA : RVs G W act a.tmps.toList)
    (hQ : ∀ act' H' G' (a' : Act) W', K act' H' = some ans → Ext G W G' W' → Inv G' H' W' → RVs G' W' act' a'.tmps.toList → a'.defers = a.defers → Q .normal a' W') : wpAny P .any os Q os.size (Array.replicate os.size false) a W.drew := by
  have hCk : ∀ g args H r H', C g args H = some (r, H') → Keep H H' := fun g args H r H' h => (hC g args H r H' h).1
  unfold dr at h
  split at h
  · rename_i hst
    obtain ⟨tb, act1, H1, hrun, hk⟩ := runD_spec hCk (fun act H tb h => by
      split at h
      · exact (cdL_out (cdL_out (hKc _ _ h)).1).1
      · cases h) _ _ _ _ h
    rw [List.nil_append] at hk
    split at hk
    · rename_i hchk
      have hS := stat_spec hst
      obtain ⟨d1, d2⟩ := hI.drew
      have hcd1 := (cdL_out (cdL_out (hKc _ _ hk)).1).1
      have hP := (cdL_out (cdL_out (hKc _ _ hk)).1).2
      have hP2 := (cdL_out (hKc _ _ hk)).2
      have hcds : ∀ e ∈ tb, e.H'.cd := fun e he => ((hrun.keep hCk).2 e he).cd hcd1
      refine dr_go hN hC hS hrun hF hchk hP hP2 hcds (hR.ext d1) (ds := a.defers) (fun a' G' W' x1 x2 x3 x4 => hQ act1 _ G' a' W' hk (d1.trans x1) (x2.same rfl rfl) x3 x4) os.size (Array.replicate os.size false) 0 a W.drew (by simp) ?_ ?_ ?_ (Nat.zero_le _) ⟨G, H, act, Ext.refl _ _, rfl, d2, hA.ext d1, ⟨rfl, fun j o e s hj _ _ _ hl => ?_, fun s _ => rfl⟩, rfl⟩
      · intro i o ho hl
        have := (List.getElem?_eq_some_iff.1 ho).1
        simp at this
        simp [lst, Array.getD_eq_getD_getElem?, this] at hl
      · unfold open_
        exact Nat.le_trans List.countP_le_length (by simp)
      · intro t e ht _
        have := (List.getElem?_eq_some_iff.1 ht).1
        rw [hrun.len] at this
        simp at this
        simp [lst, Array.getD_eq_getD_getElem?, this]
      · have := (List.getElem?_eq_some_iff.1 hj).1
        simp at this
        simp [lst, Array.getD_eq_getD_getElem?, this] at hl
    · cases hk
  · cases h
theorem wpAny_more {ops : Array Oper} {Q : Exit → Act → World → Prop} : ∀ (g k : Nat) (L : Array Bool) (a : Act) (w : World), wpAny P .any ops Q g L a w → wpAny P .any ops Q (g + k) L a w
  | 0, 0, _, _, _, h => h
  | 0, k + 1, L, a, w, h => by
    rw [Nat.zero_add]
    exact ⟨fun _ => h.2, fun i hi => by rw [h.1] at hi; cases hi⟩
  | g + 1, k, L, a, w, h => by
    rw [show g + 1 + k = (g + k) + 1 by omega]
    exact ⟨h.1, fun i hi => wpOp_mono (fun a w h => wpAny_more g k _ a w h) (h.2 i hi)⟩
theorem Oper.wp_mono2 {o : Oper} {a : Act} {w : World} {K K' : Act → World → Prop} {Q Q' : Exit → Act → World → Prop} (h : ∀ a w, K a w → K' a w) (hq : ∀ e a w, e ≠ .normal → Q e a w → Q' e a w) (hh : o.wp P a w K Q) : o.wp P a w K' Q' := by
  have hl : LetsOut Q → LetsOut Q' := fun ⟨a, w, x⟩ => ⟨a, w, hq _ _ _ (by simp) x⟩
  unfold Oper.wp at *
  generalize (execOp a.eval o).run P w = r at *
  cases r with
  | ok n w' =>
    cases n <;> simp only [Oper.upon] at hh ⊢ <;>
      first
        | exact h _ _ hh
        | exact Calls.mono hh (fun e w'' he => by cases e <;> first | exact h _ _ he | exact hq _ _ _ (by simp) he | exact hl he)
        | exact Rows.mono hh (fun _ _ he => h _ _ he)
  | halt x w' => cases x <;> simp only [Oper.upon] at hh ⊢ <;> first | exact hq _ _ _ (by simp) hh | exact hh
theorem wpAny_split {ops opsH : Array Oper} {n g : Nat} {Q QH : Exit → Act → World → Prop} (hs : Region.sinkB .any ops n = true) (hc : Region.chainB .any ops n = true) (hn : n < ops.size) (hH : ∀ i, i < n → opsH[i]? = ops[i]?) (hHs : opsH.size = n)
    (hg : ∀ i o, i < n → ops[i]? = some o → o.guard = none) (hb : ∀ i o, i < n → ops[i]? = some o → ∀ e ∈ o.after, Region.binds .any e = true → e.on < i) (hQ : ∀ e a w, e ≠ .normal → QH e a w → Q e a w)
    (hend : ∀ L a w, HeadInv .any ops n L → (∀ i, i < n → L.getD i true = true) → QH .normal a w → wpAny P .any ops Q g L a w) :
    ∀ (f : Nat) (LH L : Array Bool) (a : Act) (w : World), LH.size = n → (∀ i, i < n → L.getD i true = LH.getD i true) → HeadInv .any ops n L → wpAny P .any opsH QH f LH a w → wpAny P .any ops Q (f + g) L a w := by
  have hin : ∀ {L : Array Bool} {i : Nat}, i < L.size → L.getD i false = L.getD i true := fun h => by simp [h]
  have rdy : ∀ (LH L : Array Bool), LH.size = n → (∀ i, i < n → L.getD i true = LH.getD i true) → L.size = ops.size → ∀ i, i < n → (i ∈ Region.ready .any ops L ↔ i ∈ Region.ready .any opsH LH) := by
    intro LH L h1 h2 h3 i hi
    have key : ∀ o, ops[i]? = some o → ((∀ e ∈ o.after, Region.binds .any e = true → L.getD e.on false = true) ↔ ∀ e ∈ o.after, Region.binds .any e = true → LH.getD e.on false = true) := by
      intro o ho
      constructor
      · intro h e he hbe
        have := hb i o hi ho e he hbe
        rw [hin (by omega), ← h2 _ (by omega), ← hin (by omega)]; exact h e he hbe
      · intro h e he hbe
        have := hb i o hi ho e he hbe
        rw [hin (by omega), h2 _ (by omega), ← hin (by omega)]; exact h e he hbe
    rw [mem_ready, mem_ready, h2 i hi, hH i hi]
    constructor
    · rintro ⟨q1, o, q2, q3⟩; exact ⟨q1, o, q2, (key o q2).1 q3⟩
    · rintro ⟨q1, o, q2, q3⟩; exact ⟨q1, o, q2, (key o q2).2 q3⟩
  have all : ∀ (LH L : Array Bool), LH.size = n → (∀ i, i < n → L.getD i true = LH.getD i true) → L.size = ops.size → Region.ready .any opsH LH = [] → ∀ i, i < n → L.getD i true = true := by
    intro LH L h1 h2 h3 h4 i
    induction i using Nat.strongRecOn with
    | _ i ih =>
      intro hi
      cases hl : L.getD i true with
      | true => rfl
      | false =>
        exfalso
        have hlt : i < ops.size := by omega
        have hr : i ∈ Region.ready .any ops L := mem_ready.2 ⟨hl, ops[i], Array.getElem?_eq_getElem hlt, fun e he hbe => by
          have := hb i _ hi (Array.getElem?_eq_getElem hlt) e he hbe
          rw [hin (by omega)]
          exact ih e.on this (by omega)⟩
        rw [rdy LH L h1 h2 h3 i hi, h4] at hr
        cases hr
  intro f
  induction f with
  | zero =>
    intro LH L a w h1 h2 inv h
    rw [Nat.zero_add]
    exact hend L a w inv (all LH L h1 h2 inv.size h.1) h.2
  | succ f ih =>
    intro LH L a w h1 h2 inv h
    by_cases hnil : Region.ready .any opsH LH = []
    · have := hend L a w inv (all LH L h1 h2 inv.size hnil) (h.1 hnil)
      rw [Nat.add_comm]
      exact wpAny_more g (f + 1) L a w this
    · obtain ⟨j, hj⟩ := List.exists_mem_of_ne_nil _ hnil
      have hjn : j < n := by
        obtain ⟨_, o, ho, _⟩ := mem_ready.1 hj
        have := (Array.getElem?_eq_some_iff.1 ho).1
        omega
      have hjr := (rdy LH L h1 h2 inv.size j hjn).2 hj
      have hun := (mem_ready.1 hjr).1
      rw [show f + 1 + g = (f + g) + 1 by omega]
      refine ⟨fun h0 => (by rw [h0] at hjr; cases hjr), fun i hi => ?_⟩
      have hin2 : i < n := by
        rcases Nat.lt_or_ge i n with h | h
        · exact h
        · exact absurd hi (tail_waits hs hc hn inv (n - j) j rfl hjn hun i h)
      have hw := h.2 i ((rdy LH L h1 h2 inv.size i hin2).1 hi)
      have hlt : i < ops.size := by omega
      have ho : ops[i]? = some ops[i] := Array.getElem?_eq_getElem hlt
      have hgd := hg i _ hin2 ho
      unfold wpOp at hw ⊢
      rw [hH i hin2, ho] at hw
      rw [ho]
      simp only at hw ⊢
      rw [if_pos (by simp [Region.wanted, hgd])] at hw ⊢
      have hl : LetsOut QH → LetsOut Q := fun ⟨a, w, x⟩ => ⟨a, w, hQ _ _ _ (by simp) x⟩
      refine hw.imp (Oper.wp_mono2 (fun a' w' h' => ih (LH.setIfInBounds i true) (L.setIfInBounds i true) a' w' (by simp [h1]) (fun k hk => ?_) (inv.set hi hin2) h') hQ) fun hx => ⟨hx.1, hl hx.2⟩
      have h2k := h2 k hk
      simp only [Array.getD_eq_getD_getElem?, Array.getElem?_setIfInBounds] at h2k ⊢
      have := inv.size
      by_cases hik : i = k
      · subst hik
        simp [h1, this, hlt, hin2]
      · simp [hik]; simpa using h2k
end
end Go.Proofs.Ytdijakobocnceaa.AE
