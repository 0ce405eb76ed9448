/-
  A call of which only the answer is kept: what it made is let go.
-/
import Derived.Test.YtdijakobocnceaaAEFn
namespace Go.Proofs.Ytdijakobocnceaa.AE
set_option maxRecDepth 100000
open Go.RowKit
def tipClean : Tip → Tip
  | .exact => .exact
  | _ => .no
mutual
/-- The value, without rows that may grow; none if it holds a place of the run's own. -/
def clean : AV → Option AV
  | .v x => some (.v x)
  | .ptr _ _ => none
  | .pi _ _ => none
  | .sl _ _ _ _ => none
  | .dead => none
  | .mp _ => none
  | .lp cells => some (.lp cells)
  | .lst sz xs tip => some (.lst sz xs (tipClean tip))
  | .agg cells => match cleans cells with
    | some l => some (.agg l)
    | none => none
  | .tuple vs => match cleans vs with
    | some l => some (.tuple l)
    | none => none
  | .fn f a b => match cleans a with
    | some x => match cleans b with
      | some y => some (.fn f x y)
      | none => none
    | none => none
def cleans : List AV → Option (List AV)
  | [] => some []
  | x :: l => match clean x with
    | some y => match cleans l with
      | some r => some (y :: r)
      | none => none
    | none => none
end
theorem cleans_cons {x : AV} {l r : List AV} (h : cleans (x :: l) = some r) : ∃ y q, clean x = some y ∧ cleans l = some q ∧ r = y :: q := by
  simp only [cleans] at h
  split at h
  · rename_i y hy
    split at h
    · rename_i q hq
      cases h; exact ⟨y, q, hy, hq, rfl⟩
    · cases h
  · cases h
/-- What was there, and all that does not change any more. -/
def backG (G G' : Gh) : Gh := { δ := G.δ, tip := G.tip, prot := G'.prot, own := G'.own }
section
variable {G G' : Gh} {W W' : World} {H H'' : AH}
theorem clean_rel {x : AV} {c : Value} (h : RV G' W' x c) : ∀ y, clean x = some y → RV (backG G G') W' y c := by
  refine RV.rec (motive_1 := fun x c _ => ∀ y, clean x = some y → RV (backG G G') W' y c) (motive_2 := fun l cs _ => ∀ q, cleans l = some q → RVs (backG G G') W' q cs) ?_ ?_ ?_ ?_ ?_ ?_ ?_ ?_ ?_ ?_ ?_ ?_ ?_ h
  · intro x y h; simp only [clean, Option.some.injEq] at h; subst h; exact .v _
  · intro id off b hd y h; simp [clean] at h
  · intro id off b hd y h; simp [clean] at h
  · intro cells b off cs hr hm y h
    simp only [clean, Option.some.injEq] at h
    subst h
    exact .lp hr hm
  · intro sz xs tip a n cap cs hn hr hs hm hc hx ht y h
    simp only [clean, Option.some.injEq] at h
    subst h
    refine .lst hn hr hs hm hc hx ?_
    cases tip with
    | exact => exact ht
    | _ => trivial
  · intro id off len cap b hd y h; simp [clean] at h
  · intro cells cs hr ih y h
    simp only [clean] at h
    split at h
    · rename_i l hl; cases h; exact .agg (ih l hl)
    · cases h
  · intro cells cs hr ih y h
    simp only [clean] at h
    split at h
    · rename_i l hl; cases h; exact .tuple (ih l hl)
    · cases h
  · intro f a b x y h1 h2 i1 i2 z h
    simp only [clean] at h
    split at h
    · rename_i p hp
      split at h
      · rename_i q hq; cases h; exact .fn (i1 p hp) (i2 q hq)
      · cases h
    · cases h
  · intro id b hd y h; simp [clean] at h
  · intro c y h; simp [clean] at h
  · intro q h; simp only [cleans, Option.some.injEq] at h; subst h; exact .nil
  · intro x c l cs hx hl i1 i2 q h
    obtain ⟨y, q', h1, h2, rfl⟩ := cleans_cons h
    exact .cons (i1 y h1) (i2 q' h2)
theorem back_rels (e : Ext G W G' W') (ht : ∀ t i, G.tip t = some i → G'.tip t = some i) {l : List AV} {cs : List Value} (h : RVs G' W' l cs) : ∀ ds, RVs G W l ds → RVs (backG G G') W' l cs := by
  have hD : ∀ id b d, G'.δ id = some b → G.δ id = some d → (backG G G').δ id = some b := fun id b d h1 h2 => by
    have := e.δ _ _ h2
    rw [h1] at this
    cases this
    exact h2
  refine RVs.rec (motive_1 := fun x c _ => ∀ d, RV G W x d → RV (backG G G') W' x c) (motive_2 := fun l cs _ => ∀ ds, RVs G W l ds → RVs (backG G G') W' l cs) ?_ ?_ ?_ ?_ ?_ ?_ ?_ ?_ ?_ ?_ ?_ ?_ ?_ h
  · intro x d _; exact .v _
  · intro id off b hd d h; cases h with | ptr h2 => exact .ptr (hD _ _ _ hd h2)
  · intro id off b hd d h; cases h with | pi h2 => exact .pi (hD _ _ _ hd h2)
  · intro cells b off cs hr hm d h; exact .lp hr hm
  · intro sz xs tip a n cap cs hn hr hs hm hc hx htk d h
    cases h with
    | lst _ h2 _ _ _ _ htk2 =>
      refine .lst hn hr hs hm hc hx ?_
      cases tip with
      | no => trivial
      | exact => exact htk
      | tp t ver =>
        obtain ⟨i, h3, h4, _⟩ := htk2
        obtain ⟨i', h5, h6, h7⟩ := htk
        rw [ht t i h3] at h5
        cases h5
        exact ⟨i, h3, h6, h7⟩
  · intro id off len cap b hd d h; cases h with | sl h2 => exact .sl (hD _ _ _ hd h2)
  · intro cells cs hr ih d h; cases h with | agg h2 => exact .agg (ih _ h2)
  · intro cells cs hr ih d h; cases h with | tuple h2 => exact .tuple (ih _ h2)
  · intro f a b x y h1 h2 i1 i2 d h; cases h with | fn h3 h4 => exact .fn (i1 _ h3) (i2 _ h4)
  · intro id b hd d h; cases h with | mp h2 => exact .mp (hD _ _ _ hd h2)
  · intro c d _; exact .dead _
  · intro ds _; exact .nil
  · intro x c l cs hx hl i1 i2 ds h; cases h with | cons h3 h4 => exact .cons (i1 _ h3) (i2 _ h4)
theorem restore (hI : Inv G H W) (e : Ext G W G' W') (hI' : Inv G' H'' W') (k : Keep { H with mb := H.blks.length, mc := H.tips.length } H'') : Ext G W (backG G G') W' ∧ Inv (backG G G') H W' := by
  have ht : ∀ t i, G.tip t = some i → G'.tip t = some i := fun t i h => by
    have hlt := hI.tlen t i h
    obtain ⟨i', h1, h2⟩ := e.tip t i h
    rcases h2 with rfl | h2
    · exact h1
    · exfalso
      obtain ⟨ver, hv⟩ : ∃ ver, H.tips[t]? = some ver := ⟨_, List.getElem?_eq_getElem hlt⟩
      obtain ⟨j, h3, h4⟩ := hI.tip t ver hv
      rw [h] at h3
      cases h3
      have hv2 : H''.tips[t]? = some ver := (k.t t hlt hlt).trans hv
      obtain ⟨j, h5, h6⟩ := hI'.tip t ver hv2
      rw [h1] at h5
      cases h5
      omega
  have E : Ext G W (backG G G') W' :=
    { os := e.os, tape := e.tape, output := e.output, size := e.size, δ := fun _ _ h => h, tip := fun t i h => ⟨i, h, .inl rfl⟩, prot := e.prot, cell := e.cell, own := e.own, new := e.new, block := e.block, pnew := e.pnew }
  have f1 : ∀ i b, G.δ i = some b → G'.own b := fun i b h => e.own b (hI.δown i b h)
  have f2 : ∀ i b o, G.δ i = some b → ¬ G'.prot b o := fun i b o h p => hI'.δpr i b o (e.δ i b h) p
  have f3 : ∀ t i, G.tip t = some i → Row W' 0 i.sz i.v i.n i.cells := fun t i h => hI'.row t i (ht t i h)
  refine ⟨E, Inv.mk ?_ hI.inj f1 f2 hI.δlen hI.tip hI.tlen f3 (fun t i b off n cap h hv => hI'.trow t i b off n cap (ht t i h) hv) (fun t i b h hv id h2 => hI'.tδ t i b (ht t i h) hv id (e.δ id b h2)) (fun t t' i i' b h h' hv hv' => hI'.tt t t' i i' b (ht t i h) (ht t' i' h') hv hv') hI'.plt hI'.olt⟩
  intro id t cs hb
  have hlt := (List.getElem?_eq_some_iff.1 hb).1
  obtain ⟨b0, vs0, a1, a2, a3, a4⟩ := hI.blk id t cs hb
  obtain ⟨b1, vs1, c1, c2, c3, c4⟩ := hI'.blk id t cs ((k.b id hlt hlt).trans hb)
  have := e.δ id b0 a1
  rw [c1] at this
  cases this
  exact ⟨_, vs1, a1, c2, back_rels e ht c3 _ a3, c4⟩
end
end Go.Proofs.Ytdijakobocnceaa.AE
