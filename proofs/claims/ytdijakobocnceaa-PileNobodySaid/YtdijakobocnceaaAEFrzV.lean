/-
  A function of data alone whose answer holds slices of blocks that it made: the blocks are let go, and their cells never change any more. Functions that give fresh rows, or write a row, by the library's contracts.
-/
import Derived.Test.YtdijakobocnceaaAEFrz
import Derived.Test.YtdijakobocnceaaAEObj
namespace Go.Proofs.Ytdijakobocnceaa.AE
set_option maxRecDepth 100000
open Go.RowKit
def oneV (x : AV) : Bool := match x with
  | .v u => u.oneCell'
  | _ => false
theorem oneV_gi (l : List Int) : (l.map gi).all oneV = true := by
  induction l with
  | nil => rfl
  | cons z l ih => rw [List.map_cons, List.all_cons, ih]; rfl
theorem BkAt.cellP {W : World} {b : Nat} {t : TypeId} {vs : Array Value} (h : BkAt W b t vs) (hm : Nat.beq t 999998 = false) (j : Nat) (u : Value) (hu : vs[j]? = some u) : W.cell? ⟨b, j, none⟩ = some u := by
  rcases h with ⟨e, fr, h1, _⟩ | ⟨rfl, _⟩ | ⟨rfl, cur, e, h1, h2, h3⟩
  · simp [World.cell?, h1, hu]
  · cases hm
  · have hj := (Array.getElem?_eq_some_iff.1 hu).1
    have h4 : (cur.toList.take vs.size)[j]? = some u := by rw [h3]; simpa using hu
    rw [List.getElem?_take_of_lt hj] at h4
    simp only [World.cell?, h1]
    simpa using h4
mutual
/-- The answer with lists (of elements of one cell) for slices of the run's own. -/
def frzV (h : AH) : AV → Option AV
  | .v x => some (.v x)
  | .sl id off n cap => match h.blks[id]? with
    | some b => match decide (Nat.beq b.1 999998 = false ∧ off = 0 ∧ n ≤ b.2.length ∧ n ≤ cap ∧ cap ≤ maxLen ∧ b.2.all oneV = true) with
      | true => some (.lst 1 (b.2.take n) .no)
      | false => none
    | none => none
  | .lst sz xs tip => some (.lst sz xs (tipClean tip))
  | .lp cells => some (.lp cells)
  | .agg cells => match frzVs h cells with
    | some l => some (.agg l)
    | none => none
  | .tuple vs => match frzVs h vs with
    | some l => some (.tuple l)
    | none => none
  | _ => none
def frzVs (h : AH) : List AV → Option (List AV)
  | [] => some []
  | x :: l => match frzV h x with
    | some y => match frzVs h l with
      | some r => some (y :: r)
      | none => none
    | none => none
end
theorem frzVs_cons {h : AH} {x : AV} {l r : List AV} (e : frzVs h (x :: l) = some r) : ∃ y q, frzV h x = some y ∧ frzVs h l = some q ∧ r = y :: q := by
  simp only [frzVs] at e
  split at e
  · rename_i y hy
    split at e
    · rename_i q hq
      cases e; exact ⟨y, q, hy, hq, rfl⟩
    · cases e
  · cases e
theorem oneC_cells {u : Value} (h : u.oneCell' = true) : (AV.v u).cells = [.v u] := by
  cases u <;> first | rfl | cases h
theorem oneV_map : ∀ {l : List AV}, l.all oneV = true → ∃ us : List Value, l = us.map AV.v ∧ ∀ u ∈ us, u.oneCell' = true
  | [], _ => ⟨[], rfl, fun u hu => by cases hu⟩
  | x :: l, h => by
    rw [List.all_cons, Bool.and_eq_true] at h
    obtain ⟨us, e, h1⟩ := oneV_map h.2
    cases x with
    | v u => exact ⟨u :: us, by rw [e]; rfl, fun v hv => by
        rcases List.mem_cons.1 hv with rfl | hv
        · exact h.1
        · exact h1 v hv⟩
    | _ => cases h.1
theorem vals_mapV (us : List Value) : vals? (us.map AV.v) = some us := by
  induction us with
  | nil => rfl
  | cons u l ih => simp [vals?, AV.val?, ih]
theorem frzV_rel {G1 G' : Gh} {H1 : AH} {W : World} (hI : Inv G1 H1 W) (hp : ∀ b o, G1.prot b o → G'.prot b o) (hX : ∀ id b o, G1.δ id = some b → G'.prot b o) {x : AV} {c : Value} (h : RV G1 W x c) : ∀ y, frzV H1 x = some y → RV G' W y c := by
  refine RV.rec (motive_1 := fun x c _ => ∀ y, frzV H1 x = some y → RV G' W y c) (motive_2 := fun l cs _ => ∀ q, frzVs H1 l = some q → RVs G' W q cs) ?_ ?_ ?_ ?_ ?_ ?_ ?_ ?_ ?_ ?_ ?_ ?_ ?_ h
  · intro x y h; simp only [frzV, Option.some.injEq] at h; subst h; exact .v _
  · intro id off b hd y h; simp [frzV] at h
  · intro id off b hd y h; simp [frzV] at h
  · intro cells b off cs hr hm y h
    simp only [frzV, Option.some.injEq] at h
    subst h
    exact .lp (hr.mono hp) (hm.mono hp)
  · intro sz xs tip a n cap cs hn hr hs hm hc hx ht y h
    simp only [frzV, Option.some.injEq] at h
    subst h
    refine .lst hn (hr.mono hp) hs (hm.mono hp) hc hx ?_
    cases tip with
    | exact => exact ht
    | _ => trivial
  · intro id off n cap b hd y h
    simp only [frzV] at h
    split at h
    · rename_i bk hbk
      split at h
      · rename_i hc
        obtain ⟨h0, rfl, h1, h2, h3, h4⟩ := of_decide_eq_true hc
        cases h
        obtain ⟨us, hus, hone⟩ := oneV_map h4
        obtain ⟨b', vs, e1, e2, e3, e4⟩ := hI.blk id bk.1 bk.2 hbk
        rw [hd] at e1
        cases e1
        rw [hus] at e3 h1 ⊢
        have hvs : vs.toList = us := vals_rel e3 (vals_mapV us)
        rw [← List.map_take]
        have hl : (us.take n).length = n := by rw [List.length_take]; rw [List.length_map] at h1; omega
        refine .lst (cs := us.take n) (by rw [List.length_map, hl]) ?_ (fun x hx => ?_) ⟨fun u hu => hone u (List.mem_of_mem_take hu), fun _ => ⟨b, 0, rfl, fun j u hu => ⟨hX id b _ hd, ?_⟩⟩⟩ h2 h3 trivial
        · rw [flat_v _ (fun u hu => oneC_cells (hone u (List.mem_of_mem_take hu)))]
          exact PVs.map_v _
        · obtain ⟨u, hu, rfl⟩ := List.mem_map.1 hx
          rw [oneC_cells (hone u (List.mem_of_mem_take hu))]; rfl
        · rw [Nat.zero_add]
          refine e2.cellP h0 j u ?_
          have hj : us[j]? = some u := by
            rw [List.getElem?_take] at hu
            split at hu
            · exact hu
            · cases hu
          rw [← hvs] at hj
          simpa using hj
      · cases h
    · cases h
  · intro cells cs hr ih y h
    simp only [frzV] at h
    split at h
    · rename_i l hl; cases h; exact .agg (ih l hl)
    · cases h
  · intro cells cs hr ih y h
    simp only [frzV] at h
    split at h
    · rename_i l hl; cases h; exact .tuple (ih l hl)
    · cases h
  · intro f a b x y h1 h2 i1 i2 z h; simp [frzV] at h
  · intro id b hd y h; simp [frzV] at h
  · intro c y h; simp [frzV] at h
  · intro q h; simp only [frzVs, Option.some.injEq] at h; subst h; exact .nil
  · intro x c l cs hx hl i1 i2 q h
    obtain ⟨y, q', h1, h2, rfl⟩ := frzVs_cons h
    exact .cons (i1 y h1) (i2 q' h2)
/-- A data prim by a run whose answer holds slices of blocks that it made. -/
theorem frzV_ok {ro : Nat → Option (List Value)} {g : FuncId} {val : List AV → AV} {ok : List AV → Bool} (hf : ∃ fn, Try.prog.funcs[g]? = some fn ∧ fn.body.isSome = true)
    (h : ∀ args, ok args = true → ∃ ar, cleans args = some ar ∧ Fs Try.prog ro g ar (hp [] []) fun r H' => ∃ y, frzV H' r = some y ∧ Le y (val args)) :
    ∀ args H r H', tot? val ok args H = some (r, H') → HSound1 Try.prog ro g args H r H' := by
  intro args H r H' hd
  unfold tot? at hd
  cases hd
  refine ⟨⟨fun x => (cdb_iff.1 x).1, rfl, rfl, rfl, Nat.le_refl _, Nat.le_refl _, fun _ _ _ => rfl, fun _ _ _ => rfl⟩, fun hcd G W cargs hI hR hA => ⟨hf, ?_⟩⟩
  obtain ⟨ar, has, hfs⟩ := h args (cdb_iff.1 hcd).2
  refine (hfs (bareG G) W cargs (inv_bare hI) (ro_bare hR) (cleans_to (G := G) (G2 := bareG G) (fun _ _ p => p) hA _ has)).2.mono ?_
  rintro e W' ⟨c, G1', r', H1, rfl, ⟨y, hr, hle⟩, e1, e2, e3⟩
  have hX : ∀ k, (∃ id, G1'.δ id = some k) → W.heap.size ≤ k ∧ k < W'.heap.size := by
    rintro k ⟨id, hk⟩
    refine ⟨?_, e2.δlt hk⟩
    rcases Nat.lt_or_ge k W.heap.size with hlt | hge
    · exact (e1.new k hlt (e2.δown id k hk)).elim
    · exact hge
  obtain ⟨G', x1, x2, x3, x4⟩ := hI.dataX e1 e2 (fun k => ∃ id, G1'.δ id = some k) hX
  exact ⟨c, G', rfl, x1, x2.same rfl rfl, hle _ _ _ (frzV_rel e2 x3 (fun id b o hd => x4 b o ⟨id, hd⟩) e3 y hr)⟩
/-- A function that hands back a fresh row of plain cells, by its contract. -/
theorem fresh_fs {ro : Nat → Option (List Value)} {g : FuncId} {args : List AV} {us : List Value} (hf : ∃ fn, Try.prog.funcs[g]? = some fn ∧ fn.body.isSome = true) (hus : ∀ u ∈ us, u.oneCell' = true)
    (h : ∀ G W (cargs : Array Value), Inv G (hp [] []) W → Ro ro G W → RVs G W args cargs.toList → Calls Try.prog g cargs W fun e W' => ∃ v b off cap, e = .returned v ∧ (v = .slice none 0 0 ∧ us = [] ∨ v = .slice (some ⟨b, off, none⟩) us.length cap ∧ W.heap.size ≤ b ∧ b < W'.heap.size ∧ us.length ≤ cap ∧ cap ≤ maxLen ∧ ∀ (j : Nat) (u : Value), us[j]? = some u → W'.cell? ⟨b, off + j, none⟩ = some u) ∧ Below W.heap.size W W') :
    Fs Try.prog ro g args (hp [] []) fun r _ => r = .lst 1 (us.map AV.v) .no := by
  intro G W cargs hI hR hA
  refine ⟨hf, (h G W cargs hI hR hA).mono ?_⟩
  rintro e W' ⟨v, b, off, cap, rfl, hv, hB⟩
  rcases hv with ⟨rfl, rfl⟩ | ⟨rfl, h1, h2, h3, h4, h5⟩
  · exact ⟨_, G, _, _, rfl, rfl, (hI.below hB).1, (hI.below hB).2, .lst (cs := []) rfl .nil (fun x hx => by cases hx) ⟨by simp, fun hne => absurd rfl hne⟩ (Nat.le_refl _) (Nat.zero_le _) trivial⟩
  · obtain ⟨G', x1, x2, _, x4⟩ := hI.dataX ((inv_bare hI).below hB).1 ((inv_bare hI).below hB).2 (fun k => k = b) (fun k hk => by subst hk; exact ⟨h1, h2⟩)
    refine ⟨_, G', _, _, rfl, rfl, x1, x2, .lst (cs := us) (by simp) ?_ (fun x hx => ?_) ⟨hus, fun _ => ⟨b, off, rfl, fun j u hu => ⟨x4 b _ rfl, h5 j u hu⟩⟩⟩ h3 h4 trivial⟩
    · rw [flat_v _ (fun u hu => oneC_cells (hus u hu))]
      exact PVs.map_v _
    · obtain ⟨u, hu, rfl⟩ := List.mem_map.1 hx
      rw [oneC_cells (hus u hu)]; rfl
end Go.Proofs.Ytdijakobocnceaa.AE
