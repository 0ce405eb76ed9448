/-
  What is known otherwise of a function of data alone: its answer is data, and nothing else is touched.
-/
import Derived.Test.YtdijakobocnceaaAEOwn
namespace Go.Proofs.Ytdijakobocnceaa.AE
set_option maxRecDepth 100000
open Go.RowKit
section
variable {pr pr2 : Nat → Nat → Prop} {W : World}
theorem Mem.mono {a : Option Addr} {cs : List Value} (h : Mem pr W a cs) (hp : ∀ b o, pr b o → pr2 b o) : Mem pr2 W a cs :=
  ⟨h.1, fun hne => by
    obtain ⟨b, off, ea, hc⟩ := h.2 hne
    exact ⟨b, off, ea, fun j u hu => ⟨hp _ _ (hc j u hu).1, (hc j u hu).2⟩⟩⟩
theorem PV.mono (hp : ∀ b o, pr b o → pr2 b o) {x : AV} {c : Value} (h : PV pr W x c) : PV pr2 W x c :=
  PV.rec (motive_1 := fun x c _ => PV pr2 W x c) (motive_2 := fun l cs _ => PVs pr2 W l cs) (fun _ => .v _) (fun hn _ hs hm hc hx ht ih => .lst hn ih hs (hm.mono hp) hc hx ht) (fun _ ih => .agg ih) .nil (fun _ _ i1 i2 => .cons i1 i2) h
theorem PVs.mono (hp : ∀ b o, pr b o → pr2 b o) {l : List AV} {cs : List Value} (h : PVs pr W l cs) : PVs pr2 W l cs := by
  induction l generalizing cs with
  | nil => cases h; exact .nil
  | cons x l ih => cases h with | cons h t => exact .cons (h.mono hp) (ih t)
end
theorem clean_to {G G2 : Gh} {W : World} (hp : ∀ b o, G.prot b o → G2.prot b o) {x : AV} {c : Value} (h : RV G W x c) : ∀ y, clean x = some y → RV G2 W y c := by
  refine RV.rec (motive_1 := fun x c _ => ∀ y, clean x = some y → RV G2 W y c) (motive_2 := fun l cs _ => ∀ q, cleans l = some q → RVs G2 W q cs) ?_ ?_ ?_ ?_ ?_ ?_ ?_ ?_ ?_ ?_ ?_ ?_ ?_ h
  · intro x y h; simp only [clean, Option.some.injEq] at h; subst h; exact .v _
  · intro id off b hd y h; simp [clean] at h
  · intro id off b hd y h; simp [clean] at h
  · intro cells b off cs hr hm y h
    simp only [clean, Option.some.injEq] at h
    subst h
    exact .lp (hr.mono hp) (hm.mono hp)
  · intro sz xs tip a n cap cs hn hr hs hm hc hx ht y h
    simp only [clean, Option.some.injEq] at h
    subst h
    refine .lst hn (hr.mono hp) hs (hm.mono hp) hc hx ?_
    cases tip with
    | exact => exact ht
    | _ => trivial
  · intro id off len cap b hd y h; simp [clean] at h
  · intro cells cs hr ih y h
    simp only [clean] at h
    split at h
    · rename_i l hl; cases h; exact .agg (ih l hl)
    · cases h
  · intro cells cs hr ih y h
    simp only [clean] at h
    split at h
    · rename_i l hl; cases h; exact .tuple (ih l hl)
    · cases h
  · intro f a b x y h1 h2 i1 i2 z h
    simp only [clean] at h
    split at h
    · rename_i p hp
      split at h
      · rename_i q hq; cases h; exact .fn (i1 p hp) (i2 q hq)
      · cases h
    · cases h
  · intro id b hd y h; simp [clean] at h
  · intro c y h; simp [clean] at h
  · intro q h; simp only [cleans, Option.some.injEq] at h; subst h; exact .nil
  · intro x c l cs hx hl i1 i2 q h
    obtain ⟨y, q', h1, h2, rfl⟩ := cleans_cons h
    exact .cons (i1 y h1) (i2 q' h2)
theorem cleans_to {G G2 : Gh} {W : World} (hp : ∀ b o, G.prot b o → G2.prot b o) : ∀ {l : List AV} {cs : List Value}, RVs G W l cs → ∀ q, cleans l = some q → RVs G2 W q cs
  | [], _, h, q, hq => by cases h; simp only [cleans, Option.some.injEq] at hq; subst hq; exact .nil
  | x :: l, _, h, q, hq => by
    cases h with
    | cons h t =>
      obtain ⟨y, q', h1, h2, rfl⟩ := cleans_cons hq
      exact .cons (clean_to hp h y h1) (cleans_to hp t q' h2)
/-- What a call with nothing of the run's own sees. -/
def bareG (G : Gh) : Gh := { δ := fun _ => none, tip := fun _ => none, prot := G.prot, own := fun _ => False }
theorem inv_bare {G : Gh} {H : AH} {W : World} (h : Inv G H W) : Inv (bareG G) (hp [] []) W where
  blk := fun id t cs h => by simp [hp] at h
  inj := fun i j b h => by cases h
  δown := fun i b h => by cases h
  δpr := fun i b o h => by cases h
  δlen := fun i b h => by cases h
  tip := fun t v h => by simp [hp] at h
  tlen := fun t i h => by cases h
  row := fun t i h => by cases h
  trow := fun t i b off n cap h => by cases h
  tδ := fun t i b h => by cases h
  tt := fun t t' i i' b h => by cases h
  plt := h.plt
  olt := fun b h => h.elim
theorem Inv.data {G G1' : Gh} {H H1 : AH} {W W' : World} (h : Inv G H W) (e : Ext (bareG G) W G1' W') (h1 : Inv G1' H1 W') :
    ∃ G', Ext G W G' W' ∧ Inv G' H W' ∧ ∀ b o, G1'.prot b o → G'.prot b o := by
  have hblk : ∀ b, b < W.heap.size → W'.heap[b]? = W.heap[b]? := fun b hb => e.block b hb (fun h => h)
  have hold : ∀ b o, b < W.heap.size → (G.prot b o ∨ G1'.prot b o) → G.prot b o := fun b o hb p => by
    rcases p with p | p
    · exact p
    · exact e.pnew b o hb (fun h => h) p
  let G' : Gh := { G with prot := fun b o => G.prot b o ∨ G1'.prot b o }
  have E : Ext G W G' W' :=
    { os := e.os, tape := e.tape, output := e.output, size := e.size, δ := fun _ _ h => h, tip := fun _ i h => ⟨i, h, .inl rfl⟩, prot := fun _ _ p => .inl p,
      cell := fun b o p => cell_heap (hblk b (h.plt b o p)), own := fun _ h => h, new := fun _ _ h => h, block := fun b hb _ => hblk b hb, pnew := fun b o hb _ p => hold b o hb p }
  refine ⟨G', E, Inv.mk (fun id t cs hbk => ?_) h.inj h.δown (fun i b o hi p => h.δpr i b o hi (hold b o (h.δlt hi) p)) h.δlen h.tip h.tlen (fun t i hi => ?_) (fun t i b off n cap hi hv => ?_) h.tδ h.tt (fun b o p => ?_) (fun b p => Nat.lt_of_lt_of_le (h.olt b p) e.size), fun b o p => .inr p⟩
  · obtain ⟨b, vs, e1, e2, e3, e4⟩ := h.blk id t cs hbk
    exact ⟨b, vs, e1, e2.of (hblk b (h.δlt e1)), e3.ext E, e4⟩
  · exact (h.row t i hi).below ⟨e.os, e.tape, e.output, e.size, fun b hb => hblk b hb⟩
  · obtain ⟨x1, x2, x3, x4⟩ := h.trow t i b off n cap hi hv
    exact ⟨x1, x2, fun o ho => .inl (x3 o ho), fun o ho p => x4 o ho (hold b o (h.olt b x2) p)⟩
  · rcases p with p | p
    · exact Nat.lt_of_lt_of_le (h.plt b o p) e.size
    · exact h1.plt b o p
theorem ro_bare {ro : Nat → Option (List Value)} {G : Gh} {W : World} (h : Ro ro G W) : Ro ro (bareG G) W := fun b cs hb => ⟨(h b cs hb).1, fun o => o, (h b cs hb).2.2⟩
def data? (spec : List AV → Option (AV × Bool)) (args : List AV) (H : AH) : Ans := match cleans args with
  | some ar => match spec ar with
    | some rb => some (rb.1, { H with cd := cdb H.cd rb.2 })
    | none => none
  | none => none
theorem data_ok {ro : Nat → Option (List Value)} {g : FuncId} {spec : List AV → Option (AV × Bool)} (hf : ∃ fn, Try.prog.funcs[g]? = some fn ∧ fn.body.isSome = true)
    (h : ∀ args r, spec args = some (r, true) → Fs Try.prog ro g args (hp [] []) fun r' _ => clean r' = some r) :
    ∀ args H r H', data? spec args H = some (r, H') → HSound1 Try.prog ro g args H r H' := by
  intro args H r H' hd
  unfold data? at hd
  split at hd
  · rename_i ar has
    split at hd
    · rename_i rb hs
      obtain ⟨r0, b⟩ := rb
      cases hd
      refine ⟨⟨fun x => (cdb_iff.1 x).1, rfl, rfl, rfl, Nat.le_refl _, Nat.le_refl _, fun _ _ _ => rfl, fun _ _ _ => rfl⟩, fun hcd G W cargs hI hR hA => ⟨hf, ?_⟩⟩
      have hb : b = true := (cdb_iff.1 hcd).2
      subst hb
      refine ((h _ _ hs) (bareG G) W cargs (inv_bare hI) (ro_bare hR) (cleans_to (G := G) (G2 := bareG G) (fun _ _ p => p) hA _ has)).2.mono ?_
      rintro e W' ⟨c, G1', r', H1, rfl, hr, e1, e2, e3⟩
      obtain ⟨G', x1, x2, x3⟩ := hI.data e1 e2
      exact ⟨c, G', rfl, x1, x2.same rfl rfl, clean_to x3 e3 _ hr⟩
    · cases hd
  · cases hd
theorem data_flat (spec : List AV → Option (AV × Bool)) : FlatP (data? spec) := by
  intro args H r h e b t mb mc
  unfold data? at e ⊢
  split at e
  · split at e
    · cases e; rfl
    · cases e
  · cases e
theorem pure_flat (spec : List Value → Option (Value × Bool)) : FlatP (pure? spec) := by
  intro args H r h e b t mb mc
  unfold pure? at e ⊢
  split at e
  · split at e
    · cases e; rfl
    · cases e
  · cases e
end Go.Proofs.Ytdijakobocnceaa.AE
