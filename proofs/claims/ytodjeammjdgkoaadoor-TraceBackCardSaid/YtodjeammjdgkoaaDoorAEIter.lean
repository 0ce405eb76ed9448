/-
  Loops over a text's runes: the iterator lies beside the run's own memory.
-/
import Derived.Test.YtodjeammjdgkoaaDoorAEList
import Derived.Lib.OthersKept
namespace Go.Proofs.YtodjeammjdgkoaaDoor.AE
open Go.RowKit
/-- A text's iterator in block k, of which the run's memory knows nothing. -/
structure It (G : Gh) (W : World) (k : Nat) (s : ByteArray) (p : Nat) : Prop where
  heap : W.heap[k]? = some (.stringIter s p)
  own : ¬ G.own k
  prot : ∀ o, ¬ G.prot k o
section
variable {G : Gh} {W : World} {G' : Gh} {W' : World} {k : Nat} {s : ByteArray} {p : Nat}
theorem It.lt (h : It G W k s p) : k < W.heap.size := (Array.getElem?_eq_some_iff.1 h.heap).1
theorem It.ext (h : It G W k s p) (e : Ext G W G' W') : It G' W' k s p :=
  ⟨(e.block k h.lt h.own).trans h.heap, fun o => h.own (e.new k h.lt o), fun o q => h.prot o (e.pnew k o h.lt h.own q)⟩
/-- What the run has done since, as far as the blocks below B tell. -/
structure ExtB (B : Nat) (G : Gh) (W : World) (G' : Gh) (W' : World) : Prop where
  os : W'.os = W.os
  tape : W'.tape = W.tape
  output : W'.output = W.output
  size : W.heap.size ≤ W'.heap.size
  δ : ∀ id b, G.δ id = some b → G'.δ id = some b
  tip : ∀ t i, G.tip t = some i → ∃ i', G'.tip t = some i' ∧ (i' = i ∨ i.ver < i'.ver)
  prot : ∀ b o, G.prot b o → G'.prot b o
  cell : ∀ b o, G.prot b o → W'.cell? ⟨b, o, none⟩ = W.cell? ⟨b, o, none⟩
  own : ∀ b, G.own b → G'.own b
  new : ∀ b, b < B → G'.own b → G.own b
  block : ∀ b, b < B → ¬ G.own b → W'.heap[b]? = W.heap[b]?
  pnew : ∀ b o, b < B → ¬ G.own b → G'.prot b o → G.prot b o
theorem Ext.toB {B : Nat} (e : Ext G W G' W') (h : B ≤ W.heap.size) : ExtB B G W G' W' :=
  ⟨e.os, e.tape, e.output, e.size, e.δ, e.tip, e.prot, e.cell, e.own, fun b hb => e.new b (Nat.lt_of_lt_of_le hb h), fun b hb => e.block b (Nat.lt_of_lt_of_le hb h), fun b o hb => e.pnew b o (Nat.lt_of_lt_of_le hb h)⟩
theorem ExtB.toExt (e : ExtB W.heap.size G W G' W') : Ext G W G' W' := ⟨e.os, e.tape, e.output, e.size, e.δ, e.tip, e.prot, e.cell, e.own, e.new, e.block, e.pnew⟩
theorem ExtB.trans {B : Nat} {G'' : Gh} {W'' : World} (h : ExtB B G W G' W') (k : ExtB B G' W' G'' W'') : ExtB B G W G'' W'' where
  os := k.os.trans h.os
  tape := k.tape.trans h.tape
  output := k.output.trans h.output
  size := Nat.le_trans h.size k.size
  δ := fun id b e => k.δ id b (h.δ id b e)
  tip := fun t i e => by
    obtain ⟨i', e', r⟩ := h.tip t i e
    obtain ⟨i'', e'', r'⟩ := k.tip t i' e'
    refine ⟨i'', e'', ?_⟩
    rcases r with rfl | r
    · exact r'
    · rcases r' with rfl | r'
      · exact .inr r
      · exact .inr (Nat.lt_trans r r')
  prot := fun b o p => k.prot b o (h.prot b o p)
  cell := fun b o p => (k.cell b o (h.prot b o p)).trans (h.cell b o p)
  own := fun b o => k.own b (h.own b o)
  new := fun b hb o => h.new b hb (k.new b hb o)
  block := fun b hb o => (k.block b hb (fun o' => o (h.new b hb o'))).trans (h.block b hb o)
  pnew := fun b q hb o p => h.pnew b q hb o (k.pnew b q hb (fun o' => o (h.new b hb o')) p)
theorem Mem.at' {a : Option Addr} {cs : List Value} (h : Mem G.prot W a cs) (e : ∀ b o, G.prot b o → W'.cell? ⟨b, o, none⟩ = W.cell? ⟨b, o, none⟩) : Mem G.prot W' a cs :=
  ⟨h.1, fun hne => by
    obtain ⟨b, off, ea, hc⟩ := h.2 hne
    exact ⟨b, off, ea, fun j u hu => ⟨(hc j u hu).1, (e _ _ (hc j u hu).1).trans (hc j u hu).2⟩⟩⟩
theorem PV.at' {x : AV} {c : Value} (h : PV G.prot W x c) (e : ∀ b o, G.prot b o → W'.cell? ⟨b, o, none⟩ = W.cell? ⟨b, o, none⟩) : PV G.prot W' x c :=
  PV.rec (motive_1 := fun x c _ => PV G.prot W' x c) (motive_2 := fun l cs _ => PVs G.prot W' l cs) (fun _ => .v _) (fun hn _ hs hm hc hx ht ih => .lst hn ih hs (hm.at' e) hc hx ht) (fun _ ih => .agg ih) .nil (fun _ _ i1 i2 => .cons i1 i2) h
theorem PVs.at' {l : List AV} {cs : List Value} (h : PVs G.prot W l cs) (e : ∀ b o, G.prot b o → W'.cell? ⟨b, o, none⟩ = W.cell? ⟨b, o, none⟩) : PVs G.prot W' l cs := by
  induction l generalizing cs with
  | nil => cases h; exact .nil
  | cons x l ih => cases h with | cons h t => exact .cons (h.at' e) (ih t)
theorem RV.at' {x : AV} {c : Value} (h : RV G W x c) (e : ∀ b o, G.prot b o → W'.cell? ⟨b, o, none⟩ = W.cell? ⟨b, o, none⟩) : RV G W' x c :=
  RV.rec (motive_1 := fun x c _ => RV G W' x c) (motive_2 := fun l cs _ => RVs G W' l cs) (fun _ => .v _) (fun h => .ptr h) (fun h => .pi h) (fun h hm => .lp (h.at' e) (hm.at' e))
    (fun hn h hs hm hc hx ht => .lst hn (h.at' e) hs (hm.at' e) hc hx ht) (fun h => .sl h) (fun _ ih => .agg ih) (fun _ ih => .tuple ih) (fun _ _ i1 i2 => .fn i1 i2) (fun h => .mp h) (fun c => .dead c) .nil (fun _ _ i1 i2 => .cons i1 i2) h
theorem RVs.at' {l : List AV} {cs : List Value} (h : RVs G W l cs) (e : ∀ b o, G.prot b o → W'.cell? ⟨b, o, none⟩ = W.cell? ⟨b, o, none⟩) : RVs G W' l cs := by
  induction l generalizing cs with
  | nil => cases h; exact .nil
  | cons x l ih => cases h with | cons h t => exact .cons (h.at' e) (ih t)
theorem It.moved {H : AH} {ro : Nat → Option (List Value)} {act : List AV} {cs : List Value} {B : Nat} (h : It G W k s p) (hB : B ≤ k) (hI : Inv G H W) (hR : Ro ro G W) (hA : RVs G W act cs) (q : Nat) :
    ExtB B G W G (W.iterAt k s q) ∧ Inv G H (W.iterAt k s q) ∧ Ro ro G (W.iterAt k s q) ∧ RVs G (W.iterAt k s q) act cs ∧ It G (W.iterAt k s q) k s q := by
  have ho : ∀ j, j ≠ k → (W.iterAt k s q).heap[j]? = W.heap[j]? := fun j hj => Lib.iterAt_other W k j s q hj
  have hc : ∀ b o, b ≠ k → (W.iterAt k s q).cell? ⟨b, o, none⟩ = W.cell? ⟨b, o, none⟩ := fun b o hb => cell_heap (ho b hb)
  have hp : ∀ b o, G.prot b o → b ≠ k := fun b o x e => by subst e; exact h.prot o x
  have hcp : ∀ b o, G.prot b o → (W.iterAt k s q).cell? ⟨b, o, none⟩ = W.cell? ⟨b, o, none⟩ := fun b o x => hc b o (hp b o x)
  have hsz : (W.iterAt k s q).heap.size = W.heap.size := Lib.iterAt_size W k s q
  have hg : W.grownBy (W.iterAt k s q) (some k) := ⟨rfl, rfl, rfl, by rw [hsz]; exact Nat.le_refl _, fun j _ hj => ho j (fun e => hj (by rw [e]))⟩
  refine ⟨⟨rfl, rfl, rfl, by rw [hsz]; exact Nat.le_refl _, fun _ _ x => x, fun _ i x => ⟨i, x, .inl rfl⟩, fun _ _ x => x, hcp, fun _ x => x, fun _ _ x => x, fun b hb _ => ho b (by omega), fun _ _ _ _ x => x⟩, ?_, ?_, hA.at' hcp, ⟨Lib.iterAt_heap W k s p q h.heap, h.own, h.prot⟩⟩
  · refine Inv.mk (fun id t cs hb => ?_) hI.inj hI.δown hI.δpr hI.δlen hI.tip hI.tlen (fun t i hi => (hI.row t i hi).kept hg ?_) hI.trow hI.tδ hI.tt (fun b o x => by rw [hsz]; exact hI.plt b o x) (fun b x => by rw [hsz]; exact hI.olt b x)
    · obtain ⟨b, vs, e1, e2, e3, e4⟩ := hI.blk id t cs hb
      exact ⟨b, vs, e1, e2.of (ho b (fun e => by subst e; exact h.own (hI.δown _ _ e1))), e3.at' hcp, e4⟩
    · cases ev : i.v with
      | slice a n cap =>
        cases a with
        | none => exact .inl rfl
        | some a =>
          refine .inr fun e => ?_
          have hb : a.block = k := by simpa [Value.ownBlock] using e
          rcases (hI.row t i hi).val with ⟨h0, _⟩ | ⟨g, off, cap', h0, _⟩
          · rw [ev] at h0; cases h0
          · rw [ev] at h0
            cases h0
            have := (hI.trow t i _ _ _ _ hi ev).2.1
            rw [show g = k from hb] at this
            exact h.own this
      | _ => exact .inl rfl
  · intro b cs hb
    obtain ⟨r1, r2, t, r3⟩ := hR b cs hb
    have hne : b ≠ k := fun e => by subst e; rw [h.heap] at r3; cases r3
    exact ⟨fun j u hu => ⟨(r1 j u hu).1, (hc b j hne).trans (r1 j u hu).2⟩, r2, t, (ho b hne).trans r3⟩
end
/-- Triples beside an iterator: what was there before it is bounded by B. -/
def TrI (P : Program) (ro : Nat → Option (List Value)) (B k : Nat) (s : ByteArray) (c : Code) (act : List AV) (H : AH) (p : Nat) (Q : Exit → List AV → AH → Nat → Prop) : Prop :=
  ∀ G W (a : Act), Inv G H W → Ro ro G W → RVs G W act a.tmps.toList → It G W k s p →
    c.wp P (fun e a' W' => ∃ act' H' G' p', Q e act' H' p' ∧ ExtB B G W G' W' ∧ Inv G' H' W' ∧ Ro ro G' W' ∧ RVs G' W' act' a'.tmps.toList ∧ It G' W' k s p' ∧ a'.defers = a.defers) a W
def nxI (N : List AV → AH → Nat → Prop) (Q : Exit → List AV → AH → Nat → Prop) : Exit → List AV → AH → Nat → Prop := fun e a h p => match e with
  | .normal => N a h p
  | e => Q e a h p
def TrlI (P : Program) (ro : Nat → Option (List Value)) (B k : Nat) (s : ByteArray) : List Code → List AV → AH → Nat → (Exit → List AV → AH → Nat → Prop) → Prop
  | [], act, H, p, Q => Q .normal act H p
  | x :: l, act, H, p, Q => TrI P ro B k s x act H p (nxI (fun a h p => TrlI P ro B k s l a h p Q) Q)
section
variable {P : Program} {ro : Nat → Option (List Value)} {B k : Nat} {s : ByteArray} {act : List AV} {H : AH} {p : Nat} {Q R : Exit → List AV → AH → Nat → Prop}
theorem TrI.mono {c : Code} (h : TrI P ro B k s c act H p Q) (hq : ∀ e a h p, Q e a h p → R e a h p) : TrI P ro B k s c act H p R :=
  fun G W a hI hR hA hT => wp_mono (h G W a hI hR hA hT) fun _ _ _ ⟨act', H', G', p', q, r⟩ => ⟨act', H', G', p', hq _ _ _ _ q, r⟩
theorem TrI.of_Tr {c : Code} (hB : B ≤ k) (h : Tr P ro c act H fun e a h => Q e a h p) : TrI P ro B k s c act H p Q :=
  fun G W a hI hR hA hT => wp_mono (h G W a hI hR hA) fun _ _ _ ⟨act', H', G', q, e, i, r, d⟩ => ⟨act', H', G', p, q, e.toB (Nat.le_trans hB (Nat.le_of_lt hT.lt)), i, hR.ext e, r, hT.ext e, d⟩
theorem nxI_mono {N M : List AV → AH → Nat → Prop} (h1 : ∀ a h p, N a h p → M a h p) (h2 : ∀ e a h p, Q e a h p → R e a h p) : ∀ e a h p, nxI N Q e a h p → nxI M R e a h p := by
  intro e a h p q
  cases e <;> first | exact h1 _ _ _ q | exact h2 _ _ _ _ q
theorem TrlI.mono (hq : ∀ e a h p, Q e a h p → R e a h p) : ∀ {l : List Code} {act : List AV} {H : AH} {p : Nat}, TrlI P ro B k s l act H p Q → TrlI P ro B k s l act H p R
  | [], _, _, _, h => hq _ _ _ _ h
  | x :: l, _, _, _, h => TrI.mono h (nxI_mono (fun a h p q => TrlI.mono hq q) hq)
theorem TrlI.of_Trl (hB : B ≤ k) : ∀ {l : List Code} {act : List AV} {H : AH}, Trl P ro l act H (fun e a h => Q e a h p) → TrlI P ro B k s l act H p Q
  | [], _, _, h => h
  | x :: l, _, _, h => TrI.of_Tr hB (Tr.mono h fun e a h q => by
      cases e <;> first | exact TrlI.of_Trl hB q | exact q)
theorem TrI.seq {x y : Code} (hB : B ≤ k) (h : TrI P ro B k s x act H p fun e a h p => match e with
    | .normal => TrI P ro B k s y a h p Q
    | e => Q e a h p) : TrI P ro B k s (.seq x y) act H p Q := by
  intro G W a hI hR hA hT
  refine wp_seq (wp_mono (h G W a hI hR hA hT) ?_)
  rintro e a1 W1 ⟨act1, H1, G1, p1, q, e1, i1, o1, r1, t1, d1⟩
  cases e with
  | normal =>
    refine wp_mono (q G1 W1 a1 i1 o1 r1 t1) ?_
    rintro e a2 W2 ⟨act2, H2, G2, p2, q2, e2, i2, o2, r2, t2, d2⟩
    exact ⟨act2, H2, G2, p2, q2, e1.trans e2, i2, o2, r2, t2, d2.trans d1⟩
  | _ => exact ⟨act1, H1, G1, p1, q, e1, i1, o1, r1, t1, d1⟩
theorem TrlI.append_inv (hB : B ≤ k) {m : List Code} : ∀ {l : List Code} {act : List AV} {H : AH} {p : Nat}, TrlI P ro B k s (l ++ m) act H p Q → TrlI P ro B k s l act H p (nxI (fun a h p => TrlI P ro B k s m a h p Q) Q)
  | [], _, _, _, h => h
  | x :: l, _, _, _, h => TrI.mono h fun e a h p q => by cases e <;> first | exact TrlI.append_inv hB q | exact q
theorem TrI.of_flat (hB : B ≤ k) : ∀ {c : Code} {act : List AV} {H : AH} {p : Nat} {Q : Exit → List AV → AH → Nat → Prop}, TrlI P ro B k s (flatten c) act H p Q → TrI P ro B k s c act H p Q := by
  intro c
  induction c with
  | seq x y ihx ihy =>
    intro act H p Q h
    have h1 := ihx (TrlI.append_inv hB (show TrlI P ro B k s (flatten x ++ flatten y) act H p Q from h))
    exact TrI.seq hB (TrI.mono h1 fun e a h p q => by cases e <;> first | exact ihy q | exact q)
  | _ =>
    intro act H p Q h
    exact TrI.mono h fun e a h p q => by cases e <;> exact q
def leaveI (id : Nat) (Q : Exit → List AV → AH → Nat → Prop) : Exit → List AV → AH → Nat → Prop := fun e a h p => match e with
  | .exit i => if i = id then Q .normal a h p else Q (.exit i) a h p
  | e => Q e a h p
theorem TrI.block {id : Nat} {c : Code} (h : TrI P ro B k s c act H p (leaveI id Q)) : TrI P ro B k s (.block id c) act H p Q := by
  intro G W a hI hR hA hT
  refine wp_block (wp_mono (h G W a hI hR hA hT) ?_)
  rintro e a1 W1 ⟨act1, H1, G1, p1, q, r⟩
  cases e with
  | exit i =>
    unfold leaveI at q
    simp only [Exit.inBlock] at q ⊢
    split at q
    · rename_i hi; rw [if_pos hi]; exact ⟨act1, H1, G1, p1, q, r⟩
    · rename_i hi; rw [if_neg hi]; exact ⟨act1, H1, G1, p1, q, r⟩
  | _ => exact ⟨act1, H1, G1, p1, q, r⟩
theorem TrI.loop {c : Code} (hB : B ≤ k) (I : Nat → List AV → AH → Nat → Prop) (h : ∀ m act H p, I m act H p → TrI P ro B k s c act H p fun e a h p => match e with
    | .normal => ∃ m', m' < m ∧ I m' a h p
    | e => Q e a h p) {m : Nat} (h0 : I m act H p) : TrI P ro B k s (.loop c) act H p Q := by
  intro G W a hI hR hA hT b kk cs
  have key : ∀ m act H p G (a : Act) W, I m act H p → Inv G H W → Ro ro G W → RVs G W act a.tmps.toList → It G W k s p →
      ∃ e a' w', (∃ act' H' G' p', Q e act' H' p' ∧ ExtB B G W G' w' ∧ Inv G' H' w' ∧ Ro ro G' w' ∧ RVs G' w' act' a'.tmps.toList ∧ It G' w' k s p' ∧ a'.defers = a.defers) ∧ Arrives P (lone (b.at a (.code c :: .inLoop c :: kk)) cs W) b kk cs e a' w' := by
    intro m
    induction m using Nat.strongRecOn with
    | _ m ih =>
      intro act H p G a W hi hI hR hA hT
      obtain ⟨e, a₁, w₁, hq, harr⟩ := h m act H p hi G W a hI hR hA hT b (.inLoop c :: kk) cs
      obtain ⟨act1, H1, G1, p1, q, e1, i1, o1, r1, t1, d1⟩ := hq
      cases e with
      | normal =>
        obtain ⟨m', hm, hi'⟩ := q
        obtain ⟨e₂, a₂, w₂, ⟨act2, H2, G2, p2, q2, e2, i2, o2, r2, t2, d2⟩, harr₂⟩ := ih m' hm act1 H1 p1 G1 a₁ w₁ hi' i1 o1 r1 t1
        exact ⟨e₂, a₂, w₂, ⟨act2, H2, G2, p2, q2, e1.trans e2, i2, o2, r2, t2, d2.trans d1⟩, .of_steps (Steps.trans harr (.one step_inLoop)) harr₂⟩
      | exit id => exact ⟨_, a₁, w₁, ⟨act1, H1, G1, p1, q, e1, i1, o1, r1, t1, d1⟩, .pass (x := .inLoop c) rfl (fun _ _ => .inl (by simp)) harr⟩
      | goto l => exact ⟨_, a₁, w₁, ⟨act1, H1, G1, p1, q, e1, i1, o1, r1, t1, d1⟩, .pass (x := .inLoop c) rfl (fun _ _ => .inl (by simp)) harr⟩
      | ret => exact ⟨_, a₁, w₁, ⟨act1, H1, G1, p1, q, e1, i1, o1, r1, t1, d1⟩, .pass (x := .inLoop c) rfl (fun _ _ => .inl (by simp)) harr⟩
      | panic ch => exact ⟨_, a₁, w₁, ⟨act1, H1, G1, p1, q, e1, i1, o1, r1, t1, d1⟩, .pass (x := .inLoop c) rfl (fun _ _ => .inl (by simp)) harr⟩
      | outgrown => exact ⟨_, a₁, w₁, ⟨act1, H1, G1, p1, q, e1, i1, o1, r1, t1, d1⟩, .pass (x := .inLoop c) rfl (fun _ _ => .inl (by simp)) harr⟩
  obtain ⟨e, a', w', hq, harr⟩ := key m act H p G a W h0 hI hR hA hT
  exact ⟨e, a', w', hq, .of_steps (.one step_loop) harr⟩
/-- The iterator is asked for what comes next. -/
theorem TrI.next {id : Nat} {os : Array Oper} {ti tn tb : Tmp} {o1 o2 : Oper} (hB : B ≤ k) (hos : os = #[o1, o2]) (h1 : o1.op = .next (.tmp ti) true) (g1 : o1.guard = none) (d1 : o1.dst = some tn) (h2 : o2.op = .extract (.tmp tn) 0) (g2 : o2.guard = none) (d2 : o2.dst = some tb)
    (hti : act[ti]? = some (.v (.pointer (some ⟨k, 0, none⟩)))) (hne : tn < act.length)
    (more : p < s.size → Q .normal ((act.set tn (.v (.tuple #[.bool true, .int .i64 p, .int .i32 (Utf8.decode s p).1]))).set tb (.v (.bool true))) H (p + (Utf8.decode s p).2))
    (over : ¬ p < s.size → Q .normal ((act.set tn (.v (.tuple #[.bool false]))).set tb (.v (.bool false))) H p) : TrI P ro B k s (.region id os false) act H p Q := by
  intro G W a hI hR hA hT
  refine wp_region_list ?_
  subst hos
  have hev : a.eval (.tmp ti) = .pointer (some ⟨k, 0, none⟩) := by
    have hr := ev_rel hA (.tmp ti)
    have : ev act (.tmp ti) = .v (.pointer (some ⟨k, 0, none⟩)) := by simp [ev, List.getD_eq_getElem?_getD, hti]
    rw [this] at hr
    generalize a.eval (.tmp ti) = u at hr
    cases hr; rfl
  have hsz : a.tmps.size = act.length := by have := hA.len; simpa using this.symm
  have go : ∀ (c : Value) (b : Bool) (vs : List Value) (W1 : World) (q : Nat), c = .tuple (.bool b :: vs).toArray → (Instr.next (.pointer (some ⟨k, 0, none⟩)) true o1.type).run P W = .ok c W1 →
      (ExtB B G W G W1 ∧ Inv G H W1 ∧ Ro ro G W1 ∧ RVs G W1 act a.tmps.toList ∧ It G W1 k s q) → Q .normal ((act.set tn (.v c)).set tb (.v (.bool b))) H q →
      wpList P #[o1, o2] (fun e a' W' => ∃ act' H' G' p', Q e act' H' p' ∧ ExtB B G W G' W' ∧ Inv G' H' W' ∧ Ro ro G' W' ∧ RVs G' W' act' a'.tmps.toList ∧ It G' W' k s p' ∧ a'.defers = a.defers) [o1, o2] a W := by
    intro c b vs W1 q hc hrun ⟨x1, x2, x3, x4, x5⟩ hQ
    subst hc
    generalize hc : Value.tuple (Value.bool b :: vs).toArray = c at *
    unfold wpList
    rw [if_pos (by simp [Region.wanted, g1])]
    left
    unfold Oper.wp
    have e1 : (execOp a.eval o1).run P W = .ok (.value c) W1 := by
      rw [execOp, h1]; simp only [hev, Sem.run_bind, hrun, Result.andThen_ok, Sem.run_pure]
    rw [e1]
    show wpList P #[o1, o2] _ [o2] (a.put o1.dst c) W1
    unfold wpList
    rw [if_pos (by simp [Region.wanted, g2])]
    left
    unfold Oper.wp
    have hget : (a.put o1.dst c).eval (.tmp tn) = c := by
      rw [d1]
      simp [Act.put, Act.eval, hsz, hne]
    have e2 : (execOp (a.put o1.dst c).eval o2).run P W1 = .ok (.value (.bool b)) W1 := by
      rw [execOp, h2]; simp only [hget]; rw [← hc]; rfl
    rw [e2]
    rw [Oper.upon_value]
    unfold wpList
    refine ⟨_, H, G, q, hQ, x1, x2, x3, ?_, x5, ?_⟩
    · have := put_rel (put_rel x4 o1.dst (.v c)) o2.dst (.v (.bool b))
      rw [d1, d2] at this
      rw [d1, d2]
      exact this
    · rw [put_defers, put_defers]
  by_cases hp : p < s.size
  · exact go _ true [.int .i64 p, .int .i32 (Utf8.decode s p).1] _ _ rfl (Lib.run_next_any_at W k s p o1.type hT.heap hp) (hT.moved hB hI hR hA _) (more hp)
  · exact go _ false [] _ _ rfl (Lib.run_next_end_at W k s p o1.type hT.heap hp) ⟨(Ext.refl _ _).toB (Nat.le_trans hB (Nat.le_of_lt hT.lt)), hI, hR, hA, hT⟩ (over hp)
/-- Parts ahead of code. -/
theorem Tr.pre {c : Code} {act : List AV} {H : AH} {Q : Exit → List AV → AH → Prop} : ∀ {l : List Code} {act : List AV} {H : AH}, Trl P ro l act H (nx (fun a h => Tr P ro c a h Q) Q) → Tr P ro (l.foldr .seq c) act H Q
  | [], _, _, h => h
  | x :: l, _, _, h => Tr.seq (Tr.mono h fun e a h q => by
      cases e <;> first | exact Tr.pre (c := c) (act := act) (H := H) q | exact q)
/-- A loop over a text's runes begins. -/
theorem Tr.range {id : Nat} {os : Array Oper} {ts tm ti : Tmp} {ty : TypeId} {o1 o2 : Oper} {rest : Code} {Q : Exit → List AV → AH → Prop} (hos : os = #[o1, o2]) (h1 : o1.op = .move (.tmp ts)) (g1 : o1.guard = none) (d1 : o1.dst = some tm) (h2 : o2.op = .range ty (.tmp tm)) (g2 : o2.guard = none) (d2 : o2.dst = some ti)
    (hu : P.underlying ty = some .string) (hts : act[ts]? = some (.v (.string s))) (hne : tm < act.length)
    (h : ∀ B k, B ≤ k → TrI P ro B k s rest ((act.set tm (.v (.string s))).set ti (.v (.pointer (some ⟨k, 0, none⟩)))) H 0 fun e a h _ => Q e a h) : Tr P ro (.seq (.region id os false) rest) act H Q := by
  intro G W a hI hR hA
  refine wp_seq (wp_region_list ?_)
  subst hos
  have hev : a.eval (.tmp ts) = .string s := by
    have hr := ev_rel hA (.tmp ts)
    have : ev act (.tmp ts) = .v (.string s) := by simp [ev, List.getD_eq_getElem?_getD, hts]
    rw [this] at hr
    generalize a.eval (.tmp ts) = u at hr
    cases hr; rfl
  have hsz : a.tmps.size = act.length := by have := hA.len; simpa using this.symm
  unfold wpList
  rw [if_pos (by simp [Region.wanted, g1])]
  left
  unfold Oper.wp
  have e1 : (execOp a.eval o1).run P W = .ok (.value (.string s)) W := by
    rw [execOp, h1]; simp only [hev]; rfl
  rw [e1, Oper.upon_value]
  unfold wpList
  rw [if_pos (by simp [Region.wanted, g2])]
  left
  unfold Oper.wp
  have hget : (a.put o1.dst (.string s)).eval (.tmp tm) = .string s := by
    rw [d1]
    simp [Act.put, Act.eval, hsz, hne]
  have e2 : (execOp (a.put o1.dst (.string s)).eval o2).run P W = .ok (.value (.pointer (some ⟨W.heap.size, 0, none⟩))) (W.iter s 0) := by
    rw [execOp, h2]; simp only [hget, Sem.run_bind, run_range_string W ty s hu, Result.andThen_ok, Sem.run_pure]
  rw [e2, Oper.upon_value]
  unfold wpList
  have hbel : Below W.heap.size W (W.iter s 0) := (Below.refl W.heap.size W).alloc (Nat.le_refl _) _
  obtain ⟨x1, x2⟩ := hI.below hbel
  have hT : It G (W.iter s 0) W.heap.size s 0 := ⟨World.iter_heap W s 0, fun o => Nat.lt_irrefl _ (hI.olt _ o), fun o q => Nat.lt_irrefl _ (hI.plt _ _ q)⟩
  have hA2 : RVs G (W.iter s 0) ((act.set tm (.v (.string s))).set ti (.v (.pointer (some ⟨W.heap.size, 0, none⟩)))) (((a.put o1.dst (.string s)).put o2.dst (.pointer (some ⟨W.heap.size, 0, none⟩))).tmps.toList) := by
    have := put_rel (put_rel (hA.ext x1) o1.dst (.v (.string s))) o2.dst (.v (.pointer (some ⟨W.heap.size, 0, none⟩)))
    rw [d1, d2] at this
    rw [d1, d2]
    exact this
  refine wp_mono (h W.heap.size W.heap.size (Nat.le_refl _) G (W.iter s 0) _ x2 (hR.ext x1) hA2 hT) ?_
  rintro e a' W' ⟨act', H', G', p', q, e3, i3, _, r3, _, d3⟩
  exact ⟨act', H', G', q, ((x1.toB (Nat.le_refl _)).trans e3).toExt, i3, r3, by rw [d3, put_defers, put_defers]⟩
end
def opN (c : Code) (i : Nat) : Oper := match c with
  | .region _ os _ => os.getD i default
  | _ => default
def rgId (c : Code) : Nat := match c with
  | .region id _ _ => id
  | _ => 0
/-- A region that begins a loop over the runes of the text in slot ts. -/
structure RangeAt (c : Code) (ts tm ti : Tmp) (ty : TypeId) : Prop where
  eq : c = .region (rgId c) #[opN c 0, opN c 1] false
  h1 : (opN c 0).op = .move (.tmp ts)
  g1 : (opN c 0).guard = none
  d1 : (opN c 0).dst = some tm
  h2 : (opN c 1).op = .range ty (.tmp tm)
  g2 : (opN c 1).guard = none
  d2 : (opN c 1).dst = some ti
structure NextAt (c : Code) (ti tn tb : Tmp) : Prop where
  eq : c = .region (rgId c) #[opN c 0, opN c 1] false
  h1 : (opN c 0).op = .next (.tmp ti) true
  g1 : (opN c 0).guard = none
  d1 : (opN c 0).dst = some tn
  h2 : (opN c 1).op = .extract (.tmp tn) 0
  g2 : (opN c 1).guard = none
  d2 : (opN c 1).dst = some tb
theorem Tr.rangeAt {P : Program} {ro : Nat → Option (List Value)} {s : ByteArray} {act : List AV} {H : AH} {c : Code} {ts tm ti : Tmp} {ty : TypeId} {rest : Code} {Q : Exit → List AV → AH → Prop} (hc : RangeAt c ts tm ti ty)
    (hu : P.underlying ty = some .string) (hts : act[ts]? = some (.v (.string s))) (hne : tm < act.length)
    (h : ∀ B k, B ≤ k → TrI P ro B k s rest ((act.set tm (.v (.string s))).set ti (.v (.pointer (some ⟨k, 0, none⟩)))) H 0 fun e a h _ => Q e a h) : Tr P ro (.seq c rest) act H Q := by
  rw [hc.eq]
  exact Tr.range rfl hc.h1 hc.g1 hc.d1 hc.h2 hc.g2 hc.d2 hu hts hne h
/-- A round: what comes next, and the rest. -/
theorem TrI.round {P : Program} {ro : Nat → Option (List Value)} {B k : Nat} {s : ByteArray} {act : List AV} {H : AH} {p : Nat} {c : Code} {ti tn tb : Tmp} {r : Code} {Q : Exit → List AV → AH → Nat → Prop} (hB : B ≤ k) (hf : flatten c = r :: (flatten c).drop 1) (hc : NextAt r ti tn tb)
    (hti : act[ti]? = some (.v (.pointer (some ⟨k, 0, none⟩)))) (hne : tn < act.length)
    (more : p < s.size → Trl P ro ((flatten c).drop 1) ((act.set tn (.v (.tuple #[.bool true, .int .i64 p, .int .i32 (Utf8.decode s p).1]))).set tb (.v (.bool true))) H fun e a h => Q e a h (p + (Utf8.decode s p).2))
    (over : ¬ p < s.size → Trl P ro ((flatten c).drop 1) ((act.set tn (.v (.tuple #[.bool false]))).set tb (.v (.bool false))) H fun e a h => Q e a h p) : TrI P ro B k s c act H p Q := by
  refine TrI.of_flat hB ?_
  rw [hf]
  show TrI P ro B k s r act H p _
  rw [hc.eq]
  exact TrI.next hB rfl hc.h1 hc.g1 hc.d1 hc.h2 hc.g2 hc.d2 hti hne (fun h => TrlI.of_Trl hB (more h)) (fun h => TrlI.of_Trl hB (over h))
theorem TrI.keep {P : Program} {ro : Nat → Option (List Value)} {B k : Nat} {s : ByteArray} {act : List AV} {H : AH} {p : Nat} {c : Code} {Q : Exit → List AV → AH → Nat → Prop} (is : List Nat) (h : TrI P ro B k s c (keepI 0 is act) H p Q) : TrI P ro B k s c act H p Q :=
  fun G W a hI hR hA hT => h G W a hI hR (keepI_rel _ _ hA) hT
/-! A rune and its bytes. -/
theorem get_at (s : ByteArray) (i : Nat) : s.get! i = s.data.getD i 0 := by
  show s.data[i]! = _
  rw [Array.getElem!_eq_getD]; rfl
theorem dec_low (s : ByteArray) (i : Nat) (h : (s.data.getD i 0).toNat < 128) : Utf8.decode s i = ((s.data.getD i 0).toNat, 1) := by
  unfold Utf8.decode
  simp only [Nat.add_zero, get_at]
  rw [if_pos h]
theorem dec_high (s : ByteArray) (i : Nat) (hi : i < s.size) (h : ¬ (s.data.getD i 0).toNat < 128) : 128 ≤ (Utf8.decode s i).1 ∧ 1 ≤ (Utf8.decode s i).2 ∧ i + (Utf8.decode s i).2 ≤ s.size ∧ ∀ j, j < (Utf8.decode s i).2 → 128 ≤ (s.data.getD (i + j) 0).toNat := by
  have h128 : 128 ≤ (s.data.getD i 0).toNat := by omega
  have one : ∀ j, j < 1 → 128 ≤ (s.data.getD (i + j) 0).toNat := fun j hj => by
    obtain rfl : j = 0 := by omega
    exact h128
  unfold Utf8.decode
  simp only [Nat.add_zero, get_at, Utf8.runeError]
  rw [if_neg h]
  have cont : ∀ k, (decide (i + k < s.size) && ((s.data.getD (i + k) 0).toNat / 64 == 2)) = true → i + k < s.size ∧ 128 ≤ (s.data.getD (i + k) 0).toNat := fun k hk => by
    simp only [Bool.and_eq_true, decide_eq_true_eq, beq_iff_eq] at hk
    exact ⟨hk.1, by omega⟩
  split
  · rename_i c1
    simp only [Bool.and_eq_true] at c1
    obtain ⟨k1, k2⟩ := cont 1 (by simp only [Bool.and_eq_true]; exact c1.2)
    split
    · rename_i c2
      refine ⟨c2, by simp, k1, fun j hj => ?_⟩
      rcases j with _ | _ | j
      · exact h128
      · exact k2
      · have hj : j + 1 + 1 < 2 := hj
        omega
    · exact ⟨by decide, Nat.le_refl _, hi, one⟩
  · split
    · rename_i c1
      simp only [Bool.and_eq_true] at c1
      obtain ⟨k1, k2⟩ := cont 1 (by simp only [Bool.and_eq_true]; exact c1.1.2)
      obtain ⟨k3, k4⟩ := cont 2 (by simp only [Bool.and_eq_true]; exact c1.2)
      split
      · rename_i c2
        simp only [Bool.and_eq_true, decide_eq_true_eq] at c2
        refine ⟨by have := c2.1; show 128 ≤ _; omega, by simp, k3, fun j hj => ?_⟩
        rcases j with _ | _ | _ | j
        · exact h128
        · exact k2
        · exact k4
        · have hj : j + 1 + 1 + 1 < 3 := hj
          omega
      · exact ⟨by decide, Nat.le_refl _, hi, one⟩
    · split
      · rename_i c1
        simp only [Bool.and_eq_true] at c1
        obtain ⟨k1, k2⟩ := cont 1 (by simp only [Bool.and_eq_true]; exact c1.1.1.2)
        obtain ⟨k3, k4⟩ := cont 2 (by simp only [Bool.and_eq_true]; exact c1.1.2)
        obtain ⟨k5, k6⟩ := cont 3 (by simp only [Bool.and_eq_true]; exact c1.2)
        split
        · rename_i c2
          simp only [Bool.and_eq_true, decide_eq_true_eq] at c2
          refine ⟨by have := c2.1; show 128 ≤ _; omega, by simp, k5, fun j hj => ?_⟩
          rcases j with _ | _ | _ | _ | j
          · exact h128
          · exact k2
          · exact k4
          · exact k6
          · have hj : j + 1 + 1 + 1 + 1 < 4 := hj
            omega
        · exact ⟨by decide, Nat.le_refl _, hi, one⟩
      · exact ⟨by decide, Nat.le_refl _, hi, one⟩
end Go.Proofs.YtodjeammjdgkoaaDoor.AE
