/-
  Two views of one memory, each of blocks of its own, beside one another: what one does leaves the other as it was.
-/
import Derived.Test.YthememoflnocnaaAEObj
namespace Go.Proofs.Ythememoflnocnaa.AE
set_option maxRecDepth 100000
open Go.RowKit
theorem row_block {W W' : World} {B sz n : Nat} {v : Value} {cs : List Value} (h : Row W B sz v n cs) (hs : W.heap.size ≤ W'.heap.size) (hb : ∀ g, v.ownBlock = some g → W'.heap[g]? = W.heap[g]?) : Row W' B sz v n cs := by
  refine ⟨h.len, ?_⟩
  rcases h.val with h0 | ⟨g, off, cap, q1, q2, q3, q4, q5, q6, q7⟩
  · exact .inl h0
  · have hg := hb g (by rw [q1]; rfl)
    refine .inr ⟨g, off, cap, q1, q2, Nat.lt_of_lt_of_le q3 hs, q4, q5, fun j u hu => ?_, fun j k1 k2 => ?_⟩
    · rw [cell_heap hg]; exact q6 j u hu
    · have := q7 j k1 k2
      rw [cell_heap hg]
      refine ⟨this.1, ?_⟩
      have h2 := this.2
      simp only [World.frozen?, hg] at h2 ⊢
      exact h2
/-- Cells that will not change are as they were. -/
abbrev CellsAs (G : Gh) (W W' : World) : Prop := ∀ b o, G.prot b o → W'.cell? ⟨b, o, none⟩ = W.cell? ⟨b, o, none⟩
section
variable {G : Gh} {W W' : World}
theorem Mem.par (hc : CellsAs G W W') {a : Option Addr} {cs : List Value} (h : Mem G.prot W a cs) : Mem G.prot W' a cs :=
  ⟨h.1, fun hne => by
    obtain ⟨b, off, ea, hx⟩ := h.2 hne
    exact ⟨b, off, ea, fun j u hu => ⟨(hx j u hu).1, (hc _ _ (hx j u hu).1).trans (hx j u hu).2⟩⟩⟩
theorem PV.par (hc : CellsAs G W W') {x : AV} {c : Value} (h : PV G.prot W x c) : PV G.prot W' x c :=
  PV.rec (motive_1 := fun x c _ => PV G.prot W' x c) (motive_2 := fun l cs _ => PVs G.prot W' l cs) (fun _ => .v _) (fun hn _ hs hm hcp hx ht ih => .lst hn ih hs (hm.par hc) hcp hx ht) (fun _ ih => .agg ih) .nil (fun _ _ i1 i2 => .cons i1 i2) h
theorem PVs.par (hc : CellsAs G W W') {l : List AV} {cs : List Value} (h : PVs G.prot W l cs) : PVs G.prot W' l cs := by
  induction l generalizing cs with
  | nil => cases h; exact .nil
  | cons x l ih => cases h with | cons h t => exact .cons (h.par hc) (ih t)
theorem RV.par (hc : CellsAs G W W') {x : AV} {c : Value} (h : RV G W x c) : RV G W' x c :=
  RV.rec (motive_1 := fun x c _ => RV G W' x c) (motive_2 := fun l cs _ => RVs G W' l cs) (fun _ => .v _) (fun h => .ptr h) (fun h => .pi h) (fun h hm => .lp (h.par hc) (hm.par hc))
    (fun hn h hs hm hcp hx ht => .lst hn (h.par hc) hs (hm.par hc) hcp hx ht) (fun h => .sl h) (fun _ ih => .agg ih) (fun _ ih => .tuple ih) (fun _ _ i1 i2 => .fn i1 i2) (fun h => .mp h) (fun c => .dead c) .nil (fun _ _ i1 i2 => .cons i1 i2) h
theorem RVs.par (hc : CellsAs G W W') {l : List AV} {cs : List Value} (h : RVs G W l cs) : RVs G W' l cs := by
  induction l generalizing cs with
  | nil => cases h; exact .nil
  | cons x l ih => cases h with | cons h t => exact .cons (h.par hc) (ih t)
/-- The run's own blocks are as they were. -/
abbrev OwnAs (G : Gh) (W W' : World) : Prop := ∀ b, G.own b → W'.heap[b]? = W.heap[b]?
theorem Inv.par {H : AH} (h : Inv G H W) (hs : W.heap.size ≤ W'.heap.size) (ho : OwnAs G W W') (hc : CellsAs G W W') : Inv G H W' where
  blk := fun id t cs hb => by
    obtain ⟨b, vs, e1, e2, e3, e4⟩ := h.blk id t cs hb
    exact ⟨b, vs, e1, e2.of (ho b (h.δown id b e1)), e3.par hc, e4⟩
  inj := h.inj
  δown := h.δown
  δpr := h.δpr
  δlen := h.δlen
  tip := h.tip
  tlen := h.tlen
  row := fun t i hi => by
    have hr := h.row t i hi
    refine row_block hr hs (fun g hg => ?_)
    rcases hr.val with ⟨h0, _⟩ | ⟨g', off, cap, q1, _⟩
    · rw [h0] at hg; simp [Value.ownBlock] at hg
    · rw [q1] at hg
      simp [Value.ownBlock] at hg
      subst hg
      exact ho _ (h.trow t i _ _ _ _ hi q1).2.1
  trow := h.trow
  tδ := h.tδ
  tt := h.tt
  plt := fun b o p => Nat.lt_of_lt_of_le (h.plt b o p) hs
  olt := fun b o => Nat.lt_of_lt_of_le (h.olt b o) hs
end
/-- Two views, which share the blocks of B. -/
structure Par (B : Nat → Prop) (G1 G2 : Gh) : Prop where
  both : ∀ b, G1.own b → G2.own b → B b
  p1 : ∀ b o, G1.prot b o → G2.prot b o ∨ ¬ G2.own b ∨ B b
  p2 : ∀ b o, G2.prot b o → G1.prot b o ∨ ¬ G1.own b ∨ B b
theorem Par.symm {B : Nat → Prop} {G1 G2 : Gh} (h : Par B G1 G2) : Par B G2 G1 := ⟨fun b x y => h.both b y x, h.p2, h.p1⟩
/-- What the first does leaves the second as it was, where what they share is as it was. -/
theorem Par.step {B : Nat → Prop} {G1 G2 G1' : Gh} {H1 H2 : AH} {W W' : World} (h : Par B G1 G2) (i1 : Inv G1 H1 W) (i2 : Inv G2 H2 W) (e : Ext G1 W G1' W') (hB : ∀ b, B b → W'.heap[b]? = W.heap[b]?) : OwnAs G2 W W' ∧ CellsAs G2 W W' ∧ Par B G1' G2 := by
  refine ⟨fun b ho => ?_, fun b o p => ?_, ⟨fun b x y => ?_, fun b o p => ?_, fun b o p => ?_⟩⟩
  · by_cases hb : G1.own b
    · exact hB b (h.both b hb ho)
    · exact e.block b (i2.olt b ho) hb
  · rcases h.p2 b o p with q | q | q
    · exact e.cell b o q
    · exact cell_heap (e.block b (i2.plt b o p) q)
    · exact cell_heap (hB b q)
  · exact h.both b (e.new b (i2.olt b y) x) y
  · by_cases hb : b < W.heap.size
    · by_cases ho : G1.own b
      · by_cases ho2 : G2.own b
        · exact .inr (.inr (h.both b ho ho2))
        · exact .inr (.inl ho2)
      · exact h.p1 b o (e.pnew b o hb ho p)
    · exact .inr (.inl fun ho2 => hb (i2.olt b ho2))
  · rcases h.p2 b o p with q | q | q
    · exact .inl (e.prot b o q)
    · exact .inr (.inl fun ho => q (e.new b (i2.plt b o p) ho))
    · exact .inr (.inr q)
/-- Values that tell the cell itself. -/
def rig (x : AV) : Bool := match x with
  | .v _ => true
  | .ptr _ _ => true
  | .pi _ _ => true
  | .sl _ _ _ _ => true
  | .mp _ => true
  | _ => false
theorem rig_eq {G G' : Gh} {W W' : World} (hd : ∀ i b, G.δ i = some b → G'.δ i = some b) {x : AV} {c c' : Value} (hx : rig x = true) (h : RV G W x c) (h' : RV G' W' x c') : c' = c := by
  have dd : ∀ {i b b' : Nat}, G.δ i = some b → G'.δ i = some b' → b' = b := fun h1 h2 => by rw [hd _ _ h1] at h2; cases h2; rfl
  cases h with
  | v => cases h'; rfl
  | ptr h1 => cases h' with | ptr h2 => rw [dd h1 h2]
  | pi h1 => cases h' with | pi h2 => rw [dd h1 h2]
  | sl h1 => cases h' with | sl h2 => rw [dd h1 h2]
  | mp h1 => cases h' with | mp h2 => rw [dd h1 h2]
  | _ => cases hx
theorem rigs_eq {G G' : Gh} {W W' : World} (hd : ∀ i b, G.δ i = some b → G'.δ i = some b) : ∀ {l : List AV} {cs cs' : List Value}, l.all rig = true → RVs G W l cs → RVs G' W' l cs' → cs' = cs
  | [], _, _, _, h, h' => by cases h; cases h'; rfl
  | x :: l, _, _, hr, h, h' => by
    rw [List.all_cons, Bool.and_eq_true] at hr
    cases h with
    | cons h t =>
      cases h' with
      | cons h' t' => rw [rig_eq hd hr.1 h h', rigs_eq hd hr.2 t t']
def rigB (b : TypeId × List AV) : Bool := !(Nat.beq b.1 999997) && (!(Nat.beq b.1 999998) && (!(Nat.beq b.1 999999) && b.2.all rig))
/-- A block that is told by such values is as it was. -/
theorem rig_block {G G' : Gh} {H H' : AH} {W W' : World} (i1 : Inv G H W) (i2 : Inv G' H' W') (hd : ∀ i b, G.δ i = some b → G'.δ i = some b) {id b : Nat} {x : TypeId × List AV} (hx : H.blks[id]? = some x) (hx' : H'.blks[id]? = some x) (hr : rigB x = true) (hb : G.δ id = some b) : W'.heap[b]? = W.heap[b]? := by
  obtain ⟨t, cs⟩ := x
  unfold rigB at hr
  simp only [Bool.and_eq_true, Bool.not_eq_true'] at hr
  obtain ⟨h1, h2, h3, h4⟩ := hr
  have hm : OkT t := okT_beq h2 h1
  have hn : ¬ t = 999999 := fun e => by rw [e] at h3; exact absurd h3 (by decide)
  obtain ⟨b1, vs, e1, e2, e3, _⟩ := i1.blk id t cs hx
  obtain ⟨b2, vs', f1, f2, f3, _⟩ := i2.blk id t cs hx'
  rw [hb] at e1
  cases e1
  rw [hd _ _ hb] at f1
  cases f1
  rw [e2.plain hm hn, f2.plain hm hn]
  have := rigs_eq hd h4 e3 f3
  rw [Array.ext' this]
end Go.Proofs.Ythememoflnocnaa.AE
