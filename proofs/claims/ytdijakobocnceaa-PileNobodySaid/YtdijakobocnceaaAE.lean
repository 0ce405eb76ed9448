/-
  An abstract run of the program's code over plain data: values, memory of the run's own, and what they stand for in a world.
-/
import Derived.Test.YtdijakobocnceaaRow
import Derived.Orders
namespace Go.Proofs.Ytdijakobocnceaa.AE
set_option maxRecDepth 100000
open Go.RowKit
inductive Tip where
  | no | exact
  | tp (t ver : Nat)
/-- Values of the abstract run: v a value as it is; ptr a place in a block of the run's own, pi one of many elements; lp a place in memory that never changes, by what is there; lst a slice of such memory; sl a slice of a block of the run's own; mp: a map of the run's own; dead: whatever it is. -/
inductive AV where
  | v (x : Value)
  | ptr (id off : Nat)
  | pi (id off : Nat)
  | lp (cells : List AV)
  | lst (sz : Nat) (xs : List AV) (tip : Tip)
  | sl (id off len cap : Nat)
  | agg (cells : List AV)
  | tuple (vs : List AV)
  | fn (f : Fn) (first captured : List AV)
  | mp (id : Nat)
  | dead
def AV.cells : AV → List AV
  | .v (.agg cs) => cs.toList.map .v
  | .agg cs => cs
  | x => [x]
/-- The value, if it holds no place of the run's own. -/
def AV.val? : AV → Option Value
  | .v x => some x
  | _ => none
def vals? : List AV → Option (List Value)
  | [] => some []
  | x :: l => match x.val? with
    | some u => match vals? l with
      | some us => some (u :: us)
      | none => none
    | none => none
def mkAgg (cs : List AV) : AV := match vals? cs with
  | some us => .v (.agg us.toArray)
  | none => .agg cs
def mkTuple (cs : List AV) : AV := match vals? cs with
  | some us => .v (.tuple us.toArray)
  | none => .tuple cs
/-- Memory of the run's own: blocks, and how often each row that grows has grown; blocks below mb, and rows below mc, are not written.
    sy: the run is of unknown data: its ways are told by orc, and what it takes for granted is gathered in cd. -/
structure AH where
  blks : List (TypeId × List AV)
  tips : List Nat
  mb : Nat
  mc : Nat
  sy : Bool
  orc : List (Nat × Bool)
  cd : Prop
/-- The type of a block of cells (999998: a map's keys and values; 999997: cells of which the first ones are told, which are written and read by what is known otherwise alone). -/
abbrev OkT (t : TypeId) : Prop := t ≠ 999998 ∧ t ≠ 999997
theorem okT_beq {t : TypeId} (h1 : Nat.beq t 999998 = false) (h2 : Nat.beq t 999997 = false) : OkT t := ⟨fun e => by rw [e] at h1; exact absurd h1 (by decide), fun e => by rw [e] at h2; exact absurd h2 (by decide)⟩
/-- A block of cells. -/
def AH.at (H : AH) (id : Nat) : Option (TypeId × List AV) := match H.blks[id]? with
  | some b => match Nat.beq b.1 999998 with
    | true => none
    | false => match Nat.beq b.1 999997 with
      | true => none
      | false => some b
  | none => none
theorem at_some {H : AH} {id : Nat} {b : TypeId × List AV} (h : H.at id = some b) : H.blks[id]? = some b ∧ OkT b.1 := by
  unfold AH.at at h
  split at h
  · rename_i b' hb
    split at h
    · cases h
    · rename_i hn
      split at h
      · cases h
      · rename_i hn2
        cases h
        exact ⟨hb, okT_beq hn hn2⟩
  · cases h
/-- p, and b besides. -/
def cdb (p : Prop) (b : Bool) : Prop := match b with
  | true => p
  | false => False
theorem cdb_iff {p : Prop} {b : Bool} : cdb p b ↔ p ∧ b = true := by cases b <;> simp [cdb]
/-- c, and p besides, where b does not tell it. -/
def cds (c : Prop) (b : Bool) (p : Prop) : Prop := match b with
  | true => c
  | false => c ∧ p
theorem cds_out {c : Prop} {b : Bool} {p : Prop} (hb : b = true → p) (h : cds c b p) : c ∧ p := by
  cases b with
  | true => exact ⟨h, hb rfl⟩
  | false => exact h
theorem cds_of {c : Prop} {b : Bool} {p : Prop} (h : c) (hp : p) : cds c b p := by
  cases b with
  | true => exact h
  | false => exact ⟨h, hp⟩
/-- Something that must hold: it is looked at, or gathered. -/
def need (H : AH) (p : Prop) [Decidable p] : Option AH := match H.sy with
  | true => some { H with cd := cdb H.cd (decide p) }
  | false => if p then some H else none
/-- Something that is taken for granted, where b does not tell it. -/
def grant (H : AH) (b : Bool) (p : Prop) : AH := { H with cd := cds H.cd b p }
/-- Which way to go: after so many ways that are plain, this one. -/
def conc (H : AH) (b : Bool) : Option (Bool × AH) := match H.sy with
  | true => match H.orc with
    | kg :: r => match kg.1 with
      | 0 => some (kg.2, { H with orc := r, cd := H.cd ∧ b = kg.2 })
      | k + 1 => some (b, { H with orc := (k, kg.2) :: r })
    | [] => some (b, H)
  | false => some (b, H)
structure Info where
  ver : Nat
  sz : Nat
  v : Value
  n : Nat
  cells : List Value
/-- Where the run's own things are in the world; prot: cells that will not change any more; own: blocks that the run made. -/
structure Gh where
  δ : Nat → Option Nat
  tip : Nat → Option Info
  prot : Nat → Nat → Prop
  own : Nat → Prop
def TipOk (G : Gh) (sz : Nat) (c : Value) (n cap : Nat) : Tip → Prop
  | .no => True
  | .exact => cap = n
  | .tp t ver => ∃ i, G.tip t = some i ∧ ver ≤ i.ver ∧ (ver = i.ver → c = i.v ∧ sz = i.sz)
def Mem (pr : Nat → Nat → Prop) (W : World) (a : Option Addr) (cs : List Value) : Prop :=
  (∀ u ∈ cs, u.oneCell' = true) ∧ (cs ≠ [] → ∃ b off, a = some ⟨b, off, none⟩ ∧ ∀ (j : Nat) (u : Value), cs[j]? = some u → pr b (off + j) ∧ W.cell? ⟨b, off + j, none⟩ = some u)
def TipPure (n cap : Nat) : Tip → Prop
  | .no => True
  | .exact => cap = n
  | .tp _ _ => False
mutual
/-- Data alone. -/
inductive PV (pr : Nat → Nat → Prop) (W : World) : AV → Value → Prop where
  | v (x : Value) : PV pr W (.v x) x
  | lst {sz : Nat} {xs : List AV} {tip : Tip} {a : Option Addr} {n cap : Nat} {cs : List Value} (hn : n = xs.length) (h : PVs pr W (xs.flatMap AV.cells) cs) (hs : ∀ x ∈ xs, x.cells.length = sz)
      (hm : Mem pr W a cs) (hc : n ≤ cap) (hx : cap ≤ maxLen) (ht : TipPure n cap tip) : PV pr W (.lst sz xs tip) (.slice a n cap)
  | agg {cells : List AV} {cs : Array Value} (h : PVs pr W cells cs.toList) : PV pr W (.agg cells) (.agg cs)
inductive PVs (pr : Nat → Nat → Prop) (W : World) : List AV → List Value → Prop where
  | nil : PVs pr W [] []
  | cons {x : AV} {c : Value} {l : List AV} {cs : List Value} (h : PV pr W x c) (t : PVs pr W l cs) : PVs pr W (x :: l) (c :: cs)
end
mutual
inductive RV (G : Gh) (W : World) : AV → Value → Prop where
  | v (x : Value) : RV G W (.v x) x
  | ptr {id off b : Nat} (h : G.δ id = some b) : RV G W (.ptr id off) (.pointer (some ⟨b, off, none⟩))
  | pi {id off b : Nat} (h : G.δ id = some b) : RV G W (.pi id off) (.pointer (some ⟨b, off, none⟩))
  | lp {cells : List AV} {b off : Nat} {cs : List Value} (h : PVs G.prot W cells cs) (hm : Mem G.prot W (some ⟨b, off, none⟩) cs) : RV G W (.lp cells) (.pointer (some ⟨b, off, none⟩))
  | lst {sz : Nat} {xs : List AV} {tip : Tip} {a : Option Addr} {n cap : Nat} {cs : List Value} (hn : n = xs.length) (h : PVs G.prot W (xs.flatMap AV.cells) cs) (hs : ∀ x ∈ xs, x.cells.length = sz)
      (hm : Mem G.prot W a cs) (hc : n ≤ cap) (hx : cap ≤ maxLen) (ht : TipOk G sz (.slice a n cap) n cap tip) : RV G W (.lst sz xs tip) (.slice a n cap)
  | sl {id off len cap b : Nat} (h : G.δ id = some b) : RV G W (.sl id off len cap) (.slice (some ⟨b, off, none⟩) len cap)
  | agg {cells : List AV} {cs : Array Value} (h : RVs G W cells cs.toList) : RV G W (.agg cells) (.agg cs)
  | tuple {vs : List AV} {cs : Array Value} (h : RVs G W vs cs.toList) : RV G W (.tuple vs) (.tuple cs)
  | fn {f : Fn} {a b : List AV} {x y : Array Value} (h1 : RVs G W a x.toList) (h2 : RVs G W b y.toList) : RV G W (.fn f a b) (.func f x y)
  | mp {id b : Nat} (h : G.δ id = some b) : RV G W (.mp id) (.map (some b))
  | dead (c : Value) : RV G W .dead c
inductive RVs (G : Gh) (W : World) : List AV → List Value → Prop where
  | nil : RVs G W [] []
  | cons {x : AV} {c : Value} {l : List AV} {cs : List Value} (h : RV G W x c) (t : RVs G W l cs) : RVs G W (x :: l) (c :: cs)
end
/-- What the run has done since. -/
structure Ext (G : Gh) (W : World) (G' : Gh) (W' : World) : Prop where
  os : W'.os = W.os
  tape : W'.tape = W.tape
  output : W'.output = W.output
  size : W.heap.size ≤ W'.heap.size
  δ : ∀ id b, G.δ id = some b → G'.δ id = some b
  tip : ∀ t i, G.tip t = some i → ∃ i', G'.tip t = some i' ∧ (i' = i ∨ i.ver < i'.ver)
  prot : ∀ b o, G.prot b o → G'.prot b o
  cell : ∀ b o, G.prot b o → W'.cell? ⟨b, o, none⟩ = W.cell? ⟨b, o, none⟩
  own : ∀ b, G.own b → G'.own b
  new : ∀ b, b < W.heap.size → G'.own b → G.own b
  block : ∀ b, b < W.heap.size → ¬ G.own b → W'.heap[b]? = W.heap[b]?
  pnew : ∀ b o, b < W.heap.size → ¬ G.own b → G'.prot b o → G.prot b o
theorem Ext.refl (G : Gh) (W : World) : Ext G W G W := ⟨rfl, rfl, rfl, Nat.le_refl _, fun _ _ h => h, fun _ i h => ⟨i, h, .inl rfl⟩, fun _ _ h => h, fun _ _ _ => rfl, fun _ h => h, fun _ _ h => h, fun _ _ _ => rfl, fun _ _ _ _ h => h⟩
theorem Ext.trans {G : Gh} {W : World} {G' : Gh} {W' : World} {G'' : Gh} {W'' : World} (h : Ext G W G' W') (k : Ext G' W' G'' W'') : Ext G W G'' W'' where
  os := k.os.trans h.os
  tape := k.tape.trans h.tape
  output := k.output.trans h.output
  size := Nat.le_trans h.size k.size
  δ := fun id b e => k.δ id b (h.δ id b e)
  tip := fun t i e => by
    obtain ⟨i', e', r⟩ := h.tip t i e
    obtain ⟨i'', e'', r'⟩ := k.tip t i' e'
    refine ⟨i'', e'', ?_⟩
    rcases r with rfl | r
    · exact r'
    · rcases r' with rfl | r'
      · exact .inr r
      · exact .inr (Nat.lt_trans r r')
  prot := fun b o p => k.prot b o (h.prot b o p)
  cell := fun b o p => (k.cell b o (h.prot b o p)).trans (h.cell b o p)
  own := fun b o => k.own b (h.own b o)
  new := fun b hb o => h.new b hb (k.new b (Nat.lt_of_lt_of_le hb h.size) o)
  block := fun b hb o => (k.block b (Nat.lt_of_lt_of_le hb h.size) (fun o' => o (h.new b hb o'))).trans (h.block b hb o)
  pnew := fun b q hb o p => h.pnew b q hb o (k.pnew b q (Nat.lt_of_lt_of_le hb h.size) (fun o' => o (h.new b hb o')) p)
section
variable {G : Gh} {W : World} {G' : Gh} {W' : World}
theorem Mem.ext {a : Option Addr} {cs : List Value} (h : Mem G.prot W a cs) (e : Ext G W G' W') : Mem G'.prot W' a cs :=
  ⟨h.1, fun hne => by
    obtain ⟨b, off, ea, hc⟩ := h.2 hne
    exact ⟨b, off, ea, fun j u hu => ⟨e.prot _ _ (hc j u hu).1, (e.cell _ _ (hc j u hu).1).trans (hc j u hu).2⟩⟩⟩
theorem PV.ext {x : AV} {c : Value} (h : PV G.prot W x c) (e : Ext G W G' W') : PV G'.prot W' x c :=
  PV.rec (motive_1 := fun x c _ => PV G'.prot W' x c) (motive_2 := fun l cs _ => PVs G'.prot W' l cs) (fun _ => .v _) (fun hn _ hs hm hc hx ht ih => .lst hn ih hs (hm.ext e) hc hx ht) (fun _ ih => .agg ih) .nil (fun _ _ i1 i2 => .cons i1 i2) h
theorem PVs.ext {l : List AV} {cs : List Value} (h : PVs G.prot W l cs) (e : Ext G W G' W') : PVs G'.prot W' l cs := by
  induction l generalizing cs with
  | nil => cases h; exact .nil
  | cons x l ih => cases h with | cons h t => exact .cons (h.ext e) (ih t)
theorem TipOk.ext {sz : Nat} {c : Value} {n cap : Nat} {tip : Tip} (h : TipOk G sz c n cap tip) (e : Ext G W G' W') : TipOk G' sz c n cap tip := by
  cases tip with
  | no => trivial
  | exact => exact h
  | tp t ver =>
    obtain ⟨i, hi, hv, hc⟩ := h
    obtain ⟨i', hi', r⟩ := e.tip t i hi
    rcases r with rfl | r
    · exact ⟨_, hi', hv, hc⟩
    · exact ⟨i', hi', by omega, fun h => by omega⟩
theorem RV.ext {x : AV} {c : Value} (h : RV G W x c) (e : Ext G W G' W') : RV G' W' x c :=
  RV.rec (motive_1 := fun x c _ => RV G' W' x c) (motive_2 := fun l cs _ => RVs G' W' l cs) (fun _ => .v _) (fun h => .ptr (e.δ _ _ h)) (fun h => .pi (e.δ _ _ h)) (fun h hm => .lp (h.ext e) (hm.ext e))
    (fun hn h hs hm hc hx ht => .lst hn (h.ext e) hs (hm.ext e) hc hx (ht.ext e)) (fun h => .sl (e.δ _ _ h)) (fun _ ih => .agg ih) (fun _ ih => .tuple ih) (fun _ _ i1 i2 => .fn i1 i2) (fun h => .mp (e.δ _ _ h)) (fun c => .dead c) .nil (fun _ _ i1 i2 => .cons i1 i2) h
theorem RVs.ext {l : List AV} {cs : List Value} (h : RVs G W l cs) (e : Ext G W G' W') : RVs G' W' l cs := by
  induction l generalizing cs with
  | nil => cases h; exact .nil
  | cons x l ih => cases h with | cons h t => exact .cons (h.ext e) (ih t)
theorem RVs.len {l : List AV} {cs : List Value} (h : RVs G W l cs) : l.length = cs.length := by
  induction l generalizing cs with
  | nil => cases h; rfl
  | cons x l ih => cases h with | cons h t => simp [ih t]
theorem RVs.get {l : List AV} {cs : List Value} (h : RVs G W l cs) (i : Nat) (x : AV) (hx : l[i]? = some x) : ∃ c, cs[i]? = some c ∧ RV G W x c := by
  induction l generalizing cs i with
  | nil => simp at hx
  | cons y l ih =>
    cases h with
    | cons h t =>
      cases i with
      | zero => simp at hx; subst hx; exact ⟨_, rfl, h⟩
      | succ i => simpa using ih t i (by simpa using hx)
theorem RVs.getV {l : List AV} {cs : List Value} (h : RVs G W l cs) (i : Nat) (c : Value) (hc : cs[i]? = some c) : ∃ x, l[i]? = some x ∧ RV G W x c := by
  induction l generalizing cs i with
  | nil => cases h; simp at hc
  | cons y l ih =>
    cases h with
    | cons h t =>
      cases i with
      | zero => simp at hc; subst hc; exact ⟨_, rfl, h⟩
      | succ i => simpa using ih t i (by simpa using hc)
theorem RVs.app {l m : List AV} {cs ds : List Value} (h : RVs G W l cs) (k : RVs G W m ds) : RVs G W (l ++ m) (cs ++ ds) := by
  induction l generalizing cs with
  | nil => cases h; exact k
  | cons x l ih => cases h with | cons h t => exact .cons h (ih t)
theorem RVs.set {l : List AV} {cs : List Value} (h : RVs G W l cs) (i : Nat) {x : AV} {c : Value} (hx : RV G W x c) : RVs G W (l.set i x) (cs.set i c) := by
  induction l generalizing cs i with
  | nil => cases h; exact .nil
  | cons y l ih =>
    cases h with
    | cons h t =>
      cases i with
      | zero => exact .cons hx t
      | succ i => exact .cons h (ih t i)
theorem RVs.take {l : List AV} {cs : List Value} (h : RVs G W l cs) (i : Nat) : RVs G W (l.take i) (cs.take i) := by
  induction l generalizing cs i with
  | nil => cases h; simp; exact .nil
  | cons y l ih =>
    cases h with
    | cons h t =>
      cases i with
      | zero => exact .nil
      | succ i => exact .cons h (ih t i)
theorem RVs.drop {l : List AV} {cs : List Value} (h : RVs G W l cs) (i : Nat) : RVs G W (l.drop i) (cs.drop i) := by
  induction l generalizing cs i with
  | nil => cases h; simp; exact .nil
  | cons y l ih =>
    cases h with
    | cons h t =>
      cases i with
      | zero => exact .cons h t
      | succ i => exact ih t i
theorem RVs.map_v (l : List Value) : RVs G W (l.map .v) l := by
  induction l with
  | nil => exact .nil
  | cons x l ih => exact .cons (.v _) ih
theorem RV.cells {x : AV} {c : Value} (h : RV G W x c) (hd : x ≠ .dead) : RVs G W x.cells c.cells.toList := by
  cases h with
  | v =>
    cases c <;> simp only [AV.cells, Value.cells] <;> first | exact RVs.map_v _ | exact .cons (.v _) .nil
  | agg h => exact h
  | dead => exact absurd rfl hd
  | _ => simp only [AV.cells, Value.cells]; exact .cons (by constructor <;> assumption) .nil
section
variable {pr : Nat → Nat → Prop}
theorem TipPure.ok {n cap sz : Nat} {c : Value} {tip : Tip} (h : TipPure n cap tip) : TipOk G sz c n cap tip := by
  cases tip with
  | no => trivial
  | exact => exact h
  | tp t v => exact h.elim
theorem PV.rv {x : AV} {c : Value} (h : PV G.prot W x c) : RV G W x c :=
  PV.rec (motive_1 := fun x c _ => RV G W x c) (motive_2 := fun l cs _ => RVs G W l cs) (fun _ => .v _) (fun hn h hs hm hc hx ht _ => .lst hn h hs hm hc hx ht.ok) (fun _ ih => .agg ih) .nil (fun _ _ i1 i2 => .cons i1 i2) h
theorem PVs.rvs {l : List AV} {cs : List Value} (h : PVs G.prot W l cs) : RVs G W l cs := by
  induction l generalizing cs with
  | nil => cases h; exact .nil
  | cons x l ih => cases h with | cons h t => exact .cons h.rv (ih t)
theorem PVs.len {l : List AV} {cs : List Value} (h : PVs pr W l cs) : l.length = cs.length := by
  induction l generalizing cs with
  | nil => cases h; rfl
  | cons x l ih => cases h with | cons h t => simp [ih t]
theorem PVs.app {l m : List AV} {cs ds : List Value} (h : PVs pr W l cs) (k : PVs pr W m ds) : PVs pr W (l ++ m) (cs ++ ds) := by
  induction l generalizing cs with
  | nil => cases h; exact k
  | cons x l ih => cases h with | cons h t => exact .cons h (ih t)
theorem PVs.take {l : List AV} {cs : List Value} (h : PVs pr W l cs) (i : Nat) : PVs pr W (l.take i) (cs.take i) := by
  induction l generalizing cs i with
  | nil => cases h; simp; exact .nil
  | cons y l ih =>
    cases h with
    | cons h t =>
      cases i with
      | zero => exact .nil
      | succ i => exact .cons h (ih t i)
theorem PVs.drop {l : List AV} {cs : List Value} (h : PVs pr W l cs) (i : Nat) : PVs pr W (l.drop i) (cs.drop i) := by
  induction l generalizing cs i with
  | nil => cases h; simp; exact .nil
  | cons y l ih =>
    cases h with
    | cons h t =>
      cases i with
      | zero => exact .cons h t
      | succ i => exact ih t i
theorem PVs.map_v (l : List Value) : PVs pr W (l.map .v) l := by
  induction l with
  | nil => exact .nil
  | cons x l ih => exact .cons (.v _) ih
end
theorem val_rel {x : AV} {c u : Value} (h : RV G W x c) (hv : x.val? = some u) : c = u := by
  cases h <;> simp [AV.val?] at hv
  exact hv
theorem vals_rel {l : List AV} {cs us : List Value} (h : RVs G W l cs) (hv : vals? l = some us) : cs = us := by
  induction l generalizing cs us with
  | nil => cases h; simpa [vals?] using hv
  | cons x l ih =>
    cases h with
    | cons h t =>
      unfold vals? at hv
      split at hv
      · rename_i u hu
        split at hv
        · rename_i vs hvs
          simp only [Option.some.injEq] at hv
          subst hv
          rw [val_rel h hu, ih t hvs]
        · cases hv
      · cases hv
theorem mkAgg_rel {l : List AV} {cs : Array Value} (h : RVs G W l cs.toList) : RV G W (mkAgg l) (.agg cs) := by
  unfold mkAgg
  split
  · rename_i us hu
    rw [← vals_rel h hu]
    exact .v _
  · exact .agg h
theorem mkTuple_rel {l : List AV} {cs : Array Value} (h : RVs G W l cs.toList) : RV G W (mkTuple l) (.tuple cs) := by
  unfold mkTuple
  split
  · rename_i us hu
    rw [← vals_rel h hu]
    exact .v _
  · exact .tuple h
end
end Go.Proofs.Ytdijakobocnceaa.AE
