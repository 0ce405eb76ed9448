/-
  Layer 39: the text of a row of events: the program's.
-/
import Derived.Test.YtodjeammjdgkoaaDoorAEIter
import Derived.Test.YtodjeammjdgkoaaDoorAEForget
import Derived.Test.YtodjeammjdgkoaaDoorRow
import Derived.Lib.Builder
import Derived.Lib.AppendStr
import Derived.Lib.UnsafeStr
import Derived.Lib.Strings
import Derived.Test.YtodjeammjdgkoaaDoorZ4
namespace Go.Proofs.YtodjeammjdgkoaaDoor.AE
open Go.RowKit
/-- What goes on whatever the run does. -/
structure Apart {σ : Type} (B : Nat) (J : σ → Gh → World → Prop) : Prop where
  ext : ∀ x G W G' W', J x G W → Ext G W G' W' → J x G' W'
  le : ∀ x G W, J x G W → B ≤ W.heap.size
/-- Triples beside something that lies apart: J tells of it, and what was there before it is bounded by B. -/
def TrS {σ : Type} (P : Program) (ro : Nat → Option (List Value)) (B : Nat) (J : σ → Gh → World → Prop) (c : Code) (act : List AV) (H : AH) (p : σ) (Q : Exit → List AV → AH → σ → Prop) : Prop :=
  ∀ G W (a : Act), Inv G H W → Ro ro G W → RVs G W act a.tmps.toList → J p G W →
    c.wp P (fun e a' W' => ∃ act' H' G' p', Q e act' H' p' ∧ ExtB B G W G' W' ∧ Inv G' H' W' ∧ Ro ro G' W' ∧ RVs G' W' act' a'.tmps.toList ∧ J p' G' W' ∧ a'.defers = a.defers) a W
def nxS {σ : Type} (N : List AV → AH → σ → Prop) (Q : Exit → List AV → AH → σ → Prop) : Exit → List AV → AH → σ → Prop := fun e a h p => match e with
  | .normal => N a h p
  | e => Q e a h p
def TrlS {σ : Type} (P : Program) (ro : Nat → Option (List Value)) (B : Nat) (J : σ → Gh → World → Prop) : List Code → List AV → AH → σ → (Exit → List AV → AH → σ → Prop) → Prop
  | [], act, H, p, Q => Q .normal act H p
  | x :: l, act, H, p, Q => TrS P ro B J x act H p (nxS (fun a h p => TrlS P ro B J l a h p Q) Q)
section
variable {P : Program} {ro : Nat → Option (List Value)} {σ : Type} {B : Nat} {J : σ → Gh → World → Prop} {act : List AV} {H : AH} {p : σ} {Q R : Exit → List AV → AH → σ → Prop}
theorem TrS.mono {c : Code} (h : TrS P ro B J c act H p Q) (hq : ∀ e a h p, Q e a h p → R e a h p) : TrS P ro B J c act H p R :=
  fun G W a hI hR hA hT => wp_mono (h G W a hI hR hA hT) fun _ _ _ ⟨act', H', G', p', q, r⟩ => ⟨act', H', G', p', hq _ _ _ _ q, r⟩
theorem TrS.of_Tr {c : Code} (hJ : Apart B J) (h : Tr P ro c act H fun e a h => Q e a h p) : TrS P ro B J c act H p Q :=
  fun G W a hI hR hA hT => wp_mono (h G W a hI hR hA) fun _ _ _ ⟨act', H', G', q, e, i, r, d⟩ => ⟨act', H', G', p, q, e.toB (hJ.le _ _ _ hT), i, hR.ext e, r, hJ.ext _ _ _ _ _ hT e, d⟩
theorem nxS_mono {N M : List AV → AH → σ → Prop} (h1 : ∀ a h p, N a h p → M a h p) (h2 : ∀ e a h p, Q e a h p → R e a h p) : ∀ e a h p, nxS N Q e a h p → nxS M R e a h p := by
  intro e a h p q
  cases e <;> first | exact h1 _ _ _ q | exact h2 _ _ _ _ q
theorem TrlS.mono (hq : ∀ e a h p, Q e a h p → R e a h p) : ∀ {l : List Code} {act : List AV} {H : AH} {p : σ}, TrlS P ro B J l act H p Q → TrlS P ro B J l act H p R
  | [], _, _, _, h => hq _ _ _ _ h
  | x :: l, _, _, _, h => TrS.mono h (nxS_mono (fun a h p q => TrlS.mono hq q) hq)
theorem TrlS.of_Trl (hJ : Apart B J) : ∀ {l : List Code} {act : List AV} {H : AH}, Trl P ro l act H (fun e a h => Q e a h p) → TrlS P ro B J l act H p Q
  | [], _, _, h => h
  | x :: l, _, _, h => TrS.of_Tr hJ (Tr.mono h fun e a h q => by
      cases e <;> first | exact TrlS.of_Trl hJ q | exact q)
theorem TrS.seq {x y : Code} (hJ : Apart B J) (h : TrS P ro B J x act H p fun e a h p => match e with
    | .normal => TrS P ro B J y a h p Q
    | e => Q e a h p) : TrS P ro B J (.seq x y) act H p Q := by
  intro G W a hI hR hA hT
  refine wp_seq (wp_mono (h G W a hI hR hA hT) ?_)
  rintro e a1 W1 ⟨act1, H1, G1, p1, q, e1, i1, o1, r1, t1, d1⟩
  cases e with
  | normal =>
    refine wp_mono (q G1 W1 a1 i1 o1 r1 t1) ?_
    rintro e a2 W2 ⟨act2, H2, G2, p2, q2, e2, i2, o2, r2, t2, d2⟩
    exact ⟨act2, H2, G2, p2, q2, e1.trans e2, i2, o2, r2, t2, d2.trans d1⟩
  | _ => exact ⟨act1, H1, G1, p1, q, e1, i1, o1, r1, t1, d1⟩
theorem TrlS.append_inv (hJ : Apart B J) {m : List Code} : ∀ {l : List Code} {act : List AV} {H : AH} {p : σ}, TrlS P ro B J (l ++ m) act H p Q → TrlS P ro B J l act H p (nxS (fun a h p => TrlS P ro B J m a h p Q) Q)
  | [], _, _, _, h => h
  | x :: l, _, _, _, h => TrS.mono h fun e a h p q => by cases e <;> first | exact TrlS.append_inv hJ q | exact q
theorem TrS.of_flat (hJ : Apart B J) : ∀ {c : Code} {act : List AV} {H : AH} {p : σ} {Q : Exit → List AV → AH → σ → Prop}, TrlS P ro B J (flatten c) act H p Q → TrS P ro B J c act H p Q := by
  intro c
  induction c with
  | seq x y ihx ihy =>
    intro act H p Q h
    have h1 := ihx (TrlS.append_inv hJ (show TrlS P ro B J (flatten x ++ flatten y) act H p Q from h))
    exact TrS.seq hJ (TrS.mono h1 fun e a h p q => by cases e <;> first | exact ihy q | exact q)
  | _ =>
    intro act H p Q h
    exact TrS.mono h fun e a h p q => by cases e <;> exact q
def leaveS {σ : Type} (id : Nat) (Q : Exit → List AV → AH → σ → Prop) : Exit → List AV → AH → σ → Prop := fun e a h p => match e with
  | .exit i => if i = id then Q .normal a h p else Q (.exit i) a h p
  | e => Q e a h p
theorem TrS.block {id : Nat} {c : Code} (h : TrS P ro B J c act H p (leaveS id Q)) : TrS P ro B J (.block id c) act H p Q := by
  intro G W a hI hR hA hT
  refine wp_block (wp_mono (h G W a hI hR hA hT) ?_)
  rintro e a1 W1 ⟨act1, H1, G1, p1, q, r⟩
  cases e with
  | exit i =>
    unfold leaveS at q
    simp only [Exit.inBlock] at q ⊢
    split at q
    · rename_i hi; rw [if_pos hi]; exact ⟨act1, H1, G1, p1, q, r⟩
    · rename_i hi; rw [if_neg hi]; exact ⟨act1, H1, G1, p1, q, r⟩
  | _ => exact ⟨act1, H1, G1, p1, q, r⟩
theorem TrS.loop {c : Code} (hJ : Apart B J) (I : Nat → List AV → AH → σ → Prop) (h : ∀ m act H p, I m act H p → TrS P ro B J c act H p fun e a h p => match e with
    | .normal => ∃ m', m' < m ∧ I m' a h p
    | e => Q e a h p) {m : Nat} (h0 : I m act H p) : TrS P ro B J (.loop c) act H p Q := by
  intro G W a hI hR hA hT b kk cs
  have key : ∀ m act H p G (a : Act) W, I m act H p → Inv G H W → Ro ro G W → RVs G W act a.tmps.toList → J p G W →
      ∃ e a' w', (∃ act' H' G' p', Q e act' H' p' ∧ ExtB B G W G' w' ∧ Inv G' H' w' ∧ Ro ro G' w' ∧ RVs G' w' act' a'.tmps.toList ∧ J p' G' w' ∧ a'.defers = a.defers) ∧ Arrives P (lone (b.at a (.code c :: .inLoop c :: kk)) cs W) b kk cs e a' w' := by
    intro m
    induction m using Nat.strongRecOn with
    | _ m ih =>
      intro act H p G a W hi hI hR hA hT
      obtain ⟨e, a₁, w₁, hq, harr⟩ := h m act H p hi G W a hI hR hA hT b (.inLoop c :: kk) cs
      obtain ⟨act1, H1, G1, p1, q, e1, i1, o1, r1, t1, d1⟩ := hq
      cases e with
      | normal =>
        obtain ⟨m', hm, hi'⟩ := q
        obtain ⟨e₂, a₂, w₂, ⟨act2, H2, G2, p2, q2, e2, i2, o2, r2, t2, d2⟩, harr₂⟩ := ih m' hm act1 H1 p1 G1 a₁ w₁ hi' i1 o1 r1 t1
        exact ⟨e₂, a₂, w₂, ⟨act2, H2, G2, p2, q2, e1.trans e2, i2, o2, r2, t2, d2.trans d1⟩, .of_steps (Steps.trans harr (.one step_inLoop)) harr₂⟩
      | exit id => exact ⟨_, a₁, w₁, ⟨act1, H1, G1, p1, q, e1, i1, o1, r1, t1, d1⟩, .pass (x := .inLoop c) rfl (fun _ _ => .inl (by simp)) harr⟩
      | goto l => exact ⟨_, a₁, w₁, ⟨act1, H1, G1, p1, q, e1, i1, o1, r1, t1, d1⟩, .pass (x := .inLoop c) rfl (fun _ _ => .inl (by simp)) harr⟩
      | ret => exact ⟨_, a₁, w₁, ⟨act1, H1, G1, p1, q, e1, i1, o1, r1, t1, d1⟩, .pass (x := .inLoop c) rfl (fun _ _ => .inl (by simp)) harr⟩
      | panic ch => exact ⟨_, a₁, w₁, ⟨act1, H1, G1, p1, q, e1, i1, o1, r1, t1, d1⟩, .pass (x := .inLoop c) rfl (fun _ _ => .inl (by simp)) harr⟩
      | outgrown => exact ⟨_, a₁, w₁, ⟨act1, H1, G1, p1, q, e1, i1, o1, r1, t1, d1⟩, .pass (x := .inLoop c) rfl (fun _ _ => .inl (by simp)) harr⟩
  obtain ⟨e, a', w', hq, harr⟩ := key m act H p G a W h0 hI hR hA hT
  exact ⟨e, a', w', hq, .of_steps (.one step_loop) harr⟩
theorem TrS.keep {c : Code} (is : List Nat) (h : TrS P ro B J c (keepI 0 is act) H p Q) : TrS P ro B J c act H p Q :=
  fun G W a hI hR hA hT => h G W a hI hR (keepI_rel _ _ hA) hT
theorem TrlS.append {m : List Code} : ∀ {l : List Code} {act : List AV} {H : AH} {p : σ}, TrlS P ro B J l act H p (nxS (fun a h p => TrlS P ro B J m a h p Q) Q) → TrlS P ro B J (l ++ m) act H p Q
  | [], _, _, _, h => h
  | x :: l, _, _, _, h => TrS.mono h fun e a h p q => by cases e <;> first | exact TrlS.append q | exact q
theorem TrlS.split (n : Nat) {l : List Code} {act : List AV} {H : AH} {p : σ} (h : TrlS P ro B J (l.take n) act H p (nxS (fun a h p => TrlS P ro B J (l.drop n) a h p Q) Q)) : TrlS P ro B J l act H p Q := by
  have := TrlS.append h
  rwa [List.take_append_drop] at this
/-- What was made since, and is not held, is let go. -/
theorem TrS.forget {c : Code} (n k : Nat) (hn : H.blks.length ≤ n) (hk : H.tips.length ≤ k) (hJ : ∀ x G W, J x G W → J x (trimG n k G) W)
    (h : TrS P ro B J c act H p fun e a h p => lows n k a = true ∧ (h.blks.take n).all (fun b => lows n k b.2) = true ∧ Q e a (trimH n k h) p) : TrS P ro B J c act H p Q := by
  intro G W a hI hR hA hT
  refine wp_mono (h G W a hI hR hA hT) ?_
  rintro e a' W' ⟨act', H', G', p', ⟨q1, q2, q3⟩, e1, i1, o1, r1, t1, d1⟩
  refine ⟨act', trimH n k H', trimG n k G', p', q3, ?_, i1.trim q2, o1, lows_rv r1 q1, hJ _ _ _ t1, d1⟩
  exact ⟨e1.os, e1.tape, e1.output, e1.size, fun id b e => trim_δ' (e1.δ id b e) (Nat.lt_of_lt_of_le (hI.δlen id b e) hn), fun t i e => by
    obtain ⟨i', e', r⟩ := e1.tip t i e
    exact ⟨i', trim_tip' e' (Nat.lt_of_lt_of_le (hI.tlen t i e) hk), r⟩, e1.prot, e1.cell, e1.own, e1.new, e1.block, e1.pnew⟩
end
end Go.Proofs.YtodjeammjdgkoaaDoor.AE
namespace Go.Proofs.YtodjeammjdgkoaaDoor
open Go.RowKit
/-- A builder at b: what its first cell holds, its row, and that it is of so many bytes. -/
structure Bu (W : World) (b : Nat) (p v : Value) (s : ByteArray) : Prop where
  at_ : W.heap[b]? = some (.cells #[p, v] 62 (0, 0))
  own : W.ownsRow 0 5 1 v s.size (Lib.strCells s)
  ne : v.ownBlock ≠ some b
  p0 : p = .pointer none ∨ p = .pointer (some ⟨b, 0, none⟩)
/-- All blocks but these are as they were. -/
structure But (W W' : World) (b : Nat) (g : Option Nat) : Prop where
  os : W'.os = W.os
  tape : W'.tape = W.tape
  output : W'.output = W.output
  size : W.heap.size ≤ W'.heap.size
  block : ∀ k, k < W.heap.size → k ≠ b → some k ≠ g → W'.heap[k]? = W.heap[k]?
theorem But.refl (W : World) (b : Nat) (g : Option Nat) : But W W b g := ⟨rfl, rfl, rfl, Nat.le_refl _, fun _ _ _ _ => rfl⟩
theorem But.trans {W W' W'' : World} {b : Nat} {g : Option Nat} (h : But W W' b g) (k : But W' W'' b g) : But W W'' b g :=
  ⟨k.os.trans h.os, k.tape.trans h.tape, k.output.trans h.output, Nat.le_trans h.size k.size, fun j h1 h2 h3 => (k.block j (Nat.lt_of_lt_of_le h1 h.size) h2 h3).trans (h.block j h1 h2 h3)⟩
theorem But.setCell {W : World} (b o : Nat) (x : Value) (g : Option Nat) : But W (W.setCell ⟨b, o, none⟩ x) b g :=
  ⟨rfl, rfl, rfl, by simp [World.setCell], fun k _ hk _ => Below.heap_setCell _ _ _ _ hk⟩
theorem But.grown {W W' : World} {g : Option Nat} (h : W.grownBy W' g) (b : Nat) : But W W' b g := ⟨h.os, h.tape, h.output, h.size, fun k h1 _ h3 => h.block k h1 h3⟩
theorem bu_info : ∃ j, Tryd.prog.info? 62 = some j ∧ j.size ≠ 0 := by
  have h : (Tryd.prog.info? 62).map (fun j => Nat.beq j.size 0) = some false := by kernel_rfl
  obtain ⟨j, hj, h2⟩ := Option.map_eq_some_iff.1 h
  exact ⟨j, hj, fun e => by rw [e] at h2; exact absurd h2 (by decide)⟩
theorem bu_lies : liesAt Tryd.prog Tryd.prog.depth 62 (2 / Tryd.prog.cellsOf 62) 0 62 1 = true := by kernel_rfl
set_option maxHeartbeats 1000000 in
set_option maxRecDepth 100000 in
theorem cc_used (b : Nat) (w : World) (h0 : w.cell? ⟨b, 0, none⟩ = some (.pointer (some ⟨b, 0, none⟩))) :
    Calls Tryd.prog 50 #[.pointer (some ⟨b, 0, none⟩)] w fun e w' => e = .returned (.tuple #[]) ∧ w' = w := by
  obtain ⟨j, hj, _⟩ := bu_info
  go_enter Tryd.func50, Tryd.ntmps50
  go_wp2
  rw [Lib.run_neq_ptr_same w _ (by kernel_rfl) hj]
  go_wp2
  go_end0
  exact ⟨rfl, rfl⟩
set_option maxHeartbeats 1000000 in
set_option maxRecDepth 100000 in
theorem cc_fresh (b : Nat) (w : World) (h0 : w.cell? ⟨b, 0, none⟩ = some (.pointer none)) (hsh : w.shape? b = some (62, 2)) (hfz : w.frozen? ⟨b, 0, none⟩ = false) :
    Calls Tryd.prog 50 #[.pointer (some ⟨b, 0, none⟩)] w fun e w' => e = .returned (.tuple #[]) ∧ w' = w.setCell ⟨b, 0, none⟩ (.pointer (some ⟨b, 0, none⟩)) := by
  obtain ⟨j, hj, hjs⟩ := bu_info
  go_enter Tryd.func50, Tryd.ntmps50
  go_wp2
  rw [Lib.run_to_unsafe w ⟨b, 0, none⟩ (by kernel_rfl) (by kernel_rfl) hj hjs hsh (Nat.zero_lt_succ 1)]
  simp only [Result.andThen]
  rw [Oper.upon_value]
  go_wp2
  rw [run_callFunc_extern (f := 56) Tryd.func56 (by kernel_rfl) (by kernel_rfl) (by kernel_rfl) (e := Extern.AbiNoEscape.same) (by kernel_rfl)]
  rw [Lib.run_noEscape]
  simp only [Result.andThen]
  rw [Oper.upon_value]
  go_wp2
  rw [Lib.run_from_unsafe w ⟨b, 0, none⟩ (by kernel_rfl) (by kernel_rfl) hj hsh bu_lies]
  simp only [Result.andThen]
  rw [Oper.upon_value]
  go_wp2
  go_end0
  exact ⟨rfl, rfl⟩
/-- Behind copyCheck. -/
theorem cc_any {W : World} {b : Nat} {p v : Value} {s : ByteArray} (h : Bu W b p v s) :
    Calls Tryd.prog 50 #[.pointer (some ⟨b, 0, none⟩)] W fun e W' => e = .returned (.tuple #[]) ∧ Bu W' b (.pointer (some ⟨b, 0, none⟩)) v s ∧ But W W' b none := by
  rcases h.p0 with rfl | rfl
  · refine (cc_fresh b W (by simp [World.cell?, h.at_]) (by simp [World.shape?, h.at_]) (by simp [World.frozen?, h.at_])).mono ?_
    rintro e w' ⟨rfl, rfl⟩
    refine ⟨rfl, ⟨by simp [World.setCell, Array.getElem?_modify, h.at_], ?_, h.ne, .inr rfl⟩, .setCell _ _ _ _⟩
    exact h.own.kept (row := some b) ⟨rfl, rfl, rfl, by simp [World.setCell], fun k _ hk => Below.heap_setCell _ _ _ _ (fun e => hk (by simp [e]))⟩ (.inr h.ne)
  · refine (cc_used b W (by simp [World.cell?, h.at_])).mono ?_
    rintro e w' ⟨rfl, rfl⟩
    exact ⟨rfl, h, .refl _ _ _⟩
/-- An append of a text to a row that it owns, by what becomes of the memory. -/
theorem app_str {W : World} {v : Value} {n : Nat} {xs : List Value} {ty : TypeId} {t : ByteArray} (hown : W.ownsRow 0 5 1 v n xs) (hb : n + t.size ≤ 140737488355328) (h1 : ∀ u ∈ xs, u.oneCell' = true) :
    ∃ v' W', (Builtin.append_ #[60, 9] ty #[v, .string t]).run Tryd.prog W = .ok v' W' ∧ W'.ownsRow 0 5 1 v' (n + t.size) (xs ++ Lib.strCells t) ∧ W.grownBy W' v.ownBlock ∧ (∀ k, v'.ownBlock = some k → v.ownBlock = some k ∨ k = W.heap.size) := by
  have hi : (Tryd.prog.info? 5).map (fun j => (j.zero, j.size, j.bytes)) = some (some (.int .u8 0), 1, 1) := by kernel_rfl
  obtain ⟨i, hi, h2⟩ := Option.map_eq_some_iff.1 hi
  simp only [Prod.mk.injEq] at h2
  obtain ⟨hz, hs, hby⟩ := h2
  have hm : n + t.size ≤ maxLen := by unfold maxLen; omega
  obtain ⟨v', W', r1, r2, r3, _⟩ := Lib.run_append_own_string (P := Tryd.prog) W 0 60 9 ty 5 i (by kernel_rfl) (by kernel_rfl) hi hz hs hby v n xs hown t hm hb (Nat.zero_le _)
  have hrow : Row W 0 1 v n xs := by
    refine ⟨hown.1, ?_⟩
    rcases hown.2 with h | ⟨g, cap, cur, hv, _, hg, a1, a2, a3, a4⟩
    · exact .inl h
    · refine .inr ⟨g, 0, cap, hv, Nat.zero_le _, (Array.getElem?_eq_some_iff.1 hg).1, a1, a2, fun j u hj => ?_, fun j h1 h2 => ?_⟩
      · have := hown.cells (g := g) (by rw [hv]; rfl) j u hj
        simpa [WideShapes.add_plain] using this
      · refine ⟨?_, by simp [World.frozen?, hg]⟩
        simp only [World.cell?, hg]
        rw [Nat.zero_add, Array.getElem?_eq_getElem (by omega)]
        rfl
  obtain ⟨v2, W2, q1, _, _, q4⟩ := run_append_row (w := W) (t := 60) (tx := 9) (x := .string t) ty hrow (Src.ofString W (by kernel_rfl) t) (by kernel_rfl) hi hz hs hby rfl hm (by omega) (Nat.zero_le _)
  rw [r1] at q1
  cases q1
  exact ⟨v', W', r1, r2, r3, q4⟩
theorem wp_app_str {W : World} {v : Value} {n : Nat} {xs : List Value} {t : ByteArray} {ops : Array Oper} {rest : List Oper} {o : Oper} {a : Act} {Q : Exit → Act → World → Prop} (hgd : o.guard = none) (sl x : Operand)
    (ho : o.op = .call { callee := .builtin .append, args := #[sl, x], argTypes := #[60, 9] }) (hs : a.eval sl = v) (hx : a.eval x = .string t) (hown : W.ownsRow 0 5 1 v n xs) (hb : n + t.size ≤ 140737488355328) (h1 : ∀ u ∈ xs, u.oneCell' = true)
    (h : ∀ v' W', W'.ownsRow 0 5 1 v' (n + t.size) (xs ++ Lib.strCells t) → W.grownBy W' v.ownBlock → (∀ k, v'.ownBlock = some k → v.ownBlock = some k ∨ k = W.heap.size) → wpList Tryd.prog ops Q rest (a.put o.dst v') W') : wpList Tryd.prog ops Q (o :: rest) a W := by
  refine wpList_plain hgd fun K hK => ?_
  obtain ⟨v', W', hr, r1, r2, r3⟩ := app_str (ty := o.type) hown hb h1
  unfold Oper.wp
  simp [execOp, ho, resolve, invoke, builtin, hs, hx, hr, Result.andThen]
  exact hK _ _ (h v' W' r1 r2 r3)
theorem str_app (s t : ByteArray) : Lib.strCells (s ++ t) = Lib.strCells s ++ Lib.strCells t := by
  unfold Lib.strCells
  rw [ByteArray.data_append, Array.toList_append, List.map_append]
set_option maxHeartbeats 2000000 in
set_option maxRecDepth 100000 in
/-- A text is written behind what is there. -/
theorem bu_write {W : World} {b : Nat} {p v : Value} {s : ByteArray} (h : Bu W b p v s) (t : ByteArray) (hb : s.size + t.size ≤ 140737488355328) :
    Calls Tryd.prog 36 #[.pointer (some ⟨b, 0, none⟩), .string t] W fun e W' => e = .returned (.tuple #[.int .i64 t.size, .nilIface]) ∧ ∃ p' v', Bu W' b p' v' (s ++ t) ∧ But W W' b v.ownBlock ∧ (∀ k, v'.ownBlock = some k → v.ownBlock = some k ∨ W.heap.size ≤ k) := by
  go_enter Tryd.func36, Tryd.ntmps36
  go_wp2_with (go_at_call 50; refine (cc_any h).mono ?_)
  rintro e w1 ⟨rfl, h1, hb1⟩
  have c1 : w1.cell? ⟨b, 1, none⟩ = some v := by simp [World.cell?, h1.at_]
  go_wp2_with (at_builtin; refine wp_app_str rfl _ _ rfl rfl rfl h1.own hb (Lib.strCells_oneCell s) ?_)
  intro v' w2 hown' hgrow hnew
  have hlt : b < w1.heap.size := (Array.getElem?_eq_some_iff.1 h1.at_).1
  have hb2 : w2.heap[b]? = some (.cells #[.pointer (some ⟨b, 0, none⟩), v] 62 (0, 0)) := by
    rw [hgrow.block b hlt (fun e => h1.ne e.symm)]
    exact h1.at_
  have d1 : w2.cell? ⟨b, 1, none⟩ = some v := by simp [World.cell?, hb2]
  have f1 : w2.frozen? ⟨b, 1, none⟩ = false := by simp [World.frozen?, hb2]
  obtain ⟨ao, n', cap, rfl⟩ : ∃ ao n' cap, v' = .slice ao n' cap := by
    rcases hown'.2 with ⟨hv, _⟩ | ⟨g, cap, cur, hv, _⟩
    · exact ⟨_, _, _, hv⟩
    · exact ⟨_, _, _, hv⟩
  go_wp2
  go_ret2
  have hne' : (Value.slice ao n' cap).ownBlock ≠ some b := by
    intro e
    rcases hnew b e with e2 | e2
    · exact h1.ne e2
    · omega
  refine ⟨rfl, .pointer (some ⟨b, 0, none⟩), .slice ao n' cap, ⟨by simp [World.setCell, Array.getElem?_modify, hb2], ?_, hne', .inr rfl⟩, ?_, ?_⟩
  · rw [ByteArray.size_append, str_app]
    exact hown'.kept (row := some b) ⟨rfl, rfl, rfl, by simp [World.setCell], fun k _ hk => Below.heap_setCell _ _ _ _ (fun e => hk (by simp [e]))⟩ (.inr hne')
  · exact ((But.trans (g := v.ownBlock) ⟨hb1.os, hb1.tape, hb1.output, hb1.size, fun k a1 a2 _ => hb1.block k a1 a2 (by simp)⟩ (.grown hgrow b)).trans (.setCell _ _ _ _))
  · intro k hk
    rcases hnew k hk with e | e
    · exact .inl e
    · exact .inr (by rw [e]; exact hb1.size)
set_option maxHeartbeats 2000000 in
set_option maxRecDepth 100000 in
/-- What is there, as a text. -/
theorem bu_string {W : World} {b : Nat} {p v : Value} {s : ByteArray} (h : Bu W b p v s) :
    Calls Tryd.prog 37 #[.pointer (some ⟨b, 0, none⟩)] W fun e W' => e = .returned (.string s) ∧ But W W' b v.ownBlock := by
  rcases h.own.2 with ⟨rfl, h0⟩ | ⟨g, cap, cur, rfl, _, hg, a1, a2, a3, a4⟩
  · have c1 : W.drew.cell? ⟨b, 1, none⟩ = some (.slice none 0 0) := by
      have : W.drew.heap[b]? = _ := h.at_
      simp [World.cell?, this]
    have hs : s = ⟨#[]⟩ := by
      obtain ⟨⟨l⟩⟩ := s
      cases l with
      | nil => rfl
      | cons x l => exact absurd h0 (Nat.succ_ne_zero _)
    subst hs
    have hSD : (Builtin.unsafeSliceData_ #[60] 77 #[.slice none 0 0]).run Tryd.prog W.drew = .ok (.pointer none) W.drew := rfl
    have hUS : ∀ w q, (Builtin.unsafeString_ #[77, 3] 9 #[.pointer q, .int .i64 0]).run Tryd.prog w = .ok (.string .empty) w := fun w q => Lib.run_unsafeString_none w _ _ _ q
    go_enter Tryd.func37, Tryd.ntmps37
    go_wp2
    go_region
    all_goals (go_wp2; go_ret; exact ⟨rfl, ⟨rfl, rfl, rfl, Nat.le_refl _, fun _ _ _ _ => rfl⟩⟩)
  · have c1 : W.drew.cell? ⟨b, 1, none⟩ = some (.slice (some ⟨g, 0, none⟩) s.size cap) := by
      have : W.drew.heap[b]? = _ := h.at_
      simp [World.cell?, this]
    have hUS0 : ∀ w q, (Builtin.unsafeString_ #[77, 3] 9 #[.pointer q, .int .i64 0]).run Tryd.prog w = .ok (.string .empty) w := fun w q => Lib.run_unsafeString_none w _ _ _ q
    have hg' : W.drew.heap[g]? = _ := hg
    by_cases hc0 : cap = 0
    · subst hc0
      have hn : s.size = 0 := by omega
      have hs : s = ⟨#[]⟩ := by
        obtain ⟨⟨l⟩⟩ := s
        cases l with
        | nil => rfl
        | cons x l => exact absurd hn (Nat.succ_ne_zero _)
      subst hs
      have hlt : b < W.heap.size := (Array.getElem?_eq_some_iff.1 h.at_).1
      have hSD : (Builtin.unsafeSliceData_ #[60] 77 #[.slice (some ⟨g, 0, none⟩) 0 0]).run Tryd.prog W.drew = .ok (.pointer (some ⟨W.drew.heap.size, 0, none⟩)) (W.drew.alloc (.view ⟨g, 0, none⟩ 5)) :=
        Lib.run_unsafeSliceData_zero W.drew _ _ 5 (by kernel_rfl) ⟨g, 0, none⟩ 0 (5, cur.size) (by simp [World.shape?, hg'])
      have c2 : (W.drew.alloc (.view ⟨g, 0, none⟩ 5)).cell? ⟨b, 1, none⟩ = some (.slice (some ⟨g, 0, none⟩) 0 0) := by
        have : (W.drew.alloc (.view ⟨g, 0, none⟩ 5)).heap[b]? = _ := (Lib.alloc_old W.drew _ b hlt).trans h.at_
        rw [Lib.cell_of_heap this]; rfl
      have c3 : (W.alloc (.view ⟨g, 0, none⟩ 5)).drew.cell? ⟨b, 1, none⟩ = some (.slice (some ⟨g, 0, none⟩) 0 0) := c2
      have c0 : W.cell? ⟨b, 1, none⟩ = some (.slice (some ⟨g, 0, none⟩) 0 0) := c1
      have hb2 : But W (W.drew.alloc (.view ⟨g, 0, none⟩ 5)) b (some g) := ⟨rfl, rfl, rfl, by show _ ≤ (W.drew.heap.push _).size; rw [Array.size_push]; exact Nat.le_succ _, fun k hk _ _ => Lib.alloc_old W.drew _ k hk⟩
      go_enter Tryd.func37, Tryd.ntmps37
      go_wp2
      go_region
      all_goals (go_wp2; go_ret; exact ⟨rfl, hb2⟩)
    · by_cases h0 : s.size = 0
      · have hs : s = ⟨#[]⟩ := by
          obtain ⟨⟨l⟩⟩ := s
          cases l with
          | nil => rfl
          | cons x l => exact absurd h0 (Nat.succ_ne_zero _)
        subst hs
        have hSD : (Builtin.unsafeSliceData_ #[60] 77 #[.slice (some ⟨g, 0, none⟩) 0 cap]).run Tryd.prog W.drew = .ok (.pointer (some ⟨g, 0, none⟩)) W.drew :=
          Lib.run_unsafeSliceData_row _ _ _ _ _ _ hc0
        clear hc0
        go_enter Tryd.func37, Tryd.ntmps37
        go_wp2
        go_region
        all_goals (go_wp2; go_ret; exact ⟨rfl, ⟨rfl, rfl, rfl, Nat.le_refl _, fun _ _ _ _ => rfl⟩⟩)
      · have hSD : (Builtin.unsafeSliceData_ #[60] 77 #[.slice (some ⟨g, 0, none⟩) s.size cap]).run Tryd.prog W.drew = .ok (.pointer (some ⟨g, 0, none⟩)) W.drew :=
          Lib.run_unsafeSliceData_row _ _ _ _ _ _ hc0
        have hUS : (Builtin.unsafeString_ #[77, 3] 9 #[.pointer (some ⟨g, 0, none⟩), .int .i64 s.size]).run Tryd.prog W.drew = .ok (.string s) (W.drew.freeze ⟨g, 0, none⟩ s.size) := by
          have hl : s.data.toList.length = s.size := by rw [Array.length_toList]; rfl
          have := Lib.run_unsafeString_row (P := Tryd.prog) W.drew 77 3 9 5 (by kernel_rfl) (by kernel_rfl) g cur.size (by simp [World.shape?, hg']) s.data.toList (fun e => h0 (by rw [← hl, e]; rfl)) (by omega) (by unfold maxLen at a2; omega) (fun j x hx => by
            have := h.own.cells (g := g) rfl j (.int .u8 x.toNat) (by unfold Lib.strCells; rw [List.getElem?_map, hx]; rfl)
            exact this)
          rw [hl] at this
          simpa using this
        have hb2 : But W (W.drew.freeze ⟨g, 0, none⟩ s.size) b (some g) := by
          unfold World.freeze
          rw [if_neg h0]
          refine ⟨rfl, rfl, rfl, ?_, fun k hk _ h3 => ?_⟩
          · show _ ≤ (W.drew.heap.modify _ _).size
            rw [Array.size_modify]; exact Nat.le_refl _
          · have hkg : ¬ g = k := fun e => h3 (by rw [e])
            show (W.drew.heap.modify _ _)[k]? = _
            rw [Array.getElem?_modify, if_neg hkg]
            rfl
        clear hc0
        go_enter Tryd.func37, Tryd.ntmps37
        go_wp2
        go_region
        all_goals (go_wp2; go_ret; exact ⟨rfl, hb2⟩)
end Go.Proofs.YtodjeammjdgkoaaDoor
namespace Go.Proofs.YtodjeammjdgkoaaDoor.AE
open Go.RowKit
/-- A builder at b, which holds s and lies apart; or what was one. -/
def Bd (ro : Nat → Option (List Value)) (B b : Nat) (s : Option ByteArray) (G : Gh) (W : World) : Prop := B ≤ W.heap.size ∧ match s with
  | none => True
  | some s => (∀ k cs, ro k = some cs → k < B) ∧ B ≤ b ∧ ¬ G.own b ∧ (∀ o, ¬ G.prot b o) ∧ ∃ p v, Bu W b p v s ∧ ∀ g, v.ownBlock = some g → B ≤ g ∧ ¬ G.own g ∧ ∀ o, ¬ G.prot g o
theorem own_lt {W : World} {e : TypeId} {v : Value} {n : Nat} {xs : List Value} (h : W.ownsRow 0 e 1 v n xs) {g : Nat} (hg : v.ownBlock = some g) : g < W.heap.size := (h.lt g hg).2
theorem own_same {W W' : World} {e : TypeId} {v : Value} {n : Nat} {xs : List Value} (h : W.ownsRow 0 e 1 v n xs) (hb : ∀ g, v.ownBlock = some g → W'.heap[g]? = W.heap[g]?) : W'.ownsRow 0 e 1 v n xs := by
  refine ⟨h.1, ?_⟩
  rcases h.2 with h0 | ⟨g, cap, cur, rfl, h1, h2, h3⟩
  · exact .inl h0
  · exact .inr ⟨g, cap, cur, rfl, h1, (hb g rfl).trans h2, h3⟩
theorem bd_apart (ro : Nat → Option (List Value)) (B b : Nat) : Apart B (Bd ro B b) where
  ext := by
    rintro (_ | s) G W G' W' ⟨h0, h⟩ e
    · exact ⟨Nat.le_trans h0 e.size, trivial⟩
    · obtain ⟨h1, h2, h3, h4, p, v, h5, h6⟩ := h
      have hlt : b < W.heap.size := (Array.getElem?_eq_some_iff.1 h5.at_).1
      refine ⟨Nat.le_trans h0 e.size, h1, h2, fun o => h3 (e.new b hlt o), fun o q => h4 o (e.pnew b o hlt h3 q), p, v, ⟨(e.block b hlt h3).trans h5.at_, own_same h5.own (fun g hg => e.block g (own_lt h5.own hg) (h6 g hg).2.1), h5.ne, h5.p0⟩, fun g hg => ?_⟩
      obtain ⟨k1, k2, k3⟩ := h6 g hg
      have hgl := own_lt h5.own hg
      exact ⟨k1, fun o => k2 (e.new g hgl o), fun o q => k3 o (e.pnew g o hgl k2 q)⟩
  le := fun x G W h => h.1
theorem row_same {w w' : World} {B size : Nat} {v : Value} {n : Nat} {xs : List Value} (h : Row w B size v n xs) (hs : w.heap.size ≤ w'.heap.size) (hb : ∀ g, v.ownBlock = some g → w'.heap[g]? = w.heap[g]?) : Row w' B size v n xs := by
  refine ⟨h.len, ?_⟩
  rcases h.val with h0 | ⟨g, off, cap, rfl, h1, h2, h3, h4, h5, h6⟩
  · exact .inl h0
  · have hb : w'.heap[g]? = w.heap[g]? := hb g rfl
    have hc : ∀ o, w'.cell? ⟨g, o, none⟩ = w.cell? ⟨g, o, none⟩ := fun o => by simp [World.cell?, hb]
    have hf : ∀ o, w'.frozen? ⟨g, o, none⟩ = w.frozen? ⟨g, o, none⟩ := fun o => by simp [World.frozen?, hb]
    exact .inr ⟨g, off, cap, rfl, h1, Nat.lt_of_lt_of_le h2 hs, h3, h4, fun j u hu => (hc _).trans (h5 j u hu), fun j a b => by rw [hc, hf]; exact h6 j a b⟩
section
variable {ro : Nat → Option (List Value)} {G : Gh} {H : AH} {W W' : World} {act : List AV} {cs : List Value} {B b : Nat} {s : ByteArray}
/-- What becomes of all else where a builder turns. -/
theorem bd_moved (h1 : ∀ k cs, ro k = some cs → k < B) (hBs : B ≤ W.heap.size) (h2 : B ≤ b) (h3 : ¬ G.own b) (h4 : ∀ o, ¬ G.prot b o) {v : Value} (h6 : ∀ g, v.ownBlock = some g → B ≤ g ∧ ¬ G.own g ∧ ∀ o, ¬ G.prot g o) (hb : But W W' b v.ownBlock)
    (hI : Inv G H W) (hR : Ro ro G W) (hA : RVs G W act cs) : ExtB B G W G W' ∧ Inv G H W' ∧ Ro ro G W' ∧ RVs G W' act cs := by
  have ho : ∀ j, j < W.heap.size → (G.own j ∨ (∃ o, G.prot j o) ∨ j < B) → W'.heap[j]? = W.heap[j]? := fun j hj hw => by
    refine hb.block j hj ?_ ?_
    · rintro rfl
      rcases hw with hw | ⟨o, hw⟩ | hw
      · exact h3 hw
      · exact h4 o hw
      · omega
    · intro e
      obtain ⟨k1, k2, k3⟩ := h6 j e.symm
      rcases hw with hw | ⟨o, hw⟩ | hw
      · exact k2 hw
      · exact k3 o hw
      · omega
  have hcp : ∀ k o, G.prot k o → W'.cell? ⟨k, o, none⟩ = W.cell? ⟨k, o, none⟩ := fun k o x => cell_heap (ho k (hI.plt k o x) (.inr (.inl ⟨o, x⟩)))
  refine ⟨⟨hb.os, hb.tape, hb.output, hb.size, fun _ _ x => x, fun _ i x => ⟨i, x, .inl rfl⟩, fun _ _ x => x, hcp, fun _ x => x, fun _ _ x => x, fun k hk _ => ho k (Nat.lt_of_lt_of_le hk hBs) (.inr (.inr hk)), fun _ _ _ _ x => x⟩, ?_, ?_, hA.at' hcp⟩
  · refine Inv.mk (fun id t cs hb' => ?_) hI.inj hI.δown hI.δpr hI.δlen hI.tip hI.tlen (fun t i hi => row_same (hI.row t i hi) hb.size fun g hg => ?_) hI.trow hI.tδ hI.tt (fun k o x => Nat.lt_of_lt_of_le (hI.plt k o x) hb.size) (fun k x => Nat.lt_of_lt_of_le (hI.olt k x) hb.size)
    · obtain ⟨k, vs, e1, e2, e3, e4⟩ := hI.blk id t cs hb'
      exact ⟨k, vs, e1, e2.of (ho k (hI.δlt e1) (.inl (hI.δown _ _ e1))), e3.at' hcp, e4⟩
    · have hlt := ((hI.row t i hi).lt g hg).2
      rcases (hI.row t i hi).val with ⟨h0, _⟩ | ⟨g', off, cap', h0, _⟩
      · rw [h0] at hg; cases hg
      · have hgg : g' = g := by rw [h0] at hg; simpa [Value.ownBlock] using hg
        subst hgg
        exact ho g' hlt (.inl (hI.trow t i _ _ _ _ hi h0).2.1)
  · intro k cs' hk
    obtain ⟨r1, r2, t, r3⟩ := hR k cs' hk
    have hk2 : k < W.heap.size := (Array.getElem?_eq_some_iff.1 r3).1
    have := ho k hk2 (.inr (.inr (h1 k cs' hk)))
    exact ⟨fun j u hu => ⟨(r1 j u hu).1, (cell_heap this).trans (r1 j u hu).2⟩, r2, t, this.trans r3⟩
end
/-- A region that makes a builder. -/
structure MakesAt (c : Code) (k : Tmp) : Prop where
  eq : c = .region (rgId c) #[opN c 0] false
  op : (opN c 0).op = .alloc 62
  g : (opN c 0).guard = none
  d : (opN c 0).dst = some k
theorem Tr.newBd {ro : Nat → Option (List Value)} {c rest : Code} {act : List AV} {H : AH} {Q : Exit → List AV → AH → Prop} {k : Tmp} (hc : MakesAt c k)
    (h : ∀ B b, TrS Tryd.prog ro B (Bd ro B b) rest (act.set k (.v (.pointer (some ⟨b, 0, none⟩)))) H (some .empty) fun e a h _ => Q e a h) : Tr Tryd.prog ro (.seq c rest) act H Q := by
  intro G W a hI hR hA
  rw [hc.eq]
  refine wp_seq (wp_region_list ?_)
  have hz : (Tryd.prog.info? 62).map (fun i => i.zero) = some (some (.agg #[.pointer none, .slice none 0 0])) := by kernel_rfl
  obtain ⟨i, hi, hz⟩ := Option.map_eq_some_iff.1 hz
  unfold wpList
  rw [if_pos (by simp [Region.wanted, hc.g])]
  left
  unfold Oper.wp
  have e1 : (execOp a.eval (opN c 0)).run Tryd.prog W = .ok (.value (.pointer (some ⟨W.heap.size, 0, none⟩))) (W.alloc (.cells #[.pointer none, .slice none 0 0] 62)) := by
    rw [execOp, hc.op]
    simp [Instr.alloc, zeroValue, typeInfo, hi, hz, newVar, run_newRow, Value.cells]
  rw [e1, Oper.upon_value]
  unfold wpList
  have hbel : Below W.heap.size W (W.alloc (.cells #[.pointer none, .slice none 0 0] 62)) := (Below.refl W.heap.size W).alloc (Nat.le_refl _) _
  obtain ⟨x1, x2⟩ := hI.below hbel
  have hT : Bd ro W.heap.size W.heap.size (some .empty) G (W.alloc (.cells #[.pointer none, .slice none 0 0] 62)) := by
    refine ⟨hbel.size, fun k cs hk => ?_, Nat.le_refl _, fun o => Nat.lt_irrefl _ (hI.olt _ o), fun o q => Nat.lt_irrefl _ (hI.plt _ _ q), _, _, ⟨?_, World.ownsRow_nil _ _ _ _, by simp [Value.ownBlock], .inl rfl⟩, fun g hg => by cases hg⟩
    · obtain ⟨_, _, t, r3⟩ := hR k cs hk
      exact (Array.getElem?_eq_some_iff.1 r3).1
    · show (W.heap.push _)[W.heap.size]? = _
      simp
  have hA2 : RVs G (W.alloc (.cells #[.pointer none, .slice none 0 0] 62)) (act.set k (.v (.pointer (some ⟨W.heap.size, 0, none⟩)))) ((a.put (opN c 0).dst (.pointer (some ⟨W.heap.size, 0, none⟩))).tmps.toList) := by
    have := put_rel (hA.ext x1) (opN c 0).dst (.v (.pointer (some ⟨W.heap.size, 0, none⟩)))
    rw [hc.d] at this ⊢
    exact this
  refine wp_mono (h W.heap.size W.heap.size G _ _ x2 (hR.ext x1) hA2 hT) ?_
  rintro e a' W' ⟨act', H', G', p', q, e3, i3, _, r3, _, d3⟩
  exact ⟨act', H', G', q, ((x1.toB (Nat.le_refl _)).trans e3).toExt, i3, r3, by rw [d3, put_defers]⟩
/-- A region that writes the text in slot i, and a mark behind it, behind the builder in slot q. -/
structure WritesAt (c : Code) (i j k q l : Tmp) (ty : TypeId) (nl : ByteArray) : Prop where
  eq : c = .region (rgId c) #[opN c 0, opN c 1, opN c 2] false
  p1 : (opN c 0).op = .move (.tmp i)
  d1 : (opN c 0).dst = some j
  g1 : (opN c 0).guard = none
  p2 : (opN c 1).op = .binOp .add ty (.tmp j) (.const (.string nl)) ty
  d2 : (opN c 1).dst = some k
  g2 : (opN c 1).guard = none
  p3 : ∀ act, call? act (opN c 2) = some (36, [ev act (.tmp q), ev act (.tmp k)])
  d3 : (opN c 2).dst = some l
  g3 : (opN c 2).guard = none
theorem wpl_val {P : Program} {all : Array Oper} {o : Oper} {rest : List Oper} {a : Act} {W W' : World} {Q : Exit → Act → World → Prop} {c : Value} (hg : o.guard = none) (hr : (execOp a.eval o).run P W = .ok (.value c) W') (k : wpList P all Q rest (a.put o.dst c) W') : wpList P all Q (o :: rest) a W := by
  unfold wpList
  rw [if_pos (by simp [Region.wanted, hg])]
  left
  unfold Oper.wp
  rw [hr]
  exact k
theorem ev_same {act : List AV} {j : Nat} {x : AV} (hj : j < act.length) : ev (act.set j x) (.tmp j) = x := by
  show (act.set j x).getD j _ = x
  rw [List.getD_eq_getElem?_getD, List.getElem?_set_self hj]; rfl
theorem ev_other {act : List AV} {i j : Nat} {x : AV} (hj : j ≠ i) : ev (act.set j x) (.tmp i) = ev act (.tmp i) := by
  show (act.set j x).getD i _ = act.getD i _
  rw [List.getD_eq_getElem?_getD, List.getD_eq_getElem?_getD, List.getElem?_set_ne hj]
section
variable {ro : Nat → Option (List Value)} {B b : Nat} {s : ByteArray} {act : List AV} {H : AH} {c : Code}
theorem TrS.write {i j k q l : Tmp} {ty : TypeId} {nl t : ByteArray} (hc : WritesAt c i j k q l ty nl) (hu : Tryd.prog.underlying ty = some .string) (hN : Named Tryd.prog) (hi : ev act (.tmp i) = .v (.string t)) (hq : ev act (.tmp q) = .v (.pointer (some ⟨b, 0, none⟩))) (hj : j < act.length) (hk : k < act.length) (hqj : j ≠ q) (hqk : k ≠ q)
    (hs : s.size + (t ++ nl).size ≤ 140737488355328) : TrS Tryd.prog ro B (Bd ro B b) c act H (some s) fun e a h x => e = .normal ∧ h = H ∧ x = some (s ++ (t ++ nl)) ∧ ∃ u, a = ((act.set j (.v (.string t))).set k (.v (.string (t ++ nl)))).set l (.v u) := by
  rintro G W a hI hR hA ⟨h0, h1, h2, h3, h4, p, v, h5, h6⟩
  rw [hc.eq]
  refine wp_region_list ?_
  have r0 := ev_rel hA (.tmp i)
  rw [hi] at r0
  have v0 : a.eval (.tmp i) = .string t := by generalize a.eval (.tmp i) = u at r0; cases r0; rfl
  refine wpl_val (c := .string t) (W' := W) hc.g1 (by rw [execOp, hc.p1]; simp [v0]) ?_
  have A1 : RVs G W (act.set j (.v (.string t))) (a.put (opN c 0).dst (.string t)).tmps.toList := by
    have := put_rel hA (opN c 0).dst (.v (.string t))
    rw [hc.d1] at this ⊢
    exact this
  have r1 := ev_rel A1 (.tmp j)
  rw [ev_same hj] at r1
  have v1 : (a.put (opN c 0).dst (.string t)).eval (.tmp j) = .string t := by generalize (a.put (opN c 0).dst (.string t)).eval (.tmp j) = u at r1; cases r1; rfl
  refine wpl_val (c := .string (t ++ nl)) (W' := W) hc.g2 (by
    have v2 : (a.put (opN c 0).dst (.string t)).tmps[j]?.getD undef = .string t := by simpa [Act.eval] using v1
    have hsz : (t.size : Int) + nl.size ≤ 9223372036854775807 := by rw [ByteArray.size_append] at hs; omega
    rw [execOp, hc.p2]; simp [Act.eval, v2, binOp, eqGuard, Op.stringOp, run_underlying hu, hsz]) ?_
  have A2 : RVs G W ((act.set j (.v (.string t))).set k (.v (.string (t ++ nl)))) ((a.put (opN c 0).dst (.string t)).put (opN c 1).dst (.string (t ++ nl))).tmps.toList := by
    have := put_rel A1 (opN c 1).dst (.v (.string (t ++ nl)))
    rw [hc.d2] at this ⊢
    exact this
  have hcall := hc.p3 ((act.set j (.v (.string t))).set k (.v (.string (t ++ nl))))
  rw [ev_other hqk, ev_other hqj, hq, ev_same (by rw [List.length_set]; exact hk)] at hcall
  obtain ⟨cargs, k1, k2⟩ := call_run (W := W) hN A2 hcall
  have hca : cargs = #[.pointer (some ⟨b, 0, none⟩), .string (t ++ nl)] := by
    have := vals_rel k1 (us := [.pointer (some ⟨b, 0, none⟩), .string (t ++ nl)]) rfl
    rw [← Array.toArray_toList (xs := cargs), this]
  subst hca
  unfold wpList
  rw [if_pos (by simp [Region.wanted, hc.g3])]
  left
  unfold Oper.wp
  rw [k2 (has_fn (by kernel_rfl))]
  refine Calls.mono (bu_write h5 (t ++ nl) hs) ?_
  rintro e W' ⟨rfl, p', v', n1, n2, n3⟩
  obtain ⟨m1, m2, m3, m4⟩ := bd_moved h1 h0 h2 h3 h4 h6 n2 hI hR A2
  refine ⟨_, H, G, _, ⟨rfl, rfl, rfl, .tuple #[.int .i64 (t ++ nl).size, .nilIface], rfl⟩, m1, m2, m3, ?_, ⟨Nat.le_trans h0 n2.size, h1, h2, h3, h4, p', v', n1, fun g hg => ?_⟩, by rw [put_defers, put_defers, put_defers]⟩
  · have := put_rel m4 (opN c 2).dst (.v (.tuple #[.int .i64 (t ++ nl).size, .nilIface]))
    rw [hc.d3] at this ⊢
    exact this
  · rcases n3 g hg with e | e
    · exact h6 g e
    · exact ⟨Nat.le_trans h0 e, fun o => by have := hI.olt _ o; omega, fun o q => by have := hI.plt _ _ q; omega⟩
/-- A region that takes the builder's text, and names it and a number. -/
structure TakesAt (c : Code) (q k x y : Tmp) (z : Value) : Prop where
  eq : c = .region (rgId c) #[opN c 0, opN c 1, opN c 2] false
  p1 : ∀ act, call? act (opN c 0) = some (37, [ev act (.tmp q)])
  d1 : (opN c 0).dst = some k
  g1 : (opN c 0).guard = none
  p2 : (opN c 1).op = .assign (.tmp k)
  d2 : (opN c 1).dst = some x
  g2 : (opN c 1).guard = none
  p3 : (opN c 2).op = .assign (.const z)
  d3 : (opN c 2).dst = some y
  g3 : (opN c 2).guard = none
theorem TrS.take {q k x y : Tmp} {z : Value} (hc : TakesAt c q k x y z) (hN : Named Tryd.prog) (hq : ev act (.tmp q) = .v (.pointer (some ⟨b, 0, none⟩))) (hk : k < act.length) :
    TrS Tryd.prog ro B (Bd ro B b) c act H (some s) fun e a h w => e = .normal ∧ h = H ∧ w = none ∧ a = ((act.set k (.v (.string s))).set x (.v (.string s))).set y (.v z) := by
  rintro G W a hI hR hA ⟨h0, h1, h2, h3, h4, p, v, h5, h6⟩
  rw [hc.eq]
  refine wp_region_list ?_
  have hcall := hc.p1 act
  rw [hq] at hcall
  obtain ⟨cargs, k1, k2⟩ := call_run (W := W) hN hA hcall
  have hca : cargs = #[.pointer (some ⟨b, 0, none⟩)] := by
    have := vals_rel k1 (us := [.pointer (some ⟨b, 0, none⟩)]) rfl
    rw [← Array.toArray_toList (xs := cargs), this]
  subst hca
  show wpList Tryd.prog _ _ [opN c 0, opN c 1, opN c 2] a W
  unfold wpList
  rw [if_pos (by simp [Region.wanted, hc.g1])]
  left
  unfold Oper.wp
  rw [k2 (has_fn (by kernel_rfl))]
  refine Calls.mono (bu_string h5) ?_
  rintro e W' ⟨rfl, n2⟩
  obtain ⟨m1, m2, m3, m4⟩ := bd_moved h1 h0 h2 h3 h4 h6 n2 hI hR hA
  have A1 : RVs G W' (act.set k (.v (.string s))) (a.put (opN c 0).dst (.string s)).tmps.toList := by
    have := put_rel m4 (opN c 0).dst (.v (.string s))
    rw [hc.d1] at this ⊢
    exact this
  have r1 := ev_rel A1 (.tmp k)
  rw [ev_same hk] at r1
  have v1 : (a.put (opN c 0).dst (.string s)).eval (.tmp k) = .string s := by generalize (a.put (opN c 0).dst (.string s)).eval (.tmp k) = u at r1; cases r1; rfl
  refine wpl_val (c := .string s) (W' := W') hc.g2 (by rw [execOp, hc.p2]; simp [v1]) ?_
  have A2 := put_rel A1 (opN c 1).dst (.v (.string s))
  refine wpl_val (c := z) (W' := W') hc.g3 (by rw [execOp, hc.p3]; simp [Act.eval]) ?_
  have A3 := put_rel A2 (opN c 2).dst (.v z)
  refine ⟨_, H, G, none, ⟨rfl, rfl, rfl, rfl⟩, m1, m2, m3, ?_, ⟨Nat.le_trans h0 n2.size, trivial⟩, by rw [put_defers, put_defers, put_defers]⟩
  rw [hc.d2, hc.d3] at A3
  rw [hc.d2, hc.d3]
  exact A3
end
theorem bd_trim {ro : Nat → Option (List Value)} {B b n k : Nat} : ∀ x G W, Bd ro B b x G W → Bd ro B b x (trimG n k G) W := fun _ _ _ h => h
end Go.Proofs.YtodjeammjdgkoaaDoor.AE
namespace Go.Proofs.YtodjeammjdgkoaaDoor.AE
open Go.RowKit
structure Evt where
  k : Int
  t : Int
  s : Int
  i : Int
  c : Int
  a : Int
  b : Int
def evA (e : Evt) : AV := .v (evV e.k e.t e.s e.i e.c e.a e.b)
def evL (L : List Evt) : AV := .lst 7 (L.map evA) .no
structure US where
  LT : Int → Int → Int → Int → Int → Int → Int → ByteArray
  LE : Int → Int
  E : ByteArray → Nat → Int
  F : ByteArray → Int
  FL : ByteArray → List ByteArray
  FW : ByteArray → List ByteArray
noncomputable def prU (S : US) : FuncId → Option (List AV → AH → Ans) := fun g => match g with
  | 7 => some (pure? (ltP S.LT S.LE))
  | 8 => some (pure? (ltP S.LT S.LE))
  | 9 => some (pure? (paE S.E S.F))
  | 10 => some (pure? (paE S.E S.F))
  | 38 => some (tot? (listV S.FL) textOk)
  | 39 => some (tot? (listV S.FL) textOk)
  | 31 => some (tot? (listV S.FW) textOk)
  | 33 => some (tot? (listV S.FW) textOk)
  | _ => none
def txA (L : List Evt) (b : Nat) (n i : Int) : List AV := [.dead, .dead, .dead, .dead, .v (.pointer (some ⟨b, 0, none⟩)), .dead, .dead, .dead, .dead, evL L, gi n, gi i] ++ ded 16
def seA (L M : List Evt) (i : Int) : List AV := [evL L, evL M, .dead, .dead, .dead, gi i] ++ ded 26
theorem tt_0 (S : US) (tS tR : TypeId) (pS pR : Value) (L : List Evt) (R : Exit → List AV → AH → Prop) : code (roT tS pS tR pR) (fun _ => false) (prU S) 8 (sub (bodyOf 13) [0]) ([evL L] ++ List.replicate 27 (.v undef)) (hp [] []) (kp [0] R) =
    (some (True ∧ (R Exit.normal [(AV.lst (7 : Nat) (List.map evA L) Tip.no), AV.dead, AV.dead, AV.dead, AV.dead, AV.dead, AV.dead, AV.dead, AV.dead, AV.dead, AV.dead, AV.dead, AV.dead, AV.dead, AV.dead, AV.dead, AV.dead, AV.dead, AV.dead, AV.dead, AV.dead, AV.dead, AV.dead, AV.dead, AV.dead, AV.dead, AV.dead, AV.dead] (AH.mk (@List.nil (Prod Go.TypeId (List AV))) (@List.nil Nat) (0 : Nat) (0 : Nat) true (@List.nil (Prod Nat Bool)) True)))) := by kernel_rfl
theorem tt_2 (S : US) (tS tR : TypeId) (pS pR : Value) (L : List Evt) (b : Nat) (R : Exit → List AV → AH → Prop) : code (roT tS pS tR pR) (fun _ => false) (prU S) 8 (sub (bodyOf 13) [1, 1, 0, 0]) ([evL L, .dead, .dead, .dead, .v (.pointer (some ⟨b, 0, none⟩))] ++ ded 23) (hp [] []) (kp [4, 9, 10, 11] R) =
    (some (True ∧ (R Exit.normal [AV.dead, AV.dead, AV.dead, AV.dead, (AV.v (Value.pointer (some (Go.Addr.mk b (0 : Nat) none)))), AV.dead, AV.dead, AV.dead, AV.dead, (AV.lst (7 : Nat) (List.map evA L) Tip.no), (AV.v (Value.int IntKind.i64 ((List.length (List.map evA L)) : Int))), (AV.v (Value.int IntKind.i64 (0 : Int))), AV.dead, AV.dead, AV.dead, AV.dead, AV.dead, AV.dead, AV.dead, AV.dead, AV.dead, AV.dead, AV.dead, AV.dead, AV.dead, AV.dead, AV.dead, AV.dead] (AH.mk (@List.nil (Prod Go.TypeId (List AV))) (@List.nil Nat) (0 : Nat) (0 : Nat) true (@List.nil (Prod Nat Bool)) True)))) := by kernel_rfl
theorem tt_h (S : US) (tS tR : TypeId) (pS pR : Value) (L : List Evt) (b : Nat) (n i : Int) (R : Exit → List AV → AH → Prop) : codeL (roT tS pS tR pR) (fun _ => false) (prU S) 8 ((flatten (sub (bodyOf 13) [1, 1, 0, 1, 0, 0])).take 2) (txA L b n i) (hp [] []) (kp [4, 9, 10, 11] R) =
    (bif (decide (i < n)) then (some (True ∧ (R Exit.normal [AV.dead, AV.dead, AV.dead, AV.dead, (AV.v (Value.pointer (some (Go.Addr.mk b (0 : Nat) none)))), AV.dead, AV.dead, AV.dead, AV.dead, (AV.lst (7 : Nat) (List.map evA L) Tip.no), (AV.v (Value.int IntKind.i64 n)), (AV.v (Value.int IntKind.i64 i)), AV.dead, AV.dead, AV.dead, AV.dead, AV.dead, AV.dead, AV.dead, AV.dead, AV.dead, AV.dead, AV.dead, AV.dead, AV.dead, AV.dead, AV.dead, AV.dead] (AH.mk (@List.nil (Prod Go.TypeId (List AV))) (@List.nil Nat) (0 : Nat) (0 : Nat) true (@List.nil (Prod Nat Bool)) True)))) else (some (True ∧ (R (Exit.exit (0 : Nat)) [AV.dead, AV.dead, AV.dead, AV.dead, (AV.v (Value.pointer (some (Go.Addr.mk b (0 : Nat) none)))), AV.dead, AV.dead, AV.dead, AV.dead, (AV.lst (7 : Nat) (List.map evA L) Tip.no), (AV.v (Value.int IntKind.i64 n)), (AV.v (Value.int IntKind.i64 i)), AV.dead, AV.dead, AV.dead, AV.dead, AV.dead, AV.dead, AV.dead, AV.dead, AV.dead, AV.dead, AV.dead, AV.dead, AV.dead, AV.dead, AV.dead, AV.dead] (AH.mk (@List.nil (Prod Go.TypeId (List AV))) (@List.nil Nat) (0 : Nat) (0 : Nat) true (@List.nil (Prod Nat Bool)) True))))) := by kernel_rfl
theorem tt_a (S : US) (tS tR : TypeId) (pS pR : Value) (L : List Evt) (b : Nat) (n i : Int) (R : Exit → List AV → AH → Prop) : codeL (roT tS pS tR pR) (fun _ => false) (prU S) 8 ((flatten (sub (bodyOf 13) [1, 1, 0, 1, 0, 0, 1, 1, 0, 0])).take 4) (txA L b n i) (hp [] []) (kp [2, 3, 4, 7, 9, 10, 11] R) =
    (bif (((S).2 (exInt (List.getD (AV.cells (List.getD (List.map evA L) (Int.toNat i) AV.dead)) (0 : Nat) AV.dead))) != (0 : Int)) then (some ((cdb (cds True (elemB Tryd.prog (23 : Nat) (List.map evA L) i) (((0 : Int) ≤ i) ∧ (((List.map evA L)[(Int.toNat i)]?) = (some (AV.v (Value.agg #[(Value.int IntKind.i64 (exInt (List.getD (AV.cells (List.getD (List.map evA L) (Int.toNat i) AV.dead)) (0 : Nat) AV.dead))), (Value.int IntKind.i64 (exInt (List.getD (AV.cells (List.getD (List.map evA L) (Int.toNat i) AV.dead)) (1 : Nat) AV.dead))), (Value.int IntKind.i64 (exInt (List.getD (AV.cells (List.getD (List.map evA L) (Int.toNat i) AV.dead)) (2 : Nat) AV.dead))), (Value.int IntKind.i64 (exInt (List.getD (AV.cells (List.getD (List.map evA L) (Int.toNat i) AV.dead)) (3 : Nat) AV.dead))), (Value.int IntKind.i64 (exInt (List.getD (AV.cells (List.getD (List.map evA L) (Int.toNat i) AV.dead)) (4 : Nat) AV.dead))), (Value.int IntKind.i64 (exInt (List.getD (AV.cells (List.getD (List.map evA L) (Int.toNat i) AV.dead)) (5 : Nat) AV.dead))), (Value.int IntKind.i64 (exInt (List.getD (AV.cells (List.getD (List.map evA L) (Int.toNat i) AV.dead)) (6 : Nat) AV.dead)))])))))) ((in64 (exInt (List.getD (AV.cells (List.getD (List.map evA L) (Int.toNat i) AV.dead)) (0 : Nat) AV.dead))) && ((in64 (exInt (List.getD (AV.cells (List.getD (List.map evA L) (Int.toNat i) AV.dead)) (1 : Nat) AV.dead))) && ((in64 (exInt (List.getD (AV.cells (List.getD (List.map evA L) (Int.toNat i) AV.dead)) (2 : Nat) AV.dead))) && ((in64 (exInt (List.getD (AV.cells (List.getD (List.map evA L) (Int.toNat i) AV.dead)) (3 : Nat) AV.dead))) && ((in64 (exInt (List.getD (AV.cells (List.getD (List.map evA L) (Int.toNat i) AV.dead)) (4 : Nat) AV.dead))) && ((in64 (exInt (List.getD (AV.cells (List.getD (List.map evA L) (Int.toNat i) AV.dead)) (5 : Nat) AV.dead))) && (in64 (exInt (List.getD (AV.cells (List.getD (List.map evA L) (Int.toNat i) AV.dead)) (6 : Nat) AV.dead)))))))))) ∧ (R Exit.ret [AV.dead, AV.dead, (AV.v (Value.string (ByteArray.mk (Array.mk (@List.nil UInt8))))), (AV.v (Value.int IntKind.i64 ((S).2 (exInt (List.getD (AV.cells (List.getD (List.map evA L) (Int.toNat i) AV.dead)) (0 : Nat) AV.dead))))), (AV.v (Value.pointer (some (Go.Addr.mk b (0 : Nat) none)))), AV.dead, AV.dead, (AV.v (Value.string ((S).1 (exInt (List.getD (AV.cells (List.getD (List.map evA L) (Int.toNat i) AV.dead)) (0 : Nat) AV.dead)) (exInt (List.getD (AV.cells (List.getD (List.map evA L) (Int.toNat i) AV.dead)) (1 : Nat) AV.dead)) (exInt (List.getD (AV.cells (List.getD (List.map evA L) (Int.toNat i) AV.dead)) (2 : Nat) AV.dead)) (exInt (List.getD (AV.cells (List.getD (List.map evA L) (Int.toNat i) AV.dead)) (3 : Nat) AV.dead)) (exInt (List.getD (AV.cells (List.getD (List.map evA L) (Int.toNat i) AV.dead)) (4 : Nat) AV.dead)) (exInt (List.getD (AV.cells (List.getD (List.map evA L) (Int.toNat i) AV.dead)) (5 : Nat) AV.dead)) (exInt (List.getD (AV.cells (List.getD (List.map evA L) (Int.toNat i) AV.dead)) (6 : Nat) AV.dead))))), AV.dead, (AV.lst (7 : Nat) (List.map evA L) Tip.no), (AV.v (Value.int IntKind.i64 n)), (AV.v (Value.int IntKind.i64 i)), AV.dead, AV.dead, AV.dead, AV.dead, AV.dead, AV.dead, AV.dead, AV.dead, AV.dead, AV.dead, AV.dead, AV.dead, AV.dead, AV.dead, AV.dead, AV.dead] (AH.mk [((23 : Nat), [(AV.v (Value.int IntKind.i64 (exInt (List.getD (AV.cells (List.getD (List.map evA L) (Int.toNat i) AV.dead)) (0 : Nat) AV.dead)))), (AV.v (Value.int IntKind.i64 (exInt (List.getD (AV.cells (List.getD (List.map evA L) (Int.toNat i) AV.dead)) (1 : Nat) AV.dead)))), (AV.v (Value.int IntKind.i64 (exInt (List.getD (AV.cells (List.getD (List.map evA L) (Int.toNat i) AV.dead)) (2 : Nat) AV.dead)))), (AV.v (Value.int IntKind.i64 (exInt (List.getD (AV.cells (List.getD (List.map evA L) (Int.toNat i) AV.dead)) (3 : Nat) AV.dead)))), (AV.v (Value.int IntKind.i64 (exInt (List.getD (AV.cells (List.getD (List.map evA L) (Int.toNat i) AV.dead)) (4 : Nat) AV.dead)))), (AV.v (Value.int IntKind.i64 (exInt (List.getD (AV.cells (List.getD (List.map evA L) (Int.toNat i) AV.dead)) (5 : Nat) AV.dead)))), (AV.v (Value.int IntKind.i64 (exInt (List.getD (AV.cells (List.getD (List.map evA L) (Int.toNat i) AV.dead)) (6 : Nat) AV.dead))))])] (@List.nil Nat) (0 : Nat) (0 : Nat) true (@List.nil (Prod Nat Bool)) True)))) else (some ((cdb (cds True (elemB Tryd.prog (23 : Nat) (List.map evA L) i) (((0 : Int) ≤ i) ∧ (((List.map evA L)[(Int.toNat i)]?) = (some (AV.v (Value.agg #[(Value.int IntKind.i64 (exInt (List.getD (AV.cells (List.getD (List.map evA L) (Int.toNat i) AV.dead)) (0 : Nat) AV.dead))), (Value.int IntKind.i64 (exInt (List.getD (AV.cells (List.getD (List.map evA L) (Int.toNat i) AV.dead)) (1 : Nat) AV.dead))), (Value.int IntKind.i64 (exInt (List.getD (AV.cells (List.getD (List.map evA L) (Int.toNat i) AV.dead)) (2 : Nat) AV.dead))), (Value.int IntKind.i64 (exInt (List.getD (AV.cells (List.getD (List.map evA L) (Int.toNat i) AV.dead)) (3 : Nat) AV.dead))), (Value.int IntKind.i64 (exInt (List.getD (AV.cells (List.getD (List.map evA L) (Int.toNat i) AV.dead)) (4 : Nat) AV.dead))), (Value.int IntKind.i64 (exInt (List.getD (AV.cells (List.getD (List.map evA L) (Int.toNat i) AV.dead)) (5 : Nat) AV.dead))), (Value.int IntKind.i64 (exInt (List.getD (AV.cells (List.getD (List.map evA L) (Int.toNat i) AV.dead)) (6 : Nat) AV.dead)))])))))) ((in64 (exInt (List.getD (AV.cells (List.getD (List.map evA L) (Int.toNat i) AV.dead)) (0 : Nat) AV.dead))) && ((in64 (exInt (List.getD (AV.cells (List.getD (List.map evA L) (Int.toNat i) AV.dead)) (1 : Nat) AV.dead))) && ((in64 (exInt (List.getD (AV.cells (List.getD (List.map evA L) (Int.toNat i) AV.dead)) (2 : Nat) AV.dead))) && ((in64 (exInt (List.getD (AV.cells (List.getD (List.map evA L) (Int.toNat i) AV.dead)) (3 : Nat) AV.dead))) && ((in64 (exInt (List.getD (AV.cells (List.getD (List.map evA L) (Int.toNat i) AV.dead)) (4 : Nat) AV.dead))) && ((in64 (exInt (List.getD (AV.cells (List.getD (List.map evA L) (Int.toNat i) AV.dead)) (5 : Nat) AV.dead))) && (in64 (exInt (List.getD (AV.cells (List.getD (List.map evA L) (Int.toNat i) AV.dead)) (6 : Nat) AV.dead)))))))))) ∧ (R Exit.normal [AV.dead, AV.dead, AV.dead, AV.dead, (AV.v (Value.pointer (some (Go.Addr.mk b (0 : Nat) none)))), AV.dead, AV.dead, (AV.v (Value.string ((S).1 (exInt (List.getD (AV.cells (List.getD (List.map evA L) (Int.toNat i) AV.dead)) (0 : Nat) AV.dead)) (exInt (List.getD (AV.cells (List.getD (List.map evA L) (Int.toNat i) AV.dead)) (1 : Nat) AV.dead)) (exInt (List.getD (AV.cells (List.getD (List.map evA L) (Int.toNat i) AV.dead)) (2 : Nat) AV.dead)) (exInt (List.getD (AV.cells (List.getD (List.map evA L) (Int.toNat i) AV.dead)) (3 : Nat) AV.dead)) (exInt (List.getD (AV.cells (List.getD (List.map evA L) (Int.toNat i) AV.dead)) (4 : Nat) AV.dead)) (exInt (List.getD (AV.cells (List.getD (List.map evA L) (Int.toNat i) AV.dead)) (5 : Nat) AV.dead)) (exInt (List.getD (AV.cells (List.getD (List.map evA L) (Int.toNat i) AV.dead)) (6 : Nat) AV.dead))))), AV.dead, (AV.lst (7 : Nat) (List.map evA L) Tip.no), (AV.v (Value.int IntKind.i64 n)), (AV.v (Value.int IntKind.i64 i)), AV.dead, AV.dead, AV.dead, AV.dead, AV.dead, AV.dead, AV.dead, AV.dead, AV.dead, AV.dead, AV.dead, AV.dead, AV.dead, AV.dead, AV.dead, AV.dead] (AH.mk [((23 : Nat), [(AV.v (Value.int IntKind.i64 (exInt (List.getD (AV.cells (List.getD (List.map evA L) (Int.toNat i) AV.dead)) (0 : Nat) AV.dead)))), (AV.v (Value.int IntKind.i64 (exInt (List.getD (AV.cells (List.getD (List.map evA L) (Int.toNat i) AV.dead)) (1 : Nat) AV.dead)))), (AV.v (Value.int IntKind.i64 (exInt (List.getD (AV.cells (List.getD (List.map evA L) (Int.toNat i) AV.dead)) (2 : Nat) AV.dead)))), (AV.v (Value.int IntKind.i64 (exInt (List.getD (AV.cells (List.getD (List.map evA L) (Int.toNat i) AV.dead)) (3 : Nat) AV.dead)))), (AV.v (Value.int IntKind.i64 (exInt (List.getD (AV.cells (List.getD (List.map evA L) (Int.toNat i) AV.dead)) (4 : Nat) AV.dead)))), (AV.v (Value.int IntKind.i64 (exInt (List.getD (AV.cells (List.getD (List.map evA L) (Int.toNat i) AV.dead)) (5 : Nat) AV.dead)))), (AV.v (Value.int IntKind.i64 (exInt (List.getD (AV.cells (List.getD (List.map evA L) (Int.toNat i) AV.dead)) (6 : Nat) AV.dead))))])] (@List.nil Nat) (0 : Nat) (0 : Nat) true (@List.nil (Prod Nat Bool)) True))))) := by kernel_rfl
theorem tt_9 (S : US) (tS tR : TypeId) (pS pR : Value) (L : List Evt) (b : Nat) (n i : Int) (R : Exit → List AV → AH → Prop) : code (roT tS pS tR pR) (fun _ => false) (prU S) 8 (sub (bodyOf 13) [1, 1, 0, 1, 0, 0, 1, 1, 1]) (txA L b n i) (hp [] []) (kp [4, 9, 10, 11] R) =
    (some (True ∧ (R Exit.normal [AV.dead, AV.dead, AV.dead, AV.dead, (AV.v (Value.pointer (some (Go.Addr.mk b (0 : Nat) none)))), AV.dead, AV.dead, AV.dead, AV.dead, (AV.lst (7 : Nat) (List.map evA L) Tip.no), (AV.v (Value.int IntKind.i64 n)), (AV.v (Value.int IntKind.i64 (IntKind.wrap IntKind.i64 (i + (1 : Int))))), AV.dead, AV.dead, AV.dead, AV.dead, AV.dead, AV.dead, AV.dead, AV.dead, AV.dead, AV.dead, AV.dead, AV.dead, AV.dead, AV.dead, AV.dead, AV.dead] (AH.mk (@List.nil (Prod Go.TypeId (List AV))) (@List.nil Nat) (0 : Nat) (0 : Nat) true (@List.nil (Prod Nat Bool)) True)))) := by kernel_rfl
theorem se_pre (ro : Nat → Option (List Value)) (L M : List Evt) (R : Exit → List AV → AH → Prop) : codeL ro (fun _ => false) (fun _ => none) 8 ((flatten (bodyOf 17)).take 4) ([evL L, evL M] ++ List.replicate 30 (.v undef)) (hp [] []) (kp [0, 1, 4, 5] R) =
    (bif (((List.length (List.map evA L)) : Int) != ((List.length (List.map evA M)) : Int)) then (some (True ∧ (R Exit.ret [(AV.lst (7 : Nat) (List.map evA L) Tip.no), (AV.lst (7 : Nat) (List.map evA M) Tip.no), AV.dead, AV.dead, (AV.v (Value.bool false)), (AV.v (Value.tuple (Array.mk (@List.nil Go.Value)))), AV.dead, AV.dead, AV.dead, AV.dead, AV.dead, AV.dead, AV.dead, AV.dead, AV.dead, AV.dead, AV.dead, AV.dead, AV.dead, AV.dead, AV.dead, AV.dead, AV.dead, AV.dead, AV.dead, AV.dead, AV.dead, AV.dead, AV.dead, AV.dead, AV.dead, AV.dead] (AH.mk (@List.nil (Prod Go.TypeId (List AV))) (@List.nil Nat) (0 : Nat) (0 : Nat) true (@List.nil (Prod Nat Bool)) True)))) else (some (True ∧ (R Exit.normal [(AV.lst (7 : Nat) (List.map evA L) Tip.no), (AV.lst (7 : Nat) (List.map evA M) Tip.no), AV.dead, AV.dead, (AV.v (Value.bool false)), (AV.v (Value.int IntKind.i64 (0 : Int))), AV.dead, AV.dead, AV.dead, AV.dead, AV.dead, AV.dead, AV.dead, AV.dead, AV.dead, AV.dead, AV.dead, AV.dead, AV.dead, AV.dead, AV.dead, AV.dead, AV.dead, AV.dead, AV.dead, AV.dead, AV.dead, AV.dead, AV.dead, AV.dead, AV.dead, AV.dead] (AH.mk (@List.nil (Prod Go.TypeId (List AV))) (@List.nil Nat) (0 : Nat) (0 : Nat) true (@List.nil (Prod Nat Bool)) True))))) := by kernel_rfl
theorem se_in (ro : Nat → Option (List Value)) (L M : List Evt) (i : Int) (R : Exit → List AV → AH → Prop) : code ro (fun _ => false) (fun _ => none) 8 (sub (bodyOf 17) [1, 1, 0, 1, 0, 0]) (seA L M i) (hp [] []) (kp [0, 1, 4, 5] R) =
    (bif (decide (i < ((List.length (List.map evA L)) : Int))) then (bif (decide (i < ((List.length (List.map evA M)) : Int))) then (bif (!(((exInt (List.getD (AV.cells (List.getD (List.map evA L) (Int.toNat i) AV.dead)) (0 : Nat) AV.dead)) == (exInt (List.getD (AV.cells (List.getD (List.map evA M) (Int.toNat i) AV.dead)) (0 : Nat) AV.dead))) && (((exInt (List.getD (AV.cells (List.getD (List.map evA L) (Int.toNat i) AV.dead)) (1 : Nat) AV.dead)) == (exInt (List.getD (AV.cells (List.getD (List.map evA M) (Int.toNat i) AV.dead)) (1 : Nat) AV.dead))) && (((exInt (List.getD (AV.cells (List.getD (List.map evA L) (Int.toNat i) AV.dead)) (2 : Nat) AV.dead)) == (exInt (List.getD (AV.cells (List.getD (List.map evA M) (Int.toNat i) AV.dead)) (2 : Nat) AV.dead))) && (((exInt (List.getD (AV.cells (List.getD (List.map evA L) (Int.toNat i) AV.dead)) (3 : Nat) AV.dead)) == (exInt (List.getD (AV.cells (List.getD (List.map evA M) (Int.toNat i) AV.dead)) (3 : Nat) AV.dead))) && (((exInt (List.getD (AV.cells (List.getD (List.map evA L) (Int.toNat i) AV.dead)) (4 : Nat) AV.dead)) == (exInt (List.getD (AV.cells (List.getD (List.map evA M) (Int.toNat i) AV.dead)) (4 : Nat) AV.dead))) && (((exInt (List.getD (AV.cells (List.getD (List.map evA L) (Int.toNat i) AV.dead)) (5 : Nat) AV.dead)) == (exInt (List.getD (AV.cells (List.getD (List.map evA M) (Int.toNat i) AV.dead)) (5 : Nat) AV.dead))) && (((exInt (List.getD (AV.cells (List.getD (List.map evA L) (Int.toNat i) AV.dead)) (6 : Nat) AV.dead)) == (exInt (List.getD (AV.cells (List.getD (List.map evA M) (Int.toNat i) AV.dead)) (6 : Nat) AV.dead))) && true)))))))) then (some ((cds (cds True (elemB Tryd.prog (23 : Nat) (List.map evA L) i) (((0 : Int) ≤ i) ∧ (((List.map evA L)[(Int.toNat i)]?) = (some (AV.v (Value.agg #[(Value.int IntKind.i64 (exInt (List.getD (AV.cells (List.getD (List.map evA L) (Int.toNat i) AV.dead)) (0 : Nat) AV.dead))), (Value.int IntKind.i64 (exInt (List.getD (AV.cells (List.getD (List.map evA L) (Int.toNat i) AV.dead)) (1 : Nat) AV.dead))), (Value.int IntKind.i64 (exInt (List.getD (AV.cells (List.getD (List.map evA L) (Int.toNat i) AV.dead)) (2 : Nat) AV.dead))), (Value.int IntKind.i64 (exInt (List.getD (AV.cells (List.getD (List.map evA L) (Int.toNat i) AV.dead)) (3 : Nat) AV.dead))), (Value.int IntKind.i64 (exInt (List.getD (AV.cells (List.getD (List.map evA L) (Int.toNat i) AV.dead)) (4 : Nat) AV.dead))), (Value.int IntKind.i64 (exInt (List.getD (AV.cells (List.getD (List.map evA L) (Int.toNat i) AV.dead)) (5 : Nat) AV.dead))), (Value.int IntKind.i64 (exInt (List.getD (AV.cells (List.getD (List.map evA L) (Int.toNat i) AV.dead)) (6 : Nat) AV.dead)))])))))) (elemB Tryd.prog (23 : Nat) (List.map evA M) i) (((0 : Int) ≤ i) ∧ (((List.map evA M)[(Int.toNat i)]?) = (some (AV.v (Value.agg #[(Value.int IntKind.i64 (exInt (List.getD (AV.cells (List.getD (List.map evA M) (Int.toNat i) AV.dead)) (0 : Nat) AV.dead))), (Value.int IntKind.i64 (exInt (List.getD (AV.cells (List.getD (List.map evA M) (Int.toNat i) AV.dead)) (1 : Nat) AV.dead))), (Value.int IntKind.i64 (exInt (List.getD (AV.cells (List.getD (List.map evA M) (Int.toNat i) AV.dead)) (2 : Nat) AV.dead))), (Value.int IntKind.i64 (exInt (List.getD (AV.cells (List.getD (List.map evA M) (Int.toNat i) AV.dead)) (3 : Nat) AV.dead))), (Value.int IntKind.i64 (exInt (List.getD (AV.cells (List.getD (List.map evA M) (Int.toNat i) AV.dead)) (4 : Nat) AV.dead))), (Value.int IntKind.i64 (exInt (List.getD (AV.cells (List.getD (List.map evA M) (Int.toNat i) AV.dead)) (5 : Nat) AV.dead))), (Value.int IntKind.i64 (exInt (List.getD (AV.cells (List.getD (List.map evA M) (Int.toNat i) AV.dead)) (6 : Nat) AV.dead)))])))))) ∧ (R Exit.ret [(AV.lst (7 : Nat) (List.map evA L) Tip.no), (AV.lst (7 : Nat) (List.map evA M) Tip.no), AV.dead, AV.dead, (AV.v (Value.bool false)), (AV.v (Value.int IntKind.i64 i)), AV.dead, AV.dead, AV.dead, AV.dead, AV.dead, AV.dead, AV.dead, AV.dead, AV.dead, AV.dead, AV.dead, AV.dead, AV.dead, AV.dead, AV.dead, AV.dead, AV.dead, AV.dead, AV.dead, AV.dead, AV.dead, AV.dead, AV.dead, AV.dead, AV.dead, AV.dead] (AH.mk (@List.nil (Prod Go.TypeId (List AV))) (@List.nil Nat) (0 : Nat) (0 : Nat) true (@List.nil (Prod Nat Bool)) True)))) else (some ((cds (cds True (elemB Tryd.prog (23 : Nat) (List.map evA L) i) (((0 : Int) ≤ i) ∧ (((List.map evA L)[(Int.toNat i)]?) = (some (AV.v (Value.agg #[(Value.int IntKind.i64 (exInt (List.getD (AV.cells (List.getD (List.map evA L) (Int.toNat i) AV.dead)) (0 : Nat) AV.dead))), (Value.int IntKind.i64 (exInt (List.getD (AV.cells (List.getD (List.map evA L) (Int.toNat i) AV.dead)) (1 : Nat) AV.dead))), (Value.int IntKind.i64 (exInt (List.getD (AV.cells (List.getD (List.map evA L) (Int.toNat i) AV.dead)) (2 : Nat) AV.dead))), (Value.int IntKind.i64 (exInt (List.getD (AV.cells (List.getD (List.map evA L) (Int.toNat i) AV.dead)) (3 : Nat) AV.dead))), (Value.int IntKind.i64 (exInt (List.getD (AV.cells (List.getD (List.map evA L) (Int.toNat i) AV.dead)) (4 : Nat) AV.dead))), (Value.int IntKind.i64 (exInt (List.getD (AV.cells (List.getD (List.map evA L) (Int.toNat i) AV.dead)) (5 : Nat) AV.dead))), (Value.int IntKind.i64 (exInt (List.getD (AV.cells (List.getD (List.map evA L) (Int.toNat i) AV.dead)) (6 : Nat) AV.dead)))])))))) (elemB Tryd.prog (23 : Nat) (List.map evA M) i) (((0 : Int) ≤ i) ∧ (((List.map evA M)[(Int.toNat i)]?) = (some (AV.v (Value.agg #[(Value.int IntKind.i64 (exInt (List.getD (AV.cells (List.getD (List.map evA M) (Int.toNat i) AV.dead)) (0 : Nat) AV.dead))), (Value.int IntKind.i64 (exInt (List.getD (AV.cells (List.getD (List.map evA M) (Int.toNat i) AV.dead)) (1 : Nat) AV.dead))), (Value.int IntKind.i64 (exInt (List.getD (AV.cells (List.getD (List.map evA M) (Int.toNat i) AV.dead)) (2 : Nat) AV.dead))), (Value.int IntKind.i64 (exInt (List.getD (AV.cells (List.getD (List.map evA M) (Int.toNat i) AV.dead)) (3 : Nat) AV.dead))), (Value.int IntKind.i64 (exInt (List.getD (AV.cells (List.getD (List.map evA M) (Int.toNat i) AV.dead)) (4 : Nat) AV.dead))), (Value.int IntKind.i64 (exInt (List.getD (AV.cells (List.getD (List.map evA M) (Int.toNat i) AV.dead)) (5 : Nat) AV.dead))), (Value.int IntKind.i64 (exInt (List.getD (AV.cells (List.getD (List.map evA M) (Int.toNat i) AV.dead)) (6 : Nat) AV.dead)))])))))) ∧ (R Exit.normal [(AV.lst (7 : Nat) (List.map evA L) Tip.no), (AV.lst (7 : Nat) (List.map evA M) Tip.no), AV.dead, AV.dead, AV.dead, (AV.v (Value.int IntKind.i64 (IntKind.wrap IntKind.i64 (i + (1 : Int))))), AV.dead, AV.dead, AV.dead, AV.dead, AV.dead, AV.dead, AV.dead, AV.dead, AV.dead, AV.dead, AV.dead, AV.dead, AV.dead, AV.dead, AV.dead, AV.dead, AV.dead, AV.dead, AV.dead, AV.dead, AV.dead, AV.dead, AV.dead, AV.dead, AV.dead, AV.dead] (AH.mk (@List.nil (Prod Go.TypeId (List AV))) (@List.nil Nat) (0 : Nat) (0 : Nat) true (@List.nil (Prod Nat Bool)) True))))) else (some (True ∧ (R (Exit.exit (0 : Nat)) [(AV.lst (7 : Nat) (List.map evA L) Tip.no), (AV.lst (7 : Nat) (List.map evA M) Tip.no), AV.dead, AV.dead, AV.dead, (AV.v (Value.int IntKind.i64 i)), AV.dead, AV.dead, AV.dead, AV.dead, AV.dead, AV.dead, AV.dead, AV.dead, AV.dead, AV.dead, AV.dead, AV.dead, AV.dead, AV.dead, AV.dead, AV.dead, AV.dead, AV.dead, AV.dead, AV.dead, AV.dead, AV.dead, AV.dead, AV.dead, AV.dead, AV.dead] (AH.mk (@List.nil (Prod Go.TypeId (List AV))) (@List.nil Nat) (0 : Nat) (0 : Nat) true (@List.nil (Prod Nat Bool)) True))))) else (some (True ∧ (R (Exit.exit (0 : Nat)) [(AV.lst (7 : Nat) (List.map evA L) Tip.no), (AV.lst (7 : Nat) (List.map evA M) Tip.no), AV.dead, AV.dead, AV.dead, (AV.v (Value.int IntKind.i64 i)), AV.dead, AV.dead, AV.dead, AV.dead, AV.dead, AV.dead, AV.dead, AV.dead, AV.dead, AV.dead, AV.dead, AV.dead, AV.dead, AV.dead, AV.dead, AV.dead, AV.dead, AV.dead, AV.dead, AV.dead, AV.dead, AV.dead, AV.dead, AV.dead, AV.dead, AV.dead] (AH.mk (@List.nil (Prod Go.TypeId (List AV))) (@List.nil Nat) (0 : Nat) (0 : Nat) true (@List.nil (Prod Nat Bool)) True))))) := by kernel_rfl
theorem se_post (ro : Nat → Option (List Value)) (L M : List Evt) (i : Int) (R : Exit → List AV → AH → Prop) : codeL ro (fun _ => false) (fun _ => none) 8 ((flatten (bodyOf 17)).drop 5) (seA L M i) (hp [] []) (kp [4] R) =
    (some (True ∧ (R Exit.ret [AV.dead, AV.dead, AV.dead, AV.dead, (AV.v (Value.bool true)), AV.dead, AV.dead, AV.dead, AV.dead, AV.dead, AV.dead, AV.dead, AV.dead, AV.dead, AV.dead, AV.dead, AV.dead, AV.dead, AV.dead, AV.dead, AV.dead, AV.dead, AV.dead, AV.dead, AV.dead, AV.dead, AV.dead, AV.dead, AV.dead, AV.dead, AV.dead, AV.dead] (AH.mk (@List.nil (Prod Go.TypeId (List AV))) (@List.nil Nat) (0 : Nat) (0 : Nat) true (@List.nil (Prod Nat Bool)) True)))) := by kernel_rfl
end Go.Proofs.YtodjeammjdgkoaaDoor.AE
namespace Go.Proofs.YtodjeammjdgkoaaDoor.AE
open Go.RowKit
def evOk (e : Evt) : Prop := w64 e.k ∧ w64 e.t ∧ w64 e.s ∧ w64 e.i ∧ w64 e.c ∧ w64 e.a ∧ w64 e.b
theorem evOk_in {e : Evt} (h : evOk e) : (in64 e.k && (in64 e.t && (in64 e.s && (in64 e.i && (in64 e.c && (in64 e.a && in64 e.b)))))) = true := by
  obtain ⟨h1, h2, h3, h4, h5, h6, h7⟩ := h
  rw [in64_to h1, in64_to h2, in64_to h3, in64_to h4, in64_to h5, in64_to h6, in64_to h7]; rfl
theorem ev_get {cs : List Evt} {i : Nat} (h : i < cs.length) : (cs.map evA).getD (Int.toNat (i : Int)) .dead = evA cs[i] := by
  show (cs.map evA).getD i .dead = _
  rw [List.getD_eq_getElem?_getD]
  simp [h]
theorem ev_el {cs : List Evt} {i : Nat} (h : i < cs.length) : (0 : Int) ≤ (i : Int) ∧ (cs.map evA)[Int.toNat (i : Int)]? = some (evA cs[i]) := ⟨Int.natCast_nonneg i, by
  show (cs.map evA)[i]? = _
  simp [h]⟩
theorem evl (l : List Evt) : (l.map evA).length = l.length := List.length_map ..
def nlB : ByteArray := ⟨#[10]⟩
def lineO (e : Evt) : ByteArray := lineT e.k e.t e.s e.i e.c e.a e.b
def goodK (e : Evt) : Bool := decide (1 ≤ e.k ∧ e.k ≤ 15)
def catT : List Evt → ByteArray → ByteArray
  | [], s => s
  | e :: l, s => catT l (s ++ (lineO e ++ nlB))
theorem catT_app : ∀ (l m : List Evt) (s : ByteArray), catT (l ++ m) s = catT m (catT l s)
  | [], _, _ => rfl
  | e :: l, m, s => catT_app l m _
def textT (L : List Evt) : ByteArray := if L.all goodK = true then catT L ⟨#[]⟩ else ⟨#[]⟩
def textE (L : List Evt) : Int := if L.all goodK = true then 0 else 1
theorem text_bad {L : List Evt} {i : Nat} (h : i < L.length) (hb : goodK L[i] = false) : textT L = ⟨#[]⟩ ∧ textE L = 1 := by
  have : ¬ L.all goodK = true := fun e => by
    have := List.all_eq_true.1 e _ (List.getElem_mem h)
    rw [hb] at this; cases this
  exact ⟨if_neg this, if_neg this⟩
theorem all_take {L : List Evt} {i : Nat} (h : i < L.length) (ha : (L.take i).all goodK = true) (hg : goodK L[i] = true) : (L.take (i + 1)).all goodK = true := by
  rw [take_snoc h, List.all_append, ha]; simp [hg]
theorem lineE_bad {e : Evt} (h : (lineE e.k != 0) = true) : goodK e = false ∧ lineE e.k = 1 := by
  have := lineE_ne h
  exact ⟨decide_eq_false this, if_neg this⟩
theorem lineE_good {e : Evt} (h : (lineE e.k != 0) = false) : goodK e = true := decide_eq_true (lineE_eq h)
def usX : US := ⟨lineT, lineE, fun s => pE (wordsS s), fun s => pF (wordsS s), linesS, wordsS⟩
section
variable {tS tR : TypeId} {pS pR : Value}
theorem knownU : Known (roT tS pS tR pR) (prU usX) := by
  intro g p h
  unfold prU at h
  split at h
  · cases h; exact lt_ok (has_fn (by kernel_rfl)) fs_line
  · cases h; exact lt_ok (has_fn (by kernel_rfl)) fs_rline
  · cases h; exact pae_ok (has_fn (by kernel_rfl)) fs_tparse
  · cases h; exact pae_ok (has_fn (by kernel_rfl)) fs_trparse
  · cases h; exact knownW _ _ _ rfl
  · cases h; exact knownW _ _ _ rfl
  · cases h; exact knownW _ _ _ rfl
  · cases h; exact knownW _ _ _ rfl
  · cases h
theorem lineO_len {e : Evt} (h : evOk e) : (lineO e).size ≤ 400 := by
  obtain ⟨h1, h2, h3, h4, h5, h6, h7⟩ := h
  unfold lineO lineT
  split
  · exact Nat.le_trans (joinB_size _ (lineL_len h2 h3 h4 h5 h6 h7)) (Nat.le_of_ble_eq_true rfl)
  · exact Nat.zero_le _
theorem catT_size {N : Nat} : ∀ (l : List Evt) (s : ByteArray), (∀ e ∈ l, (lineO e).size ≤ N) → (catT l s).size ≤ s.size + (N + 1) * l.length
  | [], s, _ => by unfold catT; simp
  | e :: l, s, h => by
    unfold catT
    have h1 := catT_size l (s ++ (lineO e ++ nlB)) fun x hx => h x (List.mem_cons_of_mem _ hx)
    have h2 := h e (List.mem_cons_self ..)
    rw [ByteArray.size_append, ByteArray.size_append, show nlB.size = 1 from rfl] at h1
    rw [List.length_cons, Nat.mul_add]
    omega
theorem catT_snoc {L : List Evt} {i : Nat} (h : i < L.length) (s : ByteArray) : catT (L.take (i + 1)) s = catT (L.take i) s ++ (lineO L[i] ++ nlB) := by
  rw [take_snoc h, catT_app]; rfl
theorem text_all {L : List Evt} (h : L.all goodK = true) : textT L = catT L ⟨#[]⟩ ∧ textE L = 0 := ⟨if_pos h, if_pos h⟩
theorem se_sl : slotsOf 17 = 32 := by kernel_rfl
theorem se_re : resultsOf 17 = [.tmp 4] := by kernel_rfl
theorem se_fl : (flatten (bodyOf 17)).drop 4 = .block 0 (.loop (sub (bodyOf 17) [1, 1, 0, 1, 0, 0])) :: (flatten (bodyOf 17)).drop 5 := by kernel_rfl
theorem ev_ext {a b : Evt} : (a.k == b.k && (a.t == b.t && (a.s == b.s && (a.i == b.i && (a.c == b.c && (a.a == b.a && (a.b == b.b && true))))))) = true ↔ a = b := by
  obtain ⟨a1, a2, a3, a4, a5, a6, a7⟩ := a
  obtain ⟨b1, b2, b3, b4, b5, b6, b7⟩ := b
  simp
instance : DecidableEq Evt := fun a b => decidable_of_iff _ (ev_ext (a := a) (b := b))
theorem bnot_t {b : Bool} (h : (!b) = true) : b = false := by cases b <;> simp_all
theorem bnot_f {b : Bool} (h : (!b) = false) : b = true := by cases b <;> simp_all
set_option maxHeartbeats 4000000 in
set_option maxRecDepth 100000 in
theorem fs_sev {ro : Nat → Option (List Value)} (a b : List Evt) (ha : a.length ≤ 1000000) : Fs Tryd.prog ro 17 [evL a, evL b] (hp [] []) fun r _ => r = .v (.bool (decide (a = b))) := by
  refine Fs.of_body (has_fn (by kernel_rfl)) ?_
  rw [se_sl, se_re]
  have pre := fun R => se_pre ro a b R
  rw [evl, evl] at pre
  refine Tr.of_flat (Trl.split 4 (Trl.of_code (known_none _) (ne_nil (by kernel_rfl)) (pre _) (holds_bif (fun h => ⟨trivial, .inr rfl, trivial, ?_⟩) fun h => ⟨trivial, ?_⟩)))
  · have h : ¬ a = b := by rintro rfl; simp at h
    rw [decide_eq_false h]; rfl
  have hlen : a.length = b.length := by simp at h; omega
  show Trl _ _ ((flatten (bodyOf 17)).drop 4) _ _ _
  rw [se_fl]
  let I : Nat → List AV → AH → Prop := fun m act H => ∃ i : Nat, i ≤ a.length ∧ m = a.length - i ∧ act = seA a b i ∧ H = hp [] [] ∧ a.take i = b.take i
  refine Tr.keepL [0, 1, 5] rfl (Tr.block (Tr.loop I ?_ (m := a.length) ⟨0, Nat.zero_le _, rfl, rfl, rfl, rfl⟩))
  rintro m act H ⟨i, hi, rfl, rfl, rfl, hp⟩
  have body := fun R => se_in ro a b i R
  rw [evl, evl, inc64 i (by omega)] at body
  refine Tr.of_code (known_none _) (body _) (holds_bif (fun h1 => holds_bif (fun h2 => ?_) (fun h2 => ?_)) fun h1 => ⟨trivial, ?_⟩)
  · have h1 : i < a.length := by have := of_decide_eq_true h1; omega
    have h2 : i < b.length := by omega
    have g1 := ev_el h1
    have g2 := ev_el h2
    rw [ev_get h1, ev_get h2]
    refine holds_bif (fun h3 => ⟨cds_of (cds_of trivial g1) g2, .inr rfl, trivial, ?_⟩) (fun h3 => ⟨cds_of (cds_of trivial g1) g2, a.length - (i + 1), by omega, i + 1, h1, rfl, rfl, rfl, ?_⟩)
    · have h3 : (a[i].k == b[i].k && (a[i].t == b[i].t && (a[i].s == b[i].s && (a[i].i == b[i].i && (a[i].c == b[i].c && (a[i].a == b[i].a && (a[i].b == b[i].b && true))))))) = false := bnot_t h3
      have : ¬ a = b := by
        rintro rfl
        have h4 := ev_ext.2 (rfl : a[i] = a[i])
        exact Bool.noConfusion (h3.symm.trans h4)
      rw [decide_eq_false this]; rfl
    · have h3 : (a[i].k == b[i].k && (a[i].t == b[i].t && (a[i].s == b[i].s && (a[i].i == b[i].i && (a[i].c == b[i].c && (a[i].a == b[i].a && (a[i].b == b[i].b && true))))))) = true := bnot_f h3
      rw [take_snoc h1, take_snoc h2, hp, ev_ext.1 h3]
  · have h1 := of_decide_eq_true h1
    have h2 := of_decide_eq_false h2
    omega
  · have h1 : i = a.length := by have := of_decide_eq_false h1; omega
    have hab : a = b := by
      rw [h1, List.take_length, hlen, List.take_length] at hp; exact hp
    show Trl _ _ ((flatten (bodyOf 17)).drop 5) _ _ _
    refine Trl.of_code (known_none _) (ne_nil (by kernel_rfl)) (se_post ro _ _ _ _) ⟨trivial, .inr rfl, trivial, ?_⟩
    rw [decide_eq_true hab]; rfl
end
end Go.Proofs.YtodjeammjdgkoaaDoor.AE
namespace Go.Proofs.YtodjeammjdgkoaaDoor.AE
open Go.RowKit
theorem tt_sl : slotsOf 13 = 28 := by kernel_rfl
theorem tt_re : resultsOf 13 = [.tmp 2, .tmp 3] := by kernel_rfl
theorem tt_bo : bodyOf 13 = .seq (sub (bodyOf 13) [0]) (.seq (sub (bodyOf 13) [1, 0]) (sub (bodyOf 13) [1, 1])) := by kernel_rfl
theorem tt_f11 : flatten (sub (bodyOf 13) [1, 1]) = [sub (bodyOf 13) [1, 1, 0, 0], .block 0 (.loop (sub (bodyOf 13) [1, 1, 0, 1, 0, 0])), sub (bodyOf 13) [1, 1, 1, 0], .ret] := by kernel_rfl
theorem tt_fb : (flatten (sub (bodyOf 13) [1, 1, 0, 1, 0, 0])).drop 2 = [.block 1 (sub (bodyOf 13) [1, 1, 0, 1, 0, 0, 1, 1, 0, 0]), sub (bodyOf 13) [1, 1, 0, 1, 0, 0, 1, 1, 1]] := by kernel_rfl
theorem tt_fc : (flatten (sub (bodyOf 13) [1, 1, 0, 1, 0, 0, 1, 1, 0, 0])).drop 4 = [sub (bodyOf 13) [1, 1, 0, 1, 0, 0, 1, 1, 0, 0, 1, 1, 1]] := by kernel_rfl
theorem tt_mk : MakesAt (sub (bodyOf 13) [1, 0]) 4 := ⟨by kernel_rfl, by kernel_rfl, by kernel_rfl, by kernel_rfl⟩
theorem tt_wr : WritesAt (sub (bodyOf 13) [1, 1, 0, 1, 0, 0, 1, 1, 0, 0, 1, 1, 1]) 7 23 24 4 25 9 nlB := ⟨by kernel_rfl, by kernel_rfl, by kernel_rfl, by kernel_rfl, by kernel_rfl, by kernel_rfl, by kernel_rfl, fun _ => by kernel_rfl, by kernel_rfl, by kernel_rfl⟩
theorem tt_tk : TakesAt (sub (bodyOf 13) [1, 1, 1, 0]) 4 27 2 3 (.int .i64 0) := ⟨by kernel_rfl, fun _ => by kernel_rfl, by kernel_rfl, by kernel_rfl, by kernel_rfl, by kernel_rfl, by kernel_rfl, by kernel_rfl, by kernel_rfl, by kernel_rfl⟩
theorem TrS.ret {P : Program} {ro : Nat → Option (List Value)} {σ : Type} {B : Nat} {J : σ → Gh → World → Prop} (hJ : Apart B J) {act : List AV} {H : AH} {p : σ} {Q : Exit → List AV → AH → σ → Prop} (h : Q .ret act H p) : TrS P ro B J .ret act H p Q :=
  TrS.of_Tr hJ (Tr.ret h)
section
variable {tS tR : TypeId} {pS pR : Value}
set_option maxHeartbeats 4000000 in
set_option maxRecDepth 100000 in
theorem fs_ttexts (L : List Evt) (hl : L.length ≤ 1000000) (hok : ∀ e ∈ L, evOk e) : Fs Tryd.prog (roT tS pS tR pR) 13 [evL L] (hp [] []) fun r _ => r = .v (.tuple #[.string (textT L), .int .i64 (textE L)]) := by
  refine Fs.of_body (has_fn (by kernel_rfl)) ?_
  rw [tt_sl, tt_re, tt_bo]
  refine Tr.seq (Tr.of_code knownU (tt_0 usX tS tR pS pR L _) ⟨trivial, ?_⟩)
  refine Tr.newBd tt_mk fun B b => ?_
  have hJ := bd_apart (roT tS pS tR pR) B b
  refine TrS.of_flat hJ ?_
  rw [tt_f11]
  have first := fun R => tt_2 usX tS tR pS pR L b R
  rw [evl] at first
  refine TrS.keep [0, 4] (TrS.of_Tr hJ (Tr.of_code knownU (first _) ⟨trivial, ?_⟩))
  let I : Nat → List AV → AH → Option ByteArray → Prop := fun m act H x => ∃ i : Nat, i ≤ L.length ∧ m = L.length - i ∧ (L.take i).all goodK = true ∧ act = txA L b L.length i ∧ H = hp [] [] ∧ x = some (catT (L.take i) ⟨#[]⟩)
  refine TrS.block (TrS.loop hJ I ?_ (m := L.length) ⟨0, Nat.zero_le _, rfl, rfl, rfl, rfl, rfl⟩)
  rintro m act H x ⟨i, hi, rfl, hg, rfl, rfl, rfl⟩
  have hd := fun R => tt_h usX tS tR pS pR L b L.length i R
  refine TrS.of_flat hJ (TrlS.split 2 (TrlS.of_Trl hJ (Trl.of_code knownU (ne_nil (by kernel_rfl)) (hd _) (holds_bif (fun h1 => ⟨trivial, ?_⟩) fun h1 => ⟨trivial, ?_⟩))))
  · have h1 : i < L.length := by have := of_decide_eq_true h1; omega
    show TrlS _ _ _ _ ((flatten (sub (bodyOf 13) [1, 1, 0, 1, 0, 0])).drop 2) _ _ _ _
    rw [tt_fb]
    have g1 := ev_el h1
    have g2 := evOk_in (hok _ (List.getElem_mem h1))
    have hz : (catT (L.take i) ⟨#[]⟩).size ≤ 0 + (400 + 1) * (L.take i).length := catT_size _ _ fun e he => lineO_len (hok e (List.mem_of_mem_take he))
    rw [List.length_take] at hz
    have hz2 := lineO_len (hok _ (List.getElem_mem h1))
    have hz3 : (catT (L.take i) ⟨#[]⟩).size + (lineO L[i] ++ nlB).size ≤ 140737488355328 := by rw [ByteArray.size_append, show nlB.size = 1 from rfl]; omega
    refine TrS.forget 0 0 (Nat.le_refl _) (Nat.le_refl _) bd_trim (TrS.block (TrS.of_flat hJ (TrlS.split 4 (TrlS.of_Trl hJ ?_))))
    have body := fun R => tt_a usX tS tR pS pR L b L.length i R
    refine Trl.of_code knownU (ne_nil (by kernel_rfl)) (body _) ?_
    rw [ev_get h1]
    refine holds_bif (fun h2 => ⟨cdb_iff.2 ⟨cds_of trivial g1, g2⟩, by kernel_rfl, by kernel_rfl, .inr rfl, trivial, ?_⟩) (fun h2 => ⟨cdb_iff.2 ⟨cds_of trivial g1, g2⟩, ?_⟩)
    · obtain ⟨b1, b2⟩ := lineE_bad h2
      obtain ⟨b3, b4⟩ := text_bad h1 b1
      rw [b3, b4]
      show AV.v (.tuple #[.string ⟨#[]⟩, .int .i64 (lineE L[i].k)]) = _
      rw [b2]
    · show TrlS _ _ _ _ ((flatten (sub (bodyOf 13) [1, 1, 0, 1, 0, 0, 1, 1, 0, 0])).drop 4) _ _ _ _
      rw [tt_fc]
      refine TrS.mono (TrS.write tt_wr (by kernel_rfl) named rfl rfl (Nat.le_of_ble_eq_true rfl) (Nat.le_of_ble_eq_true rfl) (by decide) (by decide) hz3) ?_
      rintro e a h x ⟨rfl, rfl, rfl, r, rfl⟩
      refine ⟨by kernel_rfl, by kernel_rfl, ?_⟩
      have last := fun R => tt_9 usX tS tR pS pR L b L.length i R
      rw [inc64 i (by omega)] at last
      refine TrS.keep [4, 9, 10, 11] (TrS.of_Tr hJ (Tr.of_code knownU (last _) ⟨trivial, ?_⟩))
      exact ⟨L.length - (i + 1), by omega, i + 1, h1, rfl, all_take h1 hg (lineE_good h2), rfl, rfl, by rw [catT_snoc h1]; rfl⟩
  · have h1 : i = L.length := by have := of_decide_eq_false h1; omega
    subst h1
    rw [List.take_length] at hg ⊢
    obtain ⟨b1, b2⟩ := text_all hg
    refine TrS.mono (TrS.take tt_tk named rfl (Nat.le_of_ble_eq_true rfl)) ?_
    rintro e a h x ⟨rfl, rfl, rfl, rfl⟩
    refine TrS.ret hJ ⟨.inr rfl, trivial, ?_⟩
    rw [b1, b2]; rfl
end
end Go.Proofs.YtodjeammjdgkoaaDoor.AE
