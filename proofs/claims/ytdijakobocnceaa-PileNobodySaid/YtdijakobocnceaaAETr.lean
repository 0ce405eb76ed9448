/-
  What code comes to from every related world: triples over the abstract run's states.
-/
import Derived.Test.YtdijakobocnceaaAEK
namespace Go.Proofs.Ytdijakobocnceaa.AE
set_option maxRecDepth 100000
open Go.RowKit
/-- Whatever is gathered has been shown. -/
def tidy (H : AH) : AH := ⟨H.blks, H.tips, H.mb, H.mc, H.sy, [], True⟩
def hp (b : List (TypeId × List AV)) (t : List Nat) : AH := ⟨b, t, 0, 0, true, [], True⟩
/-- From every related world, code c ends with Q. -/
def Tr (P : Program) (ro : Nat → Option (List Value)) (c : Code) (act : List AV) (H : AH) (Q : Exit → List AV → AH → Prop) : Prop :=
  ∀ G W (a : Act), Inv G H W → Ro ro G W → RVs G W act a.tmps.toList →
    c.wp P (fun e a' W' => ∃ act' H' G', Q e act' H' ∧ Ext G W G' W' ∧ Inv G' H' W' ∧ RVs G' W' act' a'.tmps.toList ∧ a'.defers = a.defers) a W
/-- A function's call. -/
def Fs (P : Program) (ro : Nat → Option (List Value)) (g : FuncId) (args : List AV) (H : AH) (Φ : AV → AH → Prop) : Prop :=
  ∀ G W (cargs : Array Value), Inv G H W → Ro ro G W → RVs G W args cargs.toList → (∃ fn, P.funcs[g]? = some fn ∧ fn.body.isSome = true) ∧
    Calls P g cargs W fun e W' => ∃ c G' r H', e = .returned c ∧ Φ r H' ∧ Ext G W G' W' ∧ Inv G' H' W' ∧ RV G' W' r c
/-- The slots of these numbers alone. -/
def keepI : Nat → List Nat → List AV → List AV
  | _, _, [] => []
  | i, [], _ :: xs => .dead :: keepI (i + 1) [] xs
  | i, k :: ks, x :: xs => if i = k then x :: keepI (i + 1) ks xs else .dead :: keepI (i + 1) (k :: ks) xs
def holds (x : Option Prop) : Prop := match x with
  | some p => p
  | none => False
def kp (is : List Nat) (R : Exit → List AV → AH → Prop) : Kt Prop := fun e a h => some (h.cd ∧ R e (keepI 0 is a) (tidy h))
theorem holds_bif {b : Bool} {x y : Option Prop} (h1 : b = true → holds x) (h2 : b = false → holds y) : holds (bif b then x else y) := by
  cases b with
  | true => exact h1 rfl
  | false => exact h2 rfl
theorem holds_some {p : Prop} (h : p) : holds (some p) := h
/-- Over a run's answer. -/
def ansOk (Φ : AV → AH → Prop) (x : Ans) : Prop := match x with
  | some rh => rh.2.cd ∧ Φ rh.1 (tidy rh.2)
  | none => False
theorem ans_bif {Φ : AV → AH → Prop} {b : Bool} {x y : Ans} (h1 : b = true → ansOk Φ x) (h2 : b = false → ansOk Φ y) : ansOk Φ (bif b then x else y) := by
  cases b with
  | true => exact h1 rfl
  | false => exact h2 rfl
theorem ans_some {Φ : AV → AH → Prop} {r : AV} {H : AH} (h1 : H.cd) (h2 : Φ r (tidy H)) : ansOk Φ (some (r, H)) := ⟨h1, h2⟩
theorem keepI_rel {G : Gh} {W : World} : ∀ {l : List AV} {cs : List Value} (i : Nat) (is : List Nat), RVs G W l cs → RVs G W (keepI i is l) cs
  | [], _, _, _, h => by cases h; exact .nil
  | x :: xs, _, i, [], h => by
    cases h with | cons h t => exact .cons (.dead _) (keepI_rel _ _ t)
  | x :: xs, _, i, k :: ks, h => by
    cases h with
    | cons h t =>
      unfold keepI
      split
      · exact .cons h (keepI_rel _ _ t)
      · exact .cons (.dead _) (keepI_rel _ _ t)
section
variable {P : Program} {ro : Nat → Option (List Value)} {C : Hd} {dr : Dr} {act : List AV} {H : AH} {Q R : Exit → List AV → AH → Prop}
theorem inv_tidy {G : Gh} {H : AH} {W : World} (h : Inv G H W) : Inv G (tidy H) W := (h.marks H.mb H.mc).same rfl rfl
theorem Tr.mono {c : Code} (h : Tr P ro c act H Q) (hq : ∀ e a h, Q e a h → R e a h) : Tr P ro c act H R :=
  fun G W a hI hR hA => wp_mono (h G W a hI hR hA) fun _ _ _ ⟨act', H', G', q, r⟩ => ⟨act', H', G', hq _ _ _ q, r⟩
/-- What the abstract run says. -/
theorem Tr.of_exec (hN : Named P) (hC : HSound P ro C) (hD : DrSound P ro dr) (hDK : DrKeep dr) {c : Code} {is : List Nat} {X : Option Prop} (e : exec P ro C dr c act H (kp is R) = X) (h : holds X) : Tr P ro c act H R := by
  intro G W a hI hR hA
  cases X with
  | none => exact h.elim
  | some p =>
    have hp : p := h
    refine wp_mono (exec_sound (G0 := G) (W0 := W) (H0 := H) hN hC hD hDK hR c (kp is R) act H G a W (fun e act H hk => ?_) e (.refl _) (.refl _ _) hI hA rfl) ?_
    · have : (H.cd ∧ R e (keepI 0 is act) (tidy H)) = p := by simpa [kp] using hk
      rw [← this] at hp
      exact hp.1
    · rintro e a' W' ⟨act', H', G', hk, _, h2, h3, h4, h5⟩
      have : (H'.cd ∧ R e (keepI 0 is act') (tidy H')) = p := by simpa [kp] using hk
      rw [← this] at hp
      exact ⟨_, _, G', hp.2, h2, inv_tidy h3, keepI_rel _ _ h4, h5⟩
/-- The states are told by more than is needed. -/
theorem Tr.keep {c : Code} (is : List Nat) (h : Tr P ro c (keepI 0 is act) H Q) : Tr P ro c act H Q :=
  fun G W a hI hR hA => h G W a hI hR (keepI_rel _ _ hA)
theorem Tr.seq {x y : Code} (h : Tr P ro x act H fun e a h => match e with
    | .normal => Tr P ro y a h Q
    | e => Q e a h) : Tr P ro (.seq x y) act H Q := by
  intro G W a hI hR hA
  refine wp_seq (wp_mono (h G W a hI hR hA) ?_)
  rintro e a1 W1 ⟨act1, H1, G1, q, e1, i1, r1, d1⟩
  cases e with
  | normal =>
    refine wp_mono (q G1 W1 a1 i1 (hR.ext e1) r1) ?_
    rintro e a2 W2 ⟨act2, H2, G2, q2, e2, i2, r2, d2⟩
    exact ⟨act2, H2, G2, q2, e1.trans e2, i2, r2, d2.trans d1⟩
  | _ => exact ⟨act1, H1, G1, q, e1, i1, r1, d1⟩
def leave (id : Nat) (Q : Exit → List AV → AH → Prop) : Exit → List AV → AH → Prop := fun e a h => match e with
  | .exit i => if i = id then Q .normal a h else Q (.exit i) a h
  | e => Q e a h
theorem Tr.block {id : Nat} {c : Code} (h : Tr P ro c act H (leave id Q)) : Tr P ro (.block id c) act H Q := by
  intro G W a hI hR hA
  refine wp_block (wp_mono (h G W a hI hR hA) ?_)
  rintro e a1 W1 ⟨act1, H1, G1, q, r⟩
  cases e with
  | exit i =>
    unfold leave at q
    simp only [Exit.inBlock] at q ⊢
    split at q
    · rename_i hi; rw [if_pos hi]; exact ⟨act1, H1, G1, q, r⟩
    · rename_i hi; rw [if_neg hi]; exact ⟨act1, H1, G1, q, r⟩
  | _ => exact ⟨act1, H1, G1, q, r⟩
theorem Tr.cond {c : Operand} {x y : Code} {b : Bool} (hc : ev act c = .v (.bool b)) (h1 : b = true → Tr P ro x act H Q) (h2 : b = false → Tr P ro y act H Q) : Tr P ro (.cond c x y) act H Q := by
  intro G W a hI hR hA
  have hr := ev_rel hA c
  rw [hc] at hr
  have hcv : a.eval c = .bool b := by
    generalize a.eval c = u at hr
    cases hr; rfl
  cases b with
  | true => exact wp_cond hcv (h1 rfl G W a hI hR hA)
  | false => exact wp_cond hcv (h2 rfl G W a hI hR hA)
def notGo (Q : Exit → List AV → AH → Prop) : Exit → List AV → AH → Prop := fun e a h => match e with
  | .goto _ => False
  | e => Q e a h
theorem Tr.scope {c : Code} (h : Tr P ro c act H (notGo Q)) : Tr P ro (.scope c) act H Q := by
  intro G W a hI hR hA
  refine wp_scope_straight (wp_mono (h G W a hI hR hA) ?_)
  rintro e a1 W1 ⟨act1, H1, G1, q, r⟩
  cases e with
  | goto i => exact q
  | _ => exact ⟨act1, H1, G1, q, r⟩
/-- A loop: I holds at each round's head, with a measure that falls. -/
theorem Tr.loop {c : Code} (I : Nat → List AV → AH → Prop) (h : ∀ m act H, I m act H → Tr P ro c act H fun e a h => match e with
    | .normal => ∃ m', m' < m ∧ I m' a h
    | e => Q e a h) {m : Nat} (h0 : I m act H) : Tr P ro (.loop c) act H Q := by
  intro G W a hI hR hA b k cs
  have key : ∀ m act H G (a : Act) W, I m act H → Inv G H W → Ro ro G W → RVs G W act a.tmps.toList →
      ∃ e a' w', (∃ act' H' G', Q e act' H' ∧ Ext G W G' w' ∧ Inv G' H' w' ∧ RVs G' w' act' a'.tmps.toList ∧ a'.defers = a.defers) ∧ Arrives P (lone (b.at a (.code c :: .inLoop c :: k)) cs W) b k cs e a' w' := by
    intro m
    induction m using Nat.strongRecOn with
    | _ m ih =>
      intro act H G a W hi hI hR hA
      obtain ⟨e, a₁, w₁, hq, harr⟩ := h m act H hi G W a hI hR hA b (.inLoop c :: k) cs
      obtain ⟨act1, H1, G1, q, e1, i1, r1, d1⟩ := hq
      cases e with
      | normal =>
        obtain ⟨m', hm, hi'⟩ := q
        obtain ⟨e₂, a₂, w₂, ⟨act2, H2, G2, q2, e2, i2, r2, d2⟩, harr₂⟩ := ih m' hm act1 H1 G1 a₁ w₁ hi' i1 (hR.ext e1) r1
        exact ⟨e₂, a₂, w₂, ⟨act2, H2, G2, q2, e1.trans e2, i2, r2, d2.trans d1⟩, .of_steps (Steps.trans harr (.one step_inLoop)) harr₂⟩
      | exit id => exact ⟨_, a₁, w₁, ⟨act1, H1, G1, q, e1, i1, r1, d1⟩, .pass (x := .inLoop c) rfl (fun _ _ => .inl (by simp)) harr⟩
      | goto l => exact ⟨_, a₁, w₁, ⟨act1, H1, G1, q, e1, i1, r1, d1⟩, .pass (x := .inLoop c) rfl (fun _ _ => .inl (by simp)) harr⟩
      | ret => exact ⟨_, a₁, w₁, ⟨act1, H1, G1, q, e1, i1, r1, d1⟩, .pass (x := .inLoop c) rfl (fun _ _ => .inl (by simp)) harr⟩
      | panic ch => exact ⟨_, a₁, w₁, ⟨act1, H1, G1, q, e1, i1, r1, d1⟩, .pass (x := .inLoop c) rfl (fun _ _ => .inl (by simp)) harr⟩
      | outgrown => exact ⟨_, a₁, w₁, ⟨act1, H1, G1, q, e1, i1, r1, d1⟩, .pass (x := .inLoop c) rfl (fun _ _ => .inl (by simp)) harr⟩
  obtain ⟨e, a', w', hq, harr⟩ := key m act H G a W h0 hI hR hA
  exact ⟨e, a', w', hq, .of_steps (.one step_loop) harr⟩
/-- A function's body is walked. -/
theorem Fs.of_Tr {g : FuncId} {fn : Func} {c : Code} {args : List AV} {Φ : AV → AH → Prop} (hf : P.funcs[g]? = some fn) (hc : fn.body = some c)
    (h : Tr P ro c (args ++ List.replicate (fn.ntmps - args.length) (.v undef)) H fun e a h => (e = .normal ∨ e = .ret) ∧ ansOk Φ (resOf P ro fn.results.toList a h)) : Fs P ro g args H Φ := by
  intro G W cargs hI hR hA
  refine ⟨⟨fn, hf, by rw [hc]; rfl⟩, ?_⟩
  have hlen : args.length = cargs.size := by have := hA.len; simpa using this
  refine calls_of_wp hf hc (wp_mono (h G W { tmps := cargs ++ Array.replicate (fn.ntmps - cargs.size) undef, defers := [] } hI hR ?_) ?_)
  · simp only [Array.toList_append, Array.toList_replicate]
    refine hA.app ?_
    rw [← hlen]
    generalize fn.ntmps - args.length = n
    induction n with
    | zero => exact .nil
    | succ n ih => exact .cons (.v _) ih
  · rintro e a W' ⟨act, H2, G', ⟨he, hk⟩, h2, h3, h4, h5⟩
    unfold ansOk at hk
    split at hk
    · rename_i rh hrh
      obtain ⟨r, H3⟩ := rh
      obtain ⟨hS, c, hc, hr⟩ := resOf_sound h3 (hR.ext h2) h4 hrh hk.1
      have hfin : ∃ c' G'' r' H'', Ending.returned c = .returned c' ∧ Φ r' H'' ∧ Ext G W G'' W' ∧ Inv G'' H'' W' ∧ RV G'' W' r' c' := ⟨c, G', r, _, rfl, hk.2, h2, inv_tidy (h3.same hS.b hS.t), hr⟩
      rcases he with rfl | rfl
      · exact ⟨h5, c, hc, hfin⟩
      · exact ⟨h5, c, hc, hfin⟩
    · exact hk.elim
theorem Fs.mono {g : FuncId} {args : List AV} {Φ Ψ : AV → AH → Prop} (h : Fs P ro g args H Φ) (hq : ∀ r h, Φ r h → Ψ r h) : Fs P ro g args H Ψ :=
  fun G W cargs hI hR hA => ⟨(h G W cargs hI hR hA).1, (h G W cargs hI hR hA).2.mono fun _ _ ⟨c, G', r, H', e1, q, x⟩ => ⟨c, G', r, H', e1, hq _ _ q, x⟩⟩
/-- What the abstract run says of a call. -/
theorem Fs.of_run (hC : HSound P ro C) {g : FuncId} {args : List AV} {Φ : AV → AH → Prop} {X : Ans} (e : ret? (C g args H) = X) (h : ansOk Φ X) : Fs P ro g args H Φ := by
  intro G W cargs hI hR hA
  unfold ansOk at h
  split at h
  · rename_i rh
    obtain ⟨r, H'⟩ := rh
    obtain ⟨h1, h2⟩ := (hC g args H (.ret r) H' (retq_some e)).one.2 h.1 G W cargs hI hR hA
    refine ⟨h1, h2.mono ?_⟩
    rintro e W' ⟨c, G', rfl, e1, e2, e3⟩
    exact ⟨c, G', r, _, rfl, h.2, e1, inv_tidy e2, e3⟩
  · exact h.elim
end
/-- A law that is true. -/
theorem law_true {ro : Nat → Option (List Value)} {g : FuncId} {args : List AV} (h : Fs Try.prog ro g args (hp [] []) fun r _ => r = .v (.bool true)) (w : World) (cargs : Array Value) (hR : Ro ro (G0 w) w) (hA : RVs (G0 w) w args cargs.toList) :
    Calls Try.prog g cargs w fun e w' => e = .returned (.bool true) ∧ Below w.heap.size w w' := by
  refine (h (G0 w) w cargs ((inv0 w).same rfl rfl) hR hA).2.mono ?_
  rintro e w' ⟨c, G', r, H', rfl, rfl, e1, e2, e3⟩
  cases e3
  exact ⟨rfl, e1.below⟩
/-- Functions that are known otherwise. -/
def Known (ro : Nat → Option (List Value)) (pr : FuncId → Option (List AV → AH → Ans)) : Prop := ∀ g p, pr g = some p → ∀ args H r H', p args H = some (r, H') → HSound1 Try.prog ro g args H r H'
theorem known_none (ro : Nat → Option (List Value)) : Known ro (fun _ => none) := fun g p h => by cases h
theorem run_sound' {ro : Nat → Option (List Value)} {mu : FuncId → Bool} {pr : FuncId → Option (List AV → AH → Ans)} (hp : Known ro pr) (hm : Flats mu pr) (d : Nat) : HSound Try.prog ro (run ro mu pr d) :=
  fn_sound named (fun d h => dr_sound named mixed _ h (flat_fn hm d)) dr_keep hp d
/-- The run of code in this program. -/
noncomputable abbrev code {α : Type} (ro : Nat → Option (List Value)) (mu : FuncId → Bool) (pr : FuncId → Option (List AV → AH → Ans)) (d : Nat) : Code → List AV → AH → Kt α → Option α := execK Try.prog ro mu (fnK Try.prog ro mu pr d)
theorem code_eq {α : Type} (ro : Nat → Option (List Value)) (mu : FuncId → Bool) (pr : FuncId → Option (List AV → AH → Ans)) (d : Nat) (c : Code) (act : List AV) (H : AH) (K : Kt α) : code ro mu pr d c act H K = exec Try.prog ro (run ro mu pr d) (dr Try.prog ro mu (run ro mu pr d)) c act H K :=
  execK_eq (fnK_like pr d) c act H K
theorem Tr.of_code {ro : Nat → Option (List Value)} {mu : FuncId → Bool} {pr : FuncId → Option (List AV → AH → Ans)} {d : Nat} {c : Code} {act : List AV} {H : AH} {R : Exit → List AV → AH → Prop} (hp : Known ro pr) {is : List Nat} {X : Option Prop} (e : code ro mu pr d c act H (kp is R) = X) (h : holds X) (hm : Flats mu pr := by intro g h; cases h) : Tr Try.prog ro c act H R :=
  Tr.of_exec named (run_sound' hp hm d) (dr_sound named mixed _ (run_sound' hp hm d) (flat_fn hm d)) (dr_keep _ (run_sound' hp hm d)) ((code_eq ro mu pr d c act H _).symm.trans e) h
/-- A call, and what is done with its answer. -/
noncomputable def callK {α : Type} (ro : Nat → Option (List Value)) (mu : FuncId → Bool) (pr : FuncId → Option (List AV → AH → Ans)) (d : Nat) (g : FuncId) (args : List AV) (H : AH) (K : AV → AH → Option α) : Option α := match Try.prog.funcs[g]? with
  | some f => match f.body with
    | some c => code ro mu pr d c (args ++ List.replicate (f.ntmps - args.length) (.v undef)) H (fun e a h => thn (ret? (kret Try.prog ro f.results.toList e a h)) K)
    | none => none
  | none => none
theorem kret_ends {ro : Nat → Option (List Value)} {rs : List ResultVar} {e : Exit} {a : List AV} {h : AH} {x : AV × AH} (hk : ret? (kret Try.prog ro rs e a h) = some x) : (e = .normal ∨ e = .ret) ∧ resOf Try.prog ro rs a h = some x := by
  obtain ⟨r, h'⟩ := x
  rcases kret_some (retq_some hk) with ⟨u, hu, he, hr⟩ | ⟨v, hv, _⟩
  · cases hu; exact ⟨he, hr⟩
  · cases hv
theorem Fs.of_call {ro : Nat → Option (List Value)} {mu : FuncId → Bool} {pr : FuncId → Option (List AV → AH → Ans)} {d : Nat} {g : FuncId} {args : List AV} {H : AH} {Φ : AV → AH → Prop} (hp : Known ro pr) {X : Option Prop}
    (e : callK ro mu pr d g args H (fun r h => some (h.cd ∧ Φ r (tidy h))) = X) (h : holds X) (hm : Flats mu pr := by intro g h; cases h) : Fs Try.prog ro g args H Φ := by
  unfold callK at e
  split at e
  · rename_i f hf
    split at e
    · rename_i c hc
      rw [code_eq] at e
      refine Fs.of_Tr hf hc ?_
      intro G W a hI hR hA
      cases X with
      | none => exact h.elim
      | some p =>
        have hpp : p := h
        have hK : ∀ e a h, (thn (ret? (kret Try.prog ro f.results.toList e a h)) fun r h => some (h.cd ∧ Φ r (tidy h))) = some p → (e = .normal ∨ e = .ret) ∧ ansOk Φ (resOf Try.prog ro f.results.toList a h) ∧ h.cd := by
          intro e a h hk
          unfold thn at hk
          split at hk
          · rename_i rh hrh
            obtain ⟨h1, h2⟩ := kret_ends hrh
            have h3 : (rh.2.cd ∧ Φ rh.1 (tidy rh.2)) = p := by simpa using hk
            rw [← h3] at hpp
            exact ⟨h1, by unfold ansOk; rw [h2]; exact hpp, (kret_keep (r := .ret rh.1) (H' := rh.2) (retq_some hrh)).cd hpp.1⟩
          · cases hk
        refine wp_mono (exec_sound (G0 := G) (W0 := W) (H0 := H) named (run_sound' hp hm d) (dr_sound named mixed _ (run_sound' hp hm d) (flat_fn hm d)) (dr_keep _ (run_sound' hp hm d)) hR c _ _ H G a W (fun e act H hk => (hK e act H hk).2.2) e (.refl _) (.refl _ _) hI hA rfl) ?_
        rintro e a' W' ⟨act', H', G', hk, _, h2, h3, h4, h5⟩
        exact ⟨act', H', G', ⟨(hK e act' H' hk).1, (hK e act' H' hk).2.1⟩, h2, h3, h4, h5⟩
    · rw [← e] at h; exact h.elim
  · rw [← e] at h; exact h.elim
/-- A function of plain values with a plain answer, as far as told. -/
def pure? (spec : List Value → Option (Value × Bool)) (args : List AV) (H : AH) : Ans := match vals? args with
  | some us => match spec us with
    | some cb => some (.v cb.1, { H with cd := cdb H.cd cb.2 })
    | none => none
  | none => none
theorem ro_lt {ro : Nat → Option (List Value)} {G : Gh} {W : World} (h : Ro ro G W) : Ro ro (G0 W) W := fun b cs hb => ⟨fun j u hu => ⟨by
  have hc := ((h b cs hb).1 j u hu).2
  show b < W.heap.size
  by_cases hlt : b < W.heap.size
  · exact hlt
  · have : W.heap[b]? = none := Array.getElem?_eq_none (by omega)
    simp [World.cell?, this] at hc, ((h b cs hb).1 j u hu).2⟩, fun o => o, (h b cs hb).2.2⟩
theorem pure_ok {ro : Nat → Option (List Value)} {g : FuncId} {spec : List Value → Option (Value × Bool)} (h : ∀ us c, spec us = some (c, true) → Fs Try.prog ro g (us.map .v) (hp [] []) fun r _ => r = .v c)
    (hf : ∃ fn, Try.prog.funcs[g]? = some fn ∧ fn.body.isSome = true) :
    ∀ args H r H', pure? spec args H = some (r, H') → HSound1 Try.prog ro g args H r H' := by
  intro args H r H' hp
  unfold pure? at hp
  split at hp
  · rename_i us hu
    split at hp
    · rename_i cb hs
      obtain ⟨c, b⟩ := cb
      cases hp
      refine prim_of hu ⟨rfl, rfl, rfl, rfl, rfl⟩ (fun hc => (cdb_iff.1 hc).1) hf fun hcd G W hR => ?_
      have hb : b = true := (cdb_iff.1 hcd).2
      subst hb
      have hA : RVs (G0 W) W (us.map .v) us.toArray.toList := RVs.map_v us
      refine ((h us c hs) (G0 W) W us.toArray ((inv0 W).same rfl rfl) (ro_lt hR) hA).2.mono ?_
      rintro e w' ⟨c', G', r, H', rfl, rfl, e1, e2, e3⟩
      cases e3
      exact ⟨rfl, e1.below⟩
    · cases hp
  · cases hp
/-- A closed run. -/
theorem Fs.of_closed {ro : Nat → Option (List Value)} {mu : FuncId → Bool} {d : Nat} {g : FuncId} {b : Bool} (h : ends (run ro mu (fun _ => none) d g [] H0) b) (hm : Flats mu (fun _ => none) := by intro g h; cases h) : Fs Try.prog ro g [] (hp [] []) fun r _ => r = .v (.bool b) := by
  unfold ends at h
  split at h
  · rename_i c H' e
    obtain ⟨rfl, hc⟩ := h
    intro G W cargs hI hR hA
    obtain ⟨h1, h2⟩ := (((run_sound ro mu d hm) g [] H0 _ H' e).one).2 hc G W cargs (hI.same rfl rfl) hR hA
    refine ⟨h1, h2.mono ?_⟩
    rintro e W' ⟨c, G', rfl, e1, e2, e3⟩
    exact ⟨c, G', _, _, rfl, rfl, e1, e2, e3⟩
  · exact h.elim
def awakeS : List Value → Option (Value × Bool) := fun us => match us with
  | [] => some (.bool true, true)
  | _ => none
theorem awake_ok {ro : Nat → Option (List Value)} {d : Nat} {g : FuncId} (h : ends (run ro (fun _ => false) (fun _ => none) d g [] H0) true) (hf : ∃ fn, Try.prog.funcs[g]? = some fn ∧ fn.body.isSome = true) :
    ∀ args H r H', pure? awakeS args H = some (r, H') → HSound1 Try.prog ro g args H r H' := by
  refine pure_ok (fun us c hs => ?_) hf
  unfold awakeS at hs
  split at hs
  · cases hs
    exact Fs.of_closed h
  · cases hs
/-- There is such a function. -/
theorem has_fn {g : FuncId} (h : (match Try.prog.funcs[g]? with | some fn => fn.body.isSome | none => false) = true) : ∃ fn, Try.prog.funcs[g]? = some fn ∧ fn.body.isSome = true := by
  split at h
  · rename_i fn hfn; exact ⟨fn, hfn, h⟩
  · cases h
/-- A function's code, and parts of code by the way to them. -/
noncomputable def bodyOf (g : FuncId) : Code := match Try.prog.funcs[g]? with
  | some f => f.body.getD .skip
  | none => .skip
def sub : Code → List Nat → Code
  | c, [] => c
  | .seq x _, 0 :: p => sub x p
  | .seq _ y, 1 :: p => sub y p
  | .cond _ x _, 0 :: p => sub x p
  | .cond _ _ y, 1 :: p => sub y p
  | .block _ c, 0 :: p => sub c p
  | .loop c, 0 :: p => sub c p
  | .scope c, 0 :: p => sub c p
  | c, _ => c
/-- What is the function's: its slots, and what it hands back. -/
noncomputable def slotsOf (g : FuncId) : Nat := match Try.prog.funcs[g]? with
  | some f => f.ntmps
  | none => 0
noncomputable def resultsOf (g : FuncId) : List ResultVar := match Try.prog.funcs[g]? with
  | some f => f.results.toList
  | none => []
theorem Fs.of_body {ro : Nat → Option (List Value)} {g : FuncId} {args : List AV} {H : AH} {Φ : AV → AH → Prop} (hf : ∃ fn, Try.prog.funcs[g]? = some fn ∧ fn.body.isSome = true)
    (h : Tr Try.prog ro (bodyOf g) (args ++ List.replicate (slotsOf g - args.length) (.v undef)) H fun e a h => (e = .normal ∨ e = .ret) ∧ ansOk Φ (resOf Try.prog ro (resultsOf g) a h)) : Fs Try.prog ro g args H Φ := by
  obtain ⟨fn, hfn, hb⟩ := hf
  cases hc : fn.body with
  | none => rw [hc] at hb; cases hb
  | some c =>
    have e1 : bodyOf g = c := by unfold bodyOf; rw [hfn]; simp only [hc]; rfl
    have e2 : slotsOf g = fn.ntmps := by unfold slotsOf; rw [hfn]
    have e3 : resultsOf g = fn.results.toList := by unfold resultsOf; rw [hfn]
    rw [e1, e2, e3] at h
    exact Fs.of_Tr hfn hc h
/-! Code as a row of parts. -/
def flatten : Code → List Code
  | .seq x y => flatten x ++ flatten y
  | c => [c]
def nx (N : List AV → AH → Prop) (Q : Exit → List AV → AH → Prop) : Exit → List AV → AH → Prop := fun e a h => match e with
  | .normal => N a h
  | e => Q e a h
def Trl (P : Program) (ro : Nat → Option (List Value)) : List Code → List AV → AH → (Exit → List AV → AH → Prop) → Prop
  | [], act, H, Q => Q .normal act H
  | x :: l, act, H, Q => Tr P ro x act H (nx (fun a h => Trl P ro l a h Q) Q)
section
variable {P : Program} {ro : Nat → Option (List Value)} {Q R : Exit → List AV → AH → Prop}
theorem nx_mono {N M : List AV → AH → Prop} (h1 : ∀ a h, N a h → M a h) (h2 : ∀ e a h, Q e a h → R e a h) : ∀ e a h, nx N Q e a h → nx M R e a h := by
  intro e a h q
  cases e <;> first | exact h1 _ _ q | exact h2 _ _ _ q
theorem Trl.mono (hq : ∀ e a h, Q e a h → R e a h) : ∀ {l : List Code} {act : List AV} {H : AH}, Trl P ro l act H Q → Trl P ro l act H R
  | [], _, _, h => hq _ _ _ h
  | _ :: _, _, _, h => Tr.mono h (nx_mono (fun _ _ q => Trl.mono hq q) hq)
theorem Trl.append {m : List Code} : ∀ {l : List Code} {act : List AV} {H : AH}, Trl P ro l act H (nx (fun a h => Trl P ro m a h Q) Q) → Trl P ro (l ++ m) act H Q
  | [], _, _, h => h
  | x :: l, _, _, h => Tr.mono h fun e a h q => by cases e <;> first | exact Trl.append q | exact q
theorem Trl.split (n : Nat) {l : List Code} {act : List AV} {H : AH} (h : Trl P ro (l.take n) act H (nx (fun a h => Trl P ro (l.drop n) a h Q) Q)) : Trl P ro l act H Q := by
  have := Trl.append h
  rwa [List.take_append_drop] at this
theorem Trl.append_inv {m : List Code} : ∀ {l : List Code} {act : List AV} {H : AH}, Trl P ro (l ++ m) act H Q → Trl P ro l act H (nx (fun a h => Trl P ro m a h Q) Q)
  | [], _, _, h => h
  | x :: l, _, _, h => Tr.mono h fun e a h q => by cases e <;> first | exact Trl.append_inv q | exact q
theorem Tr.of_flat : ∀ {c : Code} {act : List AV} {H : AH} {Q : Exit → List AV → AH → Prop}, Trl P ro (flatten c) act H Q → Tr P ro c act H Q := by
  intro c
  induction c with
  | seq x y ihx ihy =>
    intro act H Q h
    have h1 := ihx (Trl.append_inv (show Trl P ro (flatten x ++ flatten y) act H Q from h))
    exact Tr.seq (Tr.mono h1 fun e a h q => by cases e <;> first | exact ihy q | exact q)
  | _ =>
    intro act H Q h
    exact Tr.mono h fun e a h q => by cases e <;> exact q
end
noncomputable def codeL {α : Type} (ro : Nat → Option (List Value)) (mu : FuncId → Bool) (pr : FuncId → Option (List AV → AH → Ans)) (d : Nat) : List Code → List AV → AH → Kt α → Option α
  | [], act, H, K => K .normal act H
  | x :: l, act, H, K => code ro mu pr d x act H (kseq (fun a h => codeL ro mu pr d l a h K) K)
theorem codeL_keep {α : Type} {ro : Nat → Option (List Value)} {mu : FuncId → Bool} {pr : FuncId → Option (List AV → AH → Ans)} {d : Nat} (hp : Known ro pr) (hm : Flats mu pr) {K : Kt α} {ans : α} : ∀ {l : List Code} {act : List AV} {H : AH},
    codeL ro mu pr d l act H K = some ans → ∃ e a h, K e a h = some ans ∧ Keep H h
  | [], act, H, h => ⟨_, act, H, h, .refl _⟩
  | x :: l, act, H, h => by
    unfold codeL at h
    rw [code_eq] at h
    obtain ⟨e1, a1, H1, h1, k1⟩ := exec_keep (fun g args H r H' h => (run_sound' hp hm d g args H r H' h).1) (dr_keep _ (run_sound' hp hm d)) _ _ _ _ h
    obtain ⟨e2, a2, H2, h2, k2⟩ := kseq_keep h1 (fun act H h => codeL_keep hp hm h)
    exact ⟨e2, a2, H2, h2, k1.trans k2⟩
theorem codeL_sound {ro : Nat → Option (List Value)} {mu : FuncId → Bool} {pr : FuncId → Option (List AV → AH → Ans)} {d : Nat} (hp : Known ro pr) (hm : Flats mu pr) {K : Kt Prop} {p : Prop} (hK : ∀ e a h, K e a h = some p → h.cd) :
    ∀ {l : List Code} {act : List AV} {H : AH}, codeL ro mu pr d l act H K = some p → Trl Try.prog ro l act H fun e a h => K e a h = some p
  | [], _, _, h => h
  | x :: l, act, H, h => by
    unfold codeL at h
    rw [code_eq] at h
    intro G W a hI hR hA
    refine wp_mono (exec_sound (G0 := G) (W0 := W) (H0 := H) named (run_sound' hp hm d) (dr_sound named mixed _ (run_sound' hp hm d) (flat_fn hm d)) (dr_keep _ (run_sound' hp hm d)) hR x _ act H G a W (fun e act H hk => ?_) h (.refl _) (.refl _ _) hI hA rfl) ?_
    · obtain ⟨e2, a2, H2, h2, k2⟩ := kseq_keep hk (fun act H h => codeL_keep hp hm h)
      exact k2.cd (hK _ _ _ h2)
    · rintro e a' W' ⟨act', H', G', hk, _, h2, h3, h4, h5⟩
      refine ⟨act', H', G', ?_, h2, h3, h4, h5⟩
      cases e with
      | normal => exact codeL_sound hp hm hK hk
      | _ => exact hk
/-- The states at the end are told by less than there is. -/
theorem Tr.less {ro : Nat → Option (List Value)} {c : Code} {act : List AV} {H : AH} {Q : Exit → List AV → AH → Prop} (h : Tr Try.prog ro c act H fun e a h => ∃ is, Q e (keepI 0 is a) (AE.tidy h)) : Tr Try.prog ro c act H Q := fun G W a hI hR hA =>
  wp_mono (h G W a hI hR hA) fun _ _ _ ⟨_, _, G', ⟨_, q⟩, h1, h2, h3, h4⟩ => ⟨_, _, G', q, h1, inv_tidy h2, keepI_rel _ _ h3, h4⟩
theorem Trl.less {ro : Nat → Option (List Value)} {Q : Exit → List AV → AH → Prop} : ∀ {l : List Code} {act : List AV} {H : AH}, l ≠ [] → Trl Try.prog ro l act H (fun e a h => ∃ is, Q e (keepI 0 is a) (AE.tidy h)) → Trl Try.prog ro l act H Q
  | [], _, _, hne, _ => absurd rfl hne
  | [x], _, _, _, h => Tr.mono (Tr.less (Tr.mono h fun e a h (q : nx _ _ e a h) => by
      have : ∃ is, Q e (keepI 0 is a) (AE.tidy h) := by cases e <;> exact q
      exact this)) fun e a h q => by cases e <;> exact q
  | x :: y :: l, _, _, _, h => by
    have h1 : Tr Try.prog ro x _ _ (nx (fun a h => Trl Try.prog ro (y :: l) a h Q) (fun e a h => ∃ is, Q e (keepI 0 is a) (AE.tidy h))) :=
      Tr.mono h (nx_mono (fun a h q => Trl.less (by simp) q) fun _ _ _ q => q)
    intro G W a hI hR hA
    refine wp_mono (h1 G W a hI hR hA) ?_
    rintro e a' W' ⟨act', H', G', q, h2, h3, h4, h5⟩
    cases e with
    | normal => exact ⟨act', H', G', q, h2, h3, h4, h5⟩
    | _ =>
      obtain ⟨is, q⟩ := q
      exact ⟨_, _, G', q, h2, inv_tidy h3, keepI_rel _ _ h4, h5⟩
/-- A row of parts by what the abstract run says. -/
theorem Trl.of_code {ro : Nat → Option (List Value)} {mu : FuncId → Bool} {pr : FuncId → Option (List AV → AH → Ans)} {d : Nat} {l : List Code} {act : List AV} {H : AH} {R : Exit → List AV → AH → Prop} (hp : Known ro pr) {is : List Nat} {X : Option Prop} (hne : l ≠ [])
    (e : codeL ro mu pr d l act H (kp is R) = X) (h : holds X) (hm : Flats mu pr := by intro g h; cases h) : Trl Try.prog ro l act H R := by
  cases X with
  | none => exact h.elim
  | some p =>
    have hpp : p := h
    refine Trl.less hne (Trl.mono (fun e a h hk => ⟨is, ?_⟩) (codeL_sound hp hm (K := kp is R) (p := p) (fun e a h hk => ?_) e))
    · have : (h.cd ∧ R e (keepI 0 is a) (AE.tidy h)) = p := by simpa [kp] using hk
      rw [← this] at hpp
      exact hpp.1
    · have : (h.cd ∧ R e (keepI 0 is a) (AE.tidy h)) = p := by simpa [kp] using hk
      rw [← this] at hpp
      exact hpp.2
/-- More is told than is needed. -/
theorem Tr.keepL {P : Program} {ro : Nat → Option (List Value)} {Q : Exit → List AV → AH → Prop} {l : List Code} {act : List AV} {H : AH} (is : List Nat) (hne : l.isEmpty = false) (h : Trl P ro l (keepI 0 is act) H Q) : Trl P ro l act H Q := by
  cases l with
  | nil => cases hne
  | cons x l => exact fun G W a hI hR hA => h G W a hI hR (keepI_rel _ _ hA)
end Go.Proofs.Ytdijakobocnceaa.AE
