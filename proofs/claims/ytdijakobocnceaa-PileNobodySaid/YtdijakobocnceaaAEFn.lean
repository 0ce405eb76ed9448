/-
  The abstract run of functions stands for the program's calls.
-/
import Derived.Test.YtdijakobocnceaaAEExec
namespace Go.Proofs.Ytdijakobocnceaa.AE
set_option maxRecDepth 100000
open Go.RowKit
def Post {α : Type} (ans : α) (H0 : AH) (G0 : Gh) (W0 : World) (K : Kt α) (ds : List Deferred) : Exit → Act → World → Prop := fun e a W =>
  ∃ act H G, K e act H = some ans ∧ Keep H0 H ∧ Ext G0 W0 G W ∧ Inv G H W ∧ RVs G W act a.tmps.toList ∧ a.defers = ds
def DrSound (P : Program) (ro : Nat → Option (List Value)) (dr : Dr) : Prop :=
  ∀ {α : Type} os act H (K : Kn α) ans H0 G0 W0 G W (a : Act) id (Q : Exit → Act → World → Prop), dr os act H K = some ans → (∀ act' H', K act' H' = some ans → H'.cd) → Keep H0 H → Ext G0 W0 G W → Inv G H W → Ro ro G W → RVs G W act a.tmps.toList →
    (∀ act' H' G' (a' : Act) W', K act' H' = some ans → Keep H0 H' → Ext G0 W0 G' W' → Inv G' H' W' → RVs G' W' act' a'.tmps.toList → a'.defers = a.defers → Q .normal a' W') → (Code.region id os true).wp P Q a W
section
variable {P : Program} {ro : Nat → Option (List Value)} {C : Hd} {dr : Dr} {H0 : AH} {G0 : Gh} {W0 : World}
/-- A region that draws its order keeps what it must, and goes on. -/
def DrKeep (dr : Dr) : Prop := ∀ {α : Type} os act H (K : Kn α) ans, dr os act H K = some ans → ∃ act' H', K act' H' = some ans ∧ Keep H H'
theorem kseq_keep {α : Type} {f : Kn α} {K : Kt α} {e : Exit} {act : List AV} {H : AH} {ans : α} (h : kseq f K e act H = some ans) (hf : ∀ act H, f act H = some ans → ∃ e' act' H', K e' act' H' = some ans ∧ Keep H H') : ∃ e' act' H', K e' act' H' = some ans ∧ Keep H H' := by
  cases e with
  | normal => exact hf act H h
  | _ => exact ⟨_, act, H, h, .refl _⟩
theorem iter_keep {α : Type} {f : List AV → AH → Kt α → Option α} {ans : α} (hf : ∀ act H K, f act H K = some ans → ∃ e' act' H', K e' act' H' = some ans ∧ Keep H H') : ∀ (n : Nat) (act : List AV) (H : AH) (K : Kt α), iter f n act H K = some ans → ∃ e' act' H', K e' act' H' = some ans ∧ Keep H H'
  | 0, _, _, _, h => by cases h
  | n + 1, act, H, K, h => by
    obtain ⟨e1, a1, H1, h1, k1⟩ := hf act H _ h
    obtain ⟨e2, a2, H2, h2, k2⟩ := kseq_keep h1 (fun act H h => iter_keep hf n act H K h)
    exact ⟨e2, a2, H2, h2, k1.trans k2⟩
theorem exec_keep {α : Type} (hC : ∀ g args H r H', C g args H = some (r, H') → Keep H H') (hD : DrKeep dr) {ans : α} : ∀ (c : Code) (K : Kt α) (act : List AV) (H : AH), exec P ro C dr c act H K = some ans → ∃ e' act' H', K e' act' H' = some ans ∧ Keep H H' := by
  intro c
  induction c with
  | skip => intro K act H h; exact ⟨_, act, H, h, .refl _⟩
  | label l => intro K act H h; exact ⟨_, act, H, h, .refl _⟩
  | region id os draw =>
    intro K act H h
    cases draw with
    | false => exact ops_keep hC _ _ _ h
    | true => obtain ⟨a1, H1, h1, k1⟩ := hD _ _ _ _ _ h; exact ⟨_, a1, H1, h1, k1⟩
  | seq x y ihx ihy =>
    intro K act H h
    obtain ⟨e1, a1, H1, h1, k1⟩ := ihx _ act H h
    obtain ⟨e2, a2, H2, h2, k2⟩ := kseq_keep h1 (fun act H h => ihy K act H h)
    exact ⟨e2, a2, H2, h2, k1.trans k2⟩
  | cond c x y ihx ihy =>
    intro K act H h
    unfold exec at h
    split at h
    · split at h
      · rename_i gH hg
        obtain ⟨g, H1⟩ := gH
        have hk := conc_keep hg
        cases g with
        | true =>
          obtain ⟨e1, a1, H2, h1, k1⟩ := ihx K act _ h
          exact ⟨e1, a1, H2, h1, hk.trans k1⟩
        | false =>
          obtain ⟨e1, a1, H2, h1, k1⟩ := ihy K act _ h
          exact ⟨e1, a1, H2, h1, hk.trans k1⟩
      · cases h
    · cases h
  | block id c ih =>
    intro K act H h
    obtain ⟨e1, a1, H1, h1, k1⟩ := ih _ act H h
    cases e1 with
    | exit i =>
      unfold kblk at h1
      simp only at h1
      split at h1
      · exact ⟨_, a1, H1, h1, k1⟩
      · exact ⟨_, a1, H1, h1, k1⟩
    | _ => exact ⟨_, a1, H1, h1, k1⟩
  | loop c ih => intro K act H h; exact iter_keep (fun act H K => ih K act H) fuel act H K h
  | scope c ih =>
    intro K act H h
    obtain ⟨e1, a1, H1, h1, k1⟩ := ih _ act H h
    cases e1 with
    | goto i => cases h1
    | _ => exact ⟨_, a1, H1, h1, k1⟩
  | exit id => intro K act H h; exact ⟨_, act, H, h, .refl _⟩
  | ret => intro K act H h; exact ⟨_, act, H, h, .refl _⟩
  | _ => intro K act H h; cases h
theorem Post.seq {α : Type} {ans : α} {f : Kn α} {K : Kt α} {ds : List Deferred} {next : Act → World → Prop} {e : Exit} {a : Act} {W : World} (h : Post ans H0 G0 W0 (kseq f K) ds e a W)
    (hn : ∀ act H G, f act H = some ans → Keep H0 H → Ext G0 W0 G W → Inv G H W → RVs G W act a.tmps.toList → a.defers = ds → next a W) : Exit.then next (Post ans H0 G0 W0 K ds) e a W := by
  obtain ⟨act, H, G, h1, h0, h2, h3, h4, h5⟩ := h
  cases e with
  | normal => exact hn act H G h1 h0 h2 h3 h4 h5
  | _ => exact ⟨act, H, G, h1, h0, h2, h3, h4, h5⟩
theorem iter_sound {α : Type} {c : Code} {ans : α} {K : Kt α} (hKc : ∀ e act H, K e act H = some ans → H.cd) {ds : List Deferred} {f : List AV → AH → Kt α → Option α}
    (hfk : ∀ act H K, f act H K = some ans → ∃ e' act' H', K e' act' H' = some ans ∧ Keep H H')
    (hf : ∀ K act H G (a : Act) W, (∀ e act H, K e act H = some ans → H.cd) → f act H K = some ans → Keep H0 H → Ext G0 W0 G W → Inv G H W → RVs G W act a.tmps.toList → a.defers = ds → c.wp P (Post ans H0 G0 W0 K ds) a W) :
    ∀ (n : Nat) (act : List AV) (H : AH) (G : Gh) (a : Act) (W : World), iter f n act H K = some ans → Keep H0 H → Ext G0 W0 G W → Inv G H W → RVs G W act a.tmps.toList → a.defers = ds → (Code.loop c).wp P (Post ans H0 G0 W0 K ds) a W := by
  intro n act H G a W h hKp hE hI hA hd b k cs
  have key : ∀ n act H G (a : Act) W, iter f n act H K = some ans → Keep H0 H → Ext G0 W0 G W → Inv G H W → RVs G W act a.tmps.toList → a.defers = ds →
      ∃ e a' w', Post ans H0 G0 W0 K ds e a' w' ∧ Arrives P (lone (b.at a (.code c :: .inLoop c :: k)) cs W) b k cs e a' w' := by
    intro n
    induction n with
    | zero => intro act H G a W h; cases h
    | succ n ih =>
      intro act H G a W h hKp hE hI hA hd
      obtain ⟨e, a₁, w₁, hq, harr⟩ := hf _ act H G a W (fun e act H h => by
        obtain ⟨e2, a2, H2, h2, k2⟩ := kseq_keep h (fun act H h => iter_keep hfk n act H K h)
        exact k2.cd (hKc _ _ _ h2)) h hKp hE hI hA hd b (.inLoop c :: k) cs
      have hq' : Exit.then (fun a w => ∃ act H G, iter f n act H K = some ans ∧ Keep H0 H ∧ Ext G0 W0 G w ∧ Inv G H w ∧ RVs G w act a.tmps.toList ∧ a.defers = ds) (Post ans H0 G0 W0 K ds) e a₁ w₁ :=
        hq.seq fun act H G h1 h0 h2 h3 h4 h5 => ⟨act, H, G, h1, h0, h2, h3, h4, h5⟩
      cases e with
      | normal =>
        obtain ⟨act', H', G', h1, h0, h2, h3, h4, h5⟩ := hq'
        obtain ⟨e₂, a₂, w₂, hq₂, harr₂⟩ := ih act' H' G' a₁ w₁ h1 h0 h2 h3 h4 h5
        exact ⟨e₂, a₂, w₂, hq₂, .of_steps (Steps.trans harr (.one step_inLoop)) harr₂⟩
      | exit id => exact ⟨_, a₁, w₁, hq', .pass (x := .inLoop c) rfl (fun _ _ => .inl (by simp)) harr⟩
      | goto l => exact ⟨_, a₁, w₁, hq', .pass (x := .inLoop c) rfl (fun _ _ => .inl (by simp)) harr⟩
      | ret => exact ⟨_, a₁, w₁, hq', .pass (x := .inLoop c) rfl (fun _ _ => .inl (by simp)) harr⟩
      | panic ch => exact ⟨_, a₁, w₁, hq', .pass (x := .inLoop c) rfl (fun _ _ => .inl (by simp)) harr⟩
      | outgrown => exact ⟨_, a₁, w₁, hq', .pass (x := .inLoop c) rfl (fun _ _ => .inl (by simp)) harr⟩
  obtain ⟨e, a', w', hq, harr⟩ := key n act H G a W h hKp hE hI hA hd
  exact ⟨e, a', w', hq, .of_steps (.one step_loop) harr⟩
theorem exec_sound {α : Type} (hN : Named P) (hC : HSound P ro C) (hD : DrSound P ro dr) (hDK : DrKeep dr) (hRo : Ro ro G0 W0) {ans : α} {ds : List Deferred} : ∀ (c : Code) (K : Kt α) (act : List AV) (H : AH) (G : Gh) (a : Act) (W : World), (∀ e act H, K e act H = some ans → H.cd) →
    exec P ro C dr c act H K = some ans → Keep H0 H → Ext G0 W0 G W → Inv G H W → RVs G W act a.tmps.toList → a.defers = ds → c.wp P (Post ans H0 G0 W0 K ds) a W := by
  have hCk : ∀ g args H r H', C g args H = some (r, H') → Keep H H' := fun g args H r H' h => (hC g args H r H' h).1
  intro c
  induction c with
  | skip => intro K act H G a W hKc h hKp hE hI hA hd; exact wp_skip ⟨act, H, G, h, hKp, hE, hI, hA, hd⟩
  | label l => intro K act H G a W hKc h hKp hE hI hA hd; exact wp_label ⟨act, H, G, h, hKp, hE, hI, hA, hd⟩
  | region id os draw =>
    intro K act H G a W hKc h hKp hE hI hA hd
    cases draw with
    | false =>
      exact wp_region_list (ops_sound hN hC hKc (fun e act H G a W h1 h0 h2 h3 h4 h5 => ⟨act, H, G, h1, h0, h2, h3, h4, h5⟩) os.toList act H G a W h hKp hE hI (hRo.ext hE) hA hd)
    | true =>
      exact hD os act H (K .normal) ans H0 G0 W0 G W a id _ h (hKc .normal) hKp hE hI (hRo.ext hE) hA (fun act H G a W h1 h0 h2 h3 h4 h5 => ⟨act, H, G, h1, h0, h2, h3, h4, h5.trans hd⟩)
  | seq x y ihx ihy =>
    intro K act H G a W hKc h hKp hE hI hA hd
    refine wp_seq (wp_mono (ihx _ act H G a W (fun e act H h => by
      obtain ⟨e2, a2, H2, h2, k2⟩ := kseq_keep h (fun act H h => exec_keep hCk hDK _ K act H h)
      exact k2.cd (hKc _ _ _ h2)) h hKp hE hI hA hd) fun e a W hq => hq.seq fun act H G h1 h0 h2 h3 h4 h5 => ihy K act H G a W hKc h1 h0 h2 h3 h4 h5)
  | cond c x y ihx ihy =>
    intro K act H G a W hKc h hKp hE hI hA hd
    unfold exec at h
    split at h
    · rename_i b hb
      have hc := ev_rel hA c
      rw [hb] at hc
      have hcv : a.eval c = .bool b := by
        generalize a.eval c = u at hc
        cases hc; rfl
      split at h
      · rename_i gH hg
        obtain ⟨g, H1⟩ := gH
        have hk := conc_keep hg
        obtain ⟨hS, hcb⟩ := conc_some hg
        have hI1 : Inv G H1 W := hI.same hS.b hS.t
        cases g with
        | true =>
          obtain ⟨e1, a1, H2, h1, k1⟩ := exec_keep hCk hDK _ K act _ h
          have := (hcb (k1.cd (hKc _ _ _ h1))).2
          subst this
          exact wp_cond hcv (ihx K act _ G a W hKc h (hKp.trans hk) hE hI1 hA hd)
        | false =>
          obtain ⟨e1, a1, H2, h1, k1⟩ := exec_keep hCk hDK _ K act _ h
          have := (hcb (k1.cd (hKc _ _ _ h1))).2
          subst this
          exact wp_cond hcv (ihy K act _ G a W hKc h (hKp.trans hk) hE hI1 hA hd)
      · cases h
    · cases h
  | block id c ih =>
    intro K act H G a W hKc h hKp hE hI hA hd
    refine wp_block (wp_mono (ih _ act H G a W (fun e act H h => by
      cases e with
      | exit i =>
        unfold kblk at h
        simp only at h
        split at h <;> exact hKc _ _ _ h
      | _ => exact hKc _ _ _ h) h hKp hE hI hA hd) ?_)
    rintro e a W ⟨act, H, G, h1, h0, h2, h3, h4, h5⟩
    cases e with
    | exit i =>
      unfold kblk at h1
      simp only [Exit.inBlock] at h1 ⊢
      split at h1
      · rename_i hi; rw [if_pos hi]; exact ⟨act, H, G, h1, h0, h2, h3, h4, h5⟩
      · rename_i hi; rw [if_neg hi]; exact ⟨act, H, G, h1, h0, h2, h3, h4, h5⟩
    | _ => exact ⟨act, H, G, h1, h0, h2, h3, h4, h5⟩
  | scope c ih =>
    intro K act H G a W hKc h hKp hE hI hA hd
    refine wp_scope_straight (wp_mono (ih _ act H G a W (fun e act H h => by
      cases e with
      | goto i => cases h
      | _ => exact hKc _ _ _ h) h hKp hE hI hA hd) ?_)
    rintro e a W ⟨act, H, G, h1, h0, h2, h3, h4, h5⟩
    cases e with
    | goto i => cases h1
    | _ => exact ⟨act, H, G, h1, h0, h2, h3, h4, h5⟩
  | loop c ih =>
    intro K act H G a W hKc h hKp hE hI hA hd
    exact iter_sound hKc (fun act H K h => exec_keep hCk hDK _ K act H h) (fun K act H G a W hKc => ih K act H G a W hKc) fuel act H G a W h hKp hE hI hA hd
  | exit id => intro K act H G a W hKc h hKp hE hI hA hd; exact wp_exit ⟨act, H, G, h, hKp, hE, hI, hA, hd⟩
  | ret => intro K act H G a W hKc h hKp hE hI hA hd; exact wp_ret ⟨act, H, G, h, hKp, hE, hI, hA, hd⟩
  | _ => intro K act H G a W hKc h; cases h
def body (P : Program) (ro : Nat → Option (List Value)) (C : Hd) (dr : Dr) (fn : Func) (args : List AV) (H : AH) : Ans2 := match fn.body with
  | some c => exec P ro C dr c (args ++ List.replicate (fn.ntmps - args.length) (.v undef)) H (kret P ro fn.results.toList)
  | none => none
def resM (tmps : Array Value) : ResultVar → Sem Value
  | .tmp t => pure (tmps.getD t undef)
  | .cell a t => do loadVar t (← asAddr (tmps.getD a undef))
theorem resVar_sound {G : Gh} {H : AH} {W : World} {act : List AV} {a : Act} {x : ResultVar} {r : AV} (hI : Inv G H W) (hR : Ro ro G W) (hA : RVs G W act a.tmps.toList) {H' : AH} (h : resVar P ro act H x = some (r, H')) :
    Same H H' ∧ (H'.cd → H.cd) ∧ (H'.cd → ∃ c, (resM a.tmps x).run P W = .ok c W ∧ RV G W r c) := by
  cases x with
  | tmp t =>
    simp only [resVar, Option.some.injEq, Prod.mk.injEq] at h
    obtain ⟨rfl, rfl⟩ := h
    exact ⟨.refl _, fun h => h, fun _ => ⟨_, rfl, ev_rel hA (.tmp t)⟩⟩
  | cell s t =>
    obtain ⟨hS, hcd, hl⟩ := load_sound hI hR (ev_rel hA (.tmp s)) h
    refine ⟨hS, hcd, fun x => ?_⟩
    obtain ⟨u, hu, hr⟩ := hl x
    refine ⟨u, ?_, hr⟩
    have he : a.eval (.tmp s) = a.tmps.getD s undef := rfl
    rw [he] at hu
    show ((do loadVar t (← asAddr (a.tmps.getD s undef))) : Sem Value).run P W = .ok u W
    generalize a.tmps.getD s undef = v at hu ⊢
    cases v with
    | pointer ad =>
      cases ad with
      | some ad => simpa [Instr.loadAt, Instr.sureAddr, asAddr] using hu
      | none => simp [Instr.loadAt, Instr.sureAddr, stuck] at hu
    | _ => simp [Instr.loadAt, Instr.sureAddr, stuck] at hu
theorem resVars_sound {G : Gh} {W : World} {act : List AV} {a : Act} (hR : Ro ro G W) (hA : RVs G W act a.tmps.toList) : ∀ (l : List ResultVar) (H H' : AH) (rs : List AV), Inv G H W → resVars P ro act H l = some (rs, H') →
    Same H H' ∧ (H'.cd → H.cd) ∧ (H'.cd → ∃ cs : List Value, (l.mapM (resM a.tmps)).run P W = .ok cs W ∧ RVs G W rs cs)
  | [], H, H', rs, hI, h => by
    simp only [resVars, Option.some.injEq, Prod.mk.injEq] at h
    obtain ⟨rfl, rfl⟩ := h
    exact ⟨.refl _, fun h => h, fun _ => ⟨[], by simp [List.mapM_nil], .nil⟩⟩
  | x :: l, H, H', rs, hI, h => by
    unfold resVars at h
    split at h
    · rename_i u hu
      obtain ⟨u, H1⟩ := u
      split at h
      · rename_i us hus
        obtain ⟨us, H2⟩ := us
        cases h
        obtain ⟨hS, hcd, h1⟩ := resVar_sound (a := a) hI hR hA hu
        obtain ⟨hS2, hcd2, h2⟩ := resVars_sound hR hA l H1 _ us (hI.same hS.b hS.t) hus
        refine ⟨hS.trans hS2, fun x => hcd (hcd2 x), fun x => ?_⟩
        obtain ⟨c, hc, hr⟩ := h1 (hcd2 x)
        obtain ⟨cs, hcs, hrs⟩ := h2 x
        refine ⟨c :: cs, ?_, .cons hr hrs⟩
        rw [List.mapM_cons]
        simp only [Sem.run_bind, hc, hcs, Result.andThen_ok, Sem.run_pure]
      · cases h
    · cases h
theorem results_eq (fn : Func) (tmps : Array Value) : results fn tmps = (do let vs ← fn.results.mapM (resM tmps); pure (if h : vs.size = 1 then vs[0] else .tuple vs)) := by
  have e : (fun x => match x with
    | ResultVar.tmp t => (pure (tmps.getD t undef) : Sem Value)
    | ResultVar.cell a t => do loadVar t (← asAddr (tmps.getD a undef))) = resM tmps := by funext x; cases x <;> rfl
  unfold results
  rw [← e]
  rfl
theorem resOf_sound {G : Gh} {H H' : AH} {W : World} {act : List AV} {a : Act} {fn : Func} {r : AV} (hI : Inv G H W) (hR : Ro ro G W) (hA : RVs G W act a.tmps.toList) (h : resOf P ro fn.results.toList act H = some (r, H')) (hcd : H'.cd) :
    Same H H' ∧ ∃ c, (results fn a.tmps).run P W = .ok c W ∧ RV G W r c := by
  unfold resOf at h
  split at h
  · rename_i us hus
    obtain ⟨us, H2⟩ := us
    have hH : H2 = H' := by
      simp only at h
      split at h <;> cases h <;> rfl
    subst hH
    obtain ⟨hS, _, h1⟩ := resVars_sound (a := a) hR hA _ _ _ _ hI hus
    obtain ⟨cs, hcs, hrs⟩ := h1 hcd
    have hrun : (results fn a.tmps).run P W = .ok (if h : cs.toArray.size = 1 then cs.toArray[0] else .tuple cs.toArray) W := by
      rw [results_eq, Array.mapM_eq_mapM_toList]
      simp only [Sem.run_bind, Sem.run_map, hcs, Result.andThen_ok, Sem.run_pure]
    refine ⟨hS, _, hrun, ?_⟩
    simp only at h
    split at h
    · cases h
      have hl : cs.length = 1 := by simpa using hrs.len.symm
      obtain ⟨c, hc, hr⟩ := hrs.get 0 r rfl
      match cs, hl, hc with
      | [x], _, hc =>
        simp at hc
        subst hc
        simpa using hr
    · rename_i hne
      cases h
      have hl : ¬ cs.toArray.size = 1 := by
        intro hl
        have := hrs.len
        simp at hl
        rw [hl] at this
        match us, this with
        | [u], _ => exact hne u rfl
      rw [dif_neg hl]
      exact mkTuple_rel (by simpa using hrs)
  · cases h
theorem resVars_keep {act : List AV} : ∀ (l : List ResultVar) (H H' : AH) (rs : List AV), resVars P ro act H l = some (rs, H') → Keep H H'
  | [], H, H', rs, h => by cases h; exact .refl _
  | x :: l, H, H', rs, h => by
    unfold resVars at h
    split at h
    · rename_i u hu
      split at h
      · rename_i us hus
        cases h
        refine Keep.trans ?_ (resVars_keep l u.2 _ us.1 hus)
        cases x with
        | tmp t => cases hu; exact .refl _
        | cell s t => exact load_keep (r := u.1) hu
      · cases h
    · cases h
theorem resOf_keep {rs : List ResultVar} {act : List AV} {H H' : AH} {r : AV} (h : resOf P ro rs act H = some (r, H')) : Keep H H' := by
  unfold resOf at h
  split at h
  · rename_i us hus
    have := resVars_keep _ _ us.2 us.1 hus
    split at h <;> cases h <;> exact this
  · cases h
theorem retd_some {x : Ans} {r : Res} {H' : AH} (h : retd x = some (r, H')) : ∃ u, r = .ret u ∧ x = some (u, H') := by
  unfold retd at h
  split at h
  · cases h; exact ⟨_, rfl, rfl⟩
  · cases h
theorem kret_some {rs : List ResultVar} {e : Exit} {act : List AV} {H H' : AH} {r : Res} (h : kret P ro rs e act H = some (r, H')) :
    (∃ u, r = .ret u ∧ (e = .normal ∨ e = .ret) ∧ resOf P ro rs act H = some (u, H')) ∨ (∃ v, r = .pan v ∧ e = panE v ∧ H' = H) := by
  cases e with
  | normal => obtain ⟨u, h1, h2⟩ := retd_some h; exact .inl ⟨u, h1, .inl rfl, h2⟩
  | ret => obtain ⟨u, h1, h2⟩ := retd_some h; exact .inl ⟨u, h1, .inr rfl, h2⟩
  | panic ch =>
    unfold kret at h
    simp only at h
    split at h
    · rename_i en
      obtain ⟨v, rc, ge⟩ := en
      simp only at h
      split at h
      · cases h
        exact .inr ⟨v, rfl, rfl, rfl⟩
      · cases h
    · cases h
  | _ => cases h
theorem kret_keep {rs : List ResultVar} {e : Exit} {act : List AV} {H H' : AH} {r : Res} (h : kret P ro rs e act H = some (r, H')) : Keep H H' := by
  rcases kret_some h with ⟨u, rfl, _, h⟩ | ⟨v, rfl, _, rfl⟩
  · exact resOf_keep h
  · exact .refl _
theorem body_sound (hN : Named P) (hC : HSound P ro C) (hD : DrSound P ro dr) (hDK : DrKeep dr) {g : FuncId} {fn : Func} (hf : P.funcs[g]? = some fn) {args : List AV} {H : AH} {r : Res} {H' : AH} (h : body P ro C dr fn args H = some (r, H')) : HSound2 P ro g args H r H' := by
  refine ⟨?_, fun hcd G W cargs hI hR hA => ?_⟩
  · unfold body at h
    split at h
    · obtain ⟨e, a1, H1, h1, k1⟩ := exec_keep (fun g args H r H' h => (hC g args H r H' h).1) hDK _ _ _ _ h
      exact k1.trans (kret_keep h1)
    · cases h
  unfold body at h
  split at h
  · rename_i c hc
    refine ⟨⟨fn, hf, by rw [hc]; rfl⟩, ?_⟩
    have hlen : args.length = cargs.size := by have := hA.len; simpa using this
    refine calls_of_wp hf hc (wp_mono (exec_sound hN hC hD hDK hR c _ _ H G { tmps := cargs ++ Array.replicate (fn.ntmps - cargs.size) undef, defers := [] } W (fun e act H h => (kret_keep h).cd hcd) h (Keep.refl _) (Ext.refl _ _) hI ?_ rfl) ?_)
    · simp only [Array.toList_append, Array.toList_replicate]
      refine hA.app ?_
      rw [← hlen]
      generalize fn.ntmps - args.length = n
      induction n with
      | zero => exact .nil
      | succ n ih => exact .cons (.v _) ih
    · rintro e a W' ⟨act, H2, G', h1, h0, h2, h3, h4, h5⟩
      rcases kret_some h1 with ⟨u, rfl, he, h1⟩ | ⟨v, rfl, rfl, rfl⟩
      · obtain ⟨hS, c, hc, hr⟩ := resOf_sound h3 (hR.ext h2) h4 h1 hcd
        rcases he with rfl | rfl
        · exact ⟨h5, c, hc, G', h2, h3.same hS.b hS.t, c, rfl, hr⟩
        · exact ⟨h5, c, hc, G', h2, h3.same hS.b hS.t, c, rfl, hr⟩
      · exact ⟨h5, G', h2, h3, rfl⟩
  · cases h
/-- The run of functions, calls within one another at most d deep; pr: functions that are known otherwise. -/
def fn (P : Program) (ro : Nat → Option (List Value)) (dr : Hd → Dr) (pr : FuncId → Option (List AV → AH → Ans)) : Nat → Hd
  | 0 => fun _ _ _ => none
  | d + 1 => fun g args H => match pr g with
    | some p => retd (p args H)
    | none => match P.funcs[g]? with
      | some f => body P ro (fn P ro dr pr d) (dr (fn P ro dr pr d)) f args H
      | none => none
theorem fn_sound {dr : Hd → Dr} {pr : FuncId → Option (List AV → AH → Ans)} (hN : Named P) (hD : ∀ d, HSound P ro (fn P ro dr pr d) → DrSound P ro (dr (fn P ro dr pr d))) (hDK : ∀ C, HSound P ro C → DrKeep (dr C)) (hp : ∀ g p, pr g = some p → ∀ args H r H', p args H = some (r, H') → HSound1 P ro g args H r H') :
    ∀ d, HSound P ro (fn P ro dr pr d) := by
  intro d
  induction d with
  | zero => intro g args H r H' h; cases h
  | succ d ih =>
    intro g args H r H' h
    unfold fn at h
    split at h
    · rename_i p hpg
      obtain ⟨u, rfl, h1⟩ := retd_some h
      exact (hp g p hpg args H u H' h1).two
    · split at h
      · rename_i f hf
        exact body_sound hN ih (hD _ ih) (hDK _ ih) hf h
      · cases h
end
end Go.Proofs.Ytdijakobocnceaa.AE
