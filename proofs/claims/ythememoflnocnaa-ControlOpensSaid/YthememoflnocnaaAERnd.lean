/-
  The abstract run of code within a round of a range over a function.
-/
import Derived.Test.YthememoflnocnaaAEPar
import Derived.RangeFuncCalls
import Derived.RangeFuncRecord
import Derived.RangeFuncSeq
import Derived.TacticsIn
namespace Go.Proofs.Ythememoflnocnaa.AE
set_option maxRecDepth 100000
open Go.RowKit
/-- The wide fence, in a round or not. -/
abbrev Fr (r : Option Nat) : Fence := { Fence.wide with round := r }
theorem callsF {P : Program} {g : FuncId} {args : Array Value} {W : World} {R : Ending → World → Prop} (r : Option Nat) (n : Nat) (h : Calls P g args W R) : CallsIn (Fr r) n P g args W R :=
  (callsIn_wide (n := n)).2 h
def noDef (o : Oper) : Bool := match o.op with
  | .defer _ => false
  | _ => true
theorem noDef_ne {o : Oper} (h : noDef o = true) : ∀ c, o.op ≠ .defer c := fun c e => by unfold noDef at h; rw [e] at h; cases h
/-- Code that runs alike in a round. -/
def rnd : Code → Bool
  | .skip => true
  | .label _ => true
  | .exit _ => true
  | .ret => true
  | .region _ os draw => !draw && os.toList.all noDef
  | .seq x y => rnd x && rnd y
  | .cond _ x y => rnd x && rnd y
  | .block _ c => rnd c
  | _ => false
section
variable {P : Program} {ro : Nat → Option (List Value)} {C : Hd} {dr : Dr} {G : Gh} {H H' : AH} {W : World} {act : List AV} {a : Act} {o : Oper}
theorem step_soundF {r : Option Nat} {n : Nat} (hN : Named P) (hC : HSound P ro C) (hnd : noDef o = true) (hI : Inv G H W) (hR : Ro ro G W) (hA : RVs G W act a.tmps.toList) {rr : Res} (h : step P ro C act H o = some (rr, H')) (hcd : H'.cd) {next : Act → World → Prop} {Q : Exit → Act → World → Prop}
    (hK : ∀ r, rr = .ret r → ∀ G' W' c, Ext G W G' W' → Inv G' H' W' → RV G' W' r c → next (a.put o.dst c) W') (hP : ∀ v, rr = .pan v → ∀ G' W', Ext G W G' W' → Inv G' H' W' → Q (panE v) a W') : o.wpIn (Fr r) n P a W next Q := by
  have hs : o.semAt (Fr r).round a.eval = execOp a.eval o := Oper.semAt_eq _ _ _ (noDef_ne hnd)
  have call : ∀ g args, C g args H = some (rr, H') → (∃ cargs : Array Value, RVs G W args cargs.toList ∧ ((∃ fn, P.funcs[g]? = some fn ∧ fn.body.isSome = true) → (execOp a.eval o).run P W = .ok (.enter g cargs) W)) → o.wpIn (Fr r) n P a W next Q := by
    intro g args h hc
    have hs2 := hC g args H rr H' h
    obtain ⟨cargs, h1, h2⟩ := hc
    replace h2 := h2 (hs2.2 hcd G W cargs hI hR h1).1
    refine ⟨fun _ _ => trivial, ?_⟩
    rw [hs, h2, Oper.uponIn_enter]
    refine ⟨fun h => (by cases h), callsF _ _ (Calls.mono (hs2.2 hcd G W cargs hI hR h1).2 ?_)⟩
    rintro e W' ⟨G', e1, e2, e3⟩
    cases rr with
    | ret r =>
      obtain ⟨c, rfl, e4⟩ := e3
      exact hK r rfl G' W' c e1 e2 e4
    | pan v =>
      have e3 : e = _ := e3
      subst e3
      exact hP v rfl G' W' e1 e2
  unfold step at h
  split at h
  · rename_i ga hc
    exact call ga.1 ga.2 h (call_run (W := W) hN hA hc)
  · split at h
    · rename_i rh hr
      cases h
      obtain ⟨G', W', nx, c, h1, h2, h3, h4, h5⟩ := op2_sound (r := rh.1) hI hR hA hr hcd
      refine ⟨fun _ _ => trivial, ?_⟩
      rw [hs, h1]
      rcases h2 with rfl | ⟨rfl, rfl⟩
      · exact hK _ rfl G' W' c h3 h4 h5
      · exact hK _ rfl G' W' undef h3 h4 h5
    · split at h
      · rename_i ga hc
        exact call ga.1 ga.2 h (inv_run (W := W) hN hA hc)
      · split at h
        · rename_i v hv
          cases h
          refine ⟨fun _ _ => trivial, ?_⟩
          rw [hs, pan_run hA hv]
          exact hP v rfl G W (.refl _ _) hI
        · cases h
/-- The first operations of a region; l2 are those that follow. -/
theorem ops_soundF {α : Type} {r : Option Nat} {n : Nat} (hN : Named P) (hC : HSound P ro C) {all : Array Oper} {ans : α} {K : Kt α} (hKc : ∀ e act H, K e act H = some ans → H.cd) {G0 : Gh} {W0 : World} {H0 : AH} {ds : List Deferred} {Q : Exit → Act → World → Prop} {l2 : List Oper}
    (hQ : ∀ act H G (a : Act) W, K .normal act H = some ans → Keep H0 H → Ext G0 W0 G W → Inv G H W → RVs G W act a.tmps.toList → a.defers = ds → wpListIn (Fr r) n P all Q l2 a W)
    (hQp : ∀ v act H G (a : Act) W, K (panE v) act H = some ans → Keep H0 H → Ext G0 W0 G W → Inv G H W → RVs G W act a.tmps.toList → a.defers = ds → Q (panE v) a W) :
    ∀ (rest : List Oper) (act : List AV) (H : AH) (G : Gh) (a : Act) (W : World), rest.all noDef = true → ops P ro C all rest act H K = some ans → Keep H0 H → Ext G0 W0 G W → Inv G H W → Ro ro G W → RVs G W act a.tmps.toList → a.defers = ds → wpListIn (Fr r) n P all Q (rest ++ l2) a W := by
  have hCk : ∀ g args H r H', C g args H = some (r, H') → Keep H H' := fun g args H r H' h => (hC g args H r H' h).1
  have hcd : ∀ rest act H, ops P ro C all rest act H K = some ans → H.cd := fun rest act H h => by
    obtain ⟨e, a2, H2, h1, h2⟩ := ops_keep hCk rest _ _ h
    exact h2.cd (hKc _ _ _ h1)
  have acd : ∀ rest act (o : Oper) H1, aft (step P ro C act H1 o) (fun r h => ops P ro C all rest (put act o.dst r) h K) (fun v h => K (panE v) act h) = some ans → H1.cd := fun rest act o H1 h => by
    rcases aft_some h with ⟨r, h', hs, h⟩ | ⟨v, h', hs, h⟩
    · exact (step_keep hCk hs).cd (hcd _ _ _ h)
    · exact (step_keep hCk hs).cd (hKc _ _ _ h)
  intro rest
  induction rest with
  | nil => intro act H G a W _ h hKp hE hI hR hA hd; exact hQ act H G a W h hKp hE hI hA hd
  | cons o rest ih =>
    intro act H G a W hnd h hKp hE hI hR hA hd
    rw [List.all_cons, Bool.and_eq_true] at hnd
    have hgd := gd_sound (o := o) (all := all) hA
    have take : ∀ act' H1, act' = act → Keep H0 H1 → Inv G H1 W → aft (step P ro C act' H1 o) (fun r h => ops P ro C all rest (put act' o.dst r) h K) (fun v h => K (panE v) act' h) = some ans → (H1.cd → Region.wanted o (yielded all a.tmps) = true) → wpListIn (Fr r) n P all Q (o :: rest ++ l2) a W := by
      rintro _ H1 rfl hKp hI h hw
      have hH1 := acd _ _ _ _ h
      show wpListIn (Fr r) n P all Q (o :: (rest ++ l2)) a W
      unfold wpListIn
      rw [if_pos (hw hH1)]
      rcases aft_some h with ⟨r, h', hs, h⟩ | ⟨v, h', hs, h⟩
      · have hk := step_keep hCk hs
        refine step_soundF hN hC hnd.1 hI hR hA hs (hcd _ _ _ h) (fun r' hr' G' W' c e1 e2 e3 => ?_) (fun v hv => by cases hv)
        cases hr'
        exact ih _ _ _ _ _ hnd.2 h (hKp.trans hk) (hE.trans e1) e2 (hR.ext e1) (put_rel (hA.ext e1) o.dst e3) (by rw [put_defers, hd])
      · have hk := step_keep hCk hs
        refine step_soundF hN hC hnd.1 hI hR hA hs (hKc _ _ _ h) (fun r hr => by cases hr) (fun v' hv G' W' e1 e2 => ?_)
        cases hv
        exact hQp _ _ _ G' a W' h (hKp.trans hk) (hE.trans e1) e2 (hA.ext e1) hd
    have skip : ∀ act' H1, act' = act → Keep H0 H1 → Inv G H1 W → ops P ro C all rest (put act' o.dst (.v undef)) H1 K = some ans → (H1.cd → Region.wanted o (yielded all a.tmps) = false) → wpListIn (Fr r) n P all Q (o :: rest ++ l2) a W := by
      rintro _ H1 rfl hKp hI h hw
      show wpListIn (Fr r) n P all Q (o :: (rest ++ l2)) a W
      unfold wpListIn
      rw [if_neg (by rw [hw (hcd _ _ _ h)]; simp)]
      exact ⟨fun _ _ => trivial, ih _ _ _ _ _ hnd.2 h hKp hE hI hR (put_rel hA o.dst (.v _)) (by rw [put_defers, hd])⟩
    unfold ops at h
    cases e : gd all act o with
    | yes => rw [e] at h hgd; exact take act H rfl hKp hI h fun _ => hgd
    | bad => rw [e] at h; cases h
    | no => rw [e] at h hgd; exact skip act H rfl hKp hI h fun _ => hgd
    | test d want b =>
      rw [e] at h hgd
      obtain ⟨hw, hx⟩ := hgd
      simp only at h
      split at h
      · rename_i gH hg
        obtain ⟨g, H1⟩ := gH
        have hk := conc_keep hg
        obtain ⟨hS, hc⟩ := conc_some hg
        have hb : H1.cd → b = g := fun x => (hc x).2
        have hI1 : Inv G H1 W := hI.same hS.b hS.t
        have hbg : b = g := by
          cases g <;> cases want <;> simp only at h
          · exact hb (acd _ _ _ _ h)
          · exact hb (hcd _ _ _ h)
          · exact hb (hcd _ _ _ h)
          · exact hb (acd _ _ _ _ h)
        subst hbg
        cases b <;> cases want <;> simp only at h
        · exact take _ _ (set_same hx) (hKp.trans hk) hI1 h fun _ => hw
        · exact skip _ _ (set_same hx) (hKp.trans hk) hI1 h fun _ => hw
        · exact skip _ _ (set_same hx) (hKp.trans hk) hI1 h fun _ => hw
        · exact take _ _ (set_same hx) (hKp.trans hk) hI1 h fun _ => hw
      · cases h
theorem exec_soundF {α : Type} {r : Option Nat} {n : Nat} (hN : Named P) (hC : HSound P ro C) (hDK : DrKeep dr) {G0 : Gh} {W0 : World} {H0 : AH} (hRo : Ro ro G0 W0) {ans : α} {ds : List Deferred} : ∀ (c : Code) (K : Kt α) (act : List AV) (H : AH) (G : Gh) (a : Act) (W : World), rnd c = true → (∀ e act H, K e act H = some ans → H.cd) →
    exec P ro C dr c act H K = some ans → Keep H0 H → Ext G0 W0 G W → Inv G H W → RVs G W act a.tmps.toList → a.defers = ds → c.wpIn (Fr r) n P (Post ans H0 G0 W0 K ds) a W := by
  have hCk : ∀ g args H r H', C g args H = some (r, H') → Keep H H' := fun g args H r H' h => (hC g args H r H' h).1
  intro c
  induction c with
  | skip => intro K act H G a W _ hKc h hKp hE hI hA hd; exact wpIn_skip ⟨act, H, G, h, hKp, hE, hI, hA, hd⟩
  | label l => intro K act H G a W _ hKc h hKp hE hI hA hd; exact wpIn_label ⟨act, H, G, h, hKp, hE, hI, hA, hd⟩
  | region id os draw =>
    intro K act H G a W hr hKc h hKp hE hI hA hd
    unfold rnd at hr
    rw [Bool.and_eq_true] at hr
    cases draw with
    | true => cases hr.1
    | false =>
      refine wpIn_region_list ?_
      have := ops_soundF (r := r) (n := n) (Q := Post ans H0 G0 W0 K ds) (l2 := []) hN hC hKc (fun act H G a W h1 h0 h2 h3 h4 h5 => ⟨act, H, G, h1, h0, h2, h3, h4, h5⟩) (fun v act H G a W h1 h0 h2 h3 h4 h5 => ⟨act, H, G, h1, h0, h2, h3, h4, h5⟩) os.toList act H G a W hr.2 h hKp hE hI (hRo.ext hE) hA hd
      rwa [List.append_nil] at this
  | seq x y ihx ihy =>
    intro K act H G a W hr hKc h hKp hE hI hA hd
    unfold rnd at hr
    rw [Bool.and_eq_true] at hr
    refine wpIn_seq (wpIn_mono (ihx _ act H G a W hr.1 (fun e act H h => by
      obtain ⟨e2, a2, H2, h2, k2⟩ := kseq_keep h (fun act H h => exec_keep hCk hDK _ K act H h)
      exact k2.cd (hKc _ _ _ h2)) h hKp hE hI hA hd) fun e a W hq => hq.seq fun act H G h1 h0 h2 h3 h4 h5 => ihy K act H G a W hr.2 hKc h1 h0 h2 h3 h4 h5)
  | cond c x y ihx ihy =>
    intro K act H G a W hrn hKc h hKp hE hI hA hd
    unfold rnd at hrn
    rw [Bool.and_eq_true] at hrn
    unfold exec at h
    split at h
    · rename_i b hb
      have hc := ev_rel hA c
      rw [hb] at hc
      have hcv : a.eval c = .bool b := by
        generalize a.eval c = u at hc
        cases hc; rfl
      split at h
      · rename_i gH hg
        obtain ⟨g, H1⟩ := gH
        have hk := conc_keep hg
        obtain ⟨hS, hcb⟩ := conc_some hg
        have hI1 : Inv G H1 W := hI.same hS.b hS.t
        cases g with
        | true =>
          obtain ⟨e1, a1, H2, h1, k1⟩ := exec_keep hCk hDK _ K act _ h
          have := (hcb (k1.cd (hKc _ _ _ h1))).2
          subst this
          exact wpIn_cond hcv (ihx K act _ G a W hrn.1 hKc h (hKp.trans hk) hE hI1 hA hd)
        | false =>
          obtain ⟨e1, a1, H2, h1, k1⟩ := exec_keep hCk hDK _ K act _ h
          have := (hcb (k1.cd (hKc _ _ _ h1))).2
          subst this
          exact wpIn_cond hcv (ihy K act _ G a W hrn.2 hKc h (hKp.trans hk) hE hI1 hA hd)
      · cases h
    · cases h
  | block id c ih =>
    intro K act H G a W hrn hKc h hKp hE hI hA hd
    unfold rnd at hrn
    refine wpIn_block (wpIn_mono (ih _ act H G a W hrn (fun e act H h => by
      cases e with
      | exit i =>
        unfold kblk at h
        simp only at h
        split at h <;> exact hKc _ _ _ h
      | _ => exact hKc _ _ _ h) h hKp hE hI hA hd) ?_)
    rintro e a W ⟨act, H, G, h1, h0, h2, h3, h4, h5⟩
    cases e with
    | exit i =>
      unfold kblk at h1
      simp only [Exit.inBlock] at h1 ⊢
      split at h1
      · rename_i hi; rw [if_pos hi]; exact ⟨act, H, G, h1, h0, h2, h3, h4, h5⟩
      · rename_i hi; rw [if_neg hi]; exact ⟨act, H, G, h1, h0, h2, h3, h4, h5⟩
    | _ => exact ⟨act, H, G, h1, h0, h2, h3, h4, h5⟩
  | exit id => intro K act H G a W _ hKc h hKp hE hI hA hd; exact wpIn_exit ⟨act, H, G, h, hKp, hE, hI, hA, hd⟩
  | ret => intro K act H G a W _ hKc h hKp hE hI hA hd; exact wpIn_ret ⟨act, H, G, h, hKp, hE, hI, hA, hd⟩
  | _ => intro K act H G a W h; cases h
end
/-- Code in a round of the loop whose record is at l. -/
def TrR (P : Program) (ro : Nat → Option (List Value)) (l : Nat) (c : Code) (act : List AV) (H : AH) (Q : Exit → List AV → AH → Prop) : Prop :=
  ∀ n G W (a : Act), Inv G H W → Ro ro G W → RVs G W act a.tmps.toList →
    c.wpIn (Fr (some l)) n P (fun e a' W' => ∃ act' H' G', Q e act' H' ∧ Ext G W G' W' ∧ Inv G' H' W' ∧ RVs G' W' act' a'.tmps.toList ∧ a'.defers = a.defers) a W
theorem TrR.mono {P : Program} {ro : Nat → Option (List Value)} {l : Nat} {c : Code} {act : List AV} {H : AH} {Q R : Exit → List AV → AH → Prop} (h : TrR P ro l c act H Q) (hq : ∀ e a h, Q e a h → R e a h) : TrR P ro l c act H R :=
  fun n G W a hI hR hA => wpIn_mono (h n G W a hI hR hA) fun _ _ _ ⟨act', H', G', q, r⟩ => ⟨act', H', G', hq _ _ _ q, r⟩
theorem TrR.of_code {ro : Nat → Option (List Value)} {mu : FuncId → Bool} {pr : FuncId → Option (List AV → AH → Ans)} {d l : Nat} {c : Code} {act : List AV} {H : AH} {R : Exit → List AV → AH → Prop} (hp : Known ro pr) (hr : rnd c = true) {is : List Nat} {X : Option Prop} (e : code ro mu pr d c act H (kp is R) = X) (h : holds X) (hm : Flats mu pr := by intro g h; cases h) : TrR Try.prog ro l c act H R := by
  intro n G W a hI hR hA
  cases X with
  | none => exact h.elim
  | some p =>
    have hpp : p := h
    rw [code_eq] at e
    refine wpIn_mono (exec_soundF (r := some l) (n := n) (G0 := G) (W0 := W) (H0 := H) named (run_sound' hp hm d) (dr_keep _ (run_sound' hp hm d)) hR c (kp is R) act H G a W hr (fun e act H hk => ?_) e (.refl _) (.refl _ _) hI hA rfl) ?_
    · have : (H.cd ∧ R e (keepI 0 is act) (tidy H)) = p := by simpa [kp] using hk
      rw [← this] at hpp
      exact hpp.1
    · rintro e a' W' ⟨act', H', G', hk, _, h2, h3, h4, h5⟩
      have : (H'.cd ∧ R e (keepI 0 is act') (tidy H')) = p := by simpa [kp] using hk
      rw [← this] at hpp
      exact ⟨_, _, G', hpp.2, h2, inv_tidy h3, keepI_rel _ _ h4, h5⟩
end Go.Proofs.Ythememoflnocnaa.AE
