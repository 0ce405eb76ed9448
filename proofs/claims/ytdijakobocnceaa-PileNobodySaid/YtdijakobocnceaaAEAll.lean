/-
  A region that draws its order, run in each of its orders: for regions with few of them, whose operations make memory and write at will.
-/
import Derived.Test.YtdijakobocnceaaAETr
namespace Go.Proofs.Ytdijakobocnceaa.AE
set_option maxRecDepth 100000
open Go.RowKit
def andO (x y : Option Prop) : Option Prop := match x with
  | some p => match y with
    | some q => some (p ∧ q)
    | none => none
  | none => none
def allL (f : Nat → Option Prop) : Nat → List Nat → Option Prop
  | i, [] => f i
  | i, j :: l => andO (f i) (allL f j l)
/-- The region in every order that is left: all ends are good. -/
def allK (P : Program) (ro : Nat → Option (List Value)) (C : Hk) (mu : FuncId → Bool) (os : Array Oper) (K : List AV → AH → Option Prop) : Nat → Array Bool → List AV → AH → Option Prop
  | 0, L, act, H => match Region.ready .any os L with
    | [] => K act H
    | _ :: _ => none
  | n + 1, L, act, H => match Region.ready .any os L with
    | [] => K act H
    | i :: r => allL (fun i => match os[i]? with
      | some o => match gd os act o with
        | .yes => stepDK P ro C mu act H o fun x h => allK P ro C mu os K n (L.setIfInBounds i true) (put act o.dst x) h
        | _ => none
      | none => none) i r
theorem allL_mem {f : Nat → Option Prop} : ∀ {l : List Nat} {i : Nat} {p : Prop}, allL f i l = some p → p → ∀ j ∈ i :: l, ∃ q, f j = some q ∧ q
  | [], i, p, h, hp, j, hj => by
    have : j = i := by simpa using hj
    subst this
    exact ⟨p, h, hp⟩
  | k :: l, i, p, h, hp, j, hj => by
    unfold allL andO at h
    split at h
    · rename_i q hq
      split at h
      · rename_i q2 hq2
        cases h
        rcases List.mem_cons.1 hj with rfl | hj
        · exact ⟨q, hq, hp.1⟩
        · exact allL_mem hq2 hp.2 j hj
      · cases h
    · cases h
theorem thn_of {α : Type} {x : Ans} {K : AV → AH → Option α} {p : α} (h : thn x K = some p) : ∃ rh, x = some rh ∧ K rh.1 rh.2 = some p := by
  unfold thn at h
  split at h
  · rename_i rh
    exact ⟨rh, rfl, h⟩
  · cases h
section
variable {P : Program} {ro : Nat → Option (List Value)} {Ck : Hk} {C : Hd} {mu : FuncId → Bool} {os : Array Oper} {K : List AV → AH → Option Prop} {R : List AV → AH → Prop}
theorem allK_step (hL : Like Ck C) {n : Nat} {L : Array Bool} {act : List AV} {H : AH} {p : Prop} (h : allK P ro Ck mu os K (n + 1) L act H = some p) (hp : p) {j : Nat} (hj : j ∈ Region.ready .any os L) :
    ∃ o rh q, os[j]? = some o ∧ gd os act o = .yes ∧ stepD P ro C mu act H o = some rh ∧ allK P ro Ck mu os K n (L.setIfInBounds j true) (put act o.dst rh.1) rh.2 = some q ∧ q := by
  unfold allK at h
  split at h
  · rename_i e; rw [e] at hj; cases hj
  · rename_i i r e
    rw [e] at hj
    obtain ⟨q, hq, hqp⟩ := allL_mem h hp j hj
    split at hq
    · rename_i o ho
      split at hq
      · rename_i hg
        rw [stepDK_eq hL] at hq
        obtain ⟨rh, h1, h2⟩ := thn_of hq
        exact ⟨o, rh, q, ho, hg, h1, h2, hqp⟩
      · cases hq
    · cases hq
theorem allK_cd (hL : Like Ck C) (hC : ∀ g args H r H', C g args H = some (r, H') → Keep H H') (hK : ∀ act H p, K act H = some p → p → H.cd ∧ R act H) : ∀ (n : Nat) (L : Array Bool) (act : List AV) (H : AH) (p : Prop), allK P ro Ck mu os K n L act H = some p → p → H.cd
  | 0, L, act, H, p, h, hp => by
    unfold allK at h
    split at h
    · exact (hK _ _ _ h hp).1
    · cases h
  | n + 1, L, act, H, p, h, hp => by
    cases e : Region.ready .any os L with
    | nil =>
      unfold allK at h
      rw [e] at h
      exact (hK _ _ _ h hp).1
    | cons i r =>
      obtain ⟨o, rh, q, _, _, h1, h2, h3⟩ := allK_step hL h hp (j := i) (by rw [e]; exact List.mem_cons_self ..)
      exact (stepD_keep hC h1).cd (allK_cd hL hC hK n _ _ _ _ h2 h3)
theorem all_go (hN : Named P) (hC : HSound P ro C) (hL : Like Ck C) (hK : ∀ act H p, K act H = some p → p → H.cd ∧ R act H) {G0 : Gh} {W0 : World} (hRo : Ro ro G0 W0) {ds : List Deferred} {Q : Exit → Act → World → Prop}
    (hQ : ∀ act H G (a : Act) W, R act H → Ext G0 W0 G W → Inv G H W → RVs G W act a.tmps.toList → a.defers = ds → Q .normal a W) :
    ∀ (n : Nat) (L : Array Bool) (act : List AV) (H : AH) (G : Gh) (a : Act) (W : World) (p : Prop), allK P ro Ck mu os K n L act H = some p → p → Ext G0 W0 G W → Inv G H W → RVs G W act a.tmps.toList → a.defers = ds → wpAny P .any os Q n L a W
  | 0, L, act, H, G, a, W, p, h, hp, hE, hI, hA, hd => by
    unfold allK at h
    split at h
    · rename_i e
      exact ⟨e, hQ _ _ G a W (hK _ _ _ h hp).2 hE hI hA hd⟩
    · cases h
  | n + 1, L, act, H, G, a, W, p, h, hp, hE, hI, hA, hd => by
    refine ⟨fun e => ?_, fun j hj => ?_⟩
    · unfold allK at h
      rw [e] at h
      exact hQ _ _ G a W (hK _ _ _ h hp).2 hE hI hA hd
    · obtain ⟨o, rh, q, ho, hg, h1, h2, h3⟩ := allK_step hL h hp hj
      obtain ⟨r, H'⟩ := rh
      have hcd : H'.cd := allK_cd hL (fun g args H r H' h => (hC g args H r H' h).1) hK n _ _ _ _ h2 h3
      unfold wpOp
      rw [ho]
      dsimp only
      rw [wantA_eq hA (by rw [hg]; intro h; cases h), if_pos (by unfold wantA; rw [hg])]
      left
      exact stepD_sound hN hC hI (hRo.ext hE) hA h1 hcd fun G' W' c x1 x2 x3 => all_go hN hC hL hK hRo hQ n _ _ _ G' _ W' q h2 h3 (hE.trans x1) x2 (put_rel (hA.ext x1) o.dst x3) ((put_defers _ _).trans hd)
end
noncomputable def allR (ro : Nat → Option (List Value)) (mu : FuncId → Bool) (pr : FuncId → Option (List AV → AH → Ans)) (d : Nat) (c : Code) (act : List AV) (H : AH) (K : Kt Prop) : Option Prop := match c with
  | .region _ os draw => match draw with
    | true => allK Try.prog ro (fnK Try.prog ro mu pr d) mu os (K .normal) os.size (Array.replicate os.size false) act H
    | false => none
  | _ => none
theorem Tr.of_all {ro : Nat → Option (List Value)} {mu : FuncId → Bool} {pr : FuncId → Option (List AV → AH → Ans)} {d : Nat} {c : Code} {act : List AV} {H : AH} {R : Exit → List AV → AH → Prop} (hp : Known ro pr) {is : List Nat} {X : Option Prop}
    (e : allR ro mu pr d c act H (kp is R) = X) (h : holds X) (hm : Flats mu pr := by intro g h; cases h) : Tr Try.prog ro c act H R := by
  intro G W a hI hR hA
  cases X with
  | none => exact h.elim
  | some p =>
    have hpp : p := h
    cases c with
    | region id os draw =>
      cases draw with
      | false => cases e
      | true =>
        obtain ⟨d1, d2⟩ := hI.drew
        refine wp_region_any mixed (all_go (C := fn Try.prog ro (dr Try.prog ro mu) pr d) (R := fun a h => R .normal (keepI 0 is a) (tidy h)) named (run_sound' hp hm d) (fnK_like pr d) ?_ (hR.ext d1) (ds := a.defers) (fun act' H' G' a' W' q x1 x2 x3 x4 => ?_) os.size (Array.replicate os.size false) act H G a W.drew p e hpp (Ext.refl _ _) d2 (hA.ext d1) rfl)
        · intro act H q hk hq
          have : (H.cd ∧ R .normal (keepI 0 is act) (tidy H)) = q := by simpa [kp] using hk
          rw [← this] at hq
          exact hq
        · exact ⟨_, _, G', q, d1.trans x1, inv_tidy x2, keepI_rel _ _ x3, x4⟩
    | _ => cases e
end Go.Proofs.Ytdijakobocnceaa.AE
