/-
  A region that draws its order and turns nothing: one run, in the order of its text.
-/
import Derived.Test.YtdijakobocnceaaAETr
namespace Go.Proofs.Ytdijakobocnceaa.AE
set_option maxRecDepth 100000
open Go.RowKit
section
variable {P : Program} {ro : Nat → Option (List Value)} {C : Hd} {mu : FuncId → Bool} {α : Type}
theorem runD_end {os : Array Oper} {ans : α} {K : List AV → AH → List Ent → Option α} : ∀ (rest : List Oper) (act : List AV) (H : AH) (acc : List Ent), runD P ro C mu os rest act H acc K = some ans → ∃ act' H' tb, K act' H' tb = some ans ∧ tb.length = acc.length + rest.length
  | [], act, H, acc, h => ⟨act, H, acc, h, rfl⟩
  | o :: rest, act, H, acc, h => by
    have go : ∀ act' H' e, runD P ro C mu os rest act' H' (acc ++ [e]) K = some ans → ∃ act' H' tb, K act' H' tb = some ans ∧ tb.length = acc.length + (o :: rest).length := fun act' H' e h => by
      obtain ⟨a1, H1, tb, h1, h2⟩ := runD_end rest _ _ _ h
      exact ⟨a1, H1, tb, h1, by rw [h2]; simp only [List.length_append, List.length_cons, List.length_nil]; omega⟩
    unfold runD at h
    repeat' split at h
    all_goals first | exact go _ _ _ h | cases h
theorem runD_imp {os : Array Oper} {ans : α} {K K' : List AV → AH → List Ent → Option α} : ∀ (rest : List Oper) (act : List AV) (H : AH) (acc : List Ent), (∀ act' H' tb, tb.length = acc.length + rest.length → K act' H' tb = some ans → K' act' H' tb = some ans) → runD P ro C mu os rest act H acc K = some ans → runD P ro C mu os rest act H acc K' = some ans
  | [], act, H, acc, hk, h => hk _ _ _ rfl h
  | o :: rest, act, H, acc, hk, h => by
    have go : ∀ act' H' e, runD P ro C mu os rest act' H' (acc ++ [e]) K = some ans → runD P ro C mu os rest act' H' (acc ++ [e]) K' = some ans := fun act' H' e h =>
      runD_imp rest _ _ _ (fun a1 H1 tb hl => hk a1 H1 tb (by rw [hl]; simp only [List.length_append, List.length_cons, List.length_nil]; omega)) h
    have take : ∀ act1 H1 (f : AV × AH → Ent), (match stepD P ro C mu act1 H1 o with | some rh => runD P ro C mu os rest (put act1 o.dst rh.1) rh.2 (acc ++ [f rh]) K | none => none) = some ans → (match stepD P ro C mu act1 H1 o with | some rh => runD P ro C mu os rest (put act1 o.dst rh.1) rh.2 (acc ++ [f rh]) K' | none => none) = some ans := by
      intro act1 H1 f h
      cases hs : stepD P ro C mu act1 H1 o with
      | none => rw [hs] at h; cases h
      | some rh => rw [hs] at h; exact go _ _ _ h
    unfold runD at h ⊢
    cases e : gd os act o with
    | yes => rw [e] at h; exact take _ _ _ h
    | no => rw [e] at h; exact go _ _ _ h
    | bad => rw [e] at h; cases h
    | test d want b =>
      rw [e] at h
      simp only at h ⊢
      cases hc : conc H b with
      | none => rw [hc] at h; cases h
      | some gH =>
        rw [hc] at h
        obtain ⟨g, H1⟩ := gH
        cases g <;> cases want <;> simp only at h ⊢
        · exact take _ _ _ h
        · exact go _ _ _ h
        · exact go _ _ _ h
        · exact take _ _ _ h
theorem cdL_true : ∀ {l : List (Bool × Prop)} {c : Prop}, (∀ x ∈ l, x.1 = true) → cdL c l = c
  | [], c, _ => rfl
  | (b, p) :: l, c, h => by
    have hb : b = true := h (b, p) (List.mem_cons_self ..)
    subst hb
    show cdL (cds c true p) l = c
    exact cdL_true (l := l) (c := c) fun x hx => h x (List.mem_cons_of_mem _ hx)
theorem cnt_still {tb : List Ent} (h : tb.all (fun e => !e.T) = true) (i : Nat) : cnt tb i = 0 := by
  unfold cnt
  rw [List.countP_eq_zero]
  intro e he
  rw [List.all_eq_true] at h
  have := h e (List.mem_of_mem_take he)
  simpa using this
theorem dr_still {os : Array Oper} {act : List AV} {H : AH} {K : Kn α} {ans : α} (hst : stat os.toList (bsets os.toList []) os = true)
    (h : runD P ro C mu os os.toList act H [] (fun act' H' tb => match tb.all (fun e => !e.T) with | true => K act' H' | false => none) = some ans) : dr P ro mu C os act H K = some ans := by
  unfold dr
  rw [if_pos hst]
  refine runD_imp _ _ _ _ (fun act' H' tb hl hk => ?_) h
  cases ht : tb.all (fun e => !e.T) with
  | false => rw [ht] at hk; cases hk
  | true =>
    rw [ht] at hk
    have hcn : tb.countP (·.T) = 0 := by
      have := cnt_still ht tb.length
      unfold cnt at this
      rwa [List.take_length] at this
    have hlen : tb.length = os.toList.length := by simpa using hl
    have hc : chk mu os.toList (bsets os.toList []) tb = true := by
      unfold chk
      rw [List.all_eq_true]
      rintro ⟨o, i⟩ ho
      obtain ⟨hi, _⟩ := List.mem_zipIdx ho |> fun h => (⟨h.2.1, trivial⟩ : i < 0 + os.toList.length ∧ True)
      have hi : i < tb.length := by omega
      simp only [List.getElem?_eq_getElem hi, hcn]
      rw [List.all_eq_true]
      intro k hk0
      have hk0 : k = 0 := by simpa using hk0
      subst hk0
      rw [cnt_still ht i]
      simp
    rw [if_pos hc]
    have h1 : ∀ x ∈ chkP os.toList (bsets os.toList []) tb, x.1 = true := by
      intro x hx
      unfold chkP at hx
      rw [List.mem_flatMap] at hx
      obtain ⟨⟨o, i⟩, _, hx⟩ := hx
      simp only at hx
      split at hx
      · rw [List.mem_flatMap] at hx
        obtain ⟨k, _, hx⟩ := hx
        unfold ldQ at hx
        split at hx
        · split at hx
          · rw [List.mem_map] at hx
            obtain ⟨⟨e2, t⟩, he2, rfl⟩ := hx
            have hm : e2 ∈ tb := by
              have := List.mem_zipIdx he2
              rw [this.2.2]
              exact List.getElem_mem _
            rw [List.all_eq_true] at ht
            have := ht e2 hm
            show ldC _ _ _ _ _ _ _ _ = true
            unfold ldC
            rw [this]; rfl
          · cases hx
        · cases hx
      · cases hx
    have h2 : ∀ S : List AV → AH → Oper → (AV → AH → Option Prop) → Option Prop, ∀ x ∈ chkC S mu os (bsets os.toList []) H tb, x.1 = true := by
      intro S x hx
      unfold chkC at hx
      rw [List.mem_flatMap] at hx
      obtain ⟨⟨o, i⟩, _, hx⟩ := hx
      simp only at hx
      split at hx
      · split at hx
        · rw [List.mem_map] at hx
          obtain ⟨k, hk0, rfl⟩ := hx
          rw [hcn] at hk0
          have hk0 : k = 0 := by simpa using hk0
          subst hk0
          show (_ || (0 == cnt tb i) || _) = true
          rw [cnt_still ht i]; simp
        · cases hx
      · cases hx
    rw [cdL_true (h2 _), cdL_true h1]
    exact hk
end
/-- The row, its spine told. -/
def forceL {α β : Type} : List α → (List α → β) → β
  | [], k => k []
  | x :: l, k => forceL l fun l' => k (x :: l')
theorem forceL_eq {α β : Type} : ∀ (l : List α) (k : List α → β), forceL l k = k l
  | [], k => rfl
  | x :: l, k => forceL_eq l _
def runDF {α : Type} (P : Program) (ro : Nat → Option (List Value)) (C : Hk) (mu : FuncId → Bool) (os : Array Oper) : List Oper → List AV → AH → List Ent → (List AV → AH → List Ent → Option α) → Option α
  | [], act, H, acc, K => K act H acc
  | o :: rest, act, H, acc, K => forceL act fun act => match gd os act o with
    | .yes => stepDK P ro C mu act H o fun r h => runDF P ro C mu os rest (put act o.dst r) h (acc ++ [⟨act, H, r, turns mu act o, h⟩]) K
    | .no => runDF P ro C mu os rest (put act o.dst (.v undef)) H (acc ++ [⟨act, H, .v undef, false, H⟩]) K
    | .bad => none
    | .test d want b => match conc H b with
      | some gH => match gH.1 with
        | true => match want with
          | true => stepDK P ro C mu (act.set d (.v (.bool true))) gH.2 o fun r h => runDF P ro C mu os rest (put (act.set d (.v (.bool true))) o.dst r) h (acc ++ [⟨act.set d (.v (.bool true)), gH.2, r, turns mu (act.set d (.v (.bool true))) o, h⟩]) K
          | false => runDF P ro C mu os rest (put (act.set d (.v (.bool true))) o.dst (.v undef)) gH.2 (acc ++ [⟨act.set d (.v (.bool true)), gH.2, .v undef, false, gH.2⟩]) K
        | false => match want with
          | false => stepDK P ro C mu (act.set d (.v (.bool false))) gH.2 o fun r h => runDF P ro C mu os rest (put (act.set d (.v (.bool false))) o.dst r) h (acc ++ [⟨act.set d (.v (.bool false)), gH.2, r, turns mu (act.set d (.v (.bool false))) o, h⟩]) K
          | true => runDF P ro C mu os rest (put (act.set d (.v (.bool false))) o.dst (.v undef)) gH.2 (acc ++ [⟨act.set d (.v (.bool false)), gH.2, .v undef, false, gH.2⟩]) K
      | none => none
theorem runDF_eq {α : Type} {P : Program} {ro : Nat → Option (List Value)} {C : Hk} {mu : FuncId → Bool} (os : Array Oper) : ∀ (rest : List Oper) (act : List AV) (H : AH) (acc : List Ent) (K : List AV → AH → List Ent → Option α), runDF P ro C mu os rest act H acc K = runDK P ro C mu os rest act H acc K
  | [], _, _, _, _ => rfl
  | o :: rest, act, H, acc, K => by
    have ih := fun act H acc => runDF_eq (P := P) (ro := ro) (C := C) (mu := mu) os rest act H acc K
    unfold runDF runDK
    rw [forceL_eq]
    simp only [ih]
    generalize gd os act o = z
    cases z with
    | yes => rfl
    | no => rfl
    | bad => rfl
    | test d want b =>
      simp only
      cases conc H b with
      | none => rfl
      | some gH =>
        obtain ⟨g, H1⟩ := gH
        cases g <;> cases want <;> rfl
noncomputable def drS {α : Type} (ro : Nat → Option (List Value)) (mu : FuncId → Bool) (pr : FuncId → Option (List AV → AH → Ans)) (d : Nat) (c : Code) (act : List AV) (H : AH) (K : Kt α) : Option α := match c with
  | .region _ os _ => runDF Try.prog ro (fnK Try.prog ro mu pr d) mu os os.toList act H [] fun act' H' tb => match tb.all (fun e => !e.T) with
    | true => K .normal act' H'
    | false => none
  | _ => none
def statC (c : Code) : Bool := match c with
  | .region _ os draw => draw && stat os.toList (bsets os.toList []) os
  | _ => false
theorem Tr.of_still {ro : Nat → Option (List Value)} {mu : FuncId → Bool} {pr : FuncId → Option (List AV → AH → Ans)} {d : Nat} {c : Code} {act : List AV} {H : AH} {R : Exit → List AV → AH → Prop} (hp : Known ro pr) (hst : statC c = true) {is : List Nat} {X : Option Prop} (e : drS ro mu pr d c act H (kp is R) = X) (h : holds X) (hm : Flats mu pr := by intro g h; cases h) : Tr Try.prog ro c act H R := by
  cases c with
  | region id os draw =>
    have hst : (draw && stat os.toList (bsets os.toList []) os) = true := hst
    rw [Bool.and_eq_true] at hst
    obtain ⟨rfl, hst⟩ := hst
    intro G W a hI hR hA
    cases X with
    | none => exact h.elim
    | some p =>
      have hpp : p := h
      have e : runDF Try.prog ro (fnK Try.prog ro mu pr d) mu os os.toList act H [] (fun act' H' tb => match tb.all (fun e => !e.T) with | true => kp is R .normal act' H' | false => none) = some p := e
      rw [runDF_eq, runDK_eq (fnK_like pr d)] at e
      have e' := dr_still hst e
      have hk : ∀ (act' : List AV) (H' : AH), kp is R .normal act' H' = some p → H'.cd ∧ R .normal (keepI 0 is act') (tidy H') := fun act' H' hk => by
        have : (H'.cd ∧ R .normal (keepI 0 is act') (tidy H')) = p := by simpa [kp] using hk
        rw [← this] at hpp
        exact hpp
      exact dr_sound named mixed _ (run_sound' hp hm d) (flat_fn hm d) os act H (kp is R .normal) p H G W G W a id _ e' (fun act' H' h => (hk act' H' h).1) (.refl _) (.refl _ _) hI hR hA
        (fun act' H' G' a' W' h _ e1 i1 r1 d1 => ⟨_, _, G', (hk act' H' h).2, e1, inv_tidy i1, keepI_rel _ _ r1, d1⟩)
  | _ => cases hst
end Go.Proofs.Ytdijakobocnceaa.AE
