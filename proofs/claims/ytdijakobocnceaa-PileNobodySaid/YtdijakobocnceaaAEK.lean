/-
  The abstract run whose calls, too, go on with what comes behind them: it is the same run.
-/
import Derived.Test.YtdijakobocnceaaAEPrim
namespace Go.Proofs.Ytdijakobocnceaa.AE
set_option maxRecDepth 100000
open Go.RowKit
abbrev Hk := ∀ {α : Type}, FuncId → List AV → AH → (AV → AH → Option α) → (Value → AH → Option α) → Option α
def thn {α : Type} (x : Ans) (K : AV → AH → Option α) : Option α := match x with
  | some rh => K rh.1 rh.2
  | none => none
def noP {α : Type} : Value → AH → Option α := fun _ _ => none
def stepK {α : Type} (P : Program) (ro : Nat → Option (List Value)) (C : Hk) (act : List AV) (H : AH) (o : Oper) (K : AV → AH → Option α) (KP : Value → AH → Option α) : Option α := match call? act o with
  | some ga => C ga.1 ga.2 H K KP
  | none => match op2 P ro act H o with
    | some rh => K rh.1 rh.2
    | none => match inv? P act o with
      | some ga => C ga.1 ga.2 H K KP
      | none => match pan? P act o with
        | some v => KP v H
        | none => none
def opsK {α : Type} (P : Program) (ro : Nat → Option (List Value)) (C : Hk) (all : Array Oper) : List Oper → List AV → AH → Kt α → Option α
  | [], act, H, K => K .normal act H
  | o :: rest, act, H, K => match gd all act o with
    | .yes => stepK P ro C act H o (fun r h => opsK P ro C all rest (put act o.dst r) h K) (fun v h => K (panE v) act h)
    | .no => opsK P ro C all rest (put act o.dst (.v undef)) H K
    | .bad => none
    | .test d want b => match conc H b with
      | some gH => match gH.1 with
        | true => match want with
          | true => stepK P ro C (act.set d (.v (.bool true))) gH.2 o (fun r h => opsK P ro C all rest (put (act.set d (.v (.bool true))) o.dst r) h K) (fun v h => K (panE v) (act.set d (.v (.bool true))) h)
          | false => opsK P ro C all rest (put (act.set d (.v (.bool true))) o.dst (.v undef)) gH.2 K
        | false => match want with
          | false => stepK P ro C (act.set d (.v (.bool false))) gH.2 o (fun r h => opsK P ro C all rest (put (act.set d (.v (.bool false))) o.dst r) h K) (fun v h => K (panE v) (act.set d (.v (.bool false))) h)
          | true => opsK P ro C all rest (put (act.set d (.v (.bool false))) o.dst (.v undef)) gH.2 K
      | none => none
def cleanK {α : Type} (H : AH) (K : AV → AH → Option α) (r : AV) (h : AH) : Option α := match clean r with
  | some r' => K r' { H with orc := h.orc, cd := h.cd }
  | none => none
def stepDK {α : Type} (P : Program) (ro : Nat → Option (List Value)) (C : Hk) (mu : FuncId → Bool) (act : List AV) (H : AH) (o : Oper) (K : AV → AH → Option α) : Option α := match call? act o with
  | some ga => match mu ga.1 with
    | true => C ga.1 ga.2 H K noP
    | false => C ga.1 ga.2 { H with mb := H.blks.length, mc := H.tips.length } (cleanK H K) noP
  | none => match op2 P ro act H o with
    | some rh => K rh.1 rh.2
    | none => match inv? P act o with
      | some ga => C ga.1 ga.2 H K noP
      | none => none
def runDK {α : Type} (P : Program) (ro : Nat → Option (List Value)) (C : Hk) (mu : FuncId → Bool) (os : Array Oper) : List Oper → List AV → AH → List Ent → (List AV → AH → List Ent → Option α) → Option α
  | [], act, H, acc, K => K act H acc
  | o :: rest, act, H, acc, K => match gd os act o with
    | .yes => stepDK P ro C mu act H o fun r h => runDK P ro C mu os rest (put act o.dst r) h (acc ++ [⟨act, H, r, turns mu act o, h⟩]) K
    | .no => runDK P ro C mu os rest (put act o.dst (.v undef)) H (acc ++ [⟨act, H, .v undef, false, H⟩]) K
    | .bad => none
    | .test d want b => match conc H b with
      | some gH => match gH.1 with
        | true => match want with
          | true => stepDK P ro C mu (act.set d (.v (.bool true))) gH.2 o fun r h => runDK P ro C mu os rest (put (act.set d (.v (.bool true))) o.dst r) h (acc ++ [⟨act.set d (.v (.bool true)), gH.2, r, turns mu (act.set d (.v (.bool true))) o, h⟩]) K
          | false => runDK P ro C mu os rest (put (act.set d (.v (.bool true))) o.dst (.v undef)) gH.2 (acc ++ [⟨act.set d (.v (.bool true)), gH.2, .v undef, false, gH.2⟩]) K
        | false => match want with
          | false => stepDK P ro C mu (act.set d (.v (.bool false))) gH.2 o fun r h => runDK P ro C mu os rest (put (act.set d (.v (.bool false))) o.dst r) h (acc ++ [⟨act.set d (.v (.bool false)), gH.2, r, turns mu (act.set d (.v (.bool false))) o, h⟩]) K
          | true => runDK P ro C mu os rest (put (act.set d (.v (.bool false))) o.dst (.v undef)) gH.2 (acc ++ [⟨act.set d (.v (.bool false)), gH.2, .v undef, false, gH.2⟩]) K
      | none => none
def drK {α : Type} (P : Program) (ro : Nat → Option (List Value)) (mu : FuncId → Bool) (C : Hk) (os : Array Oper) (act : List AV) (H : AH) (K : Kn α) : Option α := match stat os.toList (bsets os.toList []) os with
  | true => runDK P ro C mu os os.toList act H [] fun act' H' tb => match chk mu os.toList (bsets os.toList []) tb with
    | true => K act' { H' with cd := cdL (cdL H'.cd (chkP os.toList (bsets os.toList []) tb)) (chkC (fun act H o K => stepDK P ro C mu act H o K) mu os (bsets os.toList []) H tb) }
    | false => none
  | false => none
def execK {α : Type} (P : Program) (ro : Nat → Option (List Value)) (mu : FuncId → Bool) (C : Hk) : Code → List AV → AH → Kt α → Option α
  | .skip, act, H, K => K .normal act H
  | .label _, act, H, K => K .normal act H
  | .region _ os draw, act, H, K => match draw with
    | true => drK P ro mu C os act H (K .normal)
    | false => opsK P ro C os os.toList act H K
  | .seq x y, act, H, K => execK P ro mu C x act H (kseq (fun act H => execK P ro mu C y act H K) K)
  | .cond c x y, act, H, K => match ev act c with
    | .v (.bool b) => match conc H b with
      | some gH => match gH.1 with
        | true => execK P ro mu C x act gH.2 K
        | false => execK P ro mu C y act gH.2 K
      | none => none
    | _ => none
  | .block id c, act, H, K => execK P ro mu C c act H (kblk id K)
  | .loop c, act, H, K => iter (execK P ro mu C c) fuel act H K
  | .exit id, act, H, K => K (.exit id) act H
  | .scope c, act, H, K => execK P ro mu C c act H (kscp K)
  | .ret, act, H, K => K .ret act H
  | _, _, _, _ => none
def fnK (P : Program) (ro : Nat → Option (List Value)) (mu : FuncId → Bool) (pr : FuncId → Option (List AV → AH → Ans)) : Nat → Hk
  | 0 => fun _ _ _ _ _ => none
  | d + 1 => fun g args H K KP => match pr g with
    | some p => thn (p args H) K
    | none => match P.funcs[g]? with
      | some f => match f.body with
        | some c => execK P ro mu (fnK P ro mu pr d) c (args ++ List.replicate (f.ntmps - args.length) (.v undef)) H fun e a h => aft (kret P ro f.results.toList e a h) K KP
        | none => none
      | none => none
/-! It is the same run. -/
def Like (Ck : Hk) (C : Hd) : Prop := ∀ (α : Type) g args H (K : AV → AH → Option α) (KP : Value → AH → Option α), Ck g args H K KP = aft (C g args H) K KP
section
variable {P : Program} {ro : Nat → Option (List Value)} {Ck : Hk} {C : Hd} {mu : FuncId → Bool} {α β : Type}
theorem stepK_eq (hL : Like Ck C) (act : List AV) (H : AH) (o : Oper) (K : AV → AH → Option α) (KP : Value → AH → Option α) : stepK P ro Ck act H o K KP = aft (step P ro C act H o) K KP := by
  unfold stepK step
  cases call? act o with
  | some ga => exact hL _ _ _ _ _ _
  | none =>
    simp only
    cases op2 P ro act H o with
    | some rh => rfl
    | none =>
      simp only
      cases inv? P act o with
      | some ga => exact hL _ _ _ _ _ _
      | none =>
        simp only
        cases pan? P act o <;> rfl
theorem opsK_eq (hL : Like Ck C) (all : Array Oper) : ∀ (rest : List Oper) (act : List AV) (H : AH) (K : Kt α), opsK P ro Ck all rest act H K = ops P ro C all rest act H K
  | [], _, _, _ => rfl
  | o :: rest, act, H, K => by
    have ih := opsK_eq hL all rest (K := K)
    unfold opsK ops
    simp only [stepK_eq hL, ih]
    generalize gd all act o = z
    cases z with
    | yes => rfl
    | no => rfl
    | bad => rfl
    | test d want b =>
      simp only
      cases conc H b with
      | none => rfl
      | some gH =>
        obtain ⟨g, H1⟩ := gH
        cases g <;> cases want <;> rfl
theorem aft_ret (x : Ans2) (K : AV → AH → Option α) : aft x K noP = thn (ret? x) K := by
  cases x with
  | none => rfl
  | some rh =>
    obtain ⟨r, h⟩ := rh
    cases r <;> rfl
theorem stepDK_eq (hL : Like Ck C) (act : List AV) (H : AH) (o : Oper) (K : AV → AH → Option α) : stepDK P ro Ck mu act H o K = thn (stepD P ro C mu act H o) K := by
  unfold stepDK stepD
  cases call? act o with
  | none =>
    simp only
    cases op2 P ro act H o with
    | some rh => rfl
    | none =>
      simp only
      cases inv? P act o with
      | some ga => exact (hL _ _ _ _ _ _).trans (aft_ret _ _)
      | none => rfl
  | some ga =>
    simp only
    cases mu ga.1 with
    | true => simp only [if_true]; exact (hL _ _ _ _ _ _).trans (aft_ret _ _)
    | false =>
      simp only [Bool.false_eq_true, if_false, hL _ _ _ _ _ _, aft_ret]
      cases ret? (C ga.1 ga.2 { H with mb := H.blks.length, mc := H.tips.length }) with
      | none => rfl
      | some rh =>
        simp only [thn, cleanK]
        cases clean rh.1 <;> rfl
theorem runDK_eq (hL : Like Ck C) (os : Array Oper) : ∀ (rest : List Oper) (act : List AV) (H : AH) (acc : List Ent) (K : List AV → AH → List Ent → Option α), runDK P ro Ck mu os rest act H acc K = runD P ro C mu os rest act H acc K
  | [], _, _, _, _ => rfl
  | o :: rest, act, H, acc, K => by
    have ih := runDK_eq hL os rest (K := K)
    unfold runDK runD
    simp only [stepDK_eq hL, ih]
    generalize gd os act o = z
    cases z with
    | yes => rfl
    | no => rfl
    | bad => rfl
    | test d want b =>
      simp only
      cases conc H b with
      | none => rfl
      | some gH =>
        obtain ⟨g, H1⟩ := gH
        cases g <;> cases want <;> rfl
theorem drK_eq (hL : Like Ck C) (os : Array Oper) (act : List AV) (H : AH) (K : Kn α) : drK P ro mu Ck os act H K = dr P ro mu C os act H K := by
  have e : (fun (act : List AV) (H : AH) (o : Oper) (K : AV → AH → Option Prop) => stepDK P ro Ck mu act H o K) = fun act H o K => match stepD P ro C mu act H o with
      | some rh => K rh.1 rh.2
      | none => none := by
    funext act H o K; exact stepDK_eq hL act H o K
  unfold drK dr
  rw [runDK_eq hL, e]
  cases stat os.toList (bsets os.toList []) os with
  | false => rfl
  | true =>
    simp only [if_true]
    congr 1
    funext a h tb
    cases chk mu os.toList (bsets os.toList []) tb <;> rfl
theorem execK_eq (hL : Like Ck C) : ∀ (c : Code) (act : List AV) (H : AH) (K : Kt α), execK P ro mu Ck c act H K = exec P ro C (dr P ro mu C) c act H K := by
  intro c
  induction c with
  | region id os draw =>
    intro act H K
    cases draw with
    | true => exact drK_eq hL os act H _
    | false => exact opsK_eq hL os _ act H _
  | seq x y ihx ihy =>
    intro act H K
    unfold execK exec
    rw [ihx]
    congr 1
    funext e a h
    cases e <;> first | exact ihy a h K | rfl
  | cond c x y ihx ihy =>
    intro act H K
    unfold execK exec
    simp only [ihx, ihy]
    rfl
  | block id c ih => intro act H K; exact ih act H _
  | scope c ih => intro act H K; exact ih act H _
  | loop c ih =>
    intro act H K
    have : execK (α := α) P ro mu Ck c = exec P ro C (dr P ro mu C) c := by funext a h k; exact ih a h k
    unfold execK exec
    rw [this]
  | _ => intro act H K; rfl
def bnd' {α β : Type} (x : Option α) (f : α → Option β) : Option β := match x with
  | some a => f a
  | none => none
theorem aft_bind (f : α → Option β) (x : Ans2) (K : AV → AH → Option α) (KP : Value → AH → Option α) : aft x (fun r h => bnd' (K r h) f) (fun v h => bnd' (KP v h) f) = bnd' (aft x K KP) f := by
  cases x with
  | none => rfl
  | some rh =>
    obtain ⟨r, h⟩ := rh
    cases r <;> rfl
theorem ops_bind (f : α → Option β) (all : Array Oper) : ∀ (rest : List Oper) (act : List AV) (H : AH) (K : Kt α), ops P ro C all rest act H (fun e a h => bnd' (K e a h) f) = bnd' (ops P ro C all rest act H K) f
  | [], _, _, _ => rfl
  | o :: rest, act, H, K => by
    have ih := ops_bind f all rest (K := K)
    unfold ops
    simp only [ih]
    generalize gd all act o = z
    cases z with
    | yes => exact aft_bind f _ (fun r h => ops P ro C all rest (put act o.dst r) h K) (fun v h => K (panE v) act h)
    | no => rfl
    | bad => rfl
    | test d want b =>
      simp only
      cases conc H b with
      | none => rfl
      | some gH =>
        obtain ⟨g, H1⟩ := gH
        cases g with
        | true => cases want with
          | true => exact aft_bind f _ (fun r h => ops P ro C all rest (put (act.set d (.v (.bool true))) o.dst r) h K) (fun v h => K (panE v) (act.set d (.v (.bool true))) h)
          | false => rfl
        | false => cases want with
          | true => rfl
          | false => exact aft_bind f _ (fun r h => ops P ro C all rest (put (act.set d (.v (.bool false))) o.dst r) h K) (fun v h => K (panE v) (act.set d (.v (.bool false))) h)
theorem runD_bind (f : α → Option β) (os : Array Oper) : ∀ (rest : List Oper) (act : List AV) (H : AH) (acc : List Ent) (K : List AV → AH → List Ent → Option α), runD P ro C mu os rest act H acc (fun a h t => bnd' (K a h t) f) = bnd' (runD P ro C mu os rest act H acc K) f
  | [], _, _, _, _ => rfl
  | o :: rest, act, H, acc, K => by
    have ih := runD_bind f os rest (K := K)
    unfold runD
    simp only [ih]
    generalize gd os act o = z
    cases z with
    | yes => simp only; cases stepD P ro C mu act H o <;> rfl
    | no => rfl
    | bad => rfl
    | test d want b =>
      simp only
      cases conc H b with
      | none => rfl
      | some gH =>
        obtain ⟨g, H1⟩ := gH
        cases g with
        | true => cases want with
          | true => simp only; cases stepD P ro C mu (act.set d (.v (.bool true))) H1 o <;> rfl
          | false => rfl
        | false => cases want with
          | true => rfl
          | false => simp only; cases stepD P ro C mu (act.set d (.v (.bool false))) H1 o <;> rfl
theorem dr_bind (f : α → Option β) (os : Array Oper) (act : List AV) (H : AH) (K : Kn α) : dr P ro mu C os act H (fun a h => bnd' (K a h) f) = bnd' (dr P ro mu C os act H K) f := by
  unfold dr
  split
  · rw [← runD_bind]
    congr 1
    funext a h tb
    split <;> rfl
  · rfl
theorem kseq_bind (f : α → Option β) (g : Kn α) (K : Kt α) : kseq (fun a h => bnd' (g a h) f) (fun e a h => bnd' (K e a h) f) = fun e a h => bnd' (kseq g K e a h) f := by
  funext e a h
  cases e <;> rfl
theorem kblk_bind (f : α → Option β) (id : Nat) (K : Kt α) : kblk id (fun e a h => bnd' (K e a h) f) = fun e a h => bnd' (kblk id K e a h) f := by
  funext e a h
  cases e with
  | exit i => unfold kblk; simp only; split <;> rfl
  | _ => rfl
theorem kscp_bind (f : α → Option β) (K : Kt α) : kscp (fun e a h => bnd' (K e a h) f) = fun e a h => bnd' (kscp K e a h) f := by
  funext e a h
  cases e <;> rfl
theorem iter_bind (f : α → Option β) {x : List AV → AH → Kt α → Option α} {y : List AV → AH → Kt β → Option β} (h : ∀ act H K, y act H (fun e a h => bnd' (K e a h) f) = bnd' (x act H K) f) :
    ∀ (n : Nat) (act : List AV) (H : AH) (K : Kt α), iter y n act H (fun e a h => bnd' (K e a h) f) = bnd' (iter x n act H K) f
  | 0, _, _, _ => rfl
  | n + 1, act, H, K => by
    have ih := iter_bind f h n (K := K)
    unfold iter
    simp only [ih]
    rw [kseq_bind f (fun act H => iter x n act H K) K]
    exact h act H _
theorem exec_bind (f : α → Option β) : ∀ (c : Code) (act : List AV) (H : AH) (K : Kt α), exec P ro C (dr P ro mu C) c act H (fun e a h => bnd' (K e a h) f) = bnd' (exec P ro C (dr P ro mu C) c act H K) f := by
  intro c
  induction c with
  | region id os draw =>
    intro act H K
    cases draw with
    | true => exact dr_bind f os act H _
    | false => exact ops_bind f os _ act H _
  | seq x y ihx ihy =>
    intro act H K
    unfold exec
    simp only [ihy]
    rw [kseq_bind f (fun act H => exec P ro C (dr P ro mu C) y act H K) K]
    exact ihx act H _
  | cond c x y ihx ihy =>
    intro act H K
    unfold exec
    simp only [ihx, ihy]
    split
    · rename_i b _
      cases conc H b with
      | none => rfl
      | some gH =>
        obtain ⟨g, H1⟩ := gH
        cases g <;> rfl
    · rfl
  | block id c ih =>
    intro act H K
    unfold exec
    rw [kblk_bind]
    exact ih act H _
  | scope c ih =>
    intro act H K
    unfold exec
    rw [kscp_bind]
    exact ih act H _
  | loop c ih =>
    intro act H K
    unfold exec
    exact iter_bind f ih fuel act H K
  | _ => intro act H K; rfl
end
section
variable {P : Program} {ro : Nat → Option (List Value)} {mu : FuncId → Bool}
def fin {α : Type} (K : AV → AH → Option α) (KP : Value → AH → Option α) (rh : Res × AH) : Option α := match rh.1 with
  | .ret r => K r rh.2
  | .pan v => KP v rh.2
theorem fnK_like (pr : FuncId → Option (List AV → AH → Ans)) : ∀ d, Like (fnK P ro mu pr d) (fn P ro (dr P ro mu) pr d)
  | 0 => by intro α g args H K KP; rfl
  | d + 1 => by
    intro α g args H K KP
    have ih := fnK_like pr d
    unfold fnK fn
    simp only
    cases pr g with
    | some p =>
      simp only
      cases p args H <;> rfl
    | none =>
      simp only
      cases P.funcs[g]? with
      | none => rfl
      | some f =>
        simp only
        unfold body
        cases f.body with
        | none => rfl
        | some c =>
          simp only
          rw [execK_eq ih]
          have ht : ∀ x : Ans2, aft x K KP = bnd' x (fin K KP) := fun x => by cases x <;> rfl
          simp only [ht]
          exact exec_bind (mu := mu) (fin K KP) c _ H (kret P ro f.results.toList)
end
end Go.Proofs.Ytdijakobocnceaa.AE
