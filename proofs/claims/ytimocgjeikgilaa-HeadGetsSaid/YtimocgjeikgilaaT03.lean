/-
  Layer 3: the parts of the register, and of the bits.
-/
import Derived.Test.YtimocgjeikgilaaAETr
import Derived.Test.YtimocgjeikgilaaRegPlain
namespace Go.Proofs.Ytimocgjeikgilaa.AE
open Go.RowKit
/-- A function that is handed the run's one box. -/
def box? (spec : TypeId → List AV → Value → Option (Value × Value × Bool)) (args : List AV) (H : AH) : Ans := match H.blks, H.tips with
  | [(t, [.v x])], [] => match decide (H.mb = 0) with
    | true => match spec t args x with
      | some c => some (.v c.1, { H with blks := [(t, [.v c.2.1])], cd := cdb H.cd c.2.2 })
      | none => none
    | false => none
  | _, _ => none
theorem box_ok {ro : Nat → Option (List Value)} {g : FuncId} {spec : TypeId → List AV → Value → Option (Value × Value × Bool)} (hf : ∃ fn, Try.prog.funcs[g]? = some fn ∧ fn.body.isSome = true)
    (h : ∀ t args x c x', spec t args x = some (c, x', true) → Fs Try.prog ro g args (hp [(t, [.v x])] []) fun r h => r = .v c ∧ h.blks = [(t, [.v x'])] ∧ h.tips = []) :
    ∀ args H r H', box? spec args H = some (r, H') → HSound1 Try.prog ro g args H r H' := by
  intro args H r H' hp'
  unfold box? at hp'
  split at hp'
  · rename_i t x hb ht
    split at hp'
    · rename_i hmb
      have hmb := of_decide_eq_true hmb
      split at hp'
      · rename_i cc hs
        obtain ⟨c, x', q⟩ := cc
        cases hp'
        refine ⟨⟨fun x => (cdb_iff.1 x).1, rfl, rfl, rfl, by simp [hb], Nat.le_refl _, fun i hi _ => absurd hi (by omega), fun _ _ _ => rfl⟩, fun hcd G W cargs hI hR hA => ⟨hf, ?_⟩⟩
        have hq : q = true := (cdb_iff.1 hcd).2
        subst hq
        refine ((h _ _ _ _ _ hs) G W cargs (hI.same hb.symm ht.symm) hR hA).2.mono ?_
        rintro e W' ⟨c1, G', r1, H1, rfl, ⟨rfl, h2, h3⟩, e1, e2, e3⟩
        exact ⟨c1, G', rfl, e1, e2.same h2.symm (by rw [h3]; exact ht), e3⟩
      · cases hp'
    · cases hp'
  · cases hp'
theorem f_pre (b n : Int) (R : Exit → List AV → AH → Prop) : codeL nro (fun _ => false) (fun _ => none) 5 ((flatten (bodyOf 32)).take 2) ([.v (.int .u8 b), .ptr 0 0] ++ List.replicate 18 (.v undef)) (hp [(33, [.v (.int .u16 n)])] []) (kp [0, 1, 9] R) =
    (some (True ∧ (R Exit.normal [(AV.v (Value.int IntKind.u8 b)), (AV.ptr (0 : Nat) (0 : Nat)), AV.dead, AV.dead, AV.dead, AV.dead, AV.dead, AV.dead, AV.dead, (AV.v (Value.int IntKind.i64 (0 : Int))), AV.dead, AV.dead, AV.dead, AV.dead, AV.dead, AV.dead, AV.dead, AV.dead, AV.dead, AV.dead] (AH.mk [((33 : Nat), [(AV.v (Value.int IntKind.u16 (IntKind.wrap IntKind.u16 (((@BitVec.toFin (IntKind.bits IntKind.u16) ((BitVec.ofInt (IntKind.bits IntKind.u16) n) ^^^ (BitVec.ofInt (IntKind.bits IntKind.u16) (IntKind.wrap IntKind.u16 ((IntKind.wrap IntKind.u16 b) * ((2 : Int) ^ (@Min.min Nat instMinNat (Int.toNat (8 : Int)) (IntKind.bits IntKind.u16))))))))).1 : Int))))])] (@List.nil Nat) (0 : Nat) (0 : Nat) true (@List.nil (Prod Nat Bool)) True)))) := by kernel_rfl
theorem f_body (b n i : Int) (R : Exit → List AV → AH → Prop) : code nro (fun _ => false) (fun _ => none) 5 (sub (bodyOf 32) [1, 1, 0, 0]) ([.v (.int .u8 b), .ptr 0 0] ++ List.replicate 7 .dead ++ .v (.int .i64 i) :: List.replicate 10 .dead) (hp [(33, [.v (.int .u16 n)])] []) (kp [0, 1, 9] R) =
    (bif (decide (i < (8 : Int))) then (bif ((Int.fdiv n (32768 : Int)) == (1 : Int)) then (some (True ∧ (R Exit.normal [(AV.v (Value.int IntKind.u8 b)), (AV.ptr (0 : Nat) (0 : Nat)), AV.dead, AV.dead, AV.dead, AV.dead, AV.dead, AV.dead, AV.dead, (AV.v (Value.int IntKind.i64 (IntKind.wrap IntKind.i64 (i + (1 : Int))))), AV.dead, AV.dead, AV.dead, AV.dead, AV.dead, AV.dead, AV.dead, AV.dead, AV.dead, AV.dead] (AH.mk [((33 : Nat), [(AV.v (Value.int IntKind.u16 (IntKind.wrap IntKind.u16 (((@BitVec.toFin (IntKind.bits IntKind.u16) ((BitVec.ofInt (IntKind.bits IntKind.u16) (IntKind.wrap IntKind.u16 (n * ((2 : Int) ^ (@Min.min Nat instMinNat (Int.toNat (1 : Int)) (IntKind.bits IntKind.u16)))))) ^^^ (BitVec.ofInt (IntKind.bits IntKind.u16) (4129 : Int))))).1 : Int))))])] (@List.nil Nat) (0 : Nat) (0 : Nat) true (@List.nil (Prod Nat Bool)) True)))) else (some (True ∧ (R Exit.normal [(AV.v (Value.int IntKind.u8 b)), (AV.ptr (0 : Nat) (0 : Nat)), AV.dead, AV.dead, AV.dead, AV.dead, AV.dead, AV.dead, AV.dead, (AV.v (Value.int IntKind.i64 (IntKind.wrap IntKind.i64 (i + (1 : Int))))), AV.dead, AV.dead, AV.dead, AV.dead, AV.dead, AV.dead, AV.dead, AV.dead, AV.dead, AV.dead] (AH.mk [((33 : Nat), [(AV.v (Value.int IntKind.u16 (IntKind.wrap IntKind.u16 (n * (2 : Int)))))])] (@List.nil Nat) (0 : Nat) (0 : Nat) true (@List.nil (Prod Nat Bool)) True))))) else (some (True ∧ (R (Exit.exit (0 : Nat)) [(AV.v (Value.int IntKind.u8 b)), (AV.ptr (0 : Nat) (0 : Nat)), AV.dead, AV.dead, AV.dead, AV.dead, AV.dead, AV.dead, AV.dead, (AV.v (Value.int IntKind.i64 i)), AV.dead, AV.dead, AV.dead, AV.dead, AV.dead, AV.dead, AV.dead, AV.dead, AV.dead, AV.dead] (AH.mk [((33 : Nat), [(AV.v (Value.int IntKind.u16 n))])] (@List.nil Nat) (0 : Nat) (0 : Nat) true (@List.nil (Prod Nat Bool)) True))))) := by kernel_rfl
end Go.Proofs.Ytimocgjeikgilaa.AE
