/-
  Layer 23: the laws' runs.
-/
import Derived.Test.YtimocgjeikgilaaT23D
namespace Go.Proofs.Ytimocgjeikgilaa.AE
open Go.RowKit Cr Oc
def tI (i : Nat) (v : Value) : Int := match v with
  | .tuple a => match a[i]? with
    | some (.int _ n) => n
    | _ => 0
  | _ => 0
def tS (i : Nat) (v : Value) : ByteArray := match v with
  | .tuple a => match a[i]? with
    | some (.string s) => s
    | _ => ⟨#[]⟩
  | _ => ⟨#[]⟩
def fK (s : ByteArray) : Int := tI 0 (firstV s)
def fB (s : ByteArray) : ByteArray := tS 1 (firstV s)
def fN (s : ByteArray) : Int := tI 2 (firstV s)
def fE (s : ByteArray) : Int := tI 3 (firstV s)
theorem firstV_eq (s : ByteArray) : firstV s = .tuple #[.int .i64 (fK s), .string (fB s), .int .i64 (fN s), .int .i64 (fE s)] := by
  unfold fK fB fN fE firstV fv
  repeat' split
  all_goals rfl
def firstQ : List Value → Option (Value × Bool) := fun us => match us with
  | [.string s] => some (.tuple #[.int .i64 (fK s), .string (fB s), .int .i64 (fN s), .int .i64 (fE s)], decide (s.size ≤ 100000))
  | _ => none
theorem firstQ_eq : firstQ = firstP := by
  funext us
  unfold firstQ firstP
  split
  · rw [← firstV_eq]
  · rename_i h
    split
    · exact absurd rfl (h _)
    · rfl
theorem awake23 : ends (run nro (fun _ => false) (fun _ => none) 12 6 [] H0) true := by
  have : ends (run nro (fun _ => false) (fun _ => none) 12 6 [] H0) true = (true = true ∧ True) := by kernel_rfl
  rw [this]; exact ⟨rfl, trivial⟩
noncomputable def prT : FuncId → Option (List AV → AH → Ans) := fun g => match g with
  | 16 => some (pure? sealP)
  | 17 => some (pure? sealP)
  | 10 => some (pure? firstQ)
  | 11 => some (pure? firstQ)
  | 6 => some (pure? awakeS)
  | _ => none
theorem knownT : Known nro prT := by
  intro g p h
  unfold prT at h
  split at h
  · cases h; exact seal_ok _
  · cases h; exact rseal_ok _
  · cases h; rw [firstQ_eq]; exact first_ok _
  · cases h; rw [firstQ_eq]; exact rfirst_ok _
  · cases h; exact awake_ok awake23 (has_fn (by kernel_rfl))
  · cases h
end Go.Proofs.Ytimocgjeikgilaa.AE
