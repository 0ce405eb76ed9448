/-
  A call over blocks of the run's own that leaves them as they were.
-/
import Derived.Test.YtdijakobocnceaaAEObj
namespace Go.Proofs.Ytdijakobocnceaa.AE
set_option maxRecDepth 100000
open Go.RowKit
def look? (S : ObjS) (args : List AV) (H : AH) : Ans := match obj? S args { H with mb := 0 } with
  | some rh => some (rh.1, { H with cd := cds rh.2.cd false (rh.2.blks = H.blks) })
  | none => none
theorem look_ok {ro : Nat → Option (List Value)} {g : FuncId} {S : ObjS} (h : ∀ args H r H', obj? S args H = some (r, H') → HSound1 Try.prog ro g args H r H') : ∀ args H r H', look? S args H = some (r, H') → HSound1 Try.prog ro g args H r H' := by
  intro args H r H' hd
  unfold look? at hd
  split at hd
  · rename_i rh hrh
    obtain ⟨r1, H1⟩ := rh
    cases hd
    obtain ⟨hk, hs⟩ := h _ _ _ _ hrh
    have ht : H1.tips = H.tips := by
      unfold obj? at hrh
      repeat' split at hrh
      all_goals first | (cases hrh; rfl) | (cases hrh)
    refine ⟨⟨fun x => hk.cd x.1, rfl, rfl, rfl, Nat.le_refl _, Nat.le_refl _, fun _ _ _ => rfl, fun _ _ _ => rfl⟩, fun hcd G W cargs hI hR hA => ?_⟩
    obtain ⟨c1, c2⟩ := hcd
    obtain ⟨k1, k2⟩ := hs c1 G W cargs ((hI.marks 0 H.mc).same rfl rfl) hR hA
    refine ⟨k1, k2.mono ?_⟩
    rintro e W' ⟨c, G', rfl, e1, e2, e3⟩
    exact ⟨c, G', rfl, e1, e2.same c2.symm ht.symm, e3⟩
  · cases hd
end Go.Proofs.Ytdijakobocnceaa.AE
