/-
  Iterators, their code as a row of parts.
-/
import Derived.Test.YthememoflnocnaaAEIt
namespace Go.Proofs.Ythememoflnocnaa.AE
set_option maxRecDepth 100000
open Go.RowKit
/-- The parts, one behind the other. -/
def wps (P : Program) (Q : Exit → Act → World → Prop) : List Code → Act → World → Prop
  | [], a, W => Q .normal a W
  | x :: l, a, W => x.wp P (Exit.then (wps P Q l) Q) a W
theorem wps_app {P : Program} {Q : Exit → Act → World → Prop} {m : List Code} : ∀ {l : List Code} {a : Act} {W : World}, wps P (Exit.then (wps P Q m) Q) l a W → wps P Q (l ++ m) a W
  | [], _, _, h => h
  | x :: l, a, W, h => wp_mono h fun e a W q => by cases e <;> first | exact wps_app q | exact q
theorem wps_inv {P : Program} {Q : Exit → Act → World → Prop} {m : List Code} : ∀ {l : List Code} {a : Act} {W : World}, wps P Q (l ++ m) a W → wps P (Exit.then (wps P Q m) Q) l a W
  | [], _, _, h => h
  | x :: l, a, W, h => wp_mono h fun e a W q => by cases e <;> first | exact wps_inv q | exact q
theorem wps_mono {P : Program} {Q R : Exit → Act → World → Prop} (hq : ∀ e a W, Q e a W → R e a W) : ∀ {l : List Code} {a : Act} {W : World}, wps P Q l a W → wps P R l a W
  | [], _, _, h => hq _ _ _ h
  | x :: l, a, W, h => wp_mono h fun e a W q => by cases e <;> first | exact wps_mono hq q | exact hq _ _ _ q
theorem wp_of_flat {P : Program} : ∀ {c : Code} {Q : Exit → Act → World → Prop} {a : Act} {W : World}, wps P Q (flatten c) a W → c.wp P Q a W := by
  intro c
  induction c with
  | seq x y ihx ihy =>
    intro Q a W h
    have h1 := ihx (wps_inv (show wps P Q (flatten x ++ flatten y) a W from h))
    exact wp_seq (wp_mono h1 fun e a W q => by cases e <;> first | exact ihy q | exact q)
  | _ => intro Q a W h; exact wp_mono h fun e a W q => by cases e <;> exact q
theorem wps_trl {P : Program} {ro : Nat → Option (List Value)} {G : Gh} {W : World} {Q : Exit → List AV → AH → Prop} {ds : List Deferred} (hR : Ro ro G W) : ∀ {l : List Code} {act : List AV} {H : AH} {G1 : Gh} {W1 : World} {a : Act}, Trl P ro l act H Q → Ext G W G1 W1 → Inv G1 H W1 → RVs G1 W1 act a.tmps.toList →
    a.defers = ds → wps P (fun e a' W' => ∃ act' H' G', Q e act' H' ∧ Ext G W G' W' ∧ Inv G' H' W' ∧ RVs G' W' act' a'.tmps.toList ∧ a'.defers = ds) l a W1
  | [], _, _, G1, W1, a, h, e1, i1, r1, hd => ⟨_, _, G1, h, e1, i1, r1, hd⟩
  | x :: l, _, _, G1, W1, a, h, e1, i1, r1, hd => wp_mono (h G1 W1 a i1 (hR.ext e1) r1) fun e a2 W2 ⟨act2, H2, G2, q, e2, i2, r2, d2⟩ => by
      cases e with
      | normal => exact wps_trl hR q (e1.trans e2) i2 r2 (d2.trans hd)
      | _ => exact ⟨act2, H2, G2, q, e1.trans e2, i2, r2, d2.trans hd⟩
/-- A region's operations. -/
def osOf : Code → Array Oper
  | .region _ os _ => os
  | _ => #[]
def TrYs (P : Program) (ro : Nat → Option (List Value)) (l k : Nat) (ys : List (List Value)) (m : List Code) (act : List AV) (H : AH) (pre : List (List Value)) (st : Bool) (Q : QY) : Prop :=
  ∀ B J, JOk P ro l B ys J → ∀ G W (a : Act), Inv G H W → RVs G W act a.tmps.toList → J pre st G W → (∀ b, B b → ∃ id, id < k ∧ G.δ id = some b) →
    wps P (fun e a' W' => ∃ act' H' G' pre' st', Q e act' H' pre' st' ∧ J pre' st' G' W' ∧ (∀ i b, G.δ i = some b → G'.δ i = some b) ∧ Inv G' H' W' ∧ RVs G' W' act' a'.tmps.toList ∧ a'.defers = a.defers) m a W
section
variable {P : Program} {ro : Nat → Option (List Value)} {l k : Nat} {ys : List (List Value)} {act : List AV} {H : AH} {pre : List (List Value)} {st : Bool} {Q : QY}
theorem TrY.of_parts {c : Code} (h : TrYs P ro l k ys (flatten c) act H pre st Q) : TrY P ro l k ys c act H pre st Q :=
  fun B J hJ G W a hI hA hj hB => wp_of_flat (h B J hJ G W a hI hA hj hB)
theorem TrYs.one {c : Code} (h : TrY P ro l k ys c act H pre st Q) : TrYs P ro l k ys [c] act H pre st Q :=
  fun B J hJ G W a hI hA hj hB => wp_mono (h B J hJ G W a hI hA hj hB) fun e a' W' q => by cases e <;> exact q
theorem TrYs.append {m m2 : List Code} (h : TrYs P ro l k ys m act H pre st (nxY (fun a h p s => TrYs P ro l k ys m2 a h p s Q) Q)) : TrYs P ro l k ys (m ++ m2) act H pre st Q := by
  intro B J hJ G W a hI hA hj hB
  refine wps_app (wps_mono ?_ (h B J hJ G W a hI hA hj hB))
  rintro e a1 W1 ⟨act1, H1, G1, p1, s1, q, j1, e1, i1, r1, d1⟩
  cases e with
  | normal =>
    refine wps_mono ?_ (q B J hJ G1 W1 a1 i1 r1 j1 (fun b hb => ?_))
    · rintro e a2 W2 ⟨act2, H2, G2, p2, s2, q2, j2, e2, i2, r2, d2⟩
      exact ⟨act2, H2, G2, p2, s2, q2, j2, fun i b h => e2 _ _ (e1 _ _ h), i2, r2, d2.trans d1⟩
    · obtain ⟨id, x, y⟩ := hB b hb
      exact ⟨id, x, e1 _ _ y⟩
  | _ => exact ⟨act1, H1, G1, p1, s1, q, j1, e1, i1, r1, d1⟩
theorem TrYs.split (n : Nat) {m : List Code} (h : TrYs P ro l k ys (m.take n) act H pre st (nxY (fun a h p s => TrYs P ro l k ys (m.drop n) a h p s Q) Q)) : TrYs P ro l k ys m act H pre st Q := by
  have := TrYs.append h
  rwa [List.take_append_drop] at this
theorem TrYs.of_trl {m : List Code} (hr : (H.blks.take k).all rigB = true) (h : Trl P ro m act H fun e a h => h.blks.take k = H.blks.take k ∧ Q e a h pre st) : TrYs P ro l k ys m act H pre st Q := by
  intro B J hJ G W a hI hA hj hB
  refine wps_mono ?_ (wps_trl (hJ.ro hj) h (.refl _ _) hI hA rfl)
  rintro e a' W' ⟨act', H', G', ⟨ht, q⟩, E, I', A', d⟩
  exact ⟨act', H', G', pre, st, q, hJ.step hI hj E (rigs_as hI I' E.δ hr ht hB), E.δ, I', A', d⟩
end
end Go.Proofs.Ythememoflnocnaa.AE
