/-
  What the abstract run does not write.
-/
import Derived.Test.YtdijakobocnceaaAEOpY
namespace Go.Proofs.Ytdijakobocnceaa.AE
set_option maxRecDepth 100000
open Go.RowKit
structure Keep (H H' : AH) : Prop where
  cd : H'.cd → H.cd
  sy : H'.sy = H.sy
  mb : H'.mb = H.mb
  mc : H'.mc = H.mc
  bl : H.blks.length ≤ H'.blks.length
  tl : H.tips.length ≤ H'.tips.length
  b : ∀ id, id < H.mb → id < H.blks.length → H'.blks[id]? = H.blks[id]?
  t : ∀ t, t < H.mc → t < H.tips.length → H'.tips[t]? = H.tips[t]?
theorem Keep.refl (H : AH) : Keep H H := ⟨fun h => h, rfl, rfl, rfl, Nat.le_refl _, Nat.le_refl _, fun _ _ _ => rfl, fun _ _ _ => rfl⟩
theorem Keep.trans {a b c : AH} (h : Keep a b) (k : Keep b c) : Keep a c :=
  ⟨fun x => h.cd (k.cd x), k.sy.trans h.sy, k.mb.trans h.mb, k.mc.trans h.mc, Nat.le_trans h.bl k.bl, Nat.le_trans h.tl k.tl,
    fun id hi hl => (k.b id (by rw [h.mb]; exact hi) (Nat.lt_of_lt_of_le hl h.bl)).trans (h.b id hi hl),
    fun t ht hl => (k.t t (by rw [h.mc]; exact ht) (Nat.lt_of_lt_of_le hl h.tl)).trans (h.t t ht hl)⟩
section
variable {P : Program} {ro : Nat → Option (List Value)} {H H' : AH} {act : List AV} {o : Oper} {r : AV}
theorem Same.keep (h : Same H H') (hc : H'.cd → H.cd) : Keep H H' := ⟨hc, h.sy, h.mb, h.mc, by rw [h.b]; exact Nat.le_refl _, by rw [h.t]; exact Nat.le_refl _, fun _ _ _ => by rw [h.b], fun _ _ _ => by rw [h.t]⟩
theorem need_keep {p : Prop} [Decidable p] (h : need H p = some H') : Keep H H' := (need_some h).1.keep fun x => ((need_some h).2 x).1
theorem conc_keep {b g : Bool} (h : conc H b = some (g, H')) : Keep H H' := (conc_some h).1.keep fun x => ((conc_some h).2 x).1
theorem Keep.new (t : TypeId) (cs : List AV) : Keep H { H with blks := H.blks ++ [(t, cs)] } :=
  ⟨fun h => h, rfl, rfl, rfl, by simp, Nat.le_refl _, fun id _ hl => List.getElem?_append_left hl, fun _ _ _ => rfl⟩
theorem Keep.set {id : Nat} (x : TypeId × List AV) (h : H.mb ≤ id) : Keep H { H with blks := H.blks.set id x } :=
  ⟨fun h => h, rfl, rfl, rfl, by simp, Nat.le_refl _, fun i hi _ => List.getElem?_set_ne (by omega), fun _ _ _ => rfl⟩
theorem Keep.tips (ver : Nat) : Keep H { H with tips := H.tips ++ [ver] } :=
  ⟨fun h => h, rfl, rfl, rfl, Nat.le_refl _, by simp, fun _ _ _ => rfl, fun t _ hl => List.getElem?_append_left hl⟩
theorem Keep.tip {t : Nat} (ver : Nat) (h : H.mc ≤ t) : Keep H { H with tips := H.tips.set t ver } :=
  ⟨fun h => h, rfl, rfl, rfl, Nat.le_refl _, by simp, fun _ _ _ => rfl, fun i hi _ => List.getElem?_set_ne (by omega)⟩
theorem withH_keep {x : Option AV} (h : withH H x = some (r, H')) : Keep H H' := by rw [(withH_some h).2]; exact .refl _
theorem gen'_keep (h : gen' P act H o = some (r, H')) : Keep H H' := by
  unfold gen' at h
  split at h
  · cases h; exact .refl _
  · cases h
theorem Keep.setS {H1 : AH} (k : Keep H H1) (hS : Same H H1) {id : Nat} {x : TypeId × List AV} (h : H.mb ≤ id) : Keep H { H1 with blks := H.blks.set id x } := by
  have := k.trans (Keep.set (id := id) x (by rw [hS.mb]; exact h))
  rwa [hS.b] at this
theorem Keep.tipSS {H1 : AH} (k : Keep H H1) (hS : Same H H1) {t ver : Nat} (h : H.mc ≤ t) : Keep H { H1 with tips := H.tips.set t ver } := by
  have := k.trans (Keep.tip (t := t) ver (by rw [hS.mc]; exact h))
  rwa [hS.t] at this
theorem Keep.newS {H1 : AH} (k : Keep H H1) (hS : Same H H1) {t : TypeId} {cs : List AV} : Keep H { H1 with blks := H.blks ++ [(t, cs)] } := by
  have := k.trans (Keep.new t cs)
  rwa [hS.b] at this
theorem store_keep {t : TypeId} {x y : AV} (h : storeTo P H t x y = some H') : Keep H H' := by
  unfold storeTo at h
  split at h
  · split at h
    · split at h
      · split at h
        · rename_i hc
          split at h
          · split at h
            · rename_i hn
              cases h
              exact .setS (need_keep hn) (need_some hn).1 hc.2
            · cases h
          · cases h
        · cases h
      · cases h
    · cases h
  · cases h
theorem load_keep {t : TypeId} {x : AV} (h : load P ro H t x = some (r, H')) : Keep H H' := by
  unfold load at h
  repeat' (split at h)
  all_goals first
    | (cases h; done)
    | (cases h; exact .refl _)
    | (cases h; exact Same.keep ⟨rfl, rfl, rfl, rfl, rfl⟩ (fun h => (cds_out shapes_ok h).1))
theorem indexAddr_keep {t : TypeId} {x : AV} {n : Int} (h : indexAddr P H t x n = some (r, H')) : Keep H H' := by
  unfold indexAddr at h
  repeat' (split at h)
  all_goals first
    | (cases h; done)
    | (cases h; exact .refl _)
    | (cases h; exact Same.keep ⟨rfl, rfl, rfl, rfl, rfl⟩ (fun h => (cds_out (elem_ok (by assumption)) h).1))
    | (cases h; exact need_keep (by assumption))
theorem slice_keep {t : TypeId} {x : AV} {lo hi mx : Option Operand} (h : slice P act H t x lo hi mx = some (r, H')) : Keep H H' := by
  unfold slice at h
  repeat' (split at h)
  all_goals first
    | (cases h; done)
    | (cases h; exact .refl _)
    | (cases h; exact need_keep (by assumption))
    | (unfold cut at h; dsimp only at h; split at h <;> first | (cases h; done) | (cases h; exact need_keep (by assumption)))
theorem op0_keep (h : op0 P ro act H o = some (r, H')) : Keep H H' := by
  unfold op0 at h
  repeat' (split at h)
  all_goals first
    | (cases h; done)
    | exact gen'_keep h
    | exact withH_keep h
    | exact load_keep h
    | exact indexAddr_keep h
    | exact slice_keep h
    | (cases h; exact .refl _)
    | (cases h; exact .new _ _)
    | (cases h; exact need_keep (by assumption))
    | (cases h; exact store_keep (by assumption))
theorem Keep.tipsS (hS : Same H H') (hc : H'.cd → H.cd) (ver : Nat) : Keep H { H' with tips := H.tips ++ [ver] } := by
  have := (hS.keep hc).trans (Keep.tips ver)
  rwa [hS.t] at this
theorem append_keep {b sz : Nat} {s : AV} {ys : List AV} (h : append b sz H s ys = some (r, H')) : Keep H H' := by
  unfold append at h
  split at h
  · split at h
    · rename_i hn; cases h; exact .tipsS (need_some hn).1 (fun x => ((need_some hn).2 x).1) _
    · cases h
  · split at h
    · rename_i hc
      split at h
      · split at h
        · rename_i hn
          cases h
          exact .tipSS (need_keep hn) (need_some hn).1 hc.2
        · cases h
      · cases h
    · cases h
  · split at h
    · split at h
      · rename_i hn
        split at h
        · cases h; exact need_keep hn
        · cases h; exact .tipsS (need_some hn).1 (fun x => ((need_some hn).2 x).1) _
      · cases h
    · cases h
  · cases h
theorem appendTo_keep {E : EI} {s : AV} {ys : List AV} (h : appendTo E H s ys = some (r, H')) : Keep H H' := by
  unfold appendTo at h
  split at h
  · split at h
    · split at h
      · rename_i hc
        split at h
        · rename_i hn
          cases h
          exact .setS (need_keep hn) (need_some hn).1 hc
        · cases h
      · cases h
    · cases h
  · exact append_keep h
theorem copyTo_keep {E : EI} {s : AV} {ys : List AV} (h : copyTo E H s ys = some (r, H')) : Keep H H' := by
  unfold copyTo at h
  split at h
  · split at h
    · split at h
      · rename_i hc
        split at h
        · rename_i hn
          cases h
          exact .setS (need_keep hn) (need_some hn).1 hc
        · cases h
      · cases h
    · cases h
  · cases h
theorem view_keep {sz : Nat} {tx : TypeId} {x : AV} {ys : List AV} (h : viewT P H sz tx x = some (ys, H')) : Keep H H' := by
  unfold viewT at h
  repeat' (split at h)
  all_goals first
    | (cases h; done)
    | (cases h; exact .refl _)
    | (cases h; exact need_keep (by assumption))
theorem op1_keep (h : op1 P ro act H o = some (r, H')) : Keep H H' := by
  unfold op1 at h
  split at h
  · exact withH_keep h
  · split at h
    · unfold buildS at h
      repeat' (split at h)
      all_goals first | (cases h; done) | (cases h; exact .refl _)
    · cases h
  · split at h
    · split at h
      · split at h
        · unfold makeR at h
          split at h
          · rename_i hn
            cases h
            exact .tipsS (need_some hn).1 (fun x => ((need_some hn).2 x).1) _
          · cases h
        · unfold makeS at h
          split at h
          · rename_i hn
            cases h
            exact .newS (need_keep hn) (need_some hn).1
          · cases h
      · cases h
    · cases h
  · split at h
    · exact op0_keep h
    · exact withH_keep h
  · unfold orElse0 at h
    split at h
    · rename_i hc
      cases h
      unfold convertA at hc
      split at hc
      · repeat' (split at hc)
        all_goals first | (cases hc; done) | skip
        rename_i hn
        cases hc
        exact .tipsS (need_some hn).1 (fun x => ((need_some hn).2 x).1) _
      · cases hc
      · split at hc
        · split at hc
          · split at hc
            · rename_i hv
              split at hc
              · cases hc; exact (view_keep hv).trans (Same.keep ⟨rfl, rfl, rfl, rfl, rfl⟩ (fun h => (cds_out bytes_isSome h).1))
              · split at hc
                · cases hc; exact view_keep hv
                · cases hc
            · cases hc
          · cases hc
        · cases hc
    · exact op0_keep h
  · split at h
    · split at h
      · split at h
        · split at h
          · rename_i hv; exact (view_keep hv).trans (appendTo_keep h)
          · cases h
        · cases h
      · cases h
    · split at h
      · split at h
        · split at h
          · rename_i hv; exact (view_keep hv).trans (copyTo_keep h)
          · cases h
        · cases h
      · cases h
    · exact op0_keep h
  · exact op0_keep h
end
end Go.Proofs.Ytdijakobocnceaa.AE
