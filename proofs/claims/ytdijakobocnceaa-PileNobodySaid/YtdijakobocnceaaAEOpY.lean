/-
  Every operation of the abstract run but a call of a function stands for the program's.
-/
import Derived.Test.YtdijakobocnceaaAEOpX
namespace Go.Proofs.Ytdijakobocnceaa.AE
set_option maxRecDepth 100000
open Go.RowKit
section
variable {P : Program} {ro : Nat → Option (List Value)} {G : Gh} {H H' : AH} {W : World} {act : List AV} {a : Act} {o : Oper} {r : AV}
theorem bytes_of {ys : List AV} {ns : List Int} (h : bytesOf? ys = some ns) : ys = ns.map fun n => .v (.int .u8 n) := by
  induction ys generalizing ns with
  | nil => simp only [bytesOf?, Option.some.injEq] at h; subst h; rfl
  | cons y ys ih =>
    unfold bytesOf? at h
    split at h
    · rename_i n hn
      split at h
      · rename_i r hr
        cases h
        unfold byteOf? at hn
        split at hn
        · cases hn; rw [ih hr]; rfl
        · cases hn
      · cases h
    · cases h
theorem foldl_bytes : ∀ (ns : List Int) (r : ByteArray), ns.foldl (fun r n => r.push (UInt8.ofNat n.toNat)) r = ⟨r.data ++ (ns.map fun n => UInt8.ofNat n.toNat).toArray⟩
  | [], r => by simp
  | n :: ns, r => by
    rw [List.foldl_cons, foldl_bytes ns]
    simp [ByteArray.push]
theorem isStr_u {t : TypeId} (h : isStr? P t = true) : P.underlying t = some .string := by
  unfold isStr? at h
  split at h
  · assumption
  · cases h
theorem isBytes_u {t e : TypeId} (h : isBytes? P t = some e) : P.underlying t = some (.slice e) ∧ P.underlying e = some (.int .u8) := by
  unfold isBytes? at h
  split at h
  · rename_i e' hu
    split at h
    · rename_i he
      cases h; exact ⟨hu, he⟩
    · cases h
  · cases h
theorem bytes_flat (l : List UInt8) : (l.map fun b => AV.v (.int .u8 b.toNat)).flatMap AV.cells = (l.map fun b => Value.int .u8 b.toNat).map AV.v := by
  induction l with
  | nil => rfl
  | cons b l ih => rw [List.map_cons, List.flatMap_cons, ih]; rfl
theorem bytes_str (hI : Inv G H W) {src dst e : TypeId} {y : AV} {c : Value} (hx : RV G W y c) (hd : isStr? P dst = true) (hs : isBytes? P src = some e) {ys : List AV} {H1 : AH} (hv : viewT P H 1 src y = some (ys, H1)) (hcd : H1.cd) {ns : List Int} (hns : bytesOf? ys = some ns) :
    (convert src dst c).run P W = .ok (.string ⟨(ns.map fun n => UInt8.ofNat n.toNat).toArray⟩) W := by
  obtain ⟨hs1, hs2⟩ := isBytes_u hs
  obtain ⟨news, n1, n2, n3, n4⟩ := (view_sound hI (Nat.zero_lt_one) hx hv).2.2 hcd
  have hys := bytes_of hns
  have hnews : news = ns.map (Value.int .u8) := by
    have : (ys.flatMap AV.cells) = (ns.map (Value.int .u8)).map AV.v := by
      rw [hys]
      clear hns hv n1 n2 n3 n4 hys
      induction ns with
      | nil => rfl
      | cons n ns ih => rw [List.map_cons, List.flatMap_cons, ih]; rfl
    rw [this] at n1
    exact vals_rel n1.rvs (by
      clear n1 this hys hns hv n2 n3 n4
      induction ns with
      | nil => rfl
      | cons n ns ih => simp only [List.map_cons, vals?, AV.val?, ih])
  have hlen := n3.len W
  have hfc := n4 ys.length (Nat.le_refl _)
  rw [Nat.mul_one, List.take_of_length_le (by rw [n3.newsLen]; omega), hnews] at hfc
  have key : ∀ ad n cap, c = .slice ad n cap → (convert src dst c).run P W = .ok (.string ⟨(ns.map fun n => UInt8.ofNat n.toNat).toArray⟩) W := by
    rintro ad n cap rfl
    simp only [Builtin.lenOf, Sem.run_pure, Result.ok.injEq, and_true] at hlen
    subst hlen
    rw [run_convert_bytes_string W src dst e ad ys.length cap hs1 hs2 (isStr_u hd)]
    cases ad with
    | none =>
      have hnil : ns = [] := by
        simp only [Builtin.firstCells, Sem.run_pure, Result.ok.injEq, and_true] at hfc
        simpa using hfc.symm
      subst hnil
      rfl
    | some q =>
      simp only [Builtin.firstCells, Nat.mul_one] at hfc
      rw [run_bytesToString W q ys.length cap ns hfc, foldl_bytes]
      simp
  unfold viewT at hv
  rw [hs1] at hv
  simp only at hv
  split at hv
  · cases hx; exact key _ _ _ rfl
  · cases hx; exact key _ _ _ rfl
  · cases hx; exact key _ _ _ rfl
  · cases hv
theorem convertA_sound (hI : Inv G H W) {src dst : TypeId} {x : AV} {c : Value} (hx : RV G W x c) (h : convertA P H src dst x = some (r, H')) : (H'.cd → H.cd) ∧ (H'.cd → Comes1 P G W (convert src dst c) r H') := by
  unfold convertA at h
  split at h
  · rename_i s
    split at h
    · rename_i hs
      split at h
      · rename_i e hd
        split at h
        · split at h
          · rename_i H1 hH1
            cases h
            obtain ⟨hS, hcd⟩ := need_some hH1
            refine ⟨fun h => (hcd h).1, fun h => ?_⟩
            have hc := (hcd h).2
            cases hx
            obtain ⟨hd1, hd2⟩ := isBytes_u hd
            have hr := run_bytes_of_string W src dst e s (isStr_u hs) hd1 hd2
            have hge := grownCap_ge W s.size 0 e
            have hle := grownCap_le_maxLen W s.size 0 e hc
            generalize grownCap W s.size 0 e = cap at hr hge hle
            have hsz : (bytesRow s cap).size = cap := by
              unfold bytesRow
              simp only [Array.size_append, Array.size_map, Array.size_replicate]
              show s.size + (cap - s.size) = cap
              omega
            have hpre : ∀ (j : Nat) (u : Value), (byteCells s)[j]? = some u → (bytesRow s cap)[j]? = some u := fun j u hj => by
              have hlt := (List.getElem?_eq_some_iff.1 hj).1
              rw [byteCells_length] at hlt
              rw [bytesRow_at s cap j hlt, ← hj]
              unfold byteCells
              rw [List.getElem?_map, Array.getElem?_toList, Array.getElem?_eq_getElem hlt]
              rfl
            have hl : (byteCells s).length = s.size * 1 := by rw [byteCells_length, Nat.mul_one]
            obtain ⟨e1, e2⟩ := hI.tipBlk (TipsOn.fresh hI) (e := e) hl hpre hge hle (by rw [hsz, Nat.mul_one]) (W1 := W.drew) ⟨rfl, rfl, rfl, rfl⟩ (fr := ((bytesRow s cap).size, (bytesRow s cap).size + 1)) (fun j hj => by simp; omega)
            refine ⟨_, _, _, hr, e1, e2.same hS.b rfl, ?_⟩
            refine .lst (cs := byteCells s) (by rw [List.length_map, Array.length_toList]; rfl) (by rw [bytes_flat]; exact PVs.map_v _) (fun x hx => ?_) (mem_tip (fun u hu => ?_) hl fun j u hj => ?_) hge hle (tip_ok _ _)
            · obtain ⟨b, _, rfl⟩ := List.mem_map.1 hx; rfl
            · obtain ⟨b, _, rfl⟩ := List.mem_map.1 hu; rfl
            · exact (World.cell?_alloc_mark W.drew _ e _ j).trans (hpre j u hj)
          · cases h
        · cases h
      · cases h
    · cases h
  · cases h
  · rename_i y hn1 hn2
    split at h
    · rename_i hd
      split at h
      · rename_i e hs
        split at h
        · rename_i ys H1 hv
          obtain ⟨hS, hm, _⟩ := view_sound hI (Nat.zero_lt_one) hx hv
          split at h
          · cases h
            exact ⟨fun h => hm (cds_out bytes_isSome h).1, fun h => ⟨G, W, _, bytes_str hI hx hd hs hv (cds_out bytes_isSome h).1 (cds_out bytes_isSome h).2, Ext.refl _ _, hI.same hS.b hS.t, .v _⟩⟩
          · split at h
            · rename_i ns hns
              cases h
              exact ⟨hm, fun h => ⟨G, W, _, bytes_str hI hx hd hs hv h hns, Ext.refl _ _, hI.same hS.b hS.t, .v _⟩⟩
            · cases h
        · cases h
      · cases h
    · cases h
theorem append_cd {b sz : Nat} {s : AV} {ys : List AV} (h : append b sz H s ys = some (r, H')) (hcd : H'.cd) : H.cd := by
  unfold append at h
  split at h
  · split at h
    · rename_i hn; cases h; exact ((need_some hn).2 hcd).1
    · cases h
  · split at h
    · split at h
      · split at h
        · rename_i hn
          cases h; exact ((need_some hn).2 hcd).1
        · cases h
      · cases h
    · cases h
  · split at h
    · split at h
      · rename_i hn
        split at h
        · cases h; exact ((need_some hn).2 hcd).1
        · cases h; exact ((need_some hn).2 hcd).1
      · cases h
    · cases h
  · cases h
theorem appendTo_cd {E : EI} {s : AV} {ys : List AV} (h : appendTo E H s ys = some (r, H')) (hcd : H'.cd) : H.cd := by
  unfold appendTo at h
  split at h
  · split at h
    · split at h
      · split at h
        · rename_i hn; cases h; exact ((need_some hn).2 hcd).1
        · cases h
      · cases h
    · cases h
  · exact append_cd h hcd
theorem copyTo_cd {E : EI} {s : AV} {ys : List AV} (h : copyTo E H s ys = some (r, H')) (hcd : H'.cd) : H.cd := by
  unfold copyTo at h
  split at h
  · split at h
    · split at h
      · split at h
        · rename_i hn; cases h; exact ((need_some hn).2 hcd).1
        · cases h
      · cases h
    · cases h
  · cases h
theorem Comes1.op {m : Sem Value} (h : Comes1 P G W m r H') (he : execOp a.eval o = (do pure (.value (← m)))) : OpRes P G W o a r H' := by
  obtain ⟨G', W', c, h1, h2, h3, h4⟩ := h
  exact ⟨G', W', .value c, c, by rw [he, Sem.run_bind, h1]; rfl, .inl rfl, h2, h3, h4⟩
theorem list1 {α : Type} {A : Array α} {x : α} (h : A.toList = [x]) : A = #[x] := by cases A; simp at h; subst h; rfl
theorem list2 {α : Type} {A : Array α} {x y : α} (h : A.toList = [x, y]) : A = #[x, y] := by cases A; simp at h; subst h; rfl
theorem op1_sound (hI : Inv G H W) (hR : Ro ro G W) (hA : RVs G W act a.tmps.toList) (h : op1 P ro act H o = some (r, H')) (hcd : H'.cd) : OpRes P G W o a r H' := by
  have hg : op0 P ro act H o = some (r, H') → OpRes P G W o a r H' := fun h => op0_sound hI hR hA h hcd
  unfold op1 at h
  split at h
  · rename_i t parts hop
    obtain ⟨hl, rfl⟩ := withH_some h
    obtain ⟨u, hu, hr⟩ := buildA_sound (m := parts.map fun p => (p.1, a.eval p.2)) (W := W) (G := G) (by rw [Array.toList_map]; exact parts_rel hA _) hl
    exact .same hI (c := u) (by rw [execOp, hop]; simp only [Sem.run_bind, hu, Result.andThen_ok, Sem.run_pure]) hr
  · rename_i t len parts hop
    split at h
    · rename_i E hE
      refine (buildS_sound hI hE (m := parts.map fun p => (p.1, a.eval p.2)) (by rw [Array.toList_map]; exact parts_rel hA _) h).op ?_
      rw [execOp, hop]
    · cases h
  · rename_i t l c hop
    split at h
    · rename_i E hE
      split at h
      · rename_i l' c' hl hc
        obtain ⟨k1, e1⟩ := intOf_rel hA hl
        obtain ⟨k2, e2⟩ := intOf_rel hA hc
        split at h
        · rename_i hz
          have hz0 : l' = 0 := by
            unfold isZeroC at hz
            split at hz
            · have := of_decide_eq_true hz
              subst this
              simp only [ev, intOf?, Option.some.injEq] at hl
              exact hl.symm
            · cases hz
          subst hz0
          refine ((makeR_sound hI hE k1 k2 h).2 hcd).op ?_
          rw [execOp, hop]; simp only [e1, e2]
        · refine ((makeS_sound hI hE k1 k2 h).2 hcd).op ?_
          rw [execOp, hop]; simp only [e1, e2]
      · cases h
    · cases h
  · rename_i t x f hop
    split at h
    · exact hg h
    · obtain ⟨hl, rfl⟩ := withH_some h
      obtain ⟨u, hu, hr⟩ := fieldA_sound (ev_rel hA x) hl
      exact .same hI (c := u) (by rw [execOp, hop]; simp only [Sem.run_bind, hu, Result.andThen_ok, Sem.run_pure]) hr
  · rename_i src dst x hop
    unfold orElse0 at h
    split at h
    · rename_i rr hc
      cases h
      refine ((convertA_sound hI (ev_rel hA x) hc).2 hcd).op ?_
      rw [execOp, hop]
    · exact hg h
  · rename_i c hop
    split at h
    · rename_i hcal
      split at h
      · rename_i s x t tx hargs htys
        split at h
        · rename_i E hE
          obtain ⟨_, _, _, _, _, _, _, hpos, _⟩ := einfo_some hE
          split at h
          · rename_i ys H1 hv
            obtain ⟨hS, hm, hvs⟩ := view_sound hI hpos (ev_rel hA x) hv
            have hcd1 : H1.cd := appendTo_cd h hcd
            obtain ⟨news, n1, n2, n3, _⟩ := hvs hcd1
            obtain ⟨G', W', u, h1, h2, h3, h4⟩ := (appendTo_sound (ty := o.type) (hI.same hS.b hS.t) hE (ev_rel hA s) n1 n2 n3 h).2 hcd
            refine ⟨G', W', .value u, u, ?_, .inl rfl, h2, h3, h4⟩
            rw [execOp, hop]
            simp [resolve, hcal, list2 hargs, list2 htys, invoke, builtin, h1]
          · cases h
        · cases h
      · cases h
    · rename_i hcal
      split at h
      · rename_i s x t tx hargs htys
        split at h
        · rename_i E hE
          obtain ⟨_, _, _, _, _, _, _, hpos, _⟩ := einfo_some hE
          split at h
          · rename_i ys H1 hv
            obtain ⟨hS, hm, hvs⟩ := view_sound hI hpos (ev_rel hA x) hv
            obtain ⟨news, n1, n2, n3, n4⟩ := hvs (copyTo_cd h hcd)
            obtain ⟨G', W', u, h1, h2, h3, h4⟩ := (copyTo_sound (ty := o.type) (hI.same hS.b hS.t) hE (ev_rel hA s) n1 n2 n3 n4 h).2 hcd
            refine ⟨G', W', .value u, u, ?_, .inl rfl, h2, h3, h4⟩
            rw [execOp, hop]
            simp [resolve, hcal, list2 hargs, list2 htys, invoke, builtin, h1]
          · cases h
        · cases h
      · cases h
    · exact hg h
  · exact hg h
end
end Go.Proofs.Ytdijakobocnceaa.AE
