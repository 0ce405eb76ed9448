/-
  Append, copy, make and the like of the abstract run stand for the program's.
-/
import Derived.Test.YtdijakobocnceaaAEOpV
namespace Go.Proofs.Ytdijakobocnceaa.AE
set_option maxRecDepth 100000
open Go.RowKit
/-- What one step on the world comes to. -/
def Comes1 (P : Program) (G : Gh) (W : World) (m : Sem Value) (r : AV) (H' : AH) : Prop :=
  ∃ G' W' c, m.run P W = .ok c W' ∧ Ext G W G' W' ∧ Inv G' H' W' ∧ RV G' W' r c
section
variable {P : Program} {ro : Nat → Option (List Value)} {G : Gh} {H H' : AH} {W : World} {act : List AV} {a : Act} {o : Oper} {r : AV}
theorem TipsOn.fresh (hI : Inv G H W) : TipsOn H G H.tips.length 0 (H.tips ++ [0]) where
  other := fun t ht => by
    rw [List.getElem?_append]
    split
    · rfl
    · rename_i h
      rw [List.getElem?_eq_none (l := H.tips) (by omega), List.getElem?_eq_none (by simp; omega)]
  this := by simp
  len := by simp
  up := fun i hi => by have := hI.tlen _ i hi; omega
theorem TipsOn.next (hI : Inv G H W) {t ver : Nat} (h : H.tips[t]? = some ver) : TipsOn H G t (ver + 1) (H.tips.set t (ver + 1)) where
  other := fun t' ht => by rw [List.getElem?_set_ne (by omega)]
  this := by
    have := (List.getElem?_eq_some_iff.1 h).1
    rw [List.getElem?_set_self this]
  len := by simp
  up := fun i hi => by
    obtain ⟨i', h1, h2⟩ := hI.tip t ver h
    rw [hi] at h1
    cases h1
    omega
theorem mem_tip {tk ver sz b n cap : Nat} {cells : List Value} {own : Bool} {W' : World} (h1 : ∀ u ∈ cells, u.oneCell' = true) (hl : cells.length = n * sz)
    (hc : ∀ (j : Nat) (u : Value), cells[j]? = some u → W'.cell? ⟨b, j, none⟩ = some u) : Mem (tipG G tk ⟨ver, sz, .slice (some ⟨b, 0, none⟩) n cap, n, cells⟩ b own).prot W' (some ⟨b, 0, none⟩) cells :=
  ⟨h1, fun _ => ⟨b, 0, rfl, fun j u hu => ⟨.inr ⟨rfl, by
    have := (List.getElem?_eq_some_iff.1 hu).1
    show 0 + j < n * sz
    omega⟩, by rw [Nat.zero_add]; exact hc j u hu⟩⟩⟩
theorem tip_ok {tk ver sz b n cap : Nat} {cells : List Value} {own : Bool} (m k : Nat) : TipOk (tipG G tk ⟨ver, sz, .slice (some ⟨b, 0, none⟩) n cap, n, cells⟩ b own) sz (.slice (some ⟨b, 0, none⟩) n cap) m k (.tp tk ver) :=
  ⟨_, by show (if tk = tk then _ else _) = _; rw [if_pos rfl], Nat.le_refl _, fun _ => ⟨rfl, rfl⟩⟩
/-- An append that makes a new row. -/
theorem grow_sound (hI : Inv G H W) {E : EI} {t tx ty : TypeId} (hE : einfo P t = some E) {base : Option Addr} {n old m tk ver : Nat} {tips' : List Nat} (ht : TipsOn H G tk ver tips') {xs ys : List AV} {olds news : List Value} {c : Value}
    (hold : (Builtin.firstCells E.size n (.slice base n old)).run P W.drew = .ok olds.toArray W.drew) (hxs : PVs G.prot W (xs.flatMap AV.cells) olds) (hxl : ∀ x ∈ xs, x.cells.length = E.size) (hn : xs.length = n) (hone : ∀ u ∈ olds, u.oneCell' = true)
    (hys : PVs G.prot W (ys.flatMap AV.cells) news) (hyl : ∀ y ∈ ys, y.cells.length = E.size) (hsrc : Src P E.size tx c ys.length news W) (hm : ys.length = m) (hg : old < n + m) (hb : (n + m) * E.bytes ≤ 140737488355328) (hmax : n + m ≤ maxLen) :
    ∀ H2 : AH, H2.blks = H.blks → H2.tips = tips' → Comes1 P G W (Builtin.append_ #[t, tx] ty #[.slice base n old, c]) (.lst E.size (xs ++ ys) (.tp tk ver)) H2 := by
  intro H2 hb2 ht2
  obtain ⟨hu, i, hi, hib, his, hz, hzs, hpos, _⟩ := einfo_some hE
  subst hm
  have h63 : ((n + ys.length : Nat) : Int) ≤ 9223372036854775807 := by simp only [maxLen] at hmax; omega
  have hol : olds.length = n * E.size := by rw [← hxs.len, flat_len xs hxl, hn]
  have hnl : news.length = ys.length * E.size := hsrc.newsLen
  have hr := run_append_grow_src (P := P) W t tx ty E.e i E.z hu hi hz base n old olds (by rw [his]; exact hold) c ys.length news (by rw [his]; exact hsrc) hg h63 (by rw [hib]; exact growslice_fits hg hb)
  have hge := grownCap_ge W (n + ys.length) old E.e
  have hle := grownCap_le_maxLen W (n + ys.length) old E.e hmax
  generalize grownCap W (n + ys.length) old E.e = cap at hr hge hle
  have hl : (olds ++ news).length = (n + ys.length) * E.size := by rw [List.length_append, hol, hnl, Nat.add_mul]
  have hC : ((olds ++ news).toArray ++ Builtin.zeroCells E.z.cells (cap - (n + ys.length))).size = cap * E.size := by
    rw [Array.size_append, List.size_toArray, hl, size_zeroCells, hzs, ← Nat.add_mul]
    congr 1
    omega
  have hpre : ∀ (j : Nat) (u : Value), (olds ++ news)[j]? = some u → ((olds ++ news).toArray ++ Builtin.zeroCells E.z.cells (cap - (n + ys.length)))[j]? = some u := fun j u hj => by
    rw [Array.getElem?_append_left (by have := (List.getElem?_eq_some_iff.1 hj).1; simpa using this)]
    simpa using hj
  obtain ⟨e1, e2⟩ := hI.tipBlk ht (e := E.e) hl hpre hge hle hC (W1 := W.drew) ⟨rfl, rfl, rfl, rfl⟩ (fr := (0, 0)) (fun j _ => by simp)
  refine ⟨_, _, _, hr, e1, e2.same hb2 ht2, ?_⟩
  have hones : ∀ u ∈ olds ++ news, u.oneCell' = true := fun u hu => by
    rcases List.mem_append.1 hu with hu | hu
    · exact hone u hu
    · exact hsrc.one u hu
  refine .lst (cs := olds ++ news) (by rw [List.length_append, hn]) (by rw [List.flatMap_append]; exact ((hxs.app hys).ext e1)) (fun x hx => ?_) (mem_tip hones hl fun j u hj => ?_) hge hle (tip_ok _ _)
  · rcases List.mem_append.1 hx with hx | hx
    · exact hxl x hx
    · exact hyl x hx
  · exact (World.cell?_alloc_mark W.drew _ E.e (0, 0) j).trans (hpre j u hj)
theorem appendTo_sound (hI : Inv G H W) {E : EI} {t tx ty : TypeId} (hE : einfo P t = some E) {s : AV} {ys : List AV} {c d : Value} (hs : RV G W s c) {news : List Value} (n1 : PVs G.prot W (ys.flatMap AV.cells) news) (n2 : ∀ y ∈ ys, y.cells.length = E.size) (n3 : Src P E.size tx d ys.length news W)
    (h : appendTo E H s ys = some (r, H')) : (H'.cd → H.cd) ∧ (H'.cd → Comes1 P G W (Builtin.append_ #[t, tx] ty #[c, d]) r H') := by
  obtain ⟨hu, i, hi, hib, his, hz, hzs, hpos, _⟩ := einfo_some hE
  have n3' : Src P i.size tx d ys.length news W := by rw [his]; exact n3
  unfold appendTo at h
  split at h
  · rename_i id off len cap
    split at h
    · rename_i b hb
      split at h
      · rename_i hmb
        split at h
        · rename_i H1 hH1
          cases h
          obtain ⟨hS, hcd⟩ := need_some hH1
          refine ⟨fun h => (hcd h).1, fun h => ?_⟩
          obtain ⟨hroom, hfit⟩ := (hcd h).2
          cases hs with
          | @sl _ _ _ _ k hd =>
            obtain ⟨k', vs, e1, e2, e3, e4⟩ := hI.blk id b.1 b.2 (at_some hb).1
            rw [hd] at e1
            cases e1
            have hlen := e3.len
            have hnl : news.length = ys.length * E.size := n3.newsLen
            have hmul : (len + ys.length) * E.size = len * E.size + ys.length * E.size := Nat.add_mul _ _ _
            have hfl : (ys.flatMap AV.cells).length = ys.length * E.size := flat_len ys n2
            simp at hlen
            have hr := run_append_room_src (P := P) W t tx ty E.e i hu hi k off len cap d ys.length news n3' hroom
              (fun j hj => by
                rw [e2.cell (at_some hb).2]
                rw [Array.getElem?_eq_getElem (by rw [his]; omega)]; rfl)
              (fun j hj => e2.thaw (at_some hb).2 _ (by rw [his]; omega))
            rw [his] at hr
            have hst := hI.store (off := off + len * E.size) (at_some hb).1 (at_some hb).2 hd n1.rvs n3.one (by rw [hfl]; omega)
            exact ⟨G, _, _, hr, hst.1, hst.2.same rfl hS.t, .sl hd⟩
        · cases h
      · cases h
    · cases h
  · unfold append at h
    split at h
    · split at h
      · rename_i H1 hH1
        cases h
        obtain ⟨hS, hcd⟩ := need_some hH1
        refine ⟨fun h => (hcd h).1, fun h => ?_⟩
        have hc := (hcd h).2
        cases hs
        by_cases h0 : ys.length = 0
        · have hys : ys = [] := List.eq_nil_of_length_eq_zero h0
          subst hys
          have hnn : news = [] := by cases n1; rfl
          subst hnn
          have hrun : (Builtin.append_ #[t, tx] ty #[.slice none 0 0, d]).run P W = .ok (.slice none 0 0) W := by
            have hcl := n3'.cells
            have hln := n3'.len
            simp at hln hcl
            rcases n3'.kind with ⟨e', hk⟩ | hk <;> simp [Builtin.append_, run_underlying hu, run_underlying hk, sizeOf, typeInfo, hi, hln, hcl]
          -- a row that holds nothing
          obtain ⟨e1, e2⟩ := hI.tipNil (tk := H.tips.length) (TipsOn.fresh hI) E.size
          exact ⟨_, W, _, hrun, e1, e2.same hS.b rfl, .lst rfl .nil (fun x hx => (by cases hx)) ⟨fun u hu => (by cases hu), fun h => absurd rfl h⟩ (Nat.le_refl _) (Nat.zero_le _) ⟨_, by show (if _ then _ else _) = _; rw [if_pos rfl], Nat.le_refl _, fun _ => ⟨rfl, rfl⟩⟩⟩
        · have := grow_sound (ty := ty) hI hE (base := none) (n := 0) (old := 0) (TipsOn.fresh hI) (xs := []) (olds := []) (by simp [Builtin.firstCells]) .nil (fun x hx => by cases hx) rfl (fun u hu => by cases hu) n1 n2 n3 rfl (by omega) (by simpa using hc.1) (by simpa using hc.2) { H1 with tips := H.tips ++ [0] } hS.b rfl
          simpa using this
      · cases h
    · rename_i sz' xs tk ver hno
      split at h
      · rename_i hc
        obtain ⟨rfl, hmc⟩ := hc
        split at h
        · rename_i ver' htip
          split at h
          · rename_i H1 hH1
            obtain ⟨hS, hcd⟩ := need_some hH1
            · cases h
              refine ⟨fun h => (hcd h).1, fun h => ?_⟩
              obtain ⟨⟨hby, hmx⟩, hvv⟩ := (hcd h).2
              subst hvv
              cases hs with
              | @lst _ _ _ ad n cap cs hn hr hs' hm hc' hx' htok =>
                obtain ⟨i0, g1, g2, g3⟩ := htok
                obtain ⟨i0', g1', g4⟩ := hI.tip tk _ htip
                rw [g1] at g1'
                cases g1'
                obtain ⟨hv0, hs0⟩ := g3 g4.symm
                have hrow := hI.row tk i0 g1
                have hcl : cs.length = n * E.size := by rw [← hr.len, flat_len xs hs', hn]
                have hold : (Builtin.firstCells E.size n (.slice ad n cap)).run P W.drew = .ok cs.toArray W.drew := by
                  cases ad with
                  | none =>
                    have : cs = [] := by
                      rcases Decidable.em (cs = []) with e | e
                      · exact e
                      · obtain ⟨b, off, e', _⟩ := hm.2 e; cases e'
                    rw [this]; simp [Builtin.firstCells]
                  | some q =>
                    refine run_firstCells_some W.drew E.size n q n cap cs hcl (fun j u hj => ?_)
                    obtain ⟨b, off, e', hcell⟩ := hm.2 (by rintro rfl; simp at hj)
                    cases e'
                    rw [add_off]; exact (hcell j u hj).2
                by_cases hroom : n + ys.length ≤ cap
                · -- within the room
                  rcases hrow.val with ⟨v1, v2⟩ | ⟨g, off, cap0, v1, v2, v3, v4, v5, v6, v7⟩
                  · -- nothing, and no memory
                    rw [v1] at hv0
                    cases hv0
                    have h0 : ys.length = 0 := by omega
                    have hys : ys = [] := List.eq_nil_of_length_eq_zero h0
                    subst hys
                    have hxs : xs = [] := List.eq_nil_of_length_eq_zero hn.symm
                    subst hxs
                    have hnn : news = [] := by cases n1; rfl
                    subst hnn
                    have hrun : (Builtin.append_ #[t, tx] ty #[.slice none 0 0, d]).run P W = .ok (.slice none 0 0) W := by
                      have hcl := n3'.cells
                      have hln := n3'.len
                      simp at hln hcl
                      rcases n3'.kind with ⟨e', hk⟩ | hk <;> simp [Builtin.append_, run_underlying hu, run_underlying hk, sizeOf, typeInfo, hi, hln, hcl]
                    obtain ⟨e1, e2⟩ := hI.tipNil (TipsOn.next hI htip) E.size
                    exact ⟨_, W, _, hrun, e1, e2.same hS.b rfl, .lst rfl .nil (fun x hx => (by cases hx)) ⟨fun u hu => (by cases hu), fun h => absurd rfl h⟩ (Nat.le_refl _) (Nat.zero_le _) ⟨_, by show (if _ then _ else _) = _; rw [if_pos rfl], Nat.le_refl _, fun _ => ⟨rfl, rfl⟩⟩⟩
                  · rw [v1] at hv0
                    simp only [Value.slice.injEq] at hv0
                    obtain ⟨rfl, rfl, rfl⟩ := hv0
                    obtain ⟨rfl, q2, q3, q4⟩ := hI.trow tk i0 g off _ _ g1 v1
                    have hce : i0.cells = cs := by
                      refine List.ext_getElem? fun j => ?_
                      have l1 := hrow.len
                      rw [← hs0] at l1
                      by_cases hj : j < cs.length
                      · obtain ⟨b', off', e', hcell⟩ := hm.2 (by rintro rfl; simp at hj)
                        cases e'
                        have c1 := (hcell j _ (List.getElem?_eq_getElem hj)).2
                        have hj2 : j < i0.cells.length := by omega
                        have c2 := v6 j _ (List.getElem?_eq_getElem hj2)
                        rw [c2] at c1
                        rw [List.getElem?_eq_getElem hj, List.getElem?_eq_getElem hj2]; exact c1
                      · rw [List.getElem?_eq_none (by omega), List.getElem?_eq_none (by omega)]
                    have hnl : news.length = ys.length * i0.sz := by rw [← hs0]; exact n3.newsLen
                    have hle : (i0.n + ys.length) * i0.sz ≤ cap * i0.sz := Nat.mul_le_mul_right _ hroom
                    have hmul : (i0.n + ys.length) * i0.sz = i0.n * i0.sz + ys.length * i0.sz := Nat.add_mul _ _ _
                    have hr2 := run_append_room_src (P := P) W t tx ty E.e i hu hi g 0 i0.n cap d ys.length news n3' hroom
                      (fun j hj => by
                        have := (v7 (i0.n * i0.sz + j) (by omega) (by omega)).1
                        rw [← Nat.add_assoc] at this
                        rw [his, hs0]; exact this)
                      (fun j hj => by
                        have := (v7 (i0.n * i0.sz + j) (by omega) (by omega)).2
                        rw [← Nat.add_assoc] at this
                        rw [his, hs0]; exact this)
                    rw [his, hs0, Nat.zero_add] at hr2
                    obtain ⟨e1, e2⟩ := hI.tipRoom (TipsOn.next hI htip) g1 v1 hnl hroom
                    refine ⟨_, _, _, hr2, e1, e2.same hS.b rfl, ?_⟩
                    have hrow2 := e2.row tk _ (by show (if _ then _ else _) = _; rw [if_pos rfl])
                    rcases hrow2.val with ⟨w1, _⟩ | ⟨g', off', cap', w1, w2, w3, w4, w5, w6, w7⟩
                    · simp at w1
                    · simp only [Value.slice.injEq, Option.some.injEq, Addr.mk.injEq, and_true, true_and] at w1
                      obtain ⟨⟨rfl, rfl⟩, rfl⟩ := w1
                      have hones : ∀ u ∈ i0.cells ++ news, u.oneCell' = true := fun u hu => by
                        rcases List.mem_append.1 hu with hu | hu
                        · rw [hce] at hu; exact hm.1 u hu
                        · exact n3.one u hu
                      have hll : (i0.cells ++ news).length = (i0.n + ys.length) * i0.sz := hrow2.len
                      rw [hs0]
                      refine .lst (cs := i0.cells ++ news) (by rw [List.length_append, hn]) (by rw [List.flatMap_append, hce]; exact PVs.ext (hr.app n1) (by rw [hce] at e1; exact e1)) (fun x hx => ?_) (mem_tip hones hll fun j u hj => by have := w6 j u hj; rwa [Nat.zero_add] at this) hroom hx' (tip_ok _ _)
                      rw [← hs0]
                      rcases List.mem_append.1 hx with hx | hx
                      · exact hs' x hx
                      · exact n2 x hx
                · have := grow_sound (ty := ty) hI hE (base := ad) (TipsOn.next hI htip) hold hr hs' hn.symm hm.1 n1 n2 n3 rfl (by omega) (by rw [hn]; exact hby) (by rw [hn]; exact hmx)
                  exact this { H1 with tips := H.tips.set tk (ver' + 1) } hS.b rfl
          · cases h
        · cases h
      · cases h
    · rename_i sz' xs hno
      split at h
      · rename_i hc
        subst hc
        split at h
        · rename_i H1 hH1
          obtain ⟨hS, hcd⟩ := need_some hH1
          have hcd' : (H'.cd → H1.cd) ∧ True := ⟨by
            split at h
            · cases h; exact fun h => h
            · cases h; exact fun h => h, trivial⟩
          refine ⟨fun h => (hcd (hcd'.1 h)).1, fun hH' => ?_⟩
          obtain ⟨hby, hmx⟩ := (hcd (hcd'.1 hH')).2
          cases hs with
          | @lst _ _ _ ad n cap cs hn hr hs' hm hc' hx' htok =>
            have hcap : cap = n := htok
            subst hcap
            have hcl : cs.length = cap * E.size := by rw [← hr.len, flat_len xs hs', hn]
            split at h
            · cases h
              have hnn : news = [] := by cases n1; rfl
              subst hnn
              have hln := n3'.len
              have hcl2 := n3'.cells
              simp at hln hcl2
              refine ⟨G, W, .slice ad cap cap, ?_, Ext.refl _ _, hI.same hS.b hS.t, .lst hn hr hs' hm hc' hx' htok⟩
              cases ad <;> rcases n3'.kind with ⟨e', hk⟩ | hk <;> simp [Builtin.append_, run_underlying hu, run_underlying hk, sizeOf, typeInfo, hi, hln, hcl2, storeCells]
            · rename_i y0 ys0
              cases h
              have hold : (Builtin.firstCells E.size cap (.slice ad cap cap)).run P W.drew = .ok cs.toArray W.drew := by
                cases ad with
                | none =>
                  have : cs = [] := by
                    rcases Decidable.em (cs = []) with e | e
                    · exact e
                    · obtain ⟨b, off, e', _⟩ := hm.2 e; cases e'
                  rw [this]; simp [Builtin.firstCells]
                | some q =>
                  refine run_firstCells_some W.drew E.size cap q cap cap cs hcl (fun j u hj => ?_)
                  obtain ⟨b, off, e', hcell⟩ := hm.2 (by rintro rfl; simp at hj)
                  cases e'
                  rw [add_off]; exact (hcell j u hj).2
              exact grow_sound (ty := ty) hI hE (base := ad) (TipsOn.fresh hI) hold hr hs' hn.symm hm.1 n1 n2 n3 rfl (by simp) (by rw [hn]; exact hby) (by rw [hn]; exact hmx) { H1 with tips := H.tips ++ [0] } hS.b rfl
        · cases h
      · cases h
    · cases h
end
end Go.Proofs.Ytdijakobocnceaa.AE
