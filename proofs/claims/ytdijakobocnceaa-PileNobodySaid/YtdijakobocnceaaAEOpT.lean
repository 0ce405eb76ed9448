/-
  The abstract run's operations stand for the program's: addresses of elements, slices, and the rest.
-/
import Derived.Test.YtdijakobocnceaaAEOpS
namespace Go.Proofs.Ytdijakobocnceaa.AE
set_option maxRecDepth 100000
open Go.RowKit
section
variable {P : Program} {ro : Nat → Option (List Value)} {G : Gh} {H H' : AH} {W : World} {act : List AV} {a : Act} {o : Oper} {r : AV}
theorem flat_len {sz : Nat} : ∀ (xs : List AV), (∀ x ∈ xs, x.cells.length = sz) → (xs.flatMap AV.cells).length = xs.length * sz
  | [], _ => by simp
  | x :: xs, h => by
    rw [List.flatMap_cons, List.length_append, flat_len xs (fun y hy => h y (List.mem_cons_of_mem _ hy)), h x (List.mem_cons_self ..), List.length_cons, Nat.add_mul]
    omega
theorem flat_take {sz : Nat} : ∀ (xs : List AV) (k : Nat), (∀ x ∈ xs, x.cells.length = sz) → (xs.flatMap AV.cells).take (k * sz) = (xs.take k).flatMap AV.cells
  | [], k, _ => by simp
  | x :: xs, 0, _ => by simp
  | x :: xs, k + 1, h => by
    have h1 := h x (List.mem_cons_self ..)
    rw [List.flatMap_cons, List.take_succ_cons, List.flatMap_cons, ← flat_take xs k (fun y hy => h y (List.mem_cons_of_mem _ hy)), List.take_append, h1,
      List.take_of_length_le (by rw [h1, Nat.add_mul]; omega), show (k + 1) * sz - sz = k * sz by rw [Nat.add_mul]; omega]
theorem flat_drop {sz : Nat} : ∀ (xs : List AV) (k : Nat), (∀ x ∈ xs, x.cells.length = sz) → (xs.flatMap AV.cells).drop (k * sz) = (xs.drop k).flatMap AV.cells
  | [], k, _ => by simp
  | x :: xs, 0, _ => by simp
  | x :: xs, k + 1, h => by
    have h1 := h x (List.mem_cons_self ..)
    rw [List.flatMap_cons, List.drop_succ_cons, ← flat_drop xs k (fun y hy => h y (List.mem_cons_of_mem _ hy)), List.drop_append, h1,
      List.drop_of_length_le (by rw [h1, Nat.add_mul]; omega), show (k + 1) * sz - sz = k * sz by rw [Nat.add_mul]; omega, List.nil_append]
theorem Mem.take {pr : Nat → Nat → Prop} {ad : Option Addr} {cs : List Value} (h : Mem pr W ad cs) (k : Nat) : Mem pr W ad (cs.take k) :=
  ⟨fun u hu => h.1 u (List.mem_of_mem_take hu), fun hne => by
    have hcs : cs ≠ [] := by rintro rfl; simp at hne
    obtain ⟨b, off, e, hc⟩ := h.2 hcs
    refine ⟨b, off, e, fun j u hu => hc j u ?_⟩
    rw [List.getElem?_take] at hu
    split at hu
    · exact hu
    · cases hu⟩
theorem elem_at {pr : Nat → Nat → Prop} {sz : Nat} {xs : List AV} {n : Nat} {y : AV} {cs : List Value} (hs : ∀ x ∈ xs, x.cells.length = sz) (hr : PVs pr W (xs.flatMap AV.cells) cs) (hy : xs[n]? = some y) : PVs pr W y.cells ((cs.drop (n * sz)).take sz) := by
  have h := ((hr.drop (n * sz)).take sz)
  rw [flat_drop xs n hs] at h
  have hd : xs.drop n = y :: xs.drop (n + 1) := by
    obtain ⟨hn, rfl⟩ := List.getElem?_eq_some_iff.1 hy
    exact List.drop_eq_getElem_cons hn
  rw [hd, List.flatMap_cons] at h
  have h1 := hs y (List.mem_of_getElem? hy)
  rwa [List.take_append, h1, Nat.sub_self, List.take_zero, List.append_nil, List.take_of_length_le (by omega)] at h
theorem intOf_rel (hA : RVs G W act a.tmps.toList) {x : Operand} {n : Int} (h : intOf? (ev act x) = some n) : ∃ k, a.eval x = .int k n := by
  have hr := ev_rel hA x
  unfold intOf? at h
  split at h
  · rename_i k m e
    rw [e] at hr
    cases h
    refine ⟨k, ?_⟩
    generalize a.eval x = c at hr
    cases hr; rfl
  · cases h
theorem sz_info {t : TypeId} {n : Nat} (h : sz? P t = some n) : ∃ i, P.info? t = some i ∧ i.size = n := by
  unfold sz? at h
  cases hi : P.info? t with
  | none => rw [hi] at h; cases h
  | some i => rw [hi] at h; exact ⟨i, rfl, by simpa using h⟩
theorem lst_elem {t e : TypeId} {i : TypeInfo} {xs : List AV} {tip : Tip} {c : Value} {n : Int} {y : AV} (k : IntKind) (hu : P.underlying t = some (.slice e)) (hi : P.info? e = some i) (hpos : 0 < i.size) (hx : RV G W (.lst i.size xs tip) c) (h0 : 0 ≤ n) (hy : xs[n.toNat]? = some y) :
    ∃ u, (Instr.indexAt t c (.int k n)).run P W = .ok u W ∧ RV G W (.lp y.cells) u := by
  cases hx with
  | @lst _ _ _ ad n' cap cs hn hr hs' hm hc' hx' ht =>
    obtain ⟨hlt, _⟩ := List.getElem?_eq_some_iff.1 hy
    have hl : cs.length = xs.length * i.size := by rw [← hr.len, flat_len (sz := i.size) xs hs']
    have hne : cs ≠ [] := by
      intro e
      rw [e] at hl
      have : 0 < xs.length * i.size := Nat.mul_pos (by omega) (by omega)
      simp at hl; omega
    obtain ⟨b, off, rfl, _⟩ := hm.2 hne
    refine ⟨.pointer (some ⟨b, off + n.toNat * i.size, none⟩), ?_, ?_⟩
    · have h2 : n < (n' : Int) := by omega
      simp [Instr.indexAt, run_underlying hu, asIntOf, h0, h2, sizeOf, typeInfo, hi, add_plain']
    · exact .lp (elem_at hs' hr hy) ((hm.drop).take _)
theorem indexAddr_sound {t : TypeId} {x : AV} {c : Value} {n : Int} (k : IntKind) (hx : RV G W x c) (h : indexAddr P H t x n = some (r, H')) : Same H H' ∧ (H'.cd → H.cd) ∧ (H'.cd → ∃ u, (Instr.indexAt t c (.int k n)).run P W = .ok u W ∧ RV G W r u) := by
  unfold indexAddr at h
  split at h
  · rename_i e hu
    split at h
    · rename_i s hs
      obtain ⟨i, hi, his⟩ := sz_info hs
      split at h
      · rename_i sz0 xs tip0
        split at h
        · rename_i hc
          obtain ⟨rfl, hpos⟩ := hc
          rw [← his] at hx hpos
          split at h
          · split at h
            · rename_i y hy
              cases h
              exact ⟨⟨rfl, rfl, rfl, rfl, rfl⟩, fun h => (cds_out (elem_ok hy) h).1, fun hcd => lst_elem k hu hi hpos hx (cds_out (elem_ok hy) hcd).2.1 (cds_out (elem_ok hy) hcd).2.2⟩
            · cases h
          · split at h
            · rename_i h0
              split at h
              · rename_i y hy
                cases h
                exact ⟨.refl _, fun h => h, fun _ => lst_elem k hu hi hpos hx h0 hy⟩
              · cases h
            · cases h
        · cases h
      · split at h
        · rename_i H1 hH1
          cases h
          obtain ⟨hS, hcd⟩ := need_some hH1
          refine ⟨hS, fun h => (hcd h).1, fun h => ?_⟩
          have hc := (hcd h).2
          cases hx with
          | sl hd =>
            refine ⟨_, ?_, .pi hd⟩
            simp [Instr.indexAt, run_underlying hu, asIntOf, hc.1, hc.2, sizeOf, typeInfo, hi, add_plain', his]
        · cases h
      · cases h
    · cases h
  · rename_i len e hu
    split at h
    · rename_i s hs
      obtain ⟨i, hi, his⟩ := sz_info hs
      split at h
      · rename_i H1 hH1
        obtain ⟨hS, hcd⟩ := need_some hH1
        have hrun : H1.cd → ∀ b off, (Instr.indexAt t (.pointer (some ⟨b, off, none⟩)) (.int k n)).run P W = .ok (.pointer (some ⟨b, off + n.toNat * s, none⟩)) W := fun h b off => by
          have hc := (hcd h).2
          simp [Instr.indexAt, run_underlying hu, asIntOf, Instr.sureAddr, hc.1, hc.2, sizeOf, typeInfo, hi, add_plain', his]
        split at h
        · cases hx with
          | ptr hd => cases h; exact ⟨hS, fun h => (hcd h).1, fun h => ⟨_, hrun h _ _, .pi hd⟩⟩
        · cases hx with
          | pi hd => cases h; exact ⟨hS, fun h => (hcd h).1, fun h => ⟨_, hrun h _ _, .pi hd⟩⟩
        · cases hx with
          | lp hc' hm => cases h; exact ⟨hS, fun h => (hcd h).1, fun h => ⟨_, hrun h _ _, .lp (hc'.drop _) hm.drop⟩⟩
        · rename_i ad
          cases hx
          obtain ⟨b, off, spot⟩ := ad
          split at h
          · rename_i hsp
            simp only at hsp
            subst hsp
            cases h
            exact ⟨hS, fun h => (hcd h).1, fun h => ⟨_, hrun h _ _, .v _⟩⟩
          · cases h
        · cases h
      · cases h
    · cases h
  · cases h
theorem sb_run {k : IntKind} {i : Int} {y : Nat} {code : BoundsCode} (h0 : 0 ≤ i) (h1 : i ≤ y) (w : World) : (Instr.sliceBound (.int k i) y code).run P w = .ok i.toNat w := by
  simp [Instr.sliceBound, asIntOf, h0, h1]
theorem bnd_rel (hA : RVs G W act a.tmps.toList) {d : Int} {x : Option Operand} {l : Int} (h : bnd act d x = some l) : (x = none ∧ l = d) ∨ ∃ p k, x = some p ∧ a.eval p = .int k l := by
  cases x with
  | none => simp only [bnd, Option.some.injEq] at h; exact .inl ⟨rfl, h.symm⟩
  | some p => obtain ⟨k, e⟩ := intOf_rel hA h; exact .inr ⟨p, k, rfl, e⟩
/-- The bounds of a slice without its third number. -/
theorem bounds_run (hA : RVs G W act a.tmps.toList) (isSlice : Bool) {len cap : Nat} {lo hi : Option Operand} {l h : Int} (hl : bnd act 0 lo = some l) (hh : bnd act len hi = some h) (h0 : 0 ≤ l) (h1 : l ≤ h) (h2 : h ≤ cap) (w : World) :
    (Instr.sliceBounds isSlice len cap (lo.map a.eval) (hi.map a.eval) none).run P w = .ok (l.toNat, h.toNat, cap) w := by
  have e3 : ((h.toNat : Nat) : Int) = h := Int.toNat_of_nonneg (by omega)
  rcases bnd_rel hA hl with ⟨rfl, rfl⟩ | ⟨p, k, rfl, ep⟩ <;> rcases bnd_rel hA hh with ⟨rfl, rfl⟩ | ⟨q, k', rfl, eq⟩
  · simp [Instr.sliceBounds]
  · simp [Instr.sliceBounds, eq, sb_run (P := P) (show 0 ≤ h by omega) h2]
  · simp [Instr.sliceBounds, ep, sb_run (P := P) h0 h1]
  · simp [Instr.sliceBounds, ep, eq, sb_run (P := P) (show 0 ≤ h by omega) h2, sb_run (P := P) (y := h.toNat) h0 (by omega)]
theorem bounds3_run (hA : RVs G W act a.tmps.toList) (isSlice : Bool) {len cap : Nat} {lo hi : Option Operand} {l h m : Int} {k'' : IntKind} {mv : Value} (hl : bnd act 0 lo = some l) (hh : bnd act len hi = some h) (hhi : hi ≠ none) (hm : mv = .int k'' m) (h0 : 0 ≤ l) (h1 : l ≤ h) (h2 : h ≤ m) (h3 : m ≤ cap) (w : World) :
    (Instr.sliceBounds isSlice len cap (lo.map a.eval) (hi.map a.eval) (some mv)).run P w = .ok (l.toNat, h.toNat, m.toNat) w := by
  have e3 : ((h.toNat : Nat) : Int) = h := Int.toNat_of_nonneg (by omega)
  have e4 : ((m.toNat : Nat) : Int) = m := Int.toNat_of_nonneg (by omega)
  subst hm
  rcases bnd_rel hA hh with ⟨rfl, rfl⟩ | ⟨q, k', rfl, eq⟩
  · exact absurd rfl hhi
  rcases bnd_rel hA hl with ⟨rfl, rfl⟩ | ⟨p, k, rfl, ep⟩
  · simp [Instr.sliceBounds, eq, sb_run (P := P) (show 0 ≤ m by omega) h3, sb_run (P := P) (y := m.toNat) (show 0 ≤ h by omega) (by omega)]
  · simp [Instr.sliceBounds, ep, eq, sb_run (P := P) (show 0 ≤ m by omega) h3, sb_run (P := P) (y := m.toNat) (show 0 ≤ h by omega) (by omega), sb_run (P := P) (y := h.toNat) h0 (by omega)]
theorem lst_cut {sz : Nat} {xs : List AV} {ad : Option Addr} {cap : Nat} {cs : List Value} (hr : PVs G.prot W (xs.flatMap AV.cells) cs) (hs : ∀ x ∈ xs, x.cells.length = sz) (hm : Mem G.prot W ad cs) (hx : cap ≤ maxLen) {l h m : Nat} (h1 : l ≤ h) (h2 : h ≤ m) (h3 : m ≤ cap) (h4 : h ≤ xs.length) (tip : Tip) (htip : tip = .no ∨ (tip = .exact ∧ m = h)) :
    RV G W (.lst sz ((xs.take h).drop l) tip) (sliced ad l h m sz) := by
  unfold sliced
  have hr2 : PVs G.prot W (((xs.take h).drop l).flatMap AV.cells) ((cs.take (h * sz)).drop (l * sz)) := by
    have := (hr.take (h * sz)).drop (l * sz)
    rwa [flat_take xs h hs, flat_drop _ l (fun x hx => hs x (List.mem_of_mem_take hx))] at this
  have hs2 : ∀ x ∈ (xs.take h).drop l, x.cells.length = sz := fun x hx => hs x (List.mem_of_mem_take (List.mem_of_mem_drop hx))
  have hl2 : ((xs.take h).drop l).length = h - l := by rw [List.length_drop, List.length_take]; omega
  refine .lst (cs := (cs.take (h * sz)).drop (l * sz)) hl2.symm hr2 hs2 ?_ (by omega) (by omega) ?_
  · have hlen : ((cs.take (h * sz)).drop (l * sz)).length = (h - l) * sz := by
      rw [← hr2.len, flat_len _ hs2, hl2]
    refine ⟨fun u hu => hm.1 u (List.mem_of_mem_take (List.mem_of_mem_drop hu)), fun hne => ?_⟩
    have hml : m ≠ l := by
      intro e
      have : h - l = 0 := by omega
      rw [this, Nat.zero_mul] at hlen
      exact hne (List.eq_nil_of_length_eq_zero hlen)
    rw [if_neg hml]
    have hcs : cs ≠ [] := by rintro rfl; simp at hne
    obtain ⟨b, off, rfl, _⟩ := hm.2 hcs
    obtain ⟨b', off', e, hc⟩ := ((hm.take (h * sz)).drop (k := l * sz)).2 hne
    simp only [Option.some.injEq, Addr.mk.injEq, and_true] at e
    obtain ⟨rfl, rfl⟩ := e
    exact ⟨_, _, by rw [Option.map_some, add_plain'], hc⟩
  · rcases htip with rfl | ⟨rfl, e⟩
    · trivial
    · show m - l = h - l; omega
theorem sl_cut {id off b l h m : Nat} {s : Nat} (hd : G.δ id = some b) (z : l = 0 ∨ l < m) : RV G W (.sl id (off + l * s) (h - l) (m - l)) (sliced (some ⟨b, off, none⟩) l h m s) := by
  unfold sliced
  by_cases hml : m = l
  · have h0 : l = 0 := by omega
    subst h0
    rw [if_pos hml, Nat.zero_mul, Nat.add_zero]; exact .sl hd
  · rw [if_neg hml, Option.map_some, add_plain']; exact .sl hd
theorem bnd_zero {l : Int} (h : bnd act 0 none = some l) : l = 0 := by simp only [bnd, Option.some.injEq] at h; exact h.symm
theorem slice_sound (hA : RVs G W act a.tmps.toList) {t : TypeId} {x : AV} {c : Value} {lo hi mx : Option Operand} (hx : RV G W x c) (h : slice P act H t x lo hi mx = some (r, H')) :
    Same H H' ∧ (H'.cd → H.cd) ∧ (H'.cd → ∃ u, (Instr.sliceAt t c (lo.map a.eval) (hi.map a.eval) (mx.map a.eval)).run P W = .ok u W ∧ RV G W r u) := by
  unfold slice at h
  split at h
  · rename_i e hu
    have hel : P.elem t = e := by unfold Program.elem; rw [hu]
    have hu' : P.underlying t = some (.slice (P.elem t)) := by rw [hel]; exact hu
    split at h
    · rename_i s hs
      obtain ⟨i, hi', his⟩ := sz_info hs
      have fin : ∀ (ad : Option Addr) (len cap l h' m : Nat), (Instr.sliceBounds true len cap (lo.map a.eval) (hi.map a.eval) (mx.map a.eval)).run P W = .ok (l, h', m) W →
          (Instr.sliceAt t (.slice ad len cap) (lo.map a.eval) (hi.map a.eval) (mx.map a.eval)).run P W = .ok (sliced ad l h' m s) W := fun ad len cap l h' m hb => by
        rw [run_sliceAt_slice W t _ _ _ _ hu', run_slice_any W t ad len cap hu', hb]
        simp [sizeOf, typeInfo, hel, hi', his]
      split at h
      · cases hx with
        | @lst _ xs tip ad n' cap cs hn hr hs' hm hc' hx' ht =>
          split at h
          · rename_i hse
            subst hse
            split at h
            · cases h
              refine ⟨.refl _, fun h => h, fun _ => ⟨_, fin ad n' cap 0 n' cap (by simp [Instr.sliceBounds]), ?_⟩⟩
              have e1 : sliced ad 0 n' cap i.size = .slice ad n' cap := by
                unfold sliced
                cases ad with
                | none => simp
                | some q => simp [Addr.add]
              rw [← his, e1]
              exact .lst hn hr (by rw [his]; exact hs') hm hc' hx' (by rw [his]; exact ht)
            · split at h
              · rename_i l hl
                split at h
                · rename_i h' hh
                  rw [← hn] at hh
                  split at h
                  · unfold cut at h
                    dsimp only at h
                    split at h
                    · rename_i H1 hH1
                      cases h
                      obtain ⟨hS, hcd⟩ := need_some hH1
                      refine ⟨hS, fun h => (hcd h).1, fun h => ?_⟩
                      obtain ⟨q1, q2, q3⟩ := (hcd h).2
                      exact ⟨_, fin _ _ _ _ _ _ (bounds_run hA true hl hh q1 q2 (by omega) W), lst_cut hr hs' hm hx' (by omega) (by omega) (Nat.le_refl _) (by omega) _ (.inl rfl)⟩
                    · cases h
                  · rename_i mo
                    split at h
                    · rename_i _ _ hi0 m hmi
                      obtain ⟨km, em⟩ := intOf_rel hA hmi
                      unfold cut at h
                      dsimp only at h
                      split at h
                      · rename_i H1 hH1
                        cases h
                        obtain ⟨hS, hcd⟩ := need_some hH1
                        refine ⟨hS, fun h => (hcd h).1, fun h => ?_⟩
                        obtain ⟨q1, q2, q3, q4⟩ := (hcd h).2
                        have hhi : (some hi0 : Option Operand) ≠ none := by simp
                        exact ⟨_, fin _ _ _ _ _ _ (bounds3_run hA true hl hh hhi em q1 q2 (by omega) (by omega) W), lst_cut hr hs' hm hx' (by omega) (by omega) (by omega) (by omega) _ (.inr ⟨rfl, by rw [q3]⟩)⟩
                      · cases h
                    · cases h
                · cases h
              · cases h
          · cases h
      · rename_i id off len cap
        cases hx with
        | @sl _ _ _ _ b hd =>
          split at h
          · split at h
            · rename_i l hl
              split at h
              · rename_i h' hh
                have e2 : ∀ q : Int, 0 ≤ l → l ≤ h' → h'.toNat - l.toNat = (h' - l).toNat := fun _ _ _ => by omega
                split at h
                · split at h
                  · rename_i H1 hH1
                    cases h
                    obtain ⟨hS, hcd⟩ := need_some hH1
                    refine ⟨hS, fun h => (hcd h).1, fun h => ?_⟩
                    obtain ⟨q1, q2, q3⟩ := (hcd h).2
                    have hl0 := bnd_zero hl
                    refine ⟨_, fin _ _ _ _ _ _ (bounds_run hA true hl hh q1 q2 q3 W), ?_⟩
                    rw [← e2 0 q1 q2]
                    have := sl_cut (W := W) (off := off) (l := l.toNat) (h := h'.toNat) (m := cap) (s := s) hd (.inl (by omega))
                    have h0 : l.toNat = 0 := by omega
                    rw [h0, Nat.zero_mul, Nat.add_zero] at this
                    rw [h0]
                    exact this
                  · cases h
                · split at h
                  · rename_i H1 hH1
                    cases h
                    obtain ⟨hS, hcd⟩ := need_some hH1
                    refine ⟨hS, fun h => (hcd h).1, fun h => ?_⟩
                    obtain ⟨q1, q2, q3, q4⟩ := (hcd h).2
                    refine ⟨_, fin _ _ _ _ _ _ (bounds_run hA true hl hh q1 q2 q3 W), ?_⟩
                    rw [← e2 0 q1 q2]
                    exact sl_cut hd (.inr (by omega))
                  · cases h
              · cases h
            · cases h
          · cases h
      · cases h
    · cases h
  · rename_i n e hu
    split at h
    · rename_i s hs
      obtain ⟨i, hi', his⟩ := sz_info hs
      split at h
      · rename_i io hio
        obtain ⟨b, hd, rfl⟩ := ptr_rel hx hio
        split at h
        · split at h
          · rename_i l hl
            split at h
            · rename_i h' hh
              have e2 : ∀ q : Int, 0 ≤ l → l ≤ h' → h'.toNat - l.toNat = (h' - l).toNat := fun _ _ _ => by omega
              have fin : 0 ≤ l → l ≤ h' → h' ≤ n → (Instr.sliceAt t (.pointer (some ⟨b, io.2, none⟩)) (lo.map a.eval) (hi.map a.eval) none).run P W = .ok (sliced (some ⟨b, io.2, none⟩) l.toNat h'.toNat n s) W := fun q1 q2 q3 => by
                have hrun := bounds_run (P := P) hA false hl hh q1 q2 q3 W
                simp only [Instr.sliceAt, Sem.run_bind, run_underlying hu, Result.andThen_ok, Instr.sureAddr, Sem.run_pure, hrun]
                simp [sizeOf, typeInfo, hi', his, sliced]
                split <;> rfl
              split at h
              · split at h
                · rename_i H1 hH1
                  cases h
                  obtain ⟨hS, hcd⟩ := need_some hH1
                  refine ⟨hS, fun h => (hcd h).1, fun h => ?_⟩
                  obtain ⟨q1, q2, q3⟩ := (hcd h).2
                  have hl0 := bnd_zero hl
                  refine ⟨_, fin q1 q2 q3, ?_⟩
                  rw [← e2 0 q1 q2]
                  have := sl_cut (W := W) (off := io.2) (l := l.toNat) (h := h'.toNat) (m := n) (s := s) hd (.inl (by omega))
                  have h0 : l.toNat = 0 := by omega
                  rw [h0, Nat.zero_mul, Nat.add_zero] at this
                  rw [h0]
                  exact this
                · cases h
              · split at h
                · rename_i H1 hH1
                  cases h
                  obtain ⟨hS, hcd⟩ := need_some hH1
                  refine ⟨hS, fun h => (hcd h).1, fun h => ?_⟩
                  obtain ⟨q1, q2, q3, q4⟩ := (hcd h).2
                  refine ⟨_, fin q1 q2 q3, ?_⟩
                  rw [← e2 0 q1 q2]
                  exact sl_cut hd (.inr (by omega))
                · cases h
            · cases h
          · cases h
        · cases h
      · cases h
    · cases h
  · rename_i hu
    split at h
    · rename_i q
      split at h
      · split at h
        · rename_i l hl
          split at h
          · rename_i h' hh
            split at h
            · rename_i H1 hH1
              cases h
              obtain ⟨hS, hcd⟩ := need_some hH1
              refine ⟨hS, fun h => (hcd h).1, fun h => ?_⟩
              obtain ⟨q1, q2, q3⟩ := (hcd h).2
              cases hx
              refine ⟨_, ?_, .v _⟩
              have hrun := bounds_run (P := P) hA false hl hh q1 q2 q3 W
              rw [Option.map_none, run_sliceAt_string W t _ _ _ _ hu]
              unfold Instr.slice
              simp only [Sem.run_bind, run_underlying hu, Result.andThen_ok, Option.isSome_none, Bool.false_eq_true, if_false, hrun, Sem.run_pure]
            · cases h
          · cases h
        · cases h
      · cases h
    · cases h
  · cases h
theorem extract_sound {x : AV} {c : Value} {i : Nat} (hx : RV G W x c) (h : extract x i = some r) : ∃ u, (Instr.extract c i).run P W = .ok u W ∧ RV G W r u := by
  unfold extract at h
  split at h
  · cases hx with
    | @tuple _ cs hv =>
      obtain ⟨u, hu, hr⟩ := hv.get i r h
      exact ⟨u, by have : cs[i]? = some u := by simpa using hu
                   simp [Instr.extract, this], hr⟩
  · rename_i vs
    cases hx
    split at h
    · rename_i u hu
      cases h
      exact ⟨u, by simp [Instr.extract, hu], .v _⟩
    · cases h
  · cases h
end
end Go.Proofs.Ytdijakobocnceaa.AE
