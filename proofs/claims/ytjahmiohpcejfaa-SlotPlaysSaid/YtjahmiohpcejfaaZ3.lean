/-
  The law SlotOnce of layer 31: the call comes to true.
-/
import Derived.Test.YtjahmiohpcejfaaZ2
import Derived.Test.YtjahmiohpcejfaaAEIn
import Derived.Test.YtjahmiohpcejfaaFld
import Derived.Test.YtjahmiohpcejfaaAEList
namespace Go.Proofs.Ytjahmiohpcejfaa.AE
set_option maxRecDepth 100000
open Go.RowKit
theorem oPut_ok : ∀ args H r H', obj? (oPut tsX) args H = some (r, H') → HSound1 Try.prog nro 9 args H r H' := by
  refine oSl_ok (has_fn (by kernel_rfl)) fun args t C r C' h => ?_
  split at h
  · rename_i a
    simp only [Option.some.injEq, Prod.mk.injEq, Bool.and_eq_true] at h
    obtain ⟨rfl, rfl, h, ha⟩ := h
    obtain ⟨rfl, P, n, hG, rfl⟩ := okC_out h
    rw [(itOk_out ha).1]
    refine (fs_put hG (itD a)).mono fun r h => ?_
    rintro ⟨rfl, rfl⟩
    refine ⟨.inl ?_, [], [], ?_⟩
    · show _ = AV.v (.tuple #[.int .i64 (putK (decP (enc P n)) (decN (enc P n)) (itD a 0)), .int .i64 (putE (decP (enc P n)) (decN (enc P n)) (itD a 0))])
      rw [(dec_enc hG).1, (dec_enc hG).2]
    · show _ = hp ([(60, enc (putP (decP (enc P n)) (decN (enc P n)) (itD a)) (decN (enc P n)))] ++ []) []
      rw [(dec_enc hG).1, (dec_enc hG).2]; rfl
  · cases h
theorem oTake_ok : ∀ args H r H', obj? (oTake tsX) args H = some (r, H') → HSound1 Try.prog nro 11 args H r H' := by
  refine oSl_ok (has_fn (by kernel_rfl)) fun args t C r C' h => ?_
  split at h
  · rename_i k
    simp only [Option.some.injEq, Prod.mk.injEq] at h
    obtain ⟨rfl, rfl, h⟩ := h
    obtain ⟨rfl, P, n, hG, rfl⟩ := okC_out h
    refine (fs_take hG k).mono fun r h => ?_
    rintro ⟨rfl, more, rfl⟩
    refine ⟨.inl ?_, [], more, ?_⟩
    · show _ = AV.v (.tuple #[.agg #[.int .i64 (oF (hdO ((allP (decP (enc P n)) (decN (enc P n))).filter (wT k))) 0), .int .i64 (oF (hdO ((allP (decP (enc P n)) (decN (enc P n))).filter (wT k))) 1), .int .i64 (oF (hdO ((allP (decP (enc P n)) (decN (enc P n))).filter (wT k))) 2), .int .i64 (oF (hdO ((allP (decP (enc P n)) (decN (enc P n))).filter (wT k))) 3), .int .i64 (oF (hdO ((allP (decP (enc P n)) (decN (enc P n))).filter (wT k))) 4), .int .i64 (oF (hdO ((allP (decP (enc P n)) (decN (enc P n))).filter (wT k))) 5), .int .i64 (oF (hdO ((allP (decP (enc P n)) (decN (enc P n))).filter (wT k))) 6)], .bool (hdO ((allP (decP (enc P n)) (decN (enc P n))).filter (wT k))).isSome])
      rw [(dec_enc hG).1, (dec_enc hG).2]; rfl
    · rw [x_tC hG]
  · cases h
theorem oLate_ok : ∀ args H r H', obj? (oLate tsX) args H = some (r, H') → HSound1 Try.prog nro 14 args H r H' := by
  refine oSl_ok (has_fn (by kernel_rfl)) fun args t C r C' h => ?_
  split at h
  · rename_i k
    simp only [Option.some.injEq, Prod.mk.injEq] at h
    obtain ⟨rfl, rfl, h⟩ := h
    obtain ⟨rfl, P, n, hG, rfl⟩ := okC_out h
    refine (fs_late hG k).mono fun r h => ?_
    rintro ⟨rfl, more, rfl⟩
    refine ⟨.inl ?_, [], more, ?_⟩
    · rw [x_lL hG]
    · rw [x_lC hG]
  · cases h
theorem oFree_ok : ∀ args H r H', obj? (oFree tsX) args H = some (r, H') → HSound1 Try.prog nro 21 args H r H' := by
  refine oSl_ok (has_fn (by kernel_rfl)) fun args t C r C' h => ?_
  split at h
  · simp only [Option.some.injEq, Prod.mk.injEq] at h
    obtain ⟨rfl, rfl, h⟩ := h
    obtain ⟨rfl, P, n, hG, rfl⟩ := okC_out h
    refine (fs_free hG).mono fun r h => ?_
    rintro ⟨rfl, rfl⟩
    exact ⟨.inl (by rw [x_fr hG]), [], [], rfl⟩
  · cases h
theorem knownX : Known nro (prX tsX) := by
  intro g p h
  unfold prX at h
  split at h
  · cases h; exact known31 _ _ rfl
  · cases h; exact oPut_ok
  · cases h; exact oTake_ok
  · cases h; exact oLate_ok
  · cases h; exact oAll_ok
  · cases h; exact oFree_ok
  · cases h; exact oPlace_ok
  · cases h; exact oAt_ok
  · cases h
/-- No id at two places. -/
def Dist (P : Nat → Option It) : Prop := ∀ i j f g, P i = some f → P j = some g → f 0 = g 0 → i = j
theorem fnd_none {w : Nat → Bool} : ∀ {m i : Nat}, fnd w m i = none → ∀ j, i ≤ j → j < i + m → w j = false
  | 0, i, _, j, h1, h2 => by omega
  | m + 1, i, h, j, h1, h2 => by
    unfold fnd at h
    split at h
    · cases h
    · rename_i hw
      by_cases hj : j = i
      · subst hj; simpa using hw
      · exact fnd_none h j (by omega) (by omega)
theorem mem_all {P : Nat → Option It} {n : Nat} {f : It} : f ∈ allP P n ↔ ∃ i, i < n ∧ P i = some f := by
  unfold allP
  simp [List.mem_filterMap, List.mem_range]
theorem dist_emp {P : Nat → Option It} (hD : Dist P) (w : It → Bool) (m : Nat) : Dist (empP w P m) := by
  have key : ∀ i f, empP w P m i = some f → P i = some f := fun i f h => by
    unfold empP at h
    split at h
    · cases h
    · exact h
  exact fun i j f g hi hj e => hD i j f g (key i f hi) (key j g hj) e
theorem dist_put {P : Nat → Option It} {n : Nat} (hG : Good P n) (hD : Dist P) (f : It) : Dist (putP P n f) := by
  unfold putP
  cases h1 : fnd (wI P (f 0)) n 0 with
  | some k => exact hD
  | none =>
    show Dist (match fnd (wN P) n 0 with | some k => fun j => if j = k then some f else P j | none => P)
    cases hk : fnd (wN P) n 0 with
    | none => exact hD
    | some k =>
      have no : ∀ j g, P j = some g → g 0 ≠ f 0 := fun j g hg e => by
        have hj : j < n := by
          rcases Nat.lt_or_ge j n with h | h
          · exact h
          · rw [hG.2.1 j h] at hg; cases hg
        have := fnd_none h1 j (Nat.zero_le _) (by omega)
        have h2 : hasO (P j) (f 0) = false := this
        rw [hg] at h2
        have h2 : (g 0 == f 0) = false := h2
        rw [e] at h2; simp at h2
      intro i j a b hi hj e
      have hi : (if i = k then some f else P i) = some a := hi
      have hj : (if j = k then some f else P j) = some b := hj
      split at hi <;> split at hj
      · omega
      · cases hi; exact absurd e.symm (no j b hj)
      · cases hj; exact absurd e (no i a hi)
      · exact hD i j a b hi hj e
theorem mi_get {L : List It} {k : Nat} (h : k < L.length) : (L.map (fun f : It => AV.v (.agg #[.int .i64 (f 0), .int .i64 (f 1), .int .i64 (f 2), .int .i64 (f 3), .int .i64 (f 4), .int .i64 (f 5), .int .i64 (f 6)]))).getD (Int.toNat (k : Int)) .dead = .v (itV L[k]) := by
  rw [Int.toNat_natCast, List.getD_eq_getElem?_getD, List.getElem?_map, List.getElem?_eq_getElem h]; rfl
theorem mi_el {L : List It} {k : Nat} (h : k < L.length) : (0 : Int) ≤ (k : Int) ∧ (L.map (fun f : It => AV.v (.agg #[.int .i64 (f 0), .int .i64 (f 1), .int .i64 (f 2), .int .i64 (f 3), .int .i64 (f 4), .int .i64 (f 5), .int .i64 (f 6)])))[Int.toNat (k : Int)]? = some (.v (itV L[k])) := ⟨Int.natCast_nonneg k, by
  rw [Int.toNat_natCast, List.getElem?_map, List.getElem?_eq_getElem h]; rfl⟩
theorem ac_get {l : List (Nat → Int)} {k : Nat} (h : k < l.length) : (l.map fun a : Nat → Int => AV.v (.agg #[.int .i64 (a 0), .int .i64 (a 1), .int .i64 (a 2), .int .i64 (a 3), .int .i64 (a 4), .int .i64 (a 5), .int .i64 (a 6), .int .i64 (a 7), .int .i64 (a 8)])).getD (Int.toNat (k : Int)) .dead = acV l[k] := by
  rw [Int.toNat_natCast, List.getD_eq_getElem?_getD, List.getElem?_map, List.getElem?_eq_getElem h]; rfl
theorem ac_get2 {l : List (Nat → Int)} {k : Nat} (h : k < l.length) : (l.map acV).getD (Int.toNat (k : Int)) .dead = acV l[k] := ac_get h
theorem ac_el {l : List (Nat → Int)} {k : Nat} (h : k < l.length) : (0 : Int) ≤ (k : Int) ∧ (l.map fun a : Nat → Int => AV.v (.agg #[.int .i64 (a 0), .int .i64 (a 1), .int .i64 (a 2), .int .i64 (a 3), .int .i64 (a 4), .int .i64 (a 5), .int .i64 (a 6), .int .i64 (a 7), .int .i64 (a 8)]))[Int.toNat (k : Int)]? = some (acV l[k]) := ⟨Int.natCast_nonneg k, by
  rw [Int.toNat_natCast, List.getElem?_map, List.getElem?_eq_getElem h]; rfl⟩
end Go.Proofs.Ytjahmiohpcejfaa.AE
namespace Go.Proofs.Ytjahmiohpcejfaa.AE
set_option maxRecDepth 100000
open Go.RowKit
end Go.Proofs.Ytjahmiohpcejfaa.AE
namespace Go.Proofs.Ytjahmiohpcejfaa.AE
set_option maxRecDepth 100000
open Go.RowKit
theorem lows_enc2 (a b : Nat) (P : Nat → Option It) (n : Nat) (t : TypeId) (c : Nat → Int) (more : List (TypeId × List AV)) : (List.take 2 ((60, stC (fun j => pcA (P j)) n) :: (t, acC c) :: more)).all (fun z => lows a b z.2) = true := by
  show (lows a b (stC (fun j => pcA (P j)) n) && (lows a b (acC c) && true)) = true
  have h1 : lows a b (stC (fun j => pcA (P j)) n) = true := by
    unfold stC
    simp only [lows, lows_pc, Bool.true_and, Bool.and_true]
    rfl
  rw [h1]; rfl
theorem beq7 {x : It} {y : It} (h : ∀ i, x i = y i) : (x 0 == y 0 && (x 1 == y 1 && (x 2 == y 2 && (x 3 == y 3 && (x 4 == y 4 && (x 5 == y 5 && (x 6 == y 6 && true))))))) = true := by
  simp only [h, beq_self_eq_true, Bool.true_and]
end Go.Proofs.Ytjahmiohpcejfaa.AE
namespace Go.Proofs.Ytjahmiohpcejfaa.AE
set_option maxRecDepth 100000
open Go.RowKit
theorem itOk_a (a : Nat → Int) : itOk #[.int .i64 (a 2), .int .i64 (a 3), .int .i64 (a 4), .int .i64 (a 5), .int .i64 (a 6), .int .i64 (a 7), .int .i64 (a 8)] = true := rfl
theorem uO_a (a : Nat → Int) : tsX.uO #[.int .i64 (a 2), .int .i64 (a 3), .int .i64 (a 4), .int .i64 (a 5), .int .i64 (a 6), .int .i64 (a 7), .int .i64 (a 8)] = true := rfl
end Go.Proofs.Ytjahmiohpcejfaa.AE
namespace Go.Proofs.Ytjahmiohpcejfaa.AE
set_option maxRecDepth 100000
open Go.RowKit
theorem lows_enc1 (a b : Nat) (P : Nat → Option It) (n : Nat) (more : List (TypeId × List AV)) : (List.take 1 ((60, stC (fun j => pcA (P j)) n) :: more)).all (fun z => lows a b z.2) = true := by
  show (lows a b (stC (fun j => pcA (P j)) n) && true) = true
  have h1 : lows a b (stC (fun j => pcA (P j)) n) = true := by
    unfold stC
    simp only [lows, lows_pc, Bool.true_and, Bool.and_true]
    rfl
  rw [h1]; rfl
def P0 : Nat → Option It := fun _ => none
end Go.Proofs.Ytjahmiohpcejfaa.AE
namespace Go.Proofs.Ytjahmiohpcejfaa
set_option maxRecDepth 100000
open Go.RowKit
theorem fldn_in {H : Type} {enc : TypeId × Value → H} {w : World} {t e : TypeId} {a : Option Addr} {len cap d2 k : Nat} {d : DataW H} {p : List MemPlace}
    (ht : Try.prog.underlying t = some (.slice e)) (ha : allInts Try.prog d2 e = true) (hC : Try.prog.cellsOf e = k) (hk : 0 < k)
    (h : DataW.Trod enc Try.prog w 0 (fun _ => true) true t (.slice a len cap) d p) :
    ∃ f : Nat → Nat → Int, Fld w a len k f ∧ len ≤ cap ∧ cap ≤ maxLen := by
  obtain ⟨fuel, hf⟩ := h
  rcases Deep.open_slice ht hf with ⟨hcs, _⟩ | ⟨x, l, c, m, n, D, Pl, hcs, hb, hl, hm, hmm, hx, hi⟩
  · simp [Value.cells] at hcs
    obtain ⟨rfl, rfl, rfl⟩ := hcs
    exact ⟨fun _ _ => 0, fun h => absurd h (by omega), Nat.le_refl _, Nat.zero_le _⟩
  · simp [Value.cells] at hcs
    obtain ⟨rfl, rfl, rfl⟩ := hcs
    have hmc : m = cap := by simpa using hmm
    subst hmc
    have cell : ∀ i j, i < len → j < k → ∃ z : Int, w.cell? (x.add (i * k + j)) = some (.int .i64 z) := by
      intro i j hil hj
      obtain ⟨cs', hc, ht'⟩ := hi i (by omega)
      rw [hC] at hc
      obtain ⟨l', g1, g2, g3⟩ := trod_ints d2 e _ _ _ ha ht'
      obtain ⟨_, hcl, hat⟩ := World.cells?_some hc
      have hjl : j < l'.length := by rw [g2, hC]; exact hj
      refine ⟨l'[j], ?_⟩
      rw [← Deep.add_add, hat j hj, g1, List.getElem?_map, List.getElem?_eq_getElem hjl]
      rfl
    refine ⟨fun i j => if h : i < len ∧ j < k then Classical.choose (cell i j h.1 h.2) else 0, fun hlen => ?_, hl, hm⟩
    have h0 := Classical.choose_spec (cell 0 0 hlen hk)
    obtain ⟨b, off, spot⟩ := x
    have hspot : spot = none := by simpa [Addr.add] using World.cell?_spot h0
    subst hspot
    refine ⟨b, off, rfl, fun i j hi hj => ?_⟩
    have h1 := Classical.choose_spec (cell i j hi hj)
    dsimp only
    rw [dif_pos ⟨hi, hj⟩, ← h1, Go.WideShapes.add_plain, Nat.add_assoc]
end Go.Proofs.Ytjahmiohpcejfaa
namespace Go.Proofs.Ytjahmiohpcejfaa
set_option maxRecDepth 100000
open Go.RowKit AE
def acF (f : Nat → Nat → Int) (n : Nat) : List (Nat → Int) := (List.range n).map f
def acK (f : Nat → Nat → Int) (j : Nat) : Value := .int .i64 (f (j / 9) (j % 9))
theorem acF_cells (f : Nat → Nat → Int) : ∀ n, ((acF f n).map acV).flatMap AV.cells = ((List.range (n * 9)).map (acK f)).map AV.v
  | 0 => rfl
  | n + 1 => by
    have ih := acF_cells f n
    have e : acF f (n + 1) = acF f n ++ [f n] := by unfold acF; rw [List.range_succ, List.map_append]; rfl
    have r : List.range ((n + 1) * 9) = List.range (n * 9) ++ [n * 9, n * 9 + 1, n * 9 + 2, n * 9 + 3, n * 9 + 4, n * 9 + 5, n * 9 + 6, n * 9 + 7, n * 9 + 8] := by
      rw [show (n + 1) * 9 = n * 9 + 1 + 1 + 1 + 1 + 1 + 1 + 1 + 1 + 1 by omega]
      simp only [List.range_succ, List.append_assoc, List.cons_append, List.nil_append, Nat.add_assoc]
    rw [e, List.map_append, List.flatMap_append, ih, r, List.map_append, List.map_append]
    congr 1
    have d0 : acK f (n * 9) = .int .i64 (f n 0) := by unfold acK; rw [show n * 9 / 9 = n by omega, show n * 9 % 9 = 0 by omega]
    have d1 : acK f (n * 9 + 1) = .int .i64 (f n 1) := by unfold acK; rw [show (n * 9 + 1) / 9 = n by omega, show (n * 9 + 1) % 9 = 1 by omega]
    have d2 : acK f (n * 9 + 2) = .int .i64 (f n 2) := by unfold acK; rw [show (n * 9 + 2) / 9 = n by omega, show (n * 9 + 2) % 9 = 2 by omega]
    have d3 : acK f (n * 9 + 3) = .int .i64 (f n 3) := by unfold acK; rw [show (n * 9 + 3) / 9 = n by omega, show (n * 9 + 3) % 9 = 3 by omega]
    have d4 : acK f (n * 9 + 4) = .int .i64 (f n 4) := by unfold acK; rw [show (n * 9 + 4) / 9 = n by omega, show (n * 9 + 4) % 9 = 4 by omega]
    have d5 : acK f (n * 9 + 5) = .int .i64 (f n 5) := by unfold acK; rw [show (n * 9 + 5) / 9 = n by omega, show (n * 9 + 5) % 9 = 5 by omega]
    have d6 : acK f (n * 9 + 6) = .int .i64 (f n 6) := by unfold acK; rw [show (n * 9 + 6) / 9 = n by omega, show (n * 9 + 6) % 9 = 6 by omega]
    have d7 : acK f (n * 9 + 7) = .int .i64 (f n 7) := by unfold acK; rw [show (n * 9 + 7) / 9 = n by omega, show (n * 9 + 7) % 9 = 7 by omega]
    have d8 : acK f (n * 9 + 8) = .int .i64 (f n 8) := by unfold acK; rw [show (n * 9 + 8) / 9 = n by omega, show (n * 9 + 8) % 9 = 8 by omega]
    show _ = [AV.v (acK f (n * 9)), AV.v (acK f (n * 9 + 1)), AV.v (acK f (n * 9 + 2)), AV.v (acK f (n * 9 + 3)), AV.v (acK f (n * 9 + 4)), AV.v (acK f (n * 9 + 5)), AV.v (acK f (n * 9 + 6)), AV.v (acK f (n * 9 + 7)), AV.v (acK f (n * 9 + 8))]
    rw [d0, d1, d2, d3, d4, d5, d6, d7, d8]; rfl
theorem ac_rv {w : World} {a : Option Addr} {n cap : Nat} {f : Nat → Nat → Int} (h : Fld w a n 9 f) (hc : n ≤ cap) (hx : cap ≤ maxLen) : RV (G0 w) w (acs (acF f n)) (.slice a n cap) := by
  refine .lst (cs := (List.range (n * 9)).map (acK f)) (by unfold acF; simp) (by rw [acF_cells]; exact PVs.map_v _) (fun x hx => by
    obtain ⟨c, _, rfl⟩ := List.mem_map.1 hx
    rfl) ⟨fun u hu => by
    obtain ⟨j, _, rfl⟩ := List.mem_map.1 hu
    rfl, fun hne => ?_⟩ hc hx trivial
  have hn : 0 < n := by
    rcases Nat.eq_zero_or_pos n with rfl | hn
    · exact absurd rfl hne
    · exact hn
  obtain ⟨b, off, e, hcell⟩ := h hn
  refine ⟨b, off, e, fun j u hu => ?_⟩
  have hj : j < n * 9 := by
    have := (List.getElem?_eq_some_iff.1 hu).1
    simpa using this
  have hu : u = acK f j := by
    rw [List.getElem?_map, List.getElem?_range hj] at hu
    exact (Option.some.inj hu).symm
  have hk := hcell (j / 9) (j % 9) (by omega) (by omega)
  have e2 : off + j / 9 * 9 + j % 9 = off + j := by omega
  rw [e2] at hk
  rw [hu]
  exact ⟨by show b < w.heap.size; exact cell_lt hk, hk⟩
section
variable {H : Type} {enc : TypeId × Value → H} {w : World} {base : Nat}
theorem act_in {v : Value} {d : DataW H} {p : List MemPlace} (hv : Value.okWide Try.prog w .any base 22 v) (h : DataW.Trod enc Try.prog w 0 (fun _ => true) true 22 v d p) :
    ∃ a len cap f, v = .slice a len cap ∧ Fld w a len 9 f ∧ len ≤ cap ∧ cap ≤ maxLen := by
  obtain ⟨a, len, cap, rfl⟩ := WideShapes.okWide_slice Try.underlying22 hv
  obtain ⟨f, h1, h2, h3⟩ := fldn_in (d2 := 8) (k := 9) Try.underlying22 (by kernel_rfl) (by kernel_rfl) (by decide) h
  exact ⟨a, len, cap, f, rfl, h1, h2, h3⟩
end
end Go.Proofs.Ytjahmiohpcejfaa
