/-
  Layer 31: SlotOnce, as trees.
-/
import Derived.Test.YtjahmiohpcejfaaZ1
import Derived.Test.YtjahmiohpcejfaaAETr
namespace Go.Proofs.Ytjahmiohpcejfaa.AE
set_option maxRecDepth 100000
open Go.RowKit
theorem pl_set {p : Nat → AV} {n : Int} {k : Nat} (hk : k < 16) (x : AV) : (stC p n).take (0 + Int.toNat (k : Int) * 1) ++ [x] ++ (stC p n).drop (0 + Int.toNat (k : Int) * 1 + [x].length) = stC (fun j => if j = k then x else p j) n := by
  rw [Int.toNat_natCast, Nat.zero_add, Nat.mul_one]
  rcases (by omega : k = 0 ∨ k = 1 ∨ k = 2 ∨ k = 3 ∨ k = 4 ∨ k = 5 ∨ k = 6 ∨ k = 7 ∨ k = 8 ∨ k = 9 ∨ k = 10 ∨ k = 11 ∨ k = 12 ∨ k = 13 ∨ k = 14 ∨ k = 15) with rfl | rfl | rfl | rfl | rfl | rfl | rfl | rfl | rfl | rfl | rfl | rfl | rfl | rfl | rfl | rfl <;> rfl
theorem set_pc (P : Nat → Option It) (k : Nat) (o : Option It) : (fun j => if j = k then pcA o else pcA (P j)) = fun j => pcA (if j = k then o else P j) := by
  funext j
  by_cases h : j = k
  · rw [if_pos h, if_pos h]
  · rw [if_neg h, if_neg h]
theorem fs_count (P : Nat → Option It) (n : Nat) : Fs Try.prog nro 30 [.ptr 0 0] (slH (fun j => pcA (P j)) n []) fun r h => r = gi n ∧ h = slH (fun j => pcA (P j)) n [] :=
  Fs.of_call (mu := fun _ => false) (known_none _) (cn_go (fun j => pcA (P j)) n fun r h => r = gi n ∧ h = slH (fun j => pcA (P j)) n []) ⟨trivial, rfl, rfl⟩
/-- What is at a place. -/
def atO (P : Nat → Option It) (n : Nat) (k : Int) : Option It := if 0 ≤ k ∧ k < n then P k.toNat else none
def oF (o : Option It) (i : Nat) : Int := match o with
  | some f => f i
  | none => 0
def atV (o : Option It) : AV := .v (.tuple #[.agg #[.int .i64 (oF o 0), .int .i64 (oF o 1), .int .i64 (oF o 2), .int .i64 (oF o 3), .int .i64 (oF o 4), .int .i64 (oF o 5), .int .i64 (oF o 6)], .bool o.isSome])
theorem at_sl : slotsOf 18 = 32 := by kernel_rfl
theorem at_re : resultsOf 18 = [.cell 4 30, .tmp 5] := by kernel_rfl
theorem fs_at (P : Nat → Option It) (n : Nat) (hn : n ≤ 16) (k : Int) : Fs Try.prog nro 18 [.ptr 0 0, gi k] (slH (fun j => pcA (P j)) n []) fun r h => (r = atV (atO P n k) ∨ ∃ y, clean r = some y ∧ Le y (atV (atO P n k))) ∧ ∃ more, h = hp ([(60, enc P n)] ++ more) [] := by
  refine Fs.of_body (has_fn (by kernel_rfl)) ?_
  rw [at_sl, at_re]
  refine Tr.of_flat (Trl.split 2 (Trl.of_code (mu := fun _ => false) (known_none _) (neN (by kernel_rfl)) (at_pre (fun j => pcA (P j)) n k _) (holds_bif (fun h1 => ⟨trivial, ?_⟩) fun h1 => holds_bif (fun h2 => ⟨trivial, ?_⟩) fun h2 => ?_)))
  · show Trl _ _ ((flatten (bodyOf 18)).drop 2) (atA (gi k) true) _ _
    have h1 := of_decide_eq_true h1
    have e : atO P n k = none := by unfold atO; rw [if_neg (by omega)]
    rw [e]
    refine Trl.of_code (mu := fun _ => false) (known_none _) (neN (by kernel_rfl)) (at_t (fun j => pcA (P j)) n k _) ⟨trivial, .inr rfl, ?_⟩
    refine ⟨trivial, ?_, _, rfl⟩
    exact .inl rfl
  · show Trl _ _ ((flatten (bodyOf 18)).drop 2) (atA (gi k) true) _ _
    have h2 := of_decide_eq_true h2
    have e : atO P n k = none := by unfold atO; rw [if_neg (by omega)]
    rw [e]
    refine Trl.of_code (mu := fun _ => false) (known_none _) (neN (by kernel_rfl)) (at_t (fun j => pcA (P j)) n k _) ⟨trivial, .inr rfl, ?_⟩
    refine ⟨trivial, ?_, _, rfl⟩
    exact .inl rfl
  · have h1 := of_decide_eq_false h1
    have h2 := of_decide_eq_false h2
    obtain ⟨m, rfl⟩ : ∃ m : Nat, k = (m : Int) := ⟨k.toNat, by omega⟩
    have hm : m < 16 := by omega
    have eg : ([pcA (P 0), pcA (P 1), pcA (P 2), pcA (P 3), pcA (P 4), pcA (P 5), pcA (P 6), pcA (P 7), pcA (P 8), pcA (P 9), pcA (P 10), pcA (P 11), pcA (P 12), pcA (P 13), pcA (P 14), pcA (P 15), .v (.int .i64 (n : Int))] : List AV).getD (0 + Int.toNat (m : Int) * 1 + 0) .dead = pcA (P m) := pl_get (p := fun j => pcA (P j)) (n := (n : Int)) hm
    have ec : (([pcA (P 0), pcA (P 1), pcA (P 2), pcA (P 3), pcA (P 4), pcA (P 5), pcA (P 6), pcA (P 7), pcA (P 8), pcA (P 9), pcA (P 10), pcA (P 11), pcA (P 12), pcA (P 13), pcA (P 14), pcA (P 15), .v (.int .i64 (n : Int))] : List AV).drop (0 + Int.toNat (m : Int) * 1)).take 1 = [pcA (P m)] := by rw [← eg]; exact pl_cell (p := fun j => pcA (P j)) (n := (n : Int)) hm
    have hc : decide ((0 : Int) ≤ (m : Int) ∧ (m : Int) < 16) = true := decide_eq_true ⟨by omega, by omega⟩
    have e : atO P n m = P m := by unfold atO; rw [if_pos (by omega), Int.toNat_natCast]
    rw [eg, e]
    refine ⟨cdb_iff.2 ⟨cds_of (cdb_iff.2 ⟨trivial, hc⟩) ec, okNil_pc _⟩, ?_⟩
    cases hP : P m with
    | none =>
      show Trl _ _ ((flatten (bodyOf 18)).drop 2) (atA (gi m) true) _ _
      refine Trl.of_code (mu := fun _ => false) (known_none _) (neN (by kernel_rfl)) (at_t (fun j => pcA (P j)) n m _) ⟨trivial, .inr rfl, ?_⟩
      refine ⟨trivial, ?_, _, rfl⟩
      exact .inl rfl
    | some f =>
      have q : enc P n = [pcA (P 0), pcA (P 1), pcA (P 2), pcA (P 3), pcA (P 4), pcA (P 5), pcA (P 6), pcA (P 7), pcA (P 8), pcA (P 9), pcA (P 10), pcA (P 11), pcA (P 12), pcA (P 13), pcA (P 14), pcA (P 15), .v (.int .i64 (n : Int))] := rfl
      show Trl _ _ ((flatten (bodyOf 18)).drop 2) (atA (gi m) false) (hp [(60, [pcA (P 0), pcA (P 1), pcA (P 2), pcA (P 3), pcA (P 4), pcA (P 5), pcA (P 6), pcA (P 7), pcA (P 8), pcA (P 9), pcA (P 10), pcA (P 11), pcA (P 12), pcA (P 13), pcA (P 14), pcA (P 15), .v (.int .i64 (n : Int))]), (30, z7)] []) _
      rcases (by omega : m = 0 ∨ m = 1 ∨ m = 2 ∨ m = 3 ∨ m = 4 ∨ m = 5 ∨ m = 6 ∨ m = 7 ∨ m = 8 ∨ m = 9 ∨ m = 10 ∨ m = 11 ∨ m = 12 ∨ m = 13 ∨ m = 14 ∨ m = 15) with rfl | rfl | rfl | rfl | rfl | rfl | rfl | rfl | rfl | rfl | rfl | rfl | rfl | rfl | rfl | rfl
      · rw [hP]
        refine Trl.of_code (mu := fun _ => false) (known_none _) (neN (by kernel_rfl)) (at_0 (fun j => pcA (P j)) f n _) ⟨trivial, .inr rfl, ?_⟩
        refine ⟨trivial, .inl rfl, [(30, itC f)], ?_⟩
        rw [q, hP]; rfl
      · rw [hP]
        refine Trl.of_code (mu := fun _ => false) (known_none _) (neN (by kernel_rfl)) (at_1 (fun j => pcA (P j)) f n _) ⟨trivial, .inr rfl, ?_⟩
        refine ⟨trivial, .inl rfl, [(30, itC f)], ?_⟩
        rw [q, hP]; rfl
      · rw [hP]
        refine Trl.of_code (mu := fun _ => false) (known_none _) (neN (by kernel_rfl)) (at_2 (fun j => pcA (P j)) f n _) ⟨trivial, .inr rfl, ?_⟩
        refine ⟨trivial, .inl rfl, [(30, itC f)], ?_⟩
        rw [q, hP]; rfl
      · rw [hP]
        refine Trl.of_code (mu := fun _ => false) (known_none _) (neN (by kernel_rfl)) (at_3 (fun j => pcA (P j)) f n _) ⟨trivial, .inr rfl, ?_⟩
        refine ⟨trivial, .inl rfl, [(30, itC f)], ?_⟩
        rw [q, hP]; rfl
      · rw [hP]
        refine Trl.of_code (mu := fun _ => false) (known_none _) (neN (by kernel_rfl)) (at_4 (fun j => pcA (P j)) f n _) ⟨trivial, .inr rfl, ?_⟩
        refine ⟨trivial, .inl rfl, [(30, itC f)], ?_⟩
        rw [q, hP]; rfl
      · rw [hP]
        refine Trl.of_code (mu := fun _ => false) (known_none _) (neN (by kernel_rfl)) (at_5 (fun j => pcA (P j)) f n _) ⟨trivial, .inr rfl, ?_⟩
        refine ⟨trivial, .inl rfl, [(30, itC f)], ?_⟩
        rw [q, hP]; rfl
      · rw [hP]
        refine Trl.of_code (mu := fun _ => false) (known_none _) (neN (by kernel_rfl)) (at_6 (fun j => pcA (P j)) f n _) ⟨trivial, .inr rfl, ?_⟩
        refine ⟨trivial, .inl rfl, [(30, itC f)], ?_⟩
        rw [q, hP]; rfl
      · rw [hP]
        refine Trl.of_code (mu := fun _ => false) (known_none _) (neN (by kernel_rfl)) (at_7 (fun j => pcA (P j)) f n _) ⟨trivial, .inr rfl, ?_⟩
        refine ⟨trivial, .inl rfl, [(30, itC f)], ?_⟩
        rw [q, hP]; rfl
      · rw [hP]
        refine Trl.of_code (mu := fun _ => false) (known_none _) (neN (by kernel_rfl)) (at_8 (fun j => pcA (P j)) f n _) ⟨trivial, .inr rfl, ?_⟩
        refine ⟨trivial, .inl rfl, [(30, itC f)], ?_⟩
        rw [q, hP]; rfl
      · rw [hP]
        refine Trl.of_code (mu := fun _ => false) (known_none _) (neN (by kernel_rfl)) (at_9 (fun j => pcA (P j)) f n _) ⟨trivial, .inr rfl, ?_⟩
        refine ⟨trivial, .inl rfl, [(30, itC f)], ?_⟩
        rw [q, hP]; rfl
      · rw [hP]
        refine Trl.of_code (mu := fun _ => false) (known_none _) (neN (by kernel_rfl)) (at_10 (fun j => pcA (P j)) f n _) ⟨trivial, .inr rfl, ?_⟩
        refine ⟨trivial, .inl rfl, [(30, itC f)], ?_⟩
        rw [q, hP]; rfl
      · rw [hP]
        refine Trl.of_code (mu := fun _ => false) (known_none _) (neN (by kernel_rfl)) (at_11 (fun j => pcA (P j)) f n _) ⟨trivial, .inr rfl, ?_⟩
        refine ⟨trivial, .inl rfl, [(30, itC f)], ?_⟩
        rw [q, hP]; rfl
      · rw [hP]
        refine Trl.of_code (mu := fun _ => false) (known_none _) (neN (by kernel_rfl)) (at_12 (fun j => pcA (P j)) f n _) ⟨trivial, .inr rfl, ?_⟩
        refine ⟨trivial, .inl rfl, [(30, itC f)], ?_⟩
        rw [q, hP]; rfl
      · rw [hP]
        refine Trl.of_code (mu := fun _ => false) (known_none _) (neN (by kernel_rfl)) (at_13 (fun j => pcA (P j)) f n _) ⟨trivial, .inr rfl, ?_⟩
        refine ⟨trivial, .inl rfl, [(30, itC f)], ?_⟩
        rw [q, hP]; rfl
      · rw [hP]
        refine Trl.of_code (mu := fun _ => false) (known_none _) (neN (by kernel_rfl)) (at_14 (fun j => pcA (P j)) f n _) ⟨trivial, .inr rfl, ?_⟩
        refine ⟨trivial, .inl rfl, [(30, itC f)], ?_⟩
        rw [q, hP]; rfl
      · rw [hP]
        refine Trl.of_code (mu := fun _ => false) (known_none _) (neN (by kernel_rfl)) (at_15 (fun j => pcA (P j)) f n _) ⟨trivial, .inr rfl, ?_⟩
        refine ⟨trivial, .inl rfl, [(30, itC f)], ?_⟩
        rw [q, hP]; rfl
end Go.Proofs.Ytjahmiohpcejfaa.AE
namespace Go.Proofs.Ytjahmiohpcejfaa.AE
set_option maxRecDepth 100000
open Go.RowKit
def vsI? : List Value → Option (List Int)
  | [] => some []
  | .int .i64 n :: l => match vsI? l with
    | some r => some (n :: r)
    | none => none
  | _ => none
theorem vsI_eq : ∀ {l : List Value} {r : List Int}, vsI? l = some r → l = r.map (Value.int .i64)
  | [], r, h => by cases h; rfl
  | .int .i64 n :: l, r, h => by
    have h : (match vsI? l with | some r => some (n :: r) | none => none) = some r := h
    split at h
    · rename_i q hq
      cases h
      rw [vsI_eq hq]; rfl
    · cases h
def itD (a : Array Value) : It := match vsI? a.toList with
  | some l => fun j => l.getD j 0
  | none => fun _ => 0
def itOk (a : Array Value) : Bool := match vsI? a.toList with
  | some l => decide (l.length = 7)
  | none => false
theorem itOk_out {a : Array Value} (h : itOk a = true) : .agg a = itV (itD a) ∧ ∀ j, 7 ≤ j → itD a j = 0 := by
  unfold itOk at h
  split at h
  · rename_i l hl
    unfold itD
    rw [hl]
    have h7 := of_decide_eq_true h
    have ha : a = (l.map (Value.int .i64)).toArray := by rw [← vsI_eq hl]
    refine ⟨?_, fun j hj => ?_⟩
    · rw [ha]
      match l, h7 with
      | [x0, x1, x2, x3, x4, x5, x6], _ => rfl
    · show l.getD j 0 = 0
      rw [List.getD_eq_getElem?_getD, List.getElem?_eq_none (by omega)]; rfl
  · cases h
def putE (P : Nat → Option It) (n : Nat) (id : Int) : Int := bif (fnd (wI P id) n 0).isSome then 8 else bif (fnd (wN P) n 0).isSome then 0 else 6
def putK (P : Nat → Option It) (n : Nat) (id : Int) : Int := bif (fnd (wI P id) n 0).isSome then 0 else (((fnd (wN P) n 0).getD 0 : Nat) : Int)
def putP (P : Nat → Option It) (n : Nat) (f : It) : Nat → Option It := bif (fnd (wI P (f 0)) n 0).isSome then P else match fnd (wN P) n 0 with
  | some k => fun j => if j = k then some f else P j
  | none => P
/-- Places up to one without those who are wanted. -/
def empP (w : It → Bool) (P : Nat → Option It) (m : Nat) : Nat → Option It := fun j => if j < m ∧ (P j).any w = true then none else P j
def allP (P : Nat → Option It) (m : Nat) : List It := (List.range m).filterMap P
def wT (id : Int) (f : It) : Bool := f 0 == id
def wL (now : Int) (f : It) : Bool := decide (f 3 ≤ now)
def hdO (l : List It) : Option It := l.head?
noncomputable def tsX : TS where
  s := ssX
  cN C := decN C
  aF C k i := oF (atO (decP C) (decN C) k) i
  aB C k := (atO (decP C) (decN C) k).isSome
  uN C a := putK (decP C) (decN C) (itD a 0)
  uE C a := putE (decP C) (decN C) (itD a 0)
  uC C a := enc (putP (decP C) (decN C) (itD a)) (decN C)
  uO := itOk
  tF C id i := oF (hdO ((allP (decP C) (decN C)).filter (wT id))) i
  tB C id := (hdO ((allP (decP C) (decN C)).filter (wT id))).isSome
  tC C id := enc (empP (wT id) (decP C) (decN C)) (decN C)
  all C := allP (decP C) (decN C)
  fr C := (decN C : Int) - (allP (decP C) (decN C)).length
  lL C now := (allP (decP C) (decN C)).filter (wL now)
  lC C now := enc (empP (wL now) (decP C) (decN C)) (decN C)
  tL C id := (allP (decP C) (decN C)).filter (wT id)
theorem oPlace_ok : ∀ args H r H', obj? (oPlace tsX) args H = some (r, H') → HSound1 Try.prog nro 17 args H r H' := by
  refine oSl_ok (has_fn (by kernel_rfl)) fun args t C r C' h => ?_
  split at h
  · rename_i id
    simp only [Option.some.injEq, Prod.mk.injEq] at h
    obtain ⟨rfl, rfl, h⟩ := h
    obtain ⟨rfl, P, n, hG, rfl⟩ := okC_out h
    refine (fs_place hG id).mono fun r h => ?_
    rintro ⟨rfl, q⟩
    refine ⟨.inl ?_, [], q⟩
    show _ = AV.v (.tuple #[.int .i64 (((fnd (wI (decP (enc P n)) id) (decN (enc P n)) 0).getD 0 : Nat) : Int), .bool (fnd (wI (decP (enc P n)) id) (decN (enc P n)) 0).isSome])
    rw [(dec_enc hG).1, (dec_enc hG).2]; rfl
  · cases h
theorem oCount_ok : ∀ args H r H', obj? (oCount tsX) args H = some (r, H') → HSound1 Try.prog nro 30 args H r H' := by
  refine oSl_ok (has_fn (by kernel_rfl)) fun args t C r C' h => ?_
  split at h
  · simp only [Option.some.injEq, Prod.mk.injEq] at h
    obtain ⟨rfl, rfl, h⟩ := h
    obtain ⟨rfl, P, n, hG, rfl⟩ := okC_out h
    refine (fs_count P n).mono fun r h => ?_
    rintro ⟨rfl, rfl⟩
    exact ⟨.inl (by show gi n = gi (decN (enc P n)); rw [(dec_enc hG).2]), [], [], rfl⟩
  · cases h
theorem oAt_ok : ∀ args H r H', obj? (oAt tsX) args H = some (r, H') → HSound1 Try.prog nro 18 args H r H' := by
  refine oSl_ok (has_fn (by kernel_rfl)) fun args t C r C' h => ?_
  split at h
  · rename_i k
    simp only [Option.some.injEq, Prod.mk.injEq] at h
    obtain ⟨rfl, rfl, h⟩ := h
    obtain ⟨rfl, P, n, hG, rfl⟩ := okC_out h
    refine (fs_at P n hG.1 k).mono fun r h => ?_
    rintro ⟨h1, more, rfl⟩
    refine ⟨?_, [], more, rfl⟩
    have e : AV.v (.tuple #[.agg #[.int .i64 (oF (atO (decP (enc P n)) (decN (enc P n)) k) 0), .int .i64 (oF (atO (decP (enc P n)) (decN (enc P n)) k) 1), .int .i64 (oF (atO (decP (enc P n)) (decN (enc P n)) k) 2), .int .i64 (oF (atO (decP (enc P n)) (decN (enc P n)) k) 3), .int .i64 (oF (atO (decP (enc P n)) (decN (enc P n)) k) 4), .int .i64 (oF (atO (decP (enc P n)) (decN (enc P n)) k) 5), .int .i64 (oF (atO (decP (enc P n)) (decN (enc P n)) k) 6)], .bool (atO (decP (enc P n)) (decN (enc P n)) k).isSome]) = atV (atO P n k) := by rw [(dec_enc hG).1, (dec_enc hG).2]; rfl
    show _ = AV.v (.tuple #[.agg #[.int .i64 (oF (atO (decP (enc P n)) (decN (enc P n)) k) 0), .int .i64 (oF (atO (decP (enc P n)) (decN (enc P n)) k) 1), .int .i64 (oF (atO (decP (enc P n)) (decN (enc P n)) k) 2), .int .i64 (oF (atO (decP (enc P n)) (decN (enc P n)) k) 3), .int .i64 (oF (atO (decP (enc P n)) (decN (enc P n)) k) 4), .int .i64 (oF (atO (decP (enc P n)) (decN (enc P n)) k) 5), .int .i64 (oF (atO (decP (enc P n)) (decN (enc P n)) k) 6)], .bool (atO (decP (enc P n)) (decN (enc P n)) k).isSome]) ∨ ∃ y, _ ∧ Le y (AV.v (.tuple #[.agg #[.int .i64 (oF (atO (decP (enc P n)) (decN (enc P n)) k) 0), .int .i64 (oF (atO (decP (enc P n)) (decN (enc P n)) k) 1), .int .i64 (oF (atO (decP (enc P n)) (decN (enc P n)) k) 2), .int .i64 (oF (atO (decP (enc P n)) (decN (enc P n)) k) 3), .int .i64 (oF (atO (decP (enc P n)) (decN (enc P n)) k) 4), .int .i64 (oF (atO (decP (enc P n)) (decN (enc P n)) k) 5), .int .i64 (oF (atO (decP (enc P n)) (decN (enc P n)) k) 6)], .bool (atO (decP (enc P n)) (decN (enc P n)) k).isSome]))
    rw [e]; exact h1
  · cases h
theorem knownT : Known nro (prT tsX) := by
  intro g p h
  unfold prT at h
  split at h
  · cases h; exact knownG _ _ (by unfold prG; rfl)
  · cases h; exact oPlace_ok
  · cases h; exact oCount_ok
  · cases h
theorem knownU : Known nro (prU tsX) := by
  intro g p h
  unfold prU at h
  split at h
  · cases h; exact oAt_ok
  · exact knownT g p h
end Go.Proofs.Ytjahmiohpcejfaa.AE
namespace Go.Proofs.Ytjahmiohpcejfaa.AE
set_option maxRecDepth 100000
open Go.RowKit
theorem frLs_stC {k : Nat} {cs : List AV} {p q : Nat → AV} {n : Int} (h : ∀ j, frL k cs (p j) = some (q j)) : frLs k cs (stC p n) = some (stC q n) := by
  unfold stC
  simp only [frLs, h]
  rfl
theorem frL_pc {k : Nat} {cs : List AV} (o : Option It) : frL k cs (pcA o) = some (pcA o) := by cases o <;> rfl
theorem x_ok {P : Nat → Option It} {n : Nat} (hG : Good P n) : tsX.s.ok 60 (enc P n) = true := okC_to hG
theorem x_iB {P : Nat → Option It} {n : Nat} (hG : Good P n) (id : Int) : tsX.s.iB (enc P n) id = (fnd (wI P id) n 0).isSome := by
  show (fnd (wI (decP (enc P n)) id) (decN (enc P n)) 0).isSome = _
  rw [(dec_enc hG).1, (dec_enc hG).2]
theorem x_nB {P : Nat → Option It} {n : Nat} (hG : Good P n) : tsX.s.nB (enc P n) = (fnd (wN P) n 0).isSome := by
  show (fnd (wN (decP (enc P n))) (decN (enc P n)) 0).isSome = _
  rw [(dec_enc hG).1, (dec_enc hG).2]
theorem x_nN {P : Nat → Option It} {n : Nat} (hG : Good P n) : tsX.s.nN (enc P n) = (((fnd (wN P) n 0).getD 0 : Nat) : Int) := by
  show (((fnd (wN (decP (enc P n))) (decN (enc P n)) 0).getD 0 : Nat) : Int) = _
  rw [(dec_enc hG).1, (dec_enc hG).2]
theorem fnd_lt {w : Nat → Bool} : ∀ {m i k : Nat}, fnd w m i = some k → i ≤ k ∧ k < i + m ∧ w k = true
  | 0, i, k, h => by cases h
  | m + 1, i, k, h => by
    unfold fnd at h
    split at h
    · rename_i hw; cases h; exact ⟨Nat.le_refl _, by omega, hw⟩
    · have := fnd_lt h; exact ⟨by omega, by omega, this.2.2⟩
theorem x_pl (P : Nat → Option It) (n : Nat) : ((plainC (enc P n) && true) && (plainC (enc P n) && true)) = true := by
  have : plainC (enc P n) = true := enc_P
  rw [this]; rfl
theorem pu_sl : slotsOf 9 = 31 := by kernel_rfl
theorem pu_re : resultsOf 9 = [.tmp 4, .tmp 5] := by kernel_rfl
theorem okItem : OkT 30 := by decide
theorem fs_put {P : Nat → Option It} {n : Nat} (hG : Good P n) (f : It) : Fs Try.prog nro 9 [.ptr 0 0, .v (itV f)] (slH (fun j => pcA (P j)) n []) fun r h => r = .v (.tuple #[.int .i64 (putK P n (f 0)), .int .i64 (putE P n (f 0))]) ∧ h = hp [(60, enc (putP P n f) n)] [] := by
  refine Fs.of_body (has_fn (by kernel_rfl)) ?_
  rw [pu_sl, pu_re]
  have ok0 : (tsX.s.ok 60 (enc P n) && ((plainC (enc P n) && true) && (plainC (enc P n) && true))) = true := by rw [x_ok hG, x_pl]; rfl
  have fr0 : frB 1 ([gi (f 0), gi (f 1), gi (f 2), gi (f 3), gi (f 4), gi (f 5), gi (f 6)]) [(60, enc P n)] = some [(60, enc P n)] := by
    unfold frB enc
    rw [frLs_stC (fun j => frL_pc _)]
    rfl
  refine Tr.ice (Tr.of_code (mu := fun _ => false) knownT (pu_go tsX (fun j => pcA (P j)) n f _) (holds_bif (fun h1 => ?_) fun h1 => holds_bif (fun h2 => ?_) fun h2 => ?_))
  · have h1 : (fnd (wI P (f 0)) n 0).isSome = true := (x_iB hG (f 0)).symm.trans h1
    refine ⟨cdb_iff.2 ⟨trivial, ok0⟩, [(60, enc P n)], 30, [.int .i64 (f 0), .int .i64 (f 1), .int .i64 (f 2), .int .i64 (f 3), .int .i64 (f 4), .int .i64 (f 5), .int .i64 (f 6)], _, _, rfl, okItem, Nat.le_refl _, rfl, fr0, .inr rfl, trivial, ?_, ?_⟩
    · unfold putK putE; rw [h1]; rfl
    · unfold putP; rw [h1]; rfl
  · have h1 : (fnd (wI P (f 0)) n 0).isSome = false := (x_iB hG (f 0)).symm.trans h1
    have h2 : (!(fnd (wN P) n 0).isSome) = true := by rw [← x_nB hG]; exact h2
    have h2 : (fnd (wN P) n 0).isSome = false := by revert h2; cases (fnd (wN P) n 0).isSome <;> simp
    refine ⟨cdb_iff.2 ⟨cdb_iff.2 ⟨trivial, ok0⟩, x_ok hG⟩, [(60, enc P n)], 30, [.int .i64 (f 0), .int .i64 (f 1), .int .i64 (f 2), .int .i64 (f 3), .int .i64 (f 4), .int .i64 (f 5), .int .i64 (f 6)], _, _, rfl, okItem, Nat.le_refl _, rfl, fr0, .inr rfl, trivial, ?_, ?_⟩
    · have : fnd (wN P) n 0 = none := by cases h : fnd (wN P) n 0 <;> simp_all
      unfold putK putE; rw [h1, this]; rfl
    · unfold putP
      rw [h1]
      have : fnd (wN P) n 0 = none := by cases h : fnd (wN P) n 0 <;> simp_all
      rw [this]; rfl
  · have h1 : (fnd (wI P (f 0)) n 0).isSome = false := (x_iB hG (f 0)).symm.trans h1
    have h2 : (!(fnd (wN P) n 0).isSome) = false := by rw [← x_nB hG]; exact h2
    obtain ⟨k, hk⟩ : ∃ k, fnd (wN P) n 0 = some k := by cases h : fnd (wN P) n 0 with
      | none => rw [h] at h2; cases h2
      | some k => exact ⟨k, rfl⟩
    have hk16 : k < 16 := by have := fnd_lt hk; have := hG.1; omega
    have eN : tsX.s.nN (enc P n) = (k : Int) := by rw [x_nN hG, hk]; rfl
    have c1 : decide ((0 : Int) ≤ tsX.s.nN (enc P n) ∧ tsX.s.nN (enc P n) < 16) = true := by rw [eN]; exact decide_eq_true ⟨by omega, by omega⟩
    have c2 : decide (0 + Int.toNat (tsX.s.nN (enc P n)) * 1 + 1 ≤ (enc P n).length) = true := by
      rw [eN, Int.toNat_natCast]; exact decide_eq_true (by show 0 + k * 1 + 1 ≤ 17; omega)
    refine ⟨cdb_iff.2 ⟨cdb_iff.2 ⟨cdb_iff.2 ⟨cdb_iff.2 ⟨trivial, ok0⟩, x_ok hG⟩, c1⟩, c2⟩, [(60, stC (fun j => if j = k then .ptr 1 0 else pcA (P j)) n)], 30, [.int .i64 (f 0), .int .i64 (f 1), .int .i64 (f 2), .int .i64 (f 3), .int .i64 (f 4), .int .i64 (f 5), .int .i64 (f 6)], _, [(60, enc (fun j => if j = k then some f else P j) n)], ?_, okItem, Nat.le_refl _, rfl, ?_, .inr rfl, trivial, ?_, ?_⟩
    · show [(60, List.take (0 + Int.toNat (tsX.s.nN (enc P n)) * 1) (stC (fun j => pcA (P j)) n) ++ [.ptr 1 0] ++ List.drop (0 + Int.toNat (tsX.s.nN (enc P n)) * 1 + [AV.ptr 1 0].length) (stC (fun j => pcA (P j)) n)), _] = _
      rw [eN, pl_set hk16]; rfl
    · unfold frB
      rw [frLs_stC (q := fun j => pcA (if j = k then some f else P j)) (fun j => by
        show frL 1 _ (if j = k then AV.ptr 1 0 else pcA (P j)) = some (pcA (if j = k then some f else P j))
        by_cases hj : j = k
        · rw [if_pos hj, if_pos hj]; rfl
        · rw [if_neg hj, if_neg hj]; exact frL_pc _)]
      rfl
    · show AV.v (.tuple #[.int .i64 (tsX.s.nN (enc P n)), .int .i64 0]) = _
      rw [eN]; unfold putK putE; rw [h1, hk]; rfl
    · unfold putP
      rw [h1, hk]; rfl
end Go.Proofs.Ytjahmiohpcejfaa.AE
namespace Go.Proofs.Ytjahmiohpcejfaa.AE
set_option maxRecDepth 100000
open Go.RowKit
theorem allP_succ (P : Nat → Option It) (k : Nat) : allP P (k + 1) = allP P k ++ (P k).toList := by
  unfold allP
  rw [List.range_succ, List.filterMap_append]
  cases h : P k <;> simp [List.filterMap, h]
theorem allP_len (P : Nat → Option It) (k : Nat) : (allP P k).length ≤ k := by
  unfold allP
  exact Nat.le_trans (List.length_filterMap_le ..) (by rw [List.length_range]; exact Nat.le_refl _)
theorem room7 (l : List It) (x : AV) (v : Nat) (h : l.length ≤ 1000000) : decide ((((l.map fun f => AV.v (itV f)).length + [x].length) * 56 ≤ 140737488355328 ∧ (l.map fun f => AV.v (itV f)).length + [x].length ≤ 9223372036854775807) ∧ v = v) = true := by
  refine decide_eq_true ?_
  simp only [List.length_map, List.length_cons, List.length_nil, and_true]; omega
theorem x_aB {P : Nat → Option It} {n : Nat} (hG : Good P n) (k : Int) : tsX.aB (enc P n) k = (atO P n k).isSome := by
  show (atO (decP (enc P n)) (decN (enc P n)) k).isSome = _
  rw [(dec_enc hG).1, (dec_enc hG).2]
theorem x_aF {P : Nat → Option It} {n : Nat} (hG : Good P n) (k : Int) (i : Nat) : tsX.aF (enc P n) k i = oF (atO P n k) i := by
  show oF (atO (decP (enc P n)) (decN (enc P n)) k) i = _
  rw [(dec_enc hG).1, (dec_enc hG).2]
theorem atO_in {P : Nat → Option It} {n k : Nat} (h : k < n) : atO P n k = P k := by unfold atO; rw [if_pos (by omega), Int.toNat_natCast]
theorem lows_pc {a b : Nat} (o : Option It) : low a b (pcA o) = true := by cases o <;> rfl
theorem lows_enc (P : Nat → Option It) (n : Nat) (more : List (TypeId × List AV)) : (List.take 1 ((60, stC (fun j => pcA (P j)) n) :: more)).all (fun b => lows 1 1 b.2) = true := by
  show (lows 1 1 (stC (fun j => pcA (P j)) n) && true) = true
  rw [Bool.and_true]
  unfold stC
  simp only [lows, lows_pc, Bool.true_and, Bool.and_true]
  rfl
theorem al_sl : slotsOf 19 = 25 := by kernel_rfl
theorem al_re : resultsOf 19 = [.tmp 2] := by kernel_rfl
theorem al_fl : (flatten (bodyOf 19)).drop 3 = .block 0 (.loop (sub (bodyOf 19) [1, 1, 0, 1, 0, 0])) :: (flatten (bodyOf 19)).drop 4 := by kernel_rfl
theorem fs_all {P : Nat → Option It} {n : Nat} (hG : Good P n) : Fs Try.prog nro 19 [.ptr 0 0] (slH (fun j => pcA (P j)) n []) fun r h => (∃ y, clean r = some y ∧ Le y (.lst 7 ((allP P n).map fun f => .v (itV f)) .no)) ∧ ∃ tips, h = hp [(60, enc P n)] tips := by
  refine Fs.of_body (has_fn (by kernel_rfl)) ?_
  rw [al_sl, al_re]
  have ok0 : (tsX.s.ok 60 (enc P n) && ((plainC (enc P n) && true) && (plainC (enc P n) && true))) = true := by rw [x_ok hG, x_pl]; rfl
  refine Tr.of_flat (Trl.split 3 (Trl.of_code (mu := fun _ => false) knownU (neN (by kernel_rfl)) (al_pre tsX 60 (enc P n) _) ⟨cdb_iff.2 ⟨trivial, ok0⟩, ?_⟩))
  show Trl _ _ ((flatten (bodyOf 19)).drop 3) _ _ _
  rw [al_fl]
  refine Tr.keepL [0, 3, 8, 9] (by kernel_rfl) (Trl.nilTip 3 7 rfl rfl ?_)
  have hN : tsX.cN (enc P n) = (n : Int) := by show ((decN (enc P n) : Nat) : Int) = _; rw [(dec_enc hG).2]
  rw [hN]
  let I : Nat → List AV → AH → Prop := fun m act H => ∃ k v : Nat, k ≤ n ∧ m = n - k ∧ act = alA n k (allP P k) v ∧ H = hp [(60, enc P n)] [v]
  refine Tr.block (Tr.loop I ?_ (m := n) ⟨0, 0, Nat.zero_le _, rfl, rfl, rfl⟩)
  rintro m act H ⟨k, v, hk, rfl, rfl, rfl⟩
  have hn := hG.1
  refine Tr.forget 1 1 (Nat.le_refl _) (Nat.le_refl _) (Tr.of_code (mu := fun _ => false) knownU (al_in tsX 60 (enc P n) n k (allP P k) v _) (holds_bif (fun h1 => holds_bif (fun h2 => ?_) fun h2 => ?_) fun h1 => ?_))
  · have h1 : k < n := by have := of_decide_eq_true h1; omega
    have h2 : (P k).isSome = true := by rw [← atO_in (P := P) h1, ← x_aB hG]; exact h2
    obtain ⟨f, hf⟩ : ∃ f, P k = some f := Option.isSome_iff_exists.1 h2
    have ef : AV.v (.agg #[.int .i64 (tsX.aF (enc P n) k 0), .int .i64 (tsX.aF (enc P n) k 1), .int .i64 (tsX.aF (enc P n) k 2), .int .i64 (tsX.aF (enc P n) k 3), .int .i64 (tsX.aF (enc P n) k 4), .int .i64 (tsX.aF (enc P n) k 5), .int .i64 (tsX.aF (enc P n) k 6)]) = .v (itV f) := by
      simp only [x_aF hG, atO_in h1, hf]; rfl
    refine ⟨cdb_iff.2 ⟨cdb_iff.2 ⟨trivial, ok0⟩, ?_⟩, by kernel_rfl, lows_enc .., n - (k + 1), by omega, k + 1, v + 1, by omega, rfl, ?_, rfl⟩
    · exact room7 _ _ _ (by have := allP_len P k; omega)
    · rw [wr1 k (by omega)]
      show [AV.ptr 0 0, .dead, .dead, .lst 7 (((allP P k).map fun f => AV.v (itV f)) ++ [.v (.agg #[.int .i64 (tsX.aF (enc P n) k 0), .int .i64 (tsX.aF (enc P n) k 1), .int .i64 (tsX.aF (enc P n) k 2), .int .i64 (tsX.aF (enc P n) k 3), .int .i64 (tsX.aF (enc P n) k 4), .int .i64 (tsX.aF (enc P n) k 5), .int .i64 (tsX.aF (enc P n) k 6)])]) (.tp 0 (v + 1)), .dead, .dead, .dead, .dead, gi n, gi ((k + 1 : Nat) : Int)] ++ List.replicate 15 .dead = _
      rw [ef, allP_succ, hf]
      show _ = alA n ((k + 1 : Nat) : Int) (allP P k ++ [f]) (v + 1)
      unfold alA
      rw [List.map_append]; rfl
  · have h1 : k < n := by have := of_decide_eq_true h1; omega
    have h2 : (P k).isSome = false := by rw [← atO_in (P := P) h1, ← x_aB hG]; exact h2
    have hf : P k = none := by cases h : P k <;> simp_all
    refine ⟨cdb_iff.2 ⟨trivial, ok0⟩, by kernel_rfl, lows_enc .., n - (k + 1), by omega, k + 1, v, by omega, rfl, ?_, rfl⟩
    rw [wr1 k (by omega), allP_succ, hf]
    show _ = alA n ((k + 1 : Nat) : Int) (allP P k ++ []) v
    rw [List.append_nil]; rfl
  · have h1 : k = n := by have := of_decide_eq_false h1; omega
    subst h1
    refine ⟨trivial, by kernel_rfl, lows_enc .., ?_⟩
    show Trl _ _ ((flatten (bodyOf 19)).drop 4) _ _ _
    exact Trl.of_code (mu := fun _ => false) (known_none _) (neN (by kernel_rfl)) (al_post 60 (enc P k) k k (allP P k) v _) ⟨trivial, .inr rfl, trivial, ⟨_, rfl, Le.refl _⟩, _, rfl⟩
end Go.Proofs.Ytjahmiohpcejfaa.AE
namespace Go.Proofs.Ytjahmiohpcejfaa.AE
set_option maxRecDepth 100000
open Go.RowKit
theorem empP_0 (w : It → Bool) (P : Nat → Option It) : empP w P 0 = P := by
  funext j; unfold empP; rw [if_neg (by omega)]
theorem empP_at (w : It → Bool) (P : Nat → Option It) (k : Nat) : empP w P k k = P k := by unfold empP; rw [if_neg (by omega)]
theorem empP_yes {w : It → Bool} {P : Nat → Option It} {k : Nat} {f : It} (h : P k = some f) (hw : w f = true) : empP w P (k + 1) = fun j => if j = k then none else empP w P k j := by
  funext j
  unfold empP
  by_cases hj : j = k
  · subst hj
    rw [if_pos rfl, if_pos ⟨by omega, by rw [h]; exact hw⟩]
  · rw [if_neg hj]
    by_cases h2 : j < k ∧ (P j).any w = true
    · rw [if_pos h2, if_pos ⟨by omega, h2.2⟩]
    · rw [if_neg h2, if_neg (fun e => h2 ⟨by omega, e.2⟩)]
theorem empP_no {w : It → Bool} {P : Nat → Option It} {k : Nat} (h : (P k).any w = false) : empP w P (k + 1) = empP w P k := by
  funext j
  unfold empP
  by_cases h2 : j < k ∧ (P j).any w = true
  · rw [if_pos h2, if_pos ⟨by omega, h2.2⟩]
  · rw [if_neg h2, if_neg (fun e => ?_)]
    by_cases hj : j = k
    · subst hj; rw [h] at e; cases e.2
    · exact h2 ⟨by omega, e.2⟩
theorem em_sl : slotsOf 26 = 39 := by kernel_rfl
theorem em_re : resultsOf 26 = [.tmp 4] := by kernel_rfl
theorem em_fl : (flatten (bodyOf 26)).drop 3 = .block 0 (.loop (sub (bodyOf 26) [1, 1, 0, 1, 0, 0])) :: (flatten (bodyOf 26)).drop 4 := by kernel_rfl
theorem em_bl : (flatten (sub (bodyOf 26) [1, 1, 0, 1, 0, 0])).drop 2 = .block 1 (sub (bodyOf 26) [1, 1, 0, 1, 0, 0, 1, 1, 0, 0]) :: (flatten (sub (bodyOf 26) [1, 1, 0, 1, 0, 0])).drop 3 := by kernel_rfl

theorem fs_empT {P : Nat → Option It} {n : Nat} (hG : Good P n) (x : Int) : Fs Try.prog nro 26 [.ptr 0 0, clT] (slH (fun j => pcA (P j)) n [(3, [gi x])]) fun r h => (∃ y, clean r = some y ∧ Le y (.lst 7 (((allP P n).filter (wT x)).map fun f => .v (itV f)) .no)) ∧ ∃ tips, h = hp [(60, enc (empP (wT x) P n) n), (3, [gi x])] tips := by
  refine Fs.of_body (has_fn (by kernel_rfl)) ?_
  rw [em_sl, em_re]
  have hn := hG.1
  have ok0 : (tsX.s.ok 60 (enc P n) && ((plainC (enc P n) && true) && (plainC (enc P n) && true))) = true := by rw [x_ok hG, x_pl]; rfl
  refine Tr.of_flat (Trl.split 3 (Trl.of_code (mu := fun _ => false) knownU (neN (by kernel_rfl)) (em_pre tsX 60 (enc P n) clT x _) ⟨cdb_iff.2 ⟨trivial, ok0⟩, ?_⟩))
  show Trl _ _ ((flatten (bodyOf 26)).drop 3) _ _ _
  rw [em_fl]
  refine Tr.keepL [0, 1, 5, 9, 10] (by kernel_rfl) (Trl.nilTip 5 7 rfl rfl ?_)
  have hN : tsX.cN (enc P n) = (n : Int) := by show ((decN (enc P n) : Nat) : Int) = _; rw [(dec_enc hG).2]
  rw [hN]
  let I : Nat → List AV → AH → Prop := fun m act H => ∃ k v : Nat, k ≤ n ∧ m = n - k ∧ act = eA clT .dead .dead n k ((allP P k).filter (wT x)) v ∧ H = hp [(60, enc (empP (wT x) P k) n), (3, [gi x])] [v]
  refine Tr.block (Tr.loop I ?_ (m := n) ⟨0, 0, Nat.zero_le _, rfl, rfl, by rw [empP_0]; rfl⟩)
  rintro m act H ⟨k, v, hk, rfl, rfl, rfl⟩
  refine Tr.of_flat (Trl.split 2 (Trl.of_code (mu := fun _ => false) (known_none _) (neN (by kernel_rfl)) (em_hd clT n k ((allP P k).filter (wT x)) v (hp [(60, enc (empP (wT x) P k) n), (3, [gi x])] [v]) _) (holds_bif (fun h1 => ⟨trivial, ?_⟩) fun h1 => ⟨trivial, ?_⟩)))
  · have h1 : k < n := by have := of_decide_eq_true h1; omega
    have hk16 : k < 16 := by omega
    show Trl _ _ ((flatten (sub (bodyOf 26) [1, 1, 0, 1, 0, 0])).drop 2) _ _ _
    rw [em_bl]
    obtain ⟨Q, hQ⟩ : ∃ Q, empP (wT x) P k = Q := ⟨_, rfl⟩
    rw [hQ]
    have hQk : Q k = P k := by rw [← hQ]; exact empP_at _ _ _
    have eg : ([pcA (Q 0), pcA (Q 1), pcA (Q 2), pcA (Q 3), pcA (Q 4), pcA (Q 5), pcA (Q 6), pcA (Q 7), pcA (Q 8), pcA (Q 9), pcA (Q 10), pcA (Q 11), pcA (Q 12), pcA (Q 13), pcA (Q 14), pcA (Q 15), .v (.int .i64 (n : Int))] : List AV).getD (0 + Int.toNat (k : Int) * 1 + 0) .dead = pcA (Q k) := pl_get (p := fun j => pcA (Q j)) (n := (n : Int)) hk16
    have ec : (([pcA (Q 0), pcA (Q 1), pcA (Q 2), pcA (Q 3), pcA (Q 4), pcA (Q 5), pcA (Q 6), pcA (Q 7), pcA (Q 8), pcA (Q 9), pcA (Q 10), pcA (Q 11), pcA (Q 12), pcA (Q 13), pcA (Q 14), pcA (Q 15), .v (.int .i64 (n : Int))] : List AV).drop (0 + Int.toNat (k : Int) * 1)).take 1 = [pcA (Q k)] := by rw [← eg]; exact pl_cell (p := fun j => pcA (Q j)) (n := (n : Int)) hk16
    have hc : decide ((0 : Int) ≤ (k : Int) ∧ (k : Int) < 16) = true := decide_eq_true ⟨by omega, by omega⟩
    have hl : (([pcA (Q 0), pcA (Q 1), pcA (Q 2), pcA (Q 3), pcA (Q 4), pcA (Q 5), pcA (Q 6), pcA (Q 7), pcA (Q 8), pcA (Q 9), pcA (Q 10), pcA (Q 11), pcA (Q 12), pcA (Q 13), pcA (Q 14), pcA (Q 15), .v (.int .i64 (n : Int))] : List AV).length) = 17 := rfl
    refine Tr.block (Tr.of_flat (Trl.split 2 (Trl.of_code (mu := fun _ => false) (known_none _) (neN (by kernel_rfl)) (em_r5 (fun j => pcA (Q j)) n clT x k ((allP P k).filter (wT x)) v _) ?_)))
    rw [eg, hQk]
    rw [hQk] at ec
    refine ⟨cds_of (cdb_iff.2 ⟨trivial, hc⟩) ec, ?_⟩
    have hB := allP_succ P k
    cases hP : P k with
    | none =>
      rw [hP, Option.toList_none, List.append_nil] at hB
      show Trl _ _ ((flatten (sub (bodyOf 26) [1, 1, 0, 1, 0, 0, 1, 1, 0, 0])).drop 2) (eA clT (gi k) nilP n k ((allP P k).filter (wT x)) v) (hp [(60, stC (fun j => pcA (Q j)) n), (3, [gi x])] [v]) _
      refine Trl.of_code (mu := fun _ => false) (known_none _) (neN (by kernel_rfl)) (em_no (fun j => pcA (Q j)) n clT x k ((allP P k).filter (wT x)) v _) ⟨trivial, ?_⟩
      show Trl _ _ ((flatten (sub (bodyOf 26) [1, 1, 0, 1, 0, 0])).drop 3) (eA clT .dead .dead n k ((allP P k).filter (wT x)) v) _ _
      refine Trl.of_code (mu := fun _ => false) (known_none _) (neN (by kernel_rfl)) (em_r9 clT n k ((allP P k).filter (wT x)) v (hp [(60, enc Q n), (3, [gi x])] [v]) _) ⟨trivial, n - (k + 1), by omega, k + 1, v, by omega, rfl, ?_, ?_⟩
      · rw [wr1 k (by omega), hB]; rfl
      · rw [empP_no (by rw [hP]; rfl), hQ]; rfl
    | some f =>
      rw [hP, Option.toList_some] at hB
      have hB : (allP P (k + 1)).filter (wT x) = (allP P k).filter (wT x) ++ [f].filter (wT x) := by rw [hB, List.filter_append]
      show Trl _ _ ((flatten (sub (bodyOf 26) [1, 1, 0, 1, 0, 0, 1, 1, 0, 0])).drop 2) (eA clT (gi k) (.lp (itC f)) n k ((allP P k).filter (wT x)) v) (hp [(60, stC (fun j => pcA (Q j)) n), (3, [gi x])] [v]) _
      refine Trl.of_code (mu := fun _ => false) (known_none _) (neN (by kernel_rfl)) (em_T (fun j => pcA (Q j)) n f x k ((allP P k).filter (wT x)) v _) (holds_bif (fun h2 => ?_) fun h2 => ⟨trivial, ?_⟩)
      · have h2 : (wT x) f = true := h2
        have hF : [f].filter (wT x) = [f] := by simp [List.filter, h2]
        have hlen : ((allP P k).filter (wT x)).length ≤ 1000000 := Nat.le_trans (List.length_filter_le _ _) (Nat.le_trans (allP_len P k) (by omega))
        have c2 : decide (0 + Int.toNat (k : Int) * 1 + 1 ≤ ([pcA (Q 0), pcA (Q 1), pcA (Q 2), pcA (Q 3), pcA (Q 4), pcA (Q 5), pcA (Q 6), pcA (Q 7), pcA (Q 8), pcA (Q 9), pcA (Q 10), pcA (Q 11), pcA (Q 12), pcA (Q 13), pcA (Q 14), pcA (Q 15), .v (.int .i64 (n : Int))] : List AV).length) = true := by
          rw [Int.toNat_natCast]; exact decide_eq_true (by show 0 + k * 1 + 1 ≤ 17; omega)
        refine ⟨cdb_iff.2 ⟨cdb_iff.2 ⟨cdb_iff.2 ⟨trivial, room7 _ _ _ hlen⟩, hc⟩, c2⟩, ?_⟩
        have hS := pl_set (p := fun j => pcA (Q j)) (n := (n : Int)) hk16 nilP
        show Trl _ _ ((flatten (sub (bodyOf 26) [1, 1, 0, 1, 0, 0])).drop 3) [.ptr 0 0, clT, .dead, .dead, .dead, .lst 7 ((((allP P k).filter (wT x)).map fun f => .v (itV f)) ++ [.v (itV f)]) (.tp 0 (v + 1)), .dead, .dead, .dead, gi n, gi k, .dead, .dead, .dead, .dead, .dead, .dead, .dead, .dead, .dead, .dead, .dead, .dead, .dead, .dead, .dead, .dead, .dead, .dead, .dead, .dead, .dead, .dead, .dead, .dead, .dead, .dead, .dead, .dead] (hp [(60, (stC (fun j => pcA (Q j)) n).take (0 + Int.toNat (k : Int) * 1) ++ [nilP] ++ (stC (fun j => pcA (Q j)) n).drop (0 + Int.toNat (k : Int) * 1 + [nilP].length)), (3, [gi x])] [v + 1]) _
        rw [hS, show (((allP P k).filter (wT x)).map fun f => AV.v (itV f)) ++ [.v (itV f)] = (((allP P (k + 1)).filter (wT x)).map fun f => AV.v (itV f)) by rw [hB, hF, List.map_append]; rfl]
        show Trl _ _ ((flatten (sub (bodyOf 26) [1, 1, 0, 1, 0, 0])).drop 3) (eA clT .dead .dead n k ((allP P (k + 1)).filter (wT x)) (v + 1)) _ _
        refine Trl.of_code (mu := fun _ => false) (known_none _) (neN (by kernel_rfl)) (em_r9 clT n k ((allP P (k + 1)).filter (wT x)) (v + 1) (hp [(60, stC (fun j => if j = k then nilP else pcA (Q j)) n), (3, [gi x])] [v + 1]) _) ⟨trivial, n - (k + 1), by omega, k + 1, v + 1, by omega, rfl, ?_, ?_⟩
        · rw [wr1 k (by omega)]; rfl
        · rw [empP_yes hP h2, hQ]
          show hp [(60, stC (fun j => if j = k then pcA none else pcA (Q j)) n), (3, [gi x])] [v + 1] = hp [(60, stC (fun j => pcA (if j = k then none else Q j)) n), (3, [gi x])] [v + 1]
          rw [set_pc]
      · have h2 : (wT x) f = false := h2
        have hF : [f].filter (wT x) = [] := by simp [List.filter, h2]
        rw [hF, List.append_nil] at hB
        show Trl _ _ ((flatten (sub (bodyOf 26) [1, 1, 0, 1, 0, 0])).drop 3) (eA clT .dead .dead n k ((allP P k).filter (wT x)) v) _ _
        refine Trl.of_code (mu := fun _ => false) (known_none _) (neN (by kernel_rfl)) (em_r9 clT n k ((allP P k).filter (wT x)) v (hp [(60, enc Q n), (3, [gi x])] [v]) _) ⟨trivial, n - (k + 1), by omega, k + 1, v, by omega, rfl, ?_, ?_⟩
        · rw [wr1 k (by omega), hB]; rfl
        · rw [empP_no (by rw [hP]; exact h2), hQ]; rfl
  · have h1 : k = n := by have := of_decide_eq_false h1; omega
    subst h1
    show Trl _ _ ((flatten (bodyOf 26)).drop 4) _ _ _
    exact Trl.of_code (mu := fun _ => false) (known_none _) (neN (by kernel_rfl)) (em_post clT k k ((allP P k).filter (wT x)) v (hp [(60, enc (empP (wT x) P k) k), (3, [gi x])] [v]) _) ⟨trivial, .inr rfl, trivial, ⟨_, rfl, Le.refl _⟩, _, rfl⟩

theorem fs_empL {P : Nat → Option It} {n : Nat} (hG : Good P n) (x : Int) : Fs Try.prog nro 26 [.ptr 0 0, clL] (slH (fun j => pcA (P j)) n [(3, [gi x])]) fun r h => (∃ y, clean r = some y ∧ Le y (.lst 7 (((allP P n).filter (wL x)).map fun f => .v (itV f)) .no)) ∧ ∃ tips, h = hp [(60, enc (empP (wL x) P n) n), (3, [gi x])] tips := by
  refine Fs.of_body (has_fn (by kernel_rfl)) ?_
  rw [em_sl, em_re]
  have hn := hG.1
  have ok0 : (tsX.s.ok 60 (enc P n) && ((plainC (enc P n) && true) && (plainC (enc P n) && true))) = true := by rw [x_ok hG, x_pl]; rfl
  refine Tr.of_flat (Trl.split 3 (Trl.of_code (mu := fun _ => false) knownU (neN (by kernel_rfl)) (em_pre tsX 60 (enc P n) clL x _) ⟨cdb_iff.2 ⟨trivial, ok0⟩, ?_⟩))
  show Trl _ _ ((flatten (bodyOf 26)).drop 3) _ _ _
  rw [em_fl]
  refine Tr.keepL [0, 1, 5, 9, 10] (by kernel_rfl) (Trl.nilTip 5 7 rfl rfl ?_)
  have hN : tsX.cN (enc P n) = (n : Int) := by show ((decN (enc P n) : Nat) : Int) = _; rw [(dec_enc hG).2]
  rw [hN]
  let I : Nat → List AV → AH → Prop := fun m act H => ∃ k v : Nat, k ≤ n ∧ m = n - k ∧ act = eA clL .dead .dead n k ((allP P k).filter (wL x)) v ∧ H = hp [(60, enc (empP (wL x) P k) n), (3, [gi x])] [v]
  refine Tr.block (Tr.loop I ?_ (m := n) ⟨0, 0, Nat.zero_le _, rfl, rfl, by rw [empP_0]; rfl⟩)
  rintro m act H ⟨k, v, hk, rfl, rfl, rfl⟩
  refine Tr.of_flat (Trl.split 2 (Trl.of_code (mu := fun _ => false) (known_none _) (neN (by kernel_rfl)) (em_hd clL n k ((allP P k).filter (wL x)) v (hp [(60, enc (empP (wL x) P k) n), (3, [gi x])] [v]) _) (holds_bif (fun h1 => ⟨trivial, ?_⟩) fun h1 => ⟨trivial, ?_⟩)))
  · have h1 : k < n := by have := of_decide_eq_true h1; omega
    have hk16 : k < 16 := by omega
    show Trl _ _ ((flatten (sub (bodyOf 26) [1, 1, 0, 1, 0, 0])).drop 2) _ _ _
    rw [em_bl]
    obtain ⟨Q, hQ⟩ : ∃ Q, empP (wL x) P k = Q := ⟨_, rfl⟩
    rw [hQ]
    have hQk : Q k = P k := by rw [← hQ]; exact empP_at _ _ _
    have eg : ([pcA (Q 0), pcA (Q 1), pcA (Q 2), pcA (Q 3), pcA (Q 4), pcA (Q 5), pcA (Q 6), pcA (Q 7), pcA (Q 8), pcA (Q 9), pcA (Q 10), pcA (Q 11), pcA (Q 12), pcA (Q 13), pcA (Q 14), pcA (Q 15), .v (.int .i64 (n : Int))] : List AV).getD (0 + Int.toNat (k : Int) * 1 + 0) .dead = pcA (Q k) := pl_get (p := fun j => pcA (Q j)) (n := (n : Int)) hk16
    have ec : (([pcA (Q 0), pcA (Q 1), pcA (Q 2), pcA (Q 3), pcA (Q 4), pcA (Q 5), pcA (Q 6), pcA (Q 7), pcA (Q 8), pcA (Q 9), pcA (Q 10), pcA (Q 11), pcA (Q 12), pcA (Q 13), pcA (Q 14), pcA (Q 15), .v (.int .i64 (n : Int))] : List AV).drop (0 + Int.toNat (k : Int) * 1)).take 1 = [pcA (Q k)] := by rw [← eg]; exact pl_cell (p := fun j => pcA (Q j)) (n := (n : Int)) hk16
    have hc : decide ((0 : Int) ≤ (k : Int) ∧ (k : Int) < 16) = true := decide_eq_true ⟨by omega, by omega⟩
    have hl : (([pcA (Q 0), pcA (Q 1), pcA (Q 2), pcA (Q 3), pcA (Q 4), pcA (Q 5), pcA (Q 6), pcA (Q 7), pcA (Q 8), pcA (Q 9), pcA (Q 10), pcA (Q 11), pcA (Q 12), pcA (Q 13), pcA (Q 14), pcA (Q 15), .v (.int .i64 (n : Int))] : List AV).length) = 17 := rfl
    refine Tr.block (Tr.of_flat (Trl.split 2 (Trl.of_code (mu := fun _ => false) (known_none _) (neN (by kernel_rfl)) (em_r5 (fun j => pcA (Q j)) n clL x k ((allP P k).filter (wL x)) v _) ?_)))
    rw [eg, hQk]
    rw [hQk] at ec
    refine ⟨cds_of (cdb_iff.2 ⟨trivial, hc⟩) ec, ?_⟩
    have hB := allP_succ P k
    cases hP : P k with
    | none =>
      rw [hP, Option.toList_none, List.append_nil] at hB
      show Trl _ _ ((flatten (sub (bodyOf 26) [1, 1, 0, 1, 0, 0, 1, 1, 0, 0])).drop 2) (eA clL (gi k) nilP n k ((allP P k).filter (wL x)) v) (hp [(60, stC (fun j => pcA (Q j)) n), (3, [gi x])] [v]) _
      refine Trl.of_code (mu := fun _ => false) (known_none _) (neN (by kernel_rfl)) (em_no (fun j => pcA (Q j)) n clL x k ((allP P k).filter (wL x)) v _) ⟨trivial, ?_⟩
      show Trl _ _ ((flatten (sub (bodyOf 26) [1, 1, 0, 1, 0, 0])).drop 3) (eA clL .dead .dead n k ((allP P k).filter (wL x)) v) _ _
      refine Trl.of_code (mu := fun _ => false) (known_none _) (neN (by kernel_rfl)) (em_r9 clL n k ((allP P k).filter (wL x)) v (hp [(60, enc Q n), (3, [gi x])] [v]) _) ⟨trivial, n - (k + 1), by omega, k + 1, v, by omega, rfl, ?_, ?_⟩
      · rw [wr1 k (by omega), hB]; rfl
      · rw [empP_no (by rw [hP]; rfl), hQ]; rfl
    | some f =>
      rw [hP, Option.toList_some] at hB
      have hB : (allP P (k + 1)).filter (wL x) = (allP P k).filter (wL x) ++ [f].filter (wL x) := by rw [hB, List.filter_append]
      show Trl _ _ ((flatten (sub (bodyOf 26) [1, 1, 0, 1, 0, 0, 1, 1, 0, 0])).drop 2) (eA clL (gi k) (.lp (itC f)) n k ((allP P k).filter (wL x)) v) (hp [(60, stC (fun j => pcA (Q j)) n), (3, [gi x])] [v]) _
      refine Trl.of_code (mu := fun _ => false) (known_none _) (neN (by kernel_rfl)) (em_L (fun j => pcA (Q j)) n f x k ((allP P k).filter (wL x)) v _) (holds_bif (fun h2 => ?_) fun h2 => ⟨trivial, ?_⟩)
      · have h2 : (wL x) f = true := h2
        have hF : [f].filter (wL x) = [f] := by simp [List.filter, h2]
        have hlen : ((allP P k).filter (wL x)).length ≤ 1000000 := Nat.le_trans (List.length_filter_le _ _) (Nat.le_trans (allP_len P k) (by omega))
        have c2 : decide (0 + Int.toNat (k : Int) * 1 + 1 ≤ ([pcA (Q 0), pcA (Q 1), pcA (Q 2), pcA (Q 3), pcA (Q 4), pcA (Q 5), pcA (Q 6), pcA (Q 7), pcA (Q 8), pcA (Q 9), pcA (Q 10), pcA (Q 11), pcA (Q 12), pcA (Q 13), pcA (Q 14), pcA (Q 15), .v (.int .i64 (n : Int))] : List AV).length) = true := by
          rw [Int.toNat_natCast]; exact decide_eq_true (by show 0 + k * 1 + 1 ≤ 17; omega)
        refine ⟨cdb_iff.2 ⟨cdb_iff.2 ⟨cdb_iff.2 ⟨trivial, room7 _ _ _ hlen⟩, hc⟩, c2⟩, ?_⟩
        have hS := pl_set (p := fun j => pcA (Q j)) (n := (n : Int)) hk16 nilP
        show Trl _ _ ((flatten (sub (bodyOf 26) [1, 1, 0, 1, 0, 0])).drop 3) [.ptr 0 0, clL, .dead, .dead, .dead, .lst 7 ((((allP P k).filter (wL x)).map fun f => .v (itV f)) ++ [.v (itV f)]) (.tp 0 (v + 1)), .dead, .dead, .dead, gi n, gi k, .dead, .dead, .dead, .dead, .dead, .dead, .dead, .dead, .dead, .dead, .dead, .dead, .dead, .dead, .dead, .dead, .dead, .dead, .dead, .dead, .dead, .dead, .dead, .dead, .dead, .dead, .dead, .dead] (hp [(60, (stC (fun j => pcA (Q j)) n).take (0 + Int.toNat (k : Int) * 1) ++ [nilP] ++ (stC (fun j => pcA (Q j)) n).drop (0 + Int.toNat (k : Int) * 1 + [nilP].length)), (3, [gi x])] [v + 1]) _
        rw [hS, show (((allP P k).filter (wL x)).map fun f => AV.v (itV f)) ++ [.v (itV f)] = (((allP P (k + 1)).filter (wL x)).map fun f => AV.v (itV f)) by rw [hB, hF, List.map_append]; rfl]
        show Trl _ _ ((flatten (sub (bodyOf 26) [1, 1, 0, 1, 0, 0])).drop 3) (eA clL .dead .dead n k ((allP P (k + 1)).filter (wL x)) (v + 1)) _ _
        refine Trl.of_code (mu := fun _ => false) (known_none _) (neN (by kernel_rfl)) (em_r9 clL n k ((allP P (k + 1)).filter (wL x)) (v + 1) (hp [(60, stC (fun j => if j = k then nilP else pcA (Q j)) n), (3, [gi x])] [v + 1]) _) ⟨trivial, n - (k + 1), by omega, k + 1, v + 1, by omega, rfl, ?_, ?_⟩
        · rw [wr1 k (by omega)]; rfl
        · rw [empP_yes hP h2, hQ]
          show hp [(60, stC (fun j => if j = k then pcA none else pcA (Q j)) n), (3, [gi x])] [v + 1] = hp [(60, stC (fun j => pcA (if j = k then none else Q j)) n), (3, [gi x])] [v + 1]
          rw [set_pc]
      · have h2 : (wL x) f = false := h2
        have hF : [f].filter (wL x) = [] := by simp [List.filter, h2]
        rw [hF, List.append_nil] at hB
        show Trl _ _ ((flatten (sub (bodyOf 26) [1, 1, 0, 1, 0, 0])).drop 3) (eA clL .dead .dead n k ((allP P k).filter (wL x)) v) _ _
        refine Trl.of_code (mu := fun _ => false) (known_none _) (neN (by kernel_rfl)) (em_r9 clL n k ((allP P k).filter (wL x)) v (hp [(60, enc Q n), (3, [gi x])] [v]) _) ⟨trivial, n - (k + 1), by omega, k + 1, v, by omega, rfl, ?_, ?_⟩
        · rw [wr1 k (by omega), hB]; rfl
        · rw [empP_no (by rw [hP]; exact h2), hQ]; rfl
  · have h1 : k = n := by have := of_decide_eq_false h1; omega
    subst h1
    show Trl _ _ ((flatten (bodyOf 26)).drop 4) _ _ _
    exact Trl.of_code (mu := fun _ => false) (known_none _) (neN (by kernel_rfl)) (em_post clL k k ((allP P k).filter (wL x)) v (hp [(60, enc (empP (wL x) P k) k), (3, [gi x])] [v]) _) ⟨trivial, .inr rfl, trivial, ⟨_, rfl, Le.refl _⟩, _, rfl⟩
end Go.Proofs.Ytjahmiohpcejfaa.AE
namespace Go.Proofs.Ytjahmiohpcejfaa.AE
set_option maxRecDepth 100000
open Go.RowKit
def mis (l : List It) : AV := .lst 7 (l.map fun f => .v (itV f)) .no
def emPick (args : List AV) (_ : AH) : Option (List Nat) := match args with
  | [.ptr i 0, .fn _ [] [.ptr j 0]] => some [i, j]
  | _ => none
def oEmp (S : TS) : ObjS := ⟨emPick, [true, true], [true, true], fun args bs => match args with
  | [.ptr 0 0, .fn (.func g) [] [.ptr 1 0]] => match bs with
    | [(t, C), (ti, [.v (.int .i64 x)])] => match Nat.beq ti 3 with
      | true => match Nat.beq g 27 with
        | true => some (mis (S.tL C x), [(t, S.tC C x), (ti, [gi x])], S.s.ok t C)
        | false => match Nat.beq g 28 with
          | true => some (mis (S.lL C x), [(t, S.lC C x), (ti, [gi x])], S.s.ok t C)
          | false => none
      | false => none
    | _ => none
  | _ => none⟩
def oAll (S : TS) : ObjS := oSl fun args t C => match args with
  | [.ptr 0 0] => some (mis (S.all C), C, S.s.ok t C)
  | _ => none
noncomputable def prV (S : TS) : FuncId → Option (List AV → AH → Ans) := fun g => match g with
  | 19 => some (obj? (oAll S))
  | 26 => some (obj? (oEmp S))
  | g => prU S g
theorem tk_pre (S : TS) (t : TypeId) (C : List AV) (id : Int) (R : Exit → List AV → AH → Prop) : codeL nro (fun _ => false) (prV S) 6 ((flatten (bodyOf 11)).take 2) ([.ptr 0 0, gi id] ++ List.replicate 15 (.v undef)) (hp [(t, C)] []) (kp [4, 5, 6] R) =
    (some ((cdb True ((((TS.s S)).1 t C) && (((plainC C) && ((plainC [(AV.v (Value.int IntKind.i64 id))]) && true)) && ((plainC ((S).11 C id)) && ((plainC [(AV.v (Value.int IntKind.i64 id))]) && true))))) ∧ (R Exit.normal [AV.dead, AV.dead, AV.dead, AV.dead, (AV.ptr (List.length [(t, C), ((3 : Nat), [(AV.v (Value.int IntKind.i64 id))])]) (0 : Nat)), (AV.v (Value.bool false)), (AV.lst (7 : Nat) (List.map (fun (f : It) => (AV.v (Value.agg #[(Value.int IntKind.i64 (f (0 : Nat))), (Value.int IntKind.i64 (f (1 : Nat))), (Value.int IntKind.i64 (f (2 : Nat))), (Value.int IntKind.i64 (f (3 : Nat))), (Value.int IntKind.i64 (f (4 : Nat))), (Value.int IntKind.i64 (f (5 : Nat))), (Value.int IntKind.i64 (f (6 : Nat)))]))) ((S).16 C id)) Tip.no), AV.dead, AV.dead, AV.dead, AV.dead, AV.dead, AV.dead, AV.dead, AV.dead, AV.dead, AV.dead] (AH.mk [(t, ((S).11 C id)), ((3 : Nat), [(AV.v (Value.int IntKind.i64 id))]), ((30 : Nat), [(AV.v (Value.int IntKind.i64 (0 : Int))), (AV.v (Value.int IntKind.i64 (0 : Int))), (AV.v (Value.int IntKind.i64 (0 : Int))), (AV.v (Value.int IntKind.i64 (0 : Int))), (AV.v (Value.int IntKind.i64 (0 : Int))), (AV.v (Value.int IntKind.i64 (0 : Int))), (AV.v (Value.int IntKind.i64 (0 : Int)))])] (@List.nil Nat) (0 : Nat) (0 : Nat) true (@List.nil (Prod Nat Bool)) True)))) := by kernel_rfl
def tkA (l : List It) : List AV := [.dead, .dead, .dead, .dead, .ptr 2 0, .v (.bool false), mis l] ++ List.replicate 10 .dead
theorem tk_nil (t : TypeId) (C : List AV) (x : Int) (R : Exit → List AV → AH → Prop) : codeL nro (fun _ => false) (fun _ => none) 6 ((flatten (bodyOf 11)).drop 2) (tkA []) (hp [(t, C), (3, [gi x]), (30, z7)] []) (kp [4, 5] R) =
    (some (True ∧ (R Exit.ret [AV.dead, AV.dead, AV.dead, AV.dead, (AV.ptr (2 : Nat) (0 : Nat)), (AV.v (Value.bool false)), AV.dead, AV.dead, AV.dead, AV.dead, AV.dead, AV.dead, AV.dead, AV.dead, AV.dead, AV.dead, AV.dead] (AH.mk [(t, C), ((3 : Nat), [(AV.v (Value.int IntKind.i64 x))]), ((30 : Nat), [(AV.v (Value.int IntKind.i64 (0 : Int))), (AV.v (Value.int IntKind.i64 (0 : Int))), (AV.v (Value.int IntKind.i64 (0 : Int))), (AV.v (Value.int IntKind.i64 (0 : Int))), (AV.v (Value.int IntKind.i64 (0 : Int))), (AV.v (Value.int IntKind.i64 (0 : Int))), (AV.v (Value.int IntKind.i64 (0 : Int)))])] (@List.nil Nat) (0 : Nat) (0 : Nat) true (@List.nil (Prod Nat Bool)) True)))) := by kernel_rfl
theorem tk_cons (t : TypeId) (C : List AV) (x : Int) (f : It) (l : List It) (R : Exit → List AV → AH → Prop) : codeL nro (fun _ => false) (fun _ => none) 6 ((flatten (bodyOf 11)).drop 2) (tkA (f :: l)) (hp [(t, C), (3, [gi x]), (30, z7)] []) (kp [4, 5] R) =
    (some (True ∧ (R Exit.ret [AV.dead, AV.dead, AV.dead, AV.dead, (AV.ptr (2 : Nat) (0 : Nat)), (AV.v (Value.bool true)), AV.dead, AV.dead, AV.dead, AV.dead, AV.dead, AV.dead, AV.dead, AV.dead, AV.dead, AV.dead, AV.dead] (AH.mk [(t, C), ((3 : Nat), [(AV.v (Value.int IntKind.i64 x))]), ((30 : Nat), [(AV.v (Value.int IntKind.i64 (f (0 : Nat)))), (AV.v (Value.int IntKind.i64 (f (1 : Nat)))), (AV.v (Value.int IntKind.i64 (f (2 : Nat)))), (AV.v (Value.int IntKind.i64 (f (3 : Nat)))), (AV.v (Value.int IntKind.i64 (f (4 : Nat)))), (AV.v (Value.int IntKind.i64 (f (5 : Nat)))), (AV.v (Value.int IntKind.i64 (f (6 : Nat))))])] (@List.nil Nat) (0 : Nat) (0 : Nat) true (@List.nil (Prod Nat Bool)) True)))) := by kernel_rfl
theorem lt_go (S : TS) (t : TypeId) (C : List AV) (x : Int) (Φ : AV → AH → Prop) : callK nro (fun _ => false) (prV S) 6 14 [.ptr 0 0, gi x] (hp [(t, C)] []) (fun r h => some (h.cd ∧ Φ r (tidy h))) =
    (some ((cdb True ((((TS.s S)).1 t C) && (((plainC C) && ((plainC [(AV.v (Value.int IntKind.i64 x))]) && true)) && ((plainC ((S).15 C x)) && ((plainC [(AV.v (Value.int IntKind.i64 x))]) && true))))) ∧ (Φ (AV.lst (7 : Nat) (List.map (fun (f : It) => (AV.v (Value.agg #[(Value.int IntKind.i64 (f (0 : Nat))), (Value.int IntKind.i64 (f (1 : Nat))), (Value.int IntKind.i64 (f (2 : Nat))), (Value.int IntKind.i64 (f (3 : Nat))), (Value.int IntKind.i64 (f (4 : Nat))), (Value.int IntKind.i64 (f (5 : Nat))), (Value.int IntKind.i64 (f (6 : Nat)))]))) ((S).14 C x)) Tip.no) (AH.mk [(t, ((S).15 C x)), ((3 : Nat), [(AV.v (Value.int IntKind.i64 x))])] (@List.nil Nat) (0 : Nat) (0 : Nat) true (@List.nil (Prod Nat Bool)) True)))) := by kernel_rfl
theorem fr_go (S : TS) (t : TypeId) (C : List AV) (Φ : AV → AH → Prop) : callK nro (fun _ => false) (prV S) 6 21 [.ptr 0 0] (hp [(t, C)] []) (fun r h => some (h.cd ∧ Φ r (tidy h))) =
    (some ((cdb (cdb True ((((TS.s S)).1 t C) && (((plainC C) && true) && ((plainC C) && true)))) ((((TS.s S)).1 t (@Prod.fst (List AV) Bool (@Prod.snd AV (Prod (List AV) Bool) ((AV.v (Value.int IntKind.i64 (TS.cN S C))), (C, (SS.ok (TS.s S) t C)))))) && (((plainC C) && true) && ((plainC C) && true)))) ∧ (Φ (AV.v (Value.int IntKind.i64 (IntKind.wrap IntKind.i64 (((S).2 C) - ((List.length (List.map (fun (f : It) => (AV.v (Value.agg #[(Value.int IntKind.i64 (f (0 : Nat))), (Value.int IntKind.i64 (f (1 : Nat))), (Value.int IntKind.i64 (f (2 : Nat))), (Value.int IntKind.i64 (f (3 : Nat))), (Value.int IntKind.i64 (f (4 : Nat))), (Value.int IntKind.i64 (f (5 : Nat))), (Value.int IntKind.i64 (f (6 : Nat)))]))) ((S).12 C))) : Int))))) (AH.mk [(t, C)] (@List.nil Nat) (0 : Nat) (0 : Nat) true (@List.nil (Prod Nat Bool)) True)))) := by kernel_rfl
end Go.Proofs.Ytjahmiohpcejfaa.AE
namespace Go.Proofs.Ytjahmiohpcejfaa.AE
set_option maxRecDepth 100000
open Go.RowKit
theorem x_all {P : Nat → Option It} {n : Nat} (hG : Good P n) : tsX.all (enc P n) = allP P n := by
  show allP (decP (enc P n)) (decN (enc P n)) = _
  rw [(dec_enc hG).1, (dec_enc hG).2]
theorem x_tL {P : Nat → Option It} {n : Nat} (hG : Good P n) (x : Int) : tsX.tL (enc P n) x = (allP P n).filter (wT x) := by
  show (allP (decP (enc P n)) (decN (enc P n))).filter _ = _
  rw [(dec_enc hG).1, (dec_enc hG).2]
theorem x_lL {P : Nat → Option It} {n : Nat} (hG : Good P n) (x : Int) : tsX.lL (enc P n) x = (allP P n).filter (wL x) := by
  show (allP (decP (enc P n)) (decN (enc P n))).filter _ = _
  rw [(dec_enc hG).1, (dec_enc hG).2]
theorem x_tC {P : Nat → Option It} {n : Nat} (hG : Good P n) (x : Int) : tsX.tC (enc P n) x = enc (empP (wT x) P n) n := by
  show enc (empP _ (decP (enc P n)) (decN (enc P n))) (decN (enc P n)) = _
  rw [(dec_enc hG).1, (dec_enc hG).2]
theorem x_lC {P : Nat → Option It} {n : Nat} (hG : Good P n) (x : Int) : tsX.lC (enc P n) x = enc (empP (wL x) P n) n := by
  show enc (empP _ (decP (enc P n)) (decN (enc P n))) (decN (enc P n)) = _
  rw [(dec_enc hG).1, (dec_enc hG).2]
theorem x_cN {P : Nat → Option It} {n : Nat} (hG : Good P n) : tsX.cN (enc P n) = (n : Int) := by
  show ((decN (enc P n) : Nat) : Int) = _; rw [(dec_enc hG).2]
theorem x_fr {P : Nat → Option It} {n : Nat} (hG : Good P n) : tsX.fr (enc P n) = (n : Int) - (allP P n).length := by
  show ((decN (enc P n) : Nat) : Int) - (allP (decP (enc P n)) (decN (enc P n))).length = _
  rw [(dec_enc hG).1, (dec_enc hG).2]
theorem good_emp {P : Nat → Option It} {n : Nat} (hG : Good P n) (w : It → Bool) (m : Nat) : Good (empP w P m) n := by
  refine ⟨hG.1, fun i hi => ?_, fun i f h => hG.2.2 i f ?_⟩
  · unfold empP; rw [hG.2.1 i hi]; split <;> rfl
  · unfold empP at h
    split at h
    · cases h
    · exact h
theorem good_put {P : Nat → Option It} {n : Nat} (hG : Good P n) {f : It} (hf : ∀ j, 7 ≤ j → f j = 0) : Good (putP P n f) n := by
  unfold putP
  cases (fnd (wI P (f 0)) n 0).isSome with
  | true => exact hG
  | false =>
    show Good (match fnd (wN P) n 0 with | some k => fun j => if j = k then some f else P j | none => P) n
    cases hk : fnd (wN P) n 0 with
    | none => exact hG
    | some k =>
      have := fnd_lt hk
      refine ⟨hG.1, fun i hi => ?_, fun i g h => ?_⟩
      · show (if i = k then some f else P i) = none
        rw [if_neg (by omega)]; exact hG.2.1 i hi
      · have h : (if i = k then some f else P i) = some g := h
        split at h
        · cases h; exact hf
        · exact hG.2.2 i g h
theorem oAll_ok : ∀ args H r H', obj? (oAll tsX) args H = some (r, H') → HSound1 Try.prog nro 19 args H r H' := by
  refine oSl_ok (has_fn (by kernel_rfl)) fun args t C r C' h => ?_
  split at h
  · simp only [Option.some.injEq, Prod.mk.injEq] at h
    obtain ⟨rfl, rfl, h⟩ := h
    obtain ⟨rfl, P, n, hG, rfl⟩ := okC_out h
    refine (fs_all hG).mono fun r h => ?_
    rintro ⟨h1, tips, rfl⟩
    refine ⟨.inr ?_, tips, [], rfl⟩
    rw [x_all hG]; exact h1
  · cases h
theorem oEmp_ok : ∀ args H r H', obj? (oEmp tsX) args H = some (r, H') → HSound1 Try.prog nro 26 args H r H' := by
  refine obj_ok (has_fn (by kernel_rfl)) fun args bs r bs2 hs => ?_
  unfold oEmp at hs
  simp only at hs
  split at hs
  · rename_i g
    split at hs
    · rename_i t C ti x
      split at hs
      · rename_i hti
        have hti := Nat.eq_of_beq_eq_true hti
        subst hti
        split at hs
        · rename_i hg
          have hg := Nat.eq_of_beq_eq_true hg
          subst hg
          simp only [Option.some.injEq, Prod.mk.injEq] at hs
          obtain ⟨rfl, rfl, h⟩ := hs
          obtain ⟨rfl, P, n, hG, rfl⟩ := okC_out h
          refine (fs_empT hG x).mono fun r h => ?_
          rintro ⟨h1, tips, rfl⟩
          refine ⟨.inr ?_, tips, [], ?_⟩
          · rw [x_tL hG]; exact h1
          · rw [x_tC hG]; rfl
        · split at hs
          · rename_i hg
            have hg := Nat.eq_of_beq_eq_true hg
            subst hg
            simp only [Option.some.injEq, Prod.mk.injEq] at hs
            obtain ⟨rfl, rfl, h⟩ := hs
            obtain ⟨rfl, P, n, hG, rfl⟩ := okC_out h
            refine (fs_empL hG x).mono fun r h => ?_
            rintro ⟨h1, tips, rfl⟩
            refine ⟨.inr ?_, tips, [], ?_⟩
            · rw [x_lL hG]; exact h1
            · rw [x_lC hG]; rfl
          · cases hs
      · cases hs
    · cases hs
  · cases hs
theorem knownV : Known nro (prV tsX) := by
  intro g p h
  unfold prV at h
  split at h
  · cases h; exact oAll_ok
  · cases h; exact oEmp_ok
  · exact knownU g p h
theorem x_pl2 {P Q : Nat → Option It} {n m : Nat} (x y : Int) : ((plainC (enc P n) && ((plainC [gi x]) && true)) && (plainC (enc Q m) && ((plainC [gi y]) && true))) = true := by
  have h1 : plainC (enc P n) = true := enc_P
  have h2 : plainC (enc Q m) = true := enc_P
  rw [h1, h2]; rfl
theorem tk_sl : slotsOf 11 = 17 := by kernel_rfl
theorem tk_re : resultsOf 11 = [.cell 4 30, .tmp 5] := by kernel_rfl
theorem fs_take {P : Nat → Option It} {n : Nat} (hG : Good P n) (id : Int) : Fs Try.prog nro 11 [.ptr 0 0, gi id] (hp [(60, enc P n)] []) fun r h => r = atV (hdO ((allP P n).filter (wT id))) ∧ ∃ more, h = hp ([(60, enc (empP (wT id) P n) n)] ++ more) [] := by
  refine Fs.of_body (has_fn (by kernel_rfl)) ?_
  rw [tk_sl, tk_re]
  refine Tr.of_flat (Trl.split 2 (Trl.of_code (mu := fun _ => false) knownV (neN (by kernel_rfl)) (tk_pre tsX 60 (enc P n) id _) ⟨cdb_iff.2 ⟨trivial, ?_⟩, ?_⟩))
  · rw [x_ok hG, x_tC hG]; exact x_pl2 _ _
  · rw [x_tL hG, x_tC hG]
    obtain ⟨l, hl⟩ : ∃ l, (allP P n).filter (wT id) = l := ⟨_, rfl⟩
    rw [hl]
    cases l with
    | nil =>
      show Trl _ _ ((flatten (bodyOf 11)).drop 2) (tkA []) (hp [(60, enc (empP (wT id) P n) n), (3, [gi id]), (30, z7)] []) _
      exact Trl.of_code (mu := fun _ => false) (known_none _) (neN (by kernel_rfl)) (tk_nil 60 (enc (empP (wT id) P n) n) id _) ⟨trivial, .inr rfl, trivial, rfl, [(3, [gi id]), (30, z7)], rfl⟩
    | cons f l =>
      show Trl _ _ ((flatten (bodyOf 11)).drop 2) (tkA (f :: l)) (hp [(60, enc (empP (wT id) P n) n), (3, [gi id]), (30, z7)] []) _
      exact Trl.of_code (mu := fun _ => false) (known_none _) (neN (by kernel_rfl)) (tk_cons 60 (enc (empP (wT id) P n) n) id f l _) ⟨trivial, .inr rfl, trivial, rfl, [(3, [gi id]), (30, itC f)], rfl⟩
theorem fs_late {P : Nat → Option It} {n : Nat} (hG : Good P n) (x : Int) : Fs Try.prog nro 14 [.ptr 0 0, gi x] (hp [(60, enc P n)] []) fun r h => r = mis ((allP P n).filter (wL x)) ∧ ∃ more, h = hp ([(60, enc (empP (wL x) P n) n)] ++ more) [] := by
  refine Fs.of_call (mu := fun _ => false) knownV (lt_go tsX 60 (enc P n) x fun r h => r = mis ((allP P n).filter (wL x)) ∧ ∃ more, h = hp ([(60, enc (empP (wL x) P n) n)] ++ more) []) ⟨cdb_iff.2 ⟨trivial, ?_⟩, ?_, [(3, [gi x])], ?_⟩
  · rw [x_ok hG, x_lC hG]; exact x_pl2 _ _
  · rw [x_lL hG]; rfl
  · rw [x_lC hG]; rfl
theorem wr0 (x : Int) (h1 : -1000 ≤ x) (h2 : x ≤ 1000) : IntKind.wrap .i64 x = x := by rw [IntKind.wrap_i64]; omega
theorem fs_free {P : Nat → Option It} {n : Nat} (hG : Good P n) : Fs Try.prog nro 21 [.ptr 0 0] (hp [(60, enc P n)] []) fun r h => r = gi ((n : Int) - (allP P n).length) ∧ h = hp [(60, enc P n)] [] := by
  have ok0 : (tsX.s.ok 60 (enc P n) && ((plainC (enc P n) && true) && (plainC (enc P n) && true))) = true := by rw [x_ok hG, x_pl]; rfl
  refine Fs.of_call (mu := fun _ => false) knownV (fr_go tsX 60 (enc P n) fun r h => r = gi ((n : Int) - (allP P n).length) ∧ h = hp [(60, enc P n)] []) ⟨cdb_iff.2 ⟨cdb_iff.2 ⟨trivial, ok0⟩, ok0⟩, ?_, rfl⟩
  rw [x_cN hG, x_all hG]
  have h1 := hG.1
  have h2 := allP_len P n
  show gi (IntKind.wrap .i64 ((n : Int) - (((allP P n).map fun f => AV.v (itV f)).length : Nat))) = _
  rw [List.length_map, wr0 _ (by omega) (by omega)]
end Go.Proofs.Ytjahmiohpcejfaa.AE
namespace Go.Proofs.Ytjahmiohpcejfaa.AE
set_option maxRecDepth 100000
open Go.RowKit
theorem t31 : ends (run nro (fun _ => false) (fun _ => none) 10 6 [] H0) true = (true = true ∧ True) := by kernel_rfl
noncomputable def pr31 : FuncId → Option (List AV → AH → Ans) := fun g => match g with
  | 6 => some (pure? awakeS)
  | _ => none
theorem known31 : Known nro pr31 := by
  intro g p h
  unfold pr31 at h
  split at h
  · cases h; exact awake_ok (d := 10) (by rw [t31]; exact ⟨rfl, trivial⟩) (has_fn (by kernel_rfl))
  · cases h
end Go.Proofs.Ytjahmiohpcejfaa.AE
namespace Go.Proofs.Ytjahmiohpcejfaa.AE
set_option maxRecDepth 100000
open Go.RowKit
def acV (a : Nat → Int) : AV := .v (.agg #[.int .i64 (a 0), .int .i64 (a 1), .int .i64 (a 2), .int .i64 (a 3), .int .i64 (a 4), .int .i64 (a 5), .int .i64 (a 6), .int .i64 (a 7), .int .i64 (a 8)])
def acC (a : Nat → Int) : List AV := [gi (a 0), gi (a 1), gi (a 2), gi (a 3), gi (a 4), gi (a 5), gi (a 6), gi (a 7), gi (a 8)]
def acs (l : List (Nat → Int)) : AV := .lst 9 (l.map acV) .no
def oPut (S : TS) : ObjS := oSl fun args t C => match args with
  | [.ptr 0 0, .v (.agg a)] => some (.v (.tuple #[.int .i64 (S.uN C a), .int .i64 (S.uE C a)]), S.uC C a, S.s.ok t C && S.uO a)
  | _ => none
def oTake (S : TS) : ObjS := oSl fun args t C => match args with
  | [.ptr 0 0, .v (.int .i64 k)] => some (.v (.tuple #[.agg #[.int .i64 (S.tF C k 0), .int .i64 (S.tF C k 1), .int .i64 (S.tF C k 2), .int .i64 (S.tF C k 3), .int .i64 (S.tF C k 4), .int .i64 (S.tF C k 5), .int .i64 (S.tF C k 6)], .bool (S.tB C k)]), S.tC C k, S.s.ok t C)
  | _ => none
def oLate (S : TS) : ObjS := oSl fun args t C => match args with
  | [.ptr 0 0, .v (.int .i64 k)] => some (mis (S.lL C k), S.lC C k, S.s.ok t C)
  | _ => none
def oFree (S : TS) : ObjS := oSl fun args t C => match args with
  | [.ptr 0 0] => some (gi (S.fr C), C, S.s.ok t C)
  | _ => none
noncomputable def prX (S : TS) : FuncId → Option (List AV → AH → Ans) := fun g => match g with
  | 6 => some (pure? awakeS)
  | 9 => some (obj? (oPut S))
  | 11 => some (obj? (oTake S))
  | 14 => some (obj? (oLate S))
  | 19 => some (obj? (oAll S))
  | 21 => some (obj? (oFree S))
  | 17 => some (obj? (oPlace S))
  | 18 => some (obj? (oAt S))
  | _ => none
end Go.Proofs.Ytjahmiohpcejfaa.AE
