/-
  Layer 3: how far two texts are apart.
-/
import Derived.Test.YtbnhhacjoabpaaaT03N
namespace Go.Proofs.Ytbnhhacjoabpaaa.AE
open Go.RowKit Cr Oc
def apD (a b : ByteArray) : List Bool := unl (bitsL (bytsOf a)) (bitsL (bytsOf b))
def apN (a b : ByteArray) : Int := if a.size = b.size then (apS (apD a b) (8 * a.size)).2 - (apS (apD a b) (8 * a.size)).1 + 1 else 0
def apB (a b : ByteArray) : Bool := decide (a.size = b.size)
theorem apN_ne {a b : ByteArray} (h : ¬ a.size = b.size) : apN a b = 0 := if_neg h
theorem apN_eq {a b : ByteArray} (h : a.size = b.size) : apN a b = (apS (apD a b) (8 * a.size)).2 - (apS (apD a b) (8 * a.size)).1 + 1 := if_pos h
theorem sl_ap : slotsOf 14 = 49 := by kernel_rfl
theorem re_ap : resultsOf 14 = [.tmp 4, .tmp 5] := by kernel_rfl
theorem fl_ap : (flatten (bodyOf 14)).drop 5 = .block 0 (.loop (sub (bodyOf 14) [1, 1, 1, 0, 1, 0, 0])) :: (flatten (bodyOf 14)).drop 6 := by kernel_rfl
theorem sl_rap : slotsOf 15 = 36 := by kernel_rfl
theorem re_rap : resultsOf 15 = [.tmp 4, .tmp 5] := by kernel_rfl
theorem fl_rap : (flatten (bodyOf 15)).drop 5 = .block 0 (.loop (sub (bodyOf 15) [1, 1, 1, 0, 1, 0, 0])) :: (flatten (bodyOf 15)).drop 6 := by kernel_rfl
def rapA (a b : ByteArray) (f t i : Int) : List AV := [.v (.string a), .v (.string b)] ++ List.replicate 4 .dead ++ [.v (.int .i64 f), .v (.int .i64 t), .v (.int .i64 i)] ++ List.replicate 27 .dead
def apA (a b : ByteArray) (f t n i : Int) : List AV := [.v (.string a), .v (.string b)] ++ List.replicate 4 .dead ++ [.v (.int .i64 f), .v (.int .i64 t)] ++ List.replicate 8 .dead ++ [.v (.int .i64 n), .v (.int .i64 i)] ++ List.replicate 31 .dead
theorem apD_get (a b : ByteArray) (h : a.size = b.size) (k : Nat) (hk : k < 8 * a.size) : (apD a b).getD k false = (bitV a k != bitV b k) := by
  obtain ⟨x, hx, hx2⟩ := bitV_get a k hk
  obtain ⟨y, hy, hy2⟩ := bitV_get b k (by omega)
  unfold apD
  rw [unl_get _ _ k (by rw [bits_txt]; exact hk) (by rw [bits_txt]; omega), List.getD_eq_getElem?_getD, List.getD_eq_getElem?_getD, hx, hy, hx2, hy2]
  cases x <;> cases y <;> rfl
theorem ends_ap (D : List Bool) (k : Nat) (hk : k ≤ 800000) : IntKind.wrap .i64 (IntKind.wrap .i64 ((apS D k).2 - (apS D k).1) + 1) = (apS D k).2 - (apS D k).1 + 1 := by
  have := ap_rng D k
  rw [IntKind.wrap_i64, IntKind.wrap_i64]
  omega
theorem int_bne (x y : Nat) : (((x : Nat) : Int) != ((y : Nat) : Int)) = (x != y) := by
  by_cases h : x = y
  · subst h; simp
  · have : ¬ ((x : Nat) : Int) = ((y : Nat) : Int) := by omega
    rw [bne_iff_ne.2 this, bne_iff_ne.2 h]
theorem elz' (k v : Nat) (hk : k ≤ 1000000) (hv : v ≤ 7) : IntKind.wrap .i64 (IntKind.wrap .i64 (8 * (k : Int)) + ((v : Nat) : Int)) = ((8 * k + v : Nat) : Int) := by
  rw [IntKind.wrap_i64, IntKind.wrap_i64]; omega
theorem etz' (k v : Nat) (hk : k ≤ 1000000) (hv : v ≤ 7) : IntKind.wrap .i64 (IntKind.wrap .i64 (IntKind.wrap .i64 (8 * (k : Int)) + 7) - ((v : Nat) : Int)) = ((8 * k + 7 - v : Nat) : Int) := by
  rw [IntKind.wrap_i64, IntKind.wrap_i64, IntKind.wrap_i64]; omega
theorem ap_bodyU (a b : ByteArray) (f t n i u : Int) (R : Exit → List AV → AH → Prop) (hu : bits .xor .u8 (((Array.getD a.data (Int.toNat i) 0).toNat : Nat) : Int) (((Array.getD b.data (Int.toNat i) 0).toNat : Nat) : Int) = u) :
    code nro (fun _ => false) prA 5 (sub (bodyOf 14) [1, 1, 1, 0, 1, 0, 0]) (apA a b f t n i) (hp [] []) (kp [0, 1, 6, 7, 16, 17] R) =
      (bif decide (i < n) then
        (bif u == 0 then some (cdb (cdb True (decide (0 ≤ i ∧ i.toNat < a.size))) (decide (0 ≤ i ∧ i.toNat < b.size)) ∧ R .normal (apA a b f t n (IntKind.wrap .i64 (i + 1))) (hp [] []))
        else bif decide (f < 0) then some (cdb (cdb (cdb (cdb True (decide (0 ≤ i ∧ i.toNat < a.size))) (decide (0 ≤ i ∧ i.toNat < b.size))) (decide (0 ≤ u ∧ u < 256))) (decide (0 ≤ u ∧ u < 256)) ∧ R .normal (apA a b (IntKind.wrap .i64 (IntKind.wrap .i64 (8 * i) + (lzV u.toNat : Nat))) (IntKind.wrap .i64 (IntKind.wrap .i64 (IntKind.wrap .i64 (8 * i) + 7) - (tzV u.toNat : Nat))) n (IntKind.wrap .i64 (i + 1))) (hp [] []))
        else some (cdb (cdb (cdb True (decide (0 ≤ i ∧ i.toNat < a.size))) (decide (0 ≤ i ∧ i.toNat < b.size))) (decide (0 ≤ u ∧ u < 256)) ∧ R .normal (apA a b f (IntKind.wrap .i64 (IntKind.wrap .i64 (IntKind.wrap .i64 (8 * i) + 7) - (tzV u.toNat : Nat))) n (IntKind.wrap .i64 (i + 1))) (hp [] [])))
      else some (True ∧ R (.exit 0) (apA a b f t n i) (hp [] []))) := by
  subst hu
  exact Eq.trans (ap_body a b f t n i R) (by kernel_rfl)
theorem lz_le : ∀ u, u < 256 → u ≠ 0 → lzV u ≤ 7 ∧ tzV u ≤ 7 := by decide +kernel
theorem fs_rapart (a b : ByteArray) (ha : a.size ≤ 100000) (hb : b.size ≤ 100000) : Fs Try.prog nro 15 [.v (.string a), .v (.string b)] (hp [] []) fun r _ => r = .v (.tuple #[.int .i64 (apN a b), .bool (apB a b)]) := by
  refine Fs.of_body (has_fn (by kernel_rfl)) ?_
  rw [sl_rap, re_rap]
  refine Tr.of_flat (Trl.split 5 (Trl.of_code (knownA nro) (ne_nil (by kernel_rfl)) (ra_pre a b _) (holds_bif (fun h => ⟨trivial, .inr rfl, trivial, ?_⟩) fun h => ⟨trivial, ?_⟩)))
  · have hne : ¬ a.size = b.size := fun e => by rw [e] at h; simp at h
    have e2 : apB a b = false := decide_eq_false hne
    rw [apN_ne hne, e2]; rfl
  have he : a.size = b.size := by
    have h9 : (a.size : Int) = (b.size : Int) := by simpa using h
    omega
  show Trl _ _ ((flatten (bodyOf 15)).drop 5) _ _ _
  rw [fl_rap]
  refine Tr.keepL [0, 1, 6, 7, 8] rfl ?_
  let I : Nat → List AV → AH → Prop := fun m act H => ∃ k f t i, k ≤ 8 * a.size ∧ m = 8 * a.size - k ∧ act = rapA a b f t i ∧ f = (apS (apD a b) k).1 ∧ t = (apS (apD a b) k).2 ∧ i = ((k : Nat) : Int) ∧ H = hp [] []
  refine Tr.block (Tr.loop I ?_ (m := 8 * a.size) ⟨0, _, _, _, Nat.zero_le _, rfl, rfl, rfl, rfl, rfl, rfl⟩)
  rintro m act H ⟨k, f, t, i, hk, rfl, rfl, hf, ht, rfl, rfl⟩
  have hl : IntKind.wrap .i64 ((8 : Int) * ((a.size : Nat) : Int)) = ((8 * a.size : Nat) : Int) := by rw [IntKind.wrap_i64]; omega
  have body := fun R => ra_body a b f t k R
  rw [hl, add_one k (by omega)] at body
  have ca : k < 8 * a.size → decide ((0 : Int) ≤ (k : Int) ∧ (k : Int) < 8 * ((a.size : Nat) : Int) ∧ a.size ≤ 100000) = true := fun h => decide_eq_true ⟨Int.natCast_nonneg k, by omega, ha⟩
  have cb : k < 8 * a.size → decide ((0 : Int) ≤ (k : Int) ∧ (k : Int) < 8 * ((b.size : Nat) : Int) ∧ b.size ≤ 100000) = true := fun h => decide_eq_true ⟨Int.natCast_nonneg k, by omega, hb⟩
  refine Tr.of_code (knownA nro) (body _) (holds_bif (fun h8 => ?_) (fun h8 => ?_))
  · have h8 := of_decide_eq_true h8
    have hlt : k < 8 * a.size := by omega
    have hd := apD_get a b he k hlt
    have en : apS (apD a b) (k + 1) = apStep (apS (apD a b) k) k ((apD a b).getD k false) := rfl
    have fin : ∀ f' t', (apS (apD a b) (k + 1)) = (f', t') →
        ∃ m', m' < 8 * a.size - k ∧ I m' (rapA a b f' t' ((k + 1 : Nat) : Int)) (hp [] []) := fun f' t' h =>
      ⟨8 * a.size - (k + 1), by omega, k + 1, _, _, _, by omega, rfl, rfl, by rw [h], by rw [h], rfl, rfl⟩
    refine holds_bif (fun h2 => holds_bif (fun h3 => ?_) (fun h3 => ?_)) (fun h2 => ?_)
    · have hb2 : (bitV a k != bitV b k) = true := by
        rw [Int.toNat_natCast, int_bne] at h2; exact h2
      have h3 := of_decide_eq_true h3
      refine ⟨cdb_iff.2 ⟨cdb_iff.2 ⟨trivial, ca hlt⟩, cb hlt⟩, fin _ _ ?_⟩
      rw [en, hd, hb2]
      unfold apStep
      rw [if_pos rfl, if_pos (by rw [← hf]; exact h3)]
    · have hb2 : (bitV a k != bitV b k) = true := by
        rw [Int.toNat_natCast, int_bne] at h2; exact h2
      have h3 := of_decide_eq_false h3
      refine ⟨cdb_iff.2 ⟨cdb_iff.2 ⟨trivial, ca hlt⟩, cb hlt⟩, fin _ _ ?_⟩
      rw [en, hd, hb2]
      unfold apStep
      rw [if_pos rfl, if_neg (by rw [← hf]; exact h3), hf]
    · have hb2 : (bitV a k != bitV b k) = false := by
        rw [Int.toNat_natCast, int_bne] at h2; exact h2
      refine ⟨cdb_iff.2 ⟨cdb_iff.2 ⟨trivial, ca hlt⟩, cb hlt⟩, fin _ _ ?_⟩
      rw [en, hd, hb2, hf, ht]
      rfl
  · have h8 := of_decide_eq_false h8
    obtain rfl : k = 8 * a.size := by omega
    refine ⟨trivial, ?_⟩
    show Trl _ _ ((flatten (bodyOf 15)).drop 6) _ _ _
    refine Trl.of_code (knownA nro) (ne_nil (by kernel_rfl)) (ra_post a b f t _ _) ⟨trivial, .inr rfl, trivial, ?_⟩
    show AV.v (.tuple #[.int .i64 (IntKind.wrap .i64 (IntKind.wrap .i64 (t - f) + 1)), .bool true]) = _
    have e2 : apB a b = true := decide_eq_true he
    rw [hf, ht, ends_ap _ _ (by omega), ← apN_eq he, e2]
theorem fs_apart (a b : ByteArray) (ha : a.size ≤ 100000) (hb : b.size ≤ 100000) : Fs Try.prog nro 14 [.v (.string a), .v (.string b)] (hp [] []) fun r _ => r = .v (.tuple #[.int .i64 (apN a b), .bool (apB a b)]) := by
  refine Fs.of_body (has_fn (by kernel_rfl)) ?_
  rw [sl_ap, re_ap]
  refine Tr.of_flat (Trl.split 5 (Trl.of_code (knownA nro) (ne_nil (by kernel_rfl)) (ap_pre a b _) (holds_bif (fun h => ⟨trivial, .inr rfl, trivial, ?_⟩) fun h => ⟨trivial, ?_⟩)))
  · have hne : ¬ a.size = b.size := fun e => by rw [e] at h; simp at h
    have e2 : apB a b = false := decide_eq_false hne
    rw [apN_ne hne, e2]; rfl
  have he : a.size = b.size := by
    have h9 : (a.size : Int) = (b.size : Int) := by simpa using h
    omega
  show Trl _ _ ((flatten (bodyOf 14)).drop 5) _ _ _
  rw [fl_ap]
  refine Tr.keepL [0, 1, 6, 7, 16, 17] rfl ?_
  let I : Nat → List AV → AH → Prop := fun m act H => ∃ k f t i, k ≤ a.size ∧ m = a.size - k ∧ act = apA a b f t (a.size : Nat) i ∧ f = (apS (apD a b) (8 * k)).1 ∧ (0 ≤ f → t = (apS (apD a b) (8 * k)).2) ∧ i = ((k : Nat) : Int) ∧ H = hp [] []
  refine Tr.block (Tr.loop I ?_ (m := a.size) ⟨0, _, _, _, Nat.zero_le _, rfl, rfl, rfl, fun h => absurd h (by decide), rfl, rfl⟩)
  rintro m act H ⟨k, f, t, i, hk, rfl, rfl, hf, ht, rfl, rfl⟩
  by_cases hlt : k < a.size
  · have h80 : decide ((k : Int) < ((a.size : Nat) : Int)) = true := decide_eq_true (by omega)
    have hlb : k < b.size := by omega
    have ga := getD_byts a k hlt
    have gb := getD_byts b k hlb
    obtain ⟨x, hx⟩ : ∃ x, x = (bytsOf a)[k]'(by rw [len_byts]; exact hlt) := ⟨_, rfl⟩
    obtain ⟨y, hy⟩ : ∃ y, y = (bytsOf b)[k]'(by rw [len_byts]; exact hlb) := ⟨_, rfl⟩
    have hu : x.toNat ^^^ y.toNat < 256 := Nat.xor_lt_two_pow (n := 8) x.toNat_lt y.toNat_lt
    obtain ⟨u, hu2⟩ : ∃ u, u = x.toNat ^^^ y.toNat := ⟨_, rfl⟩
    rw [← hu2] at hu
    have ex : bits .xor .u8 (((Array.getD a.data (Int.toNat (k : Int)) 0).toNat : Nat) : Int) (((Array.getD b.data (Int.toNat (k : Int)) 0).toNat : Nat) : Int) = (u : Nat) := by
      rw [Int.toNat_natCast, ga, gb, ← hx, ← hy, hu2]
      exact u8_xor_nat _ _ x.toNat_lt y.toNat_lt
    have hbits : ∀ i, i < 8 → (apD a b).getD (8 * k + i) false = bitN u i := fun i hi => by
      unfold apD
      have e1 : (8 * k + i) / 8 = k := by omega
      have e2 : (8 * k + i) % 8 = i := by omega
      have gx : (bitsL (bytsOf a)).getD (8 * k + i) false = bitN x.toNat i := by
        rw [List.getD_eq_getElem?_getD, bits_get _ _ (by rw [len_byts]; omega), e1, e2, List.getD_eq_getElem?_getD, List.getElem?_eq_getElem (by rw [len_byts]; exact hlt), ← hx]; rfl
      have gy : (bitsL (bytsOf b)).getD (8 * k + i) false = bitN y.toNat i := by
        rw [List.getD_eq_getElem?_getD, bits_get _ _ (by rw [len_byts]; omega), e1, e2, List.getD_eq_getElem?_getD, List.getElem?_eq_getElem (by rw [len_byts]; exact hlb), ← hy]; rfl
      rw [unl_get _ _ _ (by rw [bits_txt]; omega) (by rw [bits_txt]; omega), gx, gy, hu2, xor_bit i hi _ x.toNat_lt _ y.toNat_lt]
    have step := ap_byte (apD a b) k u hu hbits
    have rng := ap_rng (apD a b) (8 * k)
    have c1 : decide ((0 : Int) ≤ (k : Int) ∧ k < a.size) = true := decide_eq_true ⟨Int.natCast_nonneg k, by omega⟩
    have c2 : decide ((0 : Int) ≤ (k : Int) ∧ k < b.size) = true := decide_eq_true ⟨Int.natCast_nonneg k, by omega⟩
    have c3 : decide ((0 : Int) ≤ (u : Int) ∧ (u : Int) < 256) = true := decide_eq_true ⟨Int.natCast_nonneg u, by omega⟩
    have fin : ∀ f' t', f' = (apS (apD a b) (8 * (k + 1))).1 → (0 ≤ f' → t' = (apS (apD a b) (8 * (k + 1))).2) →
        ∃ m', m' < a.size - k ∧ I m' (apA a b f' t' (a.size : Nat) ((k + 1 : Nat) : Int)) (hp [] []) := fun f' t' h1 h2 =>
      ⟨a.size - (k + 1), by omega, k + 1, _, _, _, by omega, rfl, rfl, h1, h2, rfl, rfl⟩
    have hlz := lz_le u hu
    have elz := fun h0 => elz' k (lzV u) (by omega) (hlz h0).1
    have etz := fun h0 => etz' k (tzV u) (by omega) (hlz h0).2
    have body := fun R => ap_bodyU a b f t (a.size : Nat) k u R ex
    rw [add_one k (by omega), h80, Int.toNat_natCast k, Int.toNat_natCast u] at body
    refine Tr.of_code (knownA nro) (body _) (holds_bif (fun _ => holds_bif (fun h2 => ?_) (fun h2 => holds_bif (fun h3 => ?_) (fun h3 => ?_))) fun h => nomatch h)
    · have h0 : u = 0 := by simpa using h2
      refine ⟨cdb_iff.2 ⟨cdb_iff.2 ⟨trivial, c1⟩, c2⟩, fin _ _ ?_ ?_⟩
      · rw [step, if_pos h0]; exact hf
      · rw [step, if_pos h0]; exact ht
    · have h0 : u ≠ 0 := by intro e; rw [e] at h2; simp at h2
      have h3 := of_decide_eq_true h3
      refine ⟨by with_reducible exact cdb_iff.2 ⟨cdb_iff.2 ⟨cdb_iff.2 ⟨cdb_iff.2 ⟨trivial, c1⟩, c2⟩, c3⟩, c3⟩, fin _ _ ?_ ?_⟩
      · refine (elz h0).trans ?_
        rw [step, if_neg h0]
        show _ = if _ then _ else _
        rw [if_pos (by rw [← hf]; exact h3)]
      · intro _
        refine (etz h0).trans ?_
        rw [step, if_neg h0]
    · have h0 : u ≠ 0 := by intro e; rw [e] at h2; simp at h2
      have h3 := of_decide_eq_false h3
      refine ⟨by with_reducible exact cdb_iff.2 ⟨cdb_iff.2 ⟨cdb_iff.2 ⟨trivial, c1⟩, c2⟩, c3⟩, fin _ _ ?_ ?_⟩
      · rw [step, if_neg h0]
        show _ = if _ then _ else _
        rw [if_neg (by rw [← hf]; exact h3)]; exact hf
      · intro _
        refine (etz h0).trans ?_
        rw [step, if_neg h0]
  · have h80 : decide ((k : Int) < ((a.size : Nat) : Int)) = false := decide_eq_false (by omega)
    obtain rfl : k = a.size := by omega
    have body := fun R => ap_bodyU a b f t (a.size : Nat) (a.size : Nat) _ R rfl
    rw [h80] at body
    refine Tr.of_code (knownA nro) (body _) (holds_bif (fun h => nomatch h) fun _ => ⟨trivial, ?_⟩)
    show Trl _ _ ((flatten (bodyOf 14)).drop 6) _ _ _
    have rng := ap_rng (apD a b) (8 * a.size)
    have e2 : apB a b = true := decide_eq_true he
    refine Trl.of_code (knownA nro) (ne_nil (by kernel_rfl)) (ap_post a b f t _ _ _) (holds_bif (fun h => ⟨trivial, .inr rfl, trivial, ?_⟩) fun h => ⟨trivial, .inr rfl, trivial, ?_⟩)
    · have h := of_decide_eq_true h
      show AV.v (.tuple #[.int .i64 0, .bool true]) = _
      rw [e2, apN_eq he]
      have : (apS (apD a b) (8 * a.size)).2 - (apS (apD a b) (8 * a.size)).1 + 1 = 0 := by rw [← hf] at rng ⊢; omega
      rw [this]
    · have h := of_decide_eq_false h
      show AV.v (.tuple #[.int .i64 (IntKind.wrap .i64 (IntKind.wrap .i64 (t - f) + 1)), .bool true]) = _
      rw [e2, ht (by omega), hf, ends_ap _ _ (by omega), ← apN_eq he]
def apP : List Value → Option (Value × Bool) := fun us => match us with
  | [.string a, .string b] => some (.tuple #[.int .i64 (apN a b), .bool (apB a b)], decide (a.size ≤ 100000 ∧ b.size ≤ 100000))
  | _ => none
theorem apart_ok (ro : Nat → Option (List Value)) : ∀ args H r H', pure? apP args H = some (r, H') → HSound1 Try.prog ro 14 args H r H' := by
  refine pure_ok (fun us c hs => Fs.ro ?_ ro) (has_fn (by kernel_rfl))
  unfold apP at hs
  split at hs
  · rename_i a b
    simp only [Option.some.injEq, Prod.mk.injEq, decide_eq_true_eq] at hs
    obtain ⟨rfl, h1, h2⟩ := hs
    exact fs_apart a b h1 h2
  · cases hs
theorem rapart_ok (ro : Nat → Option (List Value)) : ∀ args H r H', pure? apP args H = some (r, H') → HSound1 Try.prog ro 15 args H r H' := by
  refine pure_ok (fun us c hs => Fs.ro ?_ ro) (has_fn (by kernel_rfl))
  unfold apP at hs
  split at hs
  · rename_i a b
    simp only [Option.some.injEq, Prod.mk.injEq, decide_eq_true_eq] at hs
    obtain ⟨rfl, h1, h2⟩ := hs
    exact fs_rapart a b h1 h2
  · cases hs
end Go.Proofs.Ytbnhhacjoabpaaa.AE
