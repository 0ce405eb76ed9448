/-
  Layer 5: a text's number to the base 16: the program's and the document's.
-/
import Derived.Test.YtjnonfcemicmoaaDoorT05M
import Derived.Test.YtjnonfcemicmoaaDoorT05D
namespace Go.Proofs.YtjnonfcemicmoaaDoor.AE
open Go.RowKit
def tb16 : Array UInt8 := #[48, 49, 50, 51, 52, 53, 54, 55, 56, 57, 97, 98, 99, 100, 101, 102]
def fnd (c : UInt8) : Nat → Int
  | 0 => -1
  | k + 1 => if ((tb16.getD k 0).toNat : Int) == (c.toNat : Int) then (k : Int) else fnd c k
theorem fnd_all : ∀ n, n < 256 → fnd (UInt8.ofNat n) 16 = if hok n then hv n else -1 := by decide +kernel
theorem fnd_16 (c : UInt8) : fnd c 16 = if hok c.toNat then hv c.toNat else -1 := by
  have := fnd_all c.toNat c.toNat_lt
  rwa [UInt8.ofNat_toNat] at this
def pf : Int → List UInt8 → Option Int
  | n, [] => some n
  | n, c :: l => if hok c.toNat = true then pf (16 * n + hv c.toNat) l else none
def pX (s : ByteArray) : Int := if s.size = 16 then (pf 0 s.data.toList).getD 0 else 0
def pE (s : ByteArray) : Int := if s.size = 16 ∧ (pf 0 s.data.toList).isSome = true then 0 else 2
theorem drop_at (s : ByteArray) (i : Nat) (h : i < s.size) : s.data.toList.drop i = s.data.getD i 0 :: s.data.toList.drop (i + 1) := by
  have h' : i < s.data.toList.length := by rw [Array.length_toList]; exact h
  rw [List.drop_eq_getElem_cons h']
  congr 1
  have h2 : i < s.data.size := h
  simp [Array.getD, h2]
  intro h3; omega
theorem hv_rng {c : Int} (h : hok c = true) : 0 ≤ hv c ∧ hv c < 16 := by
  unfold hok at h
  have := of_decide_eq_true h
  unfold hv
  split
  · omega
  · split <;> omega
theorem or16 (n : Nat) (v : Int) (hn : n < 1152921504606846976) (h0 : 0 ≤ v) (h1 : v < 16) : bits .or .u64 (IntKind.wrap .u64 ((n : Int) * 2 ^ 4)) (IntKind.wrap .u64 v) = 16 * n + v := by
  obtain ⟨v, rfl⟩ := Int.eq_ofNat_of_zero_le h0
  have e1 : IntKind.wrap .u64 ((n : Int) * 2 ^ 4) = ((2 ^ 4 * n : Nat) : Int) := by rw [IntKind.wrap_u64]; omega
  have e2 : IntKind.wrap .u64 (v : Int) = (v : Int) := by rw [IntKind.wrap_u64]; omega
  rw [e1, e2, u64_or_nat _ _ (by omega) (by omega), ← Nat.two_pow_add_eq_or_of_lt (show v < 2 ^ 4 by omega)]
  omega
theorem mul16 (n : Nat) (v : Int) (hn : n < 1152921504606846976) (h0 : 0 ≤ v) (h1 : v < 16) : IntKind.wrap .u64 (IntKind.wrap .u64 (16 * (n : Int)) + IntKind.wrap .u64 v) = 16 * n + v := by
  rw [IntKind.wrap_u64, IntKind.wrap_u64, IntKind.wrap_u64]; omega
theorem inc16 (i : Nat) (h : i ≤ 16) : IntKind.wrap .i64 ((i : Int) + 1) = ((i + 1 : Nat) : Int) := by rw [IntKind.wrap_i64]; omega
theorem pow16 (i : Nat) (h : i < 16) : 16 ^ i ≤ 1152921504606846976 := Nat.le_trans (Nat.pow_le_pow_right (by decide) (show i ≤ 15 by omega)) (by decide)
theorem pX_no {s : ByteArray} (h : s.size = 16) (hp : pf 0 s.data.toList = none) : pX s = 0 ∧ pE s = 2 := by
  unfold pX pE; rw [if_pos h, hp, if_neg (by simp)]; exact ⟨rfl, rfl⟩
theorem pX_yes {s : ByteArray} {n : Int} (h : s.size = 16) (hp : pf 0 s.data.toList = some n) : pX s = n ∧ pE s = 0 := by
  unfold pX pE; rw [if_pos h, hp, if_pos ⟨h, rfl⟩]; exact ⟨rfl, rfl⟩
theorem pX_len {s : ByteArray} (h : ¬ s.size = 16) : pX s = 0 ∧ pE s = 2 := by
  unfold pX pE; rw [if_neg h, if_neg (fun x => h x.1)]; exact ⟨rfl, rfl⟩
theorem sl_ph : slotsOf 9 = 30 := by kernel_rfl
theorem re_ph : resultsOf 9 = [.tmp 2, .tmp 3] := by kernel_rfl
theorem fl_ph : (flatten (bodyOf 9)).drop 5 = .block 0 (.loop (sub (bodyOf 9) [1, 1, 1, 0, 1, 0, 0])) :: (flatten (bodyOf 9)).drop 6 := by kernel_rfl
theorem fs_ph (tS tR : TypeId) (pS pR : Value) (s : ByteArray) : Fs Tryd.prog (ro05 tS pS tR pR) 9 [.v (.string s)] (hp [] []) fun r _ => r = .v (.tuple #[.int .u64 (pX s), .int .i64 (pE s)]) := by
  refine Fs.of_body (has_fn (by kernel_rfl)) ?_
  rw [sl_ph, re_ph]
  refine Tr.of_flat (Trl.split 5 (Trl.of_code knownH (ne_nil (by kernel_rfl)) (ph_pre tS tR pS pR s _) (holds_bif (fun h => ⟨trivial, .inr rfl, trivial, ?_⟩) fun h => ⟨trivial, ?_⟩)))
  · have h : ¬ s.size = 16 := by simp at h; omega
    obtain ⟨h1, h2⟩ := pX_len h
    rw [h1, h2]
    rfl
  have h : s.size = 16 := by simp at h; omega
  show Trl _ _ ((flatten (bodyOf 9)).drop 5) _ _ _
  rw [fl_ph]
  refine Tr.keepL [0, 4, 11] rfl ?_
  let I : Nat → List AV → AH → Prop := fun m act H => ∃ i n : Nat, i ≤ 16 ∧ m = 16 - i ∧ act = phA s n i ∧ n < 16 ^ i ∧ pf 0 s.data.toList = pf n (s.data.toList.drop i) ∧ H = hp [] []
  refine Tr.block (Tr.loop I ?_ (m := 16) ⟨0, 0, by omega, rfl, rfl, by decide, by simp, rfl⟩)
  rintro m act H ⟨i, n, hi, rfl, rfl, hn, hp, rfl⟩
  refine Tr.of_code knownH (ph_in tS tR pS pR s n i _) (holds_bif (fun h1 => ?_) fun h1 => ⟨trivial, ?_⟩)
  · have h1 : i < 16 := by have := of_decide_eq_true h1; omega
    have cd : decide ((0 : Int) ≤ (i : Int) ∧ Int.toNat (i : Int) < s.size) = true := decide_eq_true ⟨by omega, by show i < s.size; omega⟩
    rw [drop_at s i (by omega)] at hp
    refine holds_bif (fun h2 => ⟨by with_reducible exact cdb_iff.2 ⟨trivial, cd⟩, .inr rfl, trivial, ?_⟩) (fun h2 => ⟨by with_reducible exact cdb_iff.2 ⟨trivial, cd⟩, ?_⟩)
    · have h2 : ¬ hok ((s.data.getD i 0).toNat : Int) = true := by
        have : (!hok ((s.data.getD i 0).toNat : Int)) = true := h2
        simpa using this
      rw [pf, if_neg h2] at hp
      obtain ⟨h3, h4⟩ := pX_no h hp
      rw [h3, h4]
      rfl
    · have h2 : hok ((s.data.getD i 0).toNat : Int) = true := by
        have : (!hok ((s.data.getD i 0).toNat : Int)) = false := h2
        simpa using this
      rw [pf, if_pos h2] at hp
      obtain ⟨v0, v1⟩ := hv_rng h2
      obtain ⟨v, hv⟩ := Int.eq_ofNat_of_zero_le v0
      have hn' : n < 1152921504606846976 := Nat.lt_of_lt_of_le hn (pow16 i h1)
      have e1 : IntKind.wrap .i64 ((i : Int) + 1) = ((i + 1 : Nat) : Int) := inc16 i hi
      have e2 := or16 n _ hn' v0 v1
      rw [e1]
      rw [hv] at hp v1
      have e3 := e2.trans (show 16 * (n : Int) + AE.hv ((s.data.getD i 0).toNat : Int) = ((16 * n + v : Nat) : Int) by rw [hv]; omega)
      exact ⟨16 - (i + 1), by omega, i + 1, 16 * n + v, by omega, rfl, congrArg (fun z => phA s z ((i + 1 : Nat) : Int)) e3, by rw [Nat.pow_succ]; omega, hp, rfl⟩
  · have h1 : i = 16 := by have := of_decide_eq_false h1; omega
    subst h1
    show Trl _ _ ((flatten (bodyOf 9)).drop 6) _ _ _
    rw [List.drop_eq_nil_of_le (by rw [Array.length_toList]; exact Nat.le_of_eq h)] at hp
    obtain ⟨h3, h4⟩ := pX_yes h hp
    refine Trl.of_code knownH (ne_nil (by kernel_rfl)) (ph_post tS tR pS pR s n _ _) ⟨trivial, .inr rfl, trivial, ?_⟩
    rw [h3, h4]
    rfl
theorem sl_rh : slotsOf 10 = 34 := by kernel_rfl
theorem re_rh : resultsOf 10 = [.tmp 2, .tmp 3] := by kernel_rfl
noncomputable abbrev rhB : Code := sub (bodyOf 10) [1, 1, 1, 0, 1, 0, 0]
noncomputable abbrev rhC : Code := sub (bodyOf 10) [1, 1, 1, 0, 1, 0, 0, 1, 0, 0]
theorem fl_rh : (flatten (bodyOf 10)).drop 5 = .block 0 (.loop rhB) :: (flatten (bodyOf 10)).drop 6 := by kernel_rfl
theorem fl_rhB : (flatten rhB).drop 2 = .block 1 rhC :: (flatten rhB).drop 3 := by kernel_rfl
theorem fl_rhC : (flatten rhC).drop 2 = .block 2 (.loop (sub (bodyOf 10) [1, 1, 1, 0, 1, 0, 0, 1, 0, 0, 1, 0, 1, 0, 0])) :: (flatten rhC).drop 3 := by kernel_rfl
theorem fs_rh (s : ByteArray) : Fs Tryd.prog nro 10 [.v (.string s)] (hp [] []) fun r _ => r = .v (.tuple #[.int .u64 (pX s), .int .i64 (pE s)]) := by
  refine Fs.of_body (has_fn (by kernel_rfl)) ?_
  rw [sl_rh, re_rh]
  refine Tr.of_flat (Trl.split 5 (Trl.of_code (known_none _) (ne_nil (by kernel_rfl)) (rh_pre s _) (holds_bif (fun h => ⟨trivial, .inr rfl, trivial, ?_⟩) fun h => ⟨trivial, ?_⟩)))
  · have h : ¬ s.size = 16 := by simp at h; omega
    obtain ⟨h1, h2⟩ := pX_len h
    rw [h1, h2]
    rfl
  have h : s.size = 16 := by simp at h; omega
  show Trl _ _ ((flatten (bodyOf 10)).drop 5) _ _ _
  rw [fl_rh]
  refine Tr.keepL [0, 4, 5] rfl ?_
  let I : Nat → List AV → AH → Prop := fun m act H => ∃ i n : Nat, i ≤ 16 ∧ m = 16 - i ∧ act = rhA s n i ∧ n < 16 ^ i ∧ pf 0 s.data.toList = pf n (s.data.toList.drop i) ∧ H = hp [] []
  refine Tr.block (Tr.loop I ?_ (m := 16) ⟨0, 0, by omega, rfl, rfl, by decide, by simp, rfl⟩)
  rintro m act H ⟨i, n, hi, rfl, rfl, hn, hp, rfl⟩
  refine Tr.of_flat (Trl.split 2 (Trl.of_code (known_none _) (ne_nil (by kernel_rfl)) (rh_in0 s n i _) (holds_bif (fun h1 => ⟨trivial, ?_⟩) fun h1 => ⟨trivial, ?_⟩)))
  · have h1 : i < 16 := by have := of_decide_eq_true h1; omega
    show Trl _ _ ((flatten rhB).drop 2) _ _ _
    rw [fl_rhB]
    rw [drop_at s i (by omega)] at hp
    refine Tr.block (Tr.of_flat (Trl.split 2 (Trl.of_code (known_none _) (ne_nil (by kernel_rfl)) (rh_b0 s n i _) ⟨trivial, ?_⟩)))
    show Trl _ _ ((flatten rhC).drop 2) _ _ _
    rw [fl_rhC]
    let J : Nat → List AV → AH → Prop := fun m act H => ∃ k : Nat, k ≤ 16 ∧ m = 16 - k ∧ act = riA s n i (fnd (s.data.getD i 0) k) k ∧ H = AE.hp [] []
    refine Tr.block (Tr.loop J ?_ (m := 16) ⟨0, by omega, rfl, rfl, rfl⟩)
    rintro m act H ⟨k, hk, rfl, rfl, rfl⟩
    have cd2 : decide ((0 : Int) ≤ (i : Int) ∧ Int.toNat (i : Int) < s.size) = true := decide_eq_true ⟨by omega, by show i < s.size; omega⟩
    refine Tr.of_code (known_none _) (ri_in s n i _ k _) (holds_bif (fun h2 => ?_) fun h2 => ⟨trivial, ?_⟩)
    · have h2 : k < 16 := by have := of_decide_eq_true h2; omega
      have cd1 : decide ((0 : Int) ≤ (k : Int) ∧ Int.toNat (k : Int) < 16) = true := decide_eq_true ⟨by omega, by show k < 16; omega⟩
      have ek : IntKind.wrap .i64 ((k : Int) + 1) = ((k + 1 : Nat) : Int) := inc16 k hk
      rw [ek]
      refine holds_bif (fun h3 => ⟨by with_reducible exact cdb_iff.2 ⟨cdb_iff.2 ⟨trivial, cd1⟩, cd2⟩, 16 - (k + 1), by omega, k + 1, by omega, rfl, ?_, rfl⟩) (fun h3 => ⟨by with_reducible exact cdb_iff.2 ⟨cdb_iff.2 ⟨trivial, cd1⟩, cd2⟩, 16 - (k + 1), by omega, k + 1, by omega, rfl, ?_, rfl⟩)
      · have h3 : (((tb16.getD k 0).toNat : Int) == ((s.data.getD i 0).toNat : Int)) = true := h3
        rw [fnd, if_pos h3]
        rfl
      · have h3 : (((tb16.getD k 0).toNat : Int) == ((s.data.getD i 0).toNat : Int)) = false := h3
        rw [fnd, if_neg (by rw [h3]; simp)]
        rfl
    · have h2 : k = 16 := by have := of_decide_eq_false h2; omega
      subst h2
      show Trl _ _ ((flatten rhC).drop 3) _ _ _
      rw [fnd_16]
      refine Trl.of_code (known_none _) (ne_nil (by kernel_rfl)) (rh_b1 s n i _ _ _) (holds_bif (fun h3 => ⟨trivial, .inr rfl, trivial, ?_⟩) (fun h3 => ⟨trivial, ?_⟩))
      · have h3 := of_decide_eq_true h3
        have h2 : ¬ hok ((s.data.getD i 0).toNat : Int) = true := fun e => by
          rw [if_pos e] at h3
          have := (hv_rng e).1
          omega
        rw [pf, if_neg h2] at hp
        obtain ⟨h3, h4⟩ := pX_no h hp
        rw [h3, h4]
        rfl
      · have h3 := of_decide_eq_false h3
        have h2 : hok ((s.data.getD i 0).toNat : Int) = true := by
          cases e : hok ((s.data.getD i 0).toNat : Int) with
          | true => rfl
          | false => rw [e] at h3; simp at h3
        rw [pf, if_pos h2] at hp
        rw [if_pos h2] at h3 ⊢
        obtain ⟨v0, v1⟩ := hv_rng h2
        have hn' : n < 1152921504606846976 := Nat.lt_of_lt_of_le hn (pow16 i h1)
        rw [mul16 n _ hn' v0 v1]
        obtain ⟨v, hv⟩ := Int.eq_ofNat_of_zero_le v0
        rw [hv] at hp v1 ⊢
        show Trl _ _ ((flatten rhB).drop 3) _ _ _
        refine Trl.of_code (known_none _) (ne_nil (by kernel_rfl)) (rh_in1 s _ i _) ⟨trivial, ?_⟩
        have ei : IntKind.wrap .i64 ((i : Int) + 1) = ((i + 1 : Nat) : Int) := inc16 i hi
        rw [ei]
        exact ⟨16 - (i + 1), by omega, i + 1, 16 * n + v, by omega, rfl, rfl, by rw [Nat.pow_succ]; omega, hp, rfl⟩
  · have h1 : i = 16 := by have := of_decide_eq_false h1; omega
    subst h1
    show Trl _ _ ((flatten (bodyOf 10)).drop 6) _ _ _
    rw [List.drop_eq_nil_of_le (by rw [Array.length_toList]; exact Nat.le_of_eq h)] at hp
    obtain ⟨h3, h4⟩ := pX_yes h hp
    refine Trl.of_code (known_none _) (ne_nil (by kernel_rfl)) (rh_post s n _ _) ⟨trivial, .inr rfl, trivial, ?_⟩
    rw [h3, h4]
    rfl
def phP : List Value → Option (Value × Bool) := fun us => match us with
  | [.string s] => some (.tuple #[.int .u64 (pX s), .int .i64 (pE s)], true)
  | _ => none
theorem ph_ok {tS tR : TypeId} {pS pR : Value} : ∀ args H r H', pure? phP args H = some (r, H') → HSound1 Tryd.prog (ro05 tS pS tR pR) 9 args H r H' := by
  refine pure_ok (fun us c hs => ?_) (has_fn (by kernel_rfl))
  unfold phP at hs
  split at hs
  · simp only [Option.some.injEq, Prod.mk.injEq, and_true] at hs
    subst hs
    exact fs_ph _ _ _ _ _
  · cases hs
theorem rph_ok (ro : Nat → Option (List Value)) : ∀ args H r H', pure? phP args H = some (r, H') → HSound1 Tryd.prog ro 10 args H r H' := by
  refine pure_ok (fun us c hs => Fs.ro ?_ ro) (has_fn (by kernel_rfl))
  unfold phP at hs
  split at hs
  · simp only [Option.some.injEq, Prod.mk.injEq, and_true] at hs
    subst hs
    exact fs_rh _
  · cases hs
end Go.Proofs.YtjnonfcemicmoaaDoor.AE
