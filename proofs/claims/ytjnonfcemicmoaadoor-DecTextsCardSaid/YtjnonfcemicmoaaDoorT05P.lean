/-
  Layer 5: a number's digits to the base 16: the program's and the document's.
-/
import Derived.Test.YtjnonfcemicmoaaDoorT05N
import Derived.Test.YtjnonfcemicmoaaDoorT05L
namespace Go.Proofs.YtjnonfcemicmoaaDoor.AE
open Go.RowKit
/-- The low k digits. -/
def lowD : Nat → Nat → List UInt8
  | 0, _ => []
  | k + 1, n => tb16.getD (n / 16 ^ k % 16) 0 :: lowD k n
theorem hx_sl : slotsOf 14 = 25 := by kernel_rfl
theorem hx_re : resultsOf 14 = [.tmp 2] := by kernel_rfl
theorem hx_fl : (flatten (bodyOf 14)).drop 3 = .block 0 (.loop (sub (bodyOf 14) [1, 1, 0, 1, 0, 0])) :: (flatten (bodyOf 14)).drop 4 := by kernel_rfl
theorem hx_dig : ∀ i, i < 16 → (ByteArray.mk #[48, 49, 50, 51, 52, 53, 54, 55, 56, 57, 97, 98, 99, 100, 101, 102]).extract i (i + 1) = ⟨#[tb16.getD i 0]⟩ := by decide +kernel
theorem lowD_len : ∀ k n, (lowD k n).length = k
  | 0, _ => rfl
  | k + 1, n => by simp [lowD, lowD_len k n]
theorem fs_rhex (x : Nat) (hx : x < 18446744073709551616) : Fs Tryd.prog nro 14 [.v (.int .u64 x)] (hp [] []) fun r _ => r = .v (.string ⟨(lowD 16 x).toArray⟩) := by
  refine Fs.of_body (has_fn (by kernel_rfl)) ?_
  rw [hx_sl, hx_re]
  refine Tr.of_flat (Trl.split 3 (Trl.of_code (known_none _) (ne_nil (by kernel_rfl)) (hx_pre x _) ⟨trivial, ?_⟩))
  show Trl _ _ ((flatten (bodyOf 14)).drop 3) _ _ _
  rw [hx_fl]
  let I : Nat → List AV → AH → Prop := fun m act H => ∃ i : Nat, i ≤ 16 ∧ m = 16 - i ∧ act = hxA (x / 16 ^ i : Nat) i ⟨(lowD i x).toArray⟩ ∧ H = hp [] []
  refine Tr.block (Tr.loop I ?_ (m := 16) ⟨0, by omega, rfl, by simp [hxA, lowD], rfl⟩)
  rintro m act H ⟨i, hi, rfl, rfl, rfl⟩
  obtain ⟨y, hy⟩ : ∃ y, y = x / 16 ^ i := ⟨_, rfl⟩
  have hyx : y < 18446744073709551616 := by rw [hy]; exact Nat.lt_of_le_of_lt (Nat.div_le_self _ _) hx
  have hy2 : y / 16 = x / 16 ^ (i + 1) := by rw [hy, Nat.div_div_eq_div_mul, Nat.pow_succ]
  have e0 : lowD (i + 1) x = tb16.getD (y % 16) 0 :: lowD i x := by rw [lowD, ← hy]
  rw [← hy]
  have body := fun R => hx_in (y : Int) i ⟨(lowD i x).toArray⟩ R
  have e1 : IntKind.wrap .u64 (Int.tdiv (y : Int) 16) = ((y / 16 : Nat) : Int) := by
    rw [show Int.tdiv (y : Int) 16 = ((y / 16 : Nat) : Int) from rfl, IntKind.wrap_u64]; omega
  rw [e1] at body
  have e2 : IntKind.wrap .u64 (((y / 16 : Nat) : Int) * 16) = ((y / 16 * 16 : Nat) : Int) := by rw [IntKind.wrap_u64]; omega
  rw [e2] at body
  have e3 : IntKind.wrap .u64 ((y : Int) - ((y / 16 * 16 : Nat) : Int)) = ((y % 16 : Nat) : Int) := by rw [IntKind.wrap_u64]; omega
  rw [e3] at body
  have e4 : IntKind.wrap .i64 ((y % 16 : Nat) : Int) = ((y % 16 : Nat) : Int) := by rw [IntKind.wrap_i64]; omega
  rw [e4] at body
  have e5 : IntKind.wrap .i64 (((y % 16 : Nat) : Int) + 1) = ((y % 16 + 1 : Nat) : Int) := inc16 _ (by omega)
  rw [e5, inc16 i hi] at body
  have hm : y % 16 < 16 := Nat.mod_lt _ (by decide)
  have hd := hx_dig (y % 16) hm
  have t1 : Int.toNat ((y % 16 : Nat) : Int) = y % 16 := rfl
  have t2 : Int.toNat ((y % 16 + 1 : Nat) : Int) = y % 16 + 1 := rfl
  rw [t1, t2] at body
  refine Tr.of_code (known_none _) (body _) (holds_bif (fun h1 => ⟨?_, ?_⟩) fun h1 => ⟨trivial, ?_⟩)
  · have hz : ((ByteArray.mk #[48, 49, 50, 51, 52, 53, 54, 55, 56, 57, 97, 98, 99, 100, 101, 102]).extract (y % 16) (y % 16 + 1)).size = 1 := by rw [hd]; rfl
    with_reducible refine cdb_iff.2 ⟨cdb_iff.2 ⟨trivial, decide_eq_true ?_⟩, decide_eq_true ?_⟩
    · omega
    · refine Nat.le_trans (Nat.add_le_add_right (Nat.le_of_eq hz) _) ?_
      have : (ByteArray.mk (lowD i x).toArray).size = i := by show (lowD i x).toArray.size = i; simp [lowD_len]
      rw [this]; omega
  · have h1 : i < 16 := by have := of_decide_eq_true h1; omega
    refine ⟨16 - (i + 1), by omega, i + 1, by omega, rfl, ?_, rfl⟩
    rw [← hy2, e0]
    refine congrArg (fun z => hxA ((y / 16 : Nat) : Int) ((i + 1 : Nat) : Int) z) (?_ : _ ++ _ = _)
    refine (congrArg (· ++ _) hd).trans ?_
    apply ByteArray.ext
    apply Array.toList_inj.1
    rw [ByteArray.data_append, Array.toList_append]
    rfl
  · have h1 : i = 16 := by have := of_decide_eq_false h1; omega
    subst h1
    show Trl _ _ ((flatten (bodyOf 14)).drop 4) _ _ _
    exact Trl.of_code (known_none _) (ne_nil (by kernel_rfl)) (hx_post _ _ _ _) ⟨trivial, .inr rfl, trivial, rfl⟩
/-- Four bits of a number. -/
theorem nib (x : Nat) (m : Nat) (hx : x < 18446744073709551616) : bits .and .u64 (Int.fdiv (x : Int) (2 ^ m)) 15 = ((x / 2 ^ m % 16 : Nat) : Int) := by
  have e : Int.fdiv (x : Int) (2 ^ m) = ((x / 2 ^ m : Nat) : Int) := by
    rw [show (2 : Int) ^ m = ((2 ^ m : Nat) : Int) by simp, Int.fdiv_eq_ediv_of_nonneg _ (Int.natCast_nonneg _)]
    rfl
  have hl : x / 2 ^ m ≤ x := Nat.div_le_self _ _
  rw [e, show (15 : Int) = ((15 : Nat) : Int) from rfl, u64_and_nat _ _ (by omega) (by omega)]
  rw [show (15 : Nat) = 2 ^ 4 - 1 from rfl, Nat.and_two_pow_sub_one_eq_mod]
def tbV : List AV := [48, 49, 50, 51, 52, 53, 54, 55, 56, 57, 97, 98, 99, 100, 101, 102].map fun (n : Int) => .v (.int .u8 n)
theorem tb_at : ∀ i, i < 16 → UInt8.ofNat (Int.toNat (exInt (.v (.int .u8 (exInt (tbV.getD (0 + i * 1 + 0) .dead)))))) = tb16.getD i 0 := by decide +kernel
theorem tb_sh (i : Nat) (hi : i < 16) : (tbV.drop (0 + i * 1)).take 1 = [.v (.int .u8 (exInt (tbV.getD (0 + i * 1 + 0) .dead)))] := by
  match i, hi with
  | 0, _ => rfl
  | 1, _ => rfl
  | 2, _ => rfl
  | 3, _ => rfl
  | 4, _ => rfl
  | 5, _ => rfl
  | 6, _ => rfl
  | 7, _ => rfl
  | 8, _ => rfl
  | 9, _ => rfl
  | 10, _ => rfl
  | 11, _ => rfl
  | 12, _ => rfl
  | 13, _ => rfl
  | 14, _ => rfl
  | 15, _ => rfl
  | n + 16, h => omega
def hxD (x : Int) (k : Nat) : Int := bits .and .u64 (Int.fdiv x (2 ^ k)) 15
def hxC (x : Int) : Nat → Prop
  | 0 => True
  | i + 1 => cds (cdb (hxC x i) (decide (0 ≤ hxD x (4 * i) ∧ hxD x (4 * i) < 16))) (shapes Tryd.prog ((tbV.drop (0 + Int.toNat (hxD x (4 * i)) * 1)).take 1) [5]) ((tbV.drop (0 + Int.toNat (hxD x (4 * i)) * 1)).take 1 = [.v (.int .u8 (exInt (tbV.getD (0 + Int.toNat (hxD x (4 * i)) * 1 + 0) .dead)))])
def hxB (x : Int) : ByteArray := ⟨([15, 14, 13, 12, 11, 10, 9, 8, 7, 6, 5, 4, 3, 2, 1, 0].map fun i => UInt8.ofNat (Int.toNat (exInt (.v (.int .u8 (exInt (tbV.getD (0 + Int.toNat (hxD x (4 * i)) * 1 + 0) .dead))))))).toArray⟩
theorem t_hexc (tS tR : TypeId) (pS pR : Value) (x : Int) (Φ : AV → Prop) : callK (ro05 tS pS tR pR) (fun _ => false) (fun _ => none) 6 13 [.v (.int .u64 x)] (hp [] []) (fun r h => some (h.cd ∧ Φ r)) = some (hxC x 16 ∧ Φ (.v (.string (hxB x)))) := by kernel_rfl
theorem hxD_eq (x m : Nat) (hx : x < 18446744073709551616) : hxD x m = ((x / 2 ^ m % 16 : Nat) : Int) := nib x m hx
theorem hxC_ok (x : Nat) (hx : x < 18446744073709551616) : ∀ i, hxC x i
  | 0 => trivial
  | i + 1 => by
    have hm : x / 2 ^ (4 * i) % 16 < 16 := Nat.mod_lt _ (by decide)
    unfold hxC
    rw [hxD_eq x _ hx]
    refine cds_of (cdb_iff.2 ⟨hxC_ok x hx i, decide_eq_true ⟨by omega, by omega⟩⟩) (tb_sh _ hm)
theorem hxB_eq (x : Nat) (hx : x < 18446744073709551616) : hxB x = ⟨(lowD 16 x).toArray⟩ := by
  have one : ∀ i, UInt8.ofNat (Int.toNat (exInt (.v (.int .u8 (exInt (tbV.getD (0 + Int.toNat (hxD x (4 * i)) * 1 + 0) .dead)))))) = tb16.getD (x / 16 ^ i % 16) 0 := fun i => by
    rw [hxD_eq x _ hx, Nat.pow_mul]
    exact tb_at _ (Nat.mod_lt _ (by decide))
  unfold hxB
  simp only [one]
  rfl
theorem fs_hex (tS tR : TypeId) (pS pR : Value) (x : Nat) (hx : x < 18446744073709551616) : Fs Tryd.prog (ro05 tS pS tR pR) 13 [.v (.int .u64 x)] (hp [] []) fun r _ => r = .v (.string ⟨(lowD 16 x).toArray⟩) :=
  Fs.of_call (known_none _) (t_hexc tS tR pS pR x fun r => r = .v (.string ⟨(lowD 16 x).toArray⟩)) ⟨hxC_ok x hx 16, by rw [hxB_eq x hx]⟩
def hexS (x : Int) : ByteArray := ⟨(lowD 16 x.toNat).toArray⟩
def hexP : List Value → Option (Value × Bool) := fun us => match us with
  | [.int .u64 x] => some (.string (hexS x), decide (0 ≤ x ∧ x < 18446744073709551616))
  | _ => none
theorem hex_ok {tS tR : TypeId} {pS pR : Value} : ∀ args H r H', pure? hexP args H = some (r, H') → HSound1 Tryd.prog (ro05 tS pS tR pR) 13 args H r H' := by
  refine pure_ok (fun us c hs => ?_) (has_fn (by kernel_rfl))
  unfold hexP at hs
  split at hs
  · simp only [Option.some.injEq, Prod.mk.injEq, decide_eq_true_eq] at hs
    obtain ⟨rfl, h0, h1⟩ := hs
    rename_i x
    obtain ⟨x, rfl⟩ := Int.eq_ofNat_of_zero_le h0
    exact fs_hex _ _ _ _ x (by omega)
  · cases hs
theorem rhex_ok (ro : Nat → Option (List Value)) : ∀ args H r H', pure? hexP args H = some (r, H') → HSound1 Tryd.prog ro 14 args H r H' := by
  refine pure_ok (fun us c hs => Fs.ro ?_ ro) (has_fn (by kernel_rfl))
  unfold hexP at hs
  split at hs
  · simp only [Option.some.injEq, Prod.mk.injEq, decide_eq_true_eq] at hs
    obtain ⟨rfl, h0, h1⟩ := hs
    rename_i x
    obtain ⟨x, rfl⟩ := Int.eq_ofNat_of_zero_le h0
    exact fs_rhex x (by omega)
  · cases hs
end Go.Proofs.YtjnonfcemicmoaaDoor.AE
