/-
  Layer 3: the document's sum is the register's.
-/
import Derived.Test.YtimocgjeikgilaaT03F
namespace Go.Proofs.Ytimocgjeikgilaa.AE
open Go.RowKit Cr
theorem i64_xor_small (a b : Nat) (ha : a < 65536) (hb : b < 65536) : bits .xor .i64 (a : Int) (b : Int) = ((a ^^^ b : Nat) : Int) := by
  have hx : a ^^^ b < 65536 := xor_lt ha hb
  have h1 : (BitVec.ofInt 64 (a : Int)).toNat = a := by rw [BitVec.toNat_ofInt]; omega
  have h2 : (BitVec.ofInt 64 (b : Int)).toNat = b := by rw [BitVec.toNat_ofInt]; omega
  show IntKind.i64.wrap ((BitVec.ofInt 64 (a : Int) ^^^ BitVec.ofInt 64 (b : Int)).toNat : Int) = _
  rw [BitVec.toNat_xor, h1, h2, IntKind.wrap_i64]
  omega
theorem i64_and16 (n : Int) : bits .and .i64 n 65535 = (w16 n : Nat) := by
  have h127 : (BitVec.ofInt 64 65535).toNat = 2 ^ 16 - 1 := by decide
  have key : (BitVec.ofInt 64 n &&& BitVec.ofInt 64 65535).toNat = (n % ((2 ^ 64 : Nat) : Int)).toNat % 2 ^ 16 := by
    rw [BitVec.toNat_and, BitVec.toNat_ofInt, h127, Nat.and_two_pow_sub_one_eq_mod]
  show IntKind.i64.wrap ((BitVec.ofInt 64 n &&& BitVec.ofInt 64 65535).toNat : Nat) = _
  rw [key, IntKind.wrap_i64]
  unfold w16
  omega
theorem sl_rm : slotsOf 28 = 32 := by kernel_rfl
theorem re_rm : resultsOf 28 = [.tmp 4] := by kernel_rfl
theorem fl_rm : (flatten (bodyOf 28)).drop 3 = .block 0 (.loop (sub (bodyOf 28) [1, 1, 0, 1, 0, 0])) :: (flatten (bodyOf 28)).drop 4 := by kernel_rfl
def rmA (s : ByteArray) (n k : Nat) : List AV := [.v (.int .i64 n), .v (.string s)] ++ List.replicate 3 .dead ++ .v (.int .i64 k) :: List.replicate 26 .dead
theorem reg_next {n k : Nat} {l : List Bool} {b : Bool} (h : l[k]? = some b) : reg n (l.take (k + 1)) = fd (reg n (l.take k)) b := by
  rw [List.take_add_one, h, reg_app]; rfl
theorem bits_txt (s : ByteArray) : (bitsL (bytsOf s)).length = 8 * s.size := by rw [bits_len, len_byts]
theorem dblI (r : Nat) (h : r < 65536) : IntKind.wrap .i64 ((r : Int) * 2) = ((r * 2 : Nat) : Int) := by rw [IntKind.wrap_i64]; omega
theorem subI (r : Nat) (h : r < 65536) (h2 : (65535 : Int) < ((r * 2 : Nat) : Int)) : IntKind.wrap .i64 (((r * 2 : Nat) : Int) - 65536) = ((r * 2 % 65536 : Nat) : Int) := by rw [IntKind.wrap_i64]; omega
theorem divI (r : Nat) (h : r < 65536) : IntKind.wrap .i64 (Int.tdiv (r : Int) 32768) = ((r / 32768 : Nat) : Int) := by
  rw [show Int.tdiv (r : Int) 32768 = ((r / 32768 : Nat) : Int) from tdiv_nat r 32768]; exact wrap64 _ (by omega)
theorem fs_rmore (n : Int) (s : ByteArray) (hs : s.size ≤ 100000) : Fs Try.prog nro 28 [.v (.int .i64 n), .v (.string s)] (hp [] []) fun r _ => r = .v (moreV n s) := by
  refine Fs.of_body (has_fn (by kernel_rfl)) ?_
  rw [sl_rm, re_rm]
  refine Tr.of_flat (Trl.split 3 (Trl.of_code (knownB nro) (ne_nil (by kernel_rfl)) (m_pre n s _) ⟨trivial, ?_⟩))
  show Trl _ _ ((flatten (bodyOf 28)).drop 3) _ _ _
  rw [fl_rm]
  have hw := w16_lt n
  let I : Nat → List AV → AH → Prop := fun m act H => ∃ k r, k ≤ 8 * s.size ∧ m = 8 * s.size - k ∧ act = rmA s r k ∧ r = reg (w16 n) ((bitsL (bytsOf s)).take k) ∧ H = hp [] []
  refine Tr.block (Tr.loop I ?_ (m := 8 * s.size) ⟨0, w16 n, Nat.zero_le _, rfl, ?_, rfl, rfl⟩)
  · rintro m act H ⟨k, r, hk, rfl, rfl, hr, rfl⟩
    have hr16 : r < 65536 := by rw [hr]; exact reg_lt _ hw
    have hl : IntKind.wrap .i64 ((8 : Int) * ((s.size : Nat) : Int)) = ((8 * s.size : Nat) : Int) := by rw [IntKind.wrap_i64]; omega
    have body := fun R => m_body r k s R
    rw [dblI r hr16, divI r hr16, add_one k (by omega), hl] at body
    have hc : k < 8 * s.size → decide ((0 : Int) ≤ (k : Int) ∧ (k : Int) < 8 * ((s.size : Nat) : Int) ∧ s.size ≤ 100000) = true := fun h => decide_eq_true ⟨Int.natCast_nonneg k, by omega, hs⟩
    have fin : ∀ (hlt : k < 8 * s.size) (v : Int), v = (fd r (bitV s k == 1) : Nat) →
        ∃ m', m' < 8 * s.size - k ∧ I m' ([.v (.int .i64 v), .v (.string s)] ++ List.replicate 3 .dead ++ .v (.int .i64 (k + 1 : Nat)) :: List.replicate 26 .dead) (hp [] []) := by
      intro hlt v hv
      obtain ⟨b, hb, hv2⟩ := bitV_get s k hlt
      refine ⟨8 * s.size - (k + 1), by omega, k + 1, _, by omega, rfl, by rw [hv]; rfl, ?_, rfl⟩
      rw [reg_next hb, ← hr, hv2]
      cases b <;> rfl
    refine Tr.of_code (knownB nro) (body _) (holds_bif (fun h8 => ?_) (fun h8 => ?_))
    · have h8 := of_decide_eq_true h8
      have hlt : k < 8 * s.size := by omega
      obtain ⟨b, hb, hv2⟩ := bitV_get s k hlt
      have hbv : (bitV s k == 1) = b := by rw [hv2]; cases b <;> rfl
      have hrf := fd_ref r hr16 b
      have hbn : b.toNat = if b then 1 else 0 := by cases b <;> rfl
      have hmod : r * 2 % 65536 < 65536 := Nat.mod_lt _ (by decide)
      have ne : ((((r / 32768 : Nat) : Int) != ((bitV s k : Nat) : Int)) = true) → ¬ r / 32768 = if b then 1 else 0 := fun h e => by
        rw [hv2, hbn, ← e] at h; simp at h
      have eq : ((((r / 32768 : Nat) : Int) != ((bitV s k : Nat) : Int)) = false) → r / 32768 = if b then 1 else 0 := fun h => by
        have : ((r / 32768 : Nat) : Int) = ((bitV s k : Nat) : Int) := by simpa using h
        rw [hv2, hbn] at this
        exact Int.ofNat_inj.1 this
      refine holds_bif (fun h2 => holds_bif (fun h3 => ?_) (fun h3 => ?_)) (fun h2 => holds_bif (fun h3 => ?_) (fun h3 => ?_))
      · have h2 := of_decide_eq_true h2
        refine ⟨cdb_iff.2 ⟨trivial, hc hlt⟩, fin hlt _ ?_⟩
        show bits .xor .i64 (IntKind.wrap .i64 (((r * 2 : Nat) : Int) - 65536)) 4129 = _
        rw [subI r hr16 h2, hbv, hrf, if_neg (ne h3)]
        exact i64_xor_small _ 4129 hmod (by decide)
      · have h2 := of_decide_eq_true h2
        refine ⟨cdb_iff.2 ⟨trivial, hc hlt⟩, fin hlt _ ?_⟩
        rw [subI r hr16 h2, hbv, hrf, if_pos (eq h3)]
      · have h2 := of_decide_eq_false h2
        have hm : r * 2 % 65536 = r * 2 := Nat.mod_eq_of_lt (by omega)
        refine ⟨cdb_iff.2 ⟨trivial, hc hlt⟩, fin hlt _ ?_⟩
        rw [hbv, hrf, if_neg (ne h3), hm]
        rw [hm] at hmod
        exact i64_xor_small _ 4129 hmod (by decide)
      · have h2 := of_decide_eq_false h2
        have hm : r * 2 % 65536 = r * 2 := Nat.mod_eq_of_lt (by omega)
        refine ⟨cdb_iff.2 ⟨trivial, hc hlt⟩, fin hlt _ ?_⟩
        rw [hbv, hrf, if_pos (eq h3), hm]
    · have h8 := of_decide_eq_false h8
      obtain rfl : k = 8 * s.size := by omega
      refine ⟨trivial, ?_⟩
      show Trl _ _ ((flatten (bodyOf 28)).drop 4) _ _ _
      refine Trl.of_code (knownB nro) (ne_nil (by kernel_rfl)) (m_post r _ s _) ⟨trivial, .inr rfl, trivial, ?_⟩
      have : bytL (w16 n) (bytsOf s) = r := by rw [hr, ← bits_txt, List.take_length, bytL_reg hw]
      show _ = AV.v (moreV n s)
      unfold moreV
      rw [this]
      rfl
  · have h := i64_and16 n
    show [AV.v (.int .i64 (bits .and .i64 n 65535)), .v (.string s)] ++ List.replicate 3 .dead ++ .v (.int .i64 0) :: List.replicate 26 .dead = _
    rw [h]; rfl
end Go.Proofs.Ytimocgjeikgilaa.AE
