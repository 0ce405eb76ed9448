/-
  Layer 3: a byte is fed.
-/
import Derived.Test.YtimocgjeikgilaaT03
namespace Go.Proofs.Ytimocgjeikgilaa.AE
open Go.RowKit Cr
theorem ne_nil {α : Type} {l : List α} (h : l.isEmpty = false) : l ≠ [] := by cases l <;> simp_all
theorem add_one (k : Nat) (h : k ≤ 1000000) : IntKind.wrap .i64 ((k : Int) + 1) = ((k + 1 : Nat) : Int) := by
  rw [IntKind.wrap_i64]; omega
theorem dbl16 (n : Nat) : IntKind.wrap .u16 ((n : Int) * 2) = ((n * 2 % 65536 : Nat) : Int) := by
  rw [IntKind.wrap_u16]; omega
theorem sl_feed : slotsOf 32 = 20 := by kernel_rfl
theorem re_feed : resultsOf 32 = [] := by kernel_rfl
theorem fl_feed : (flatten (bodyOf 32)).drop 2 = [.block 0 (.loop (sub (bodyOf 32) [1, 1, 0, 0]))] := by kernel_rfl
def unit : Value := .tuple #[]
def bx (n : Nat) : AH := hp [(33, [.v (.int .u16 n)])] []
def feedA (b k : Nat) : List AV := [.v (.int .u8 b), .ptr 0 0] ++ List.replicate 7 .dead ++ .v (.int .i64 k) :: List.replicate 10 .dead
theorem shl8 (n b : Nat) (hn : n < 65536) (hb : b < 256) : bits .xor .u16 (n : Int) (IntKind.wrap .u16 (IntKind.wrap .u16 (b : Int) * 256)) = ((n ^^^ (b * 256) : Nat) : Int) := by
  have e : IntKind.wrap .u16 (IntKind.wrap .u16 (b : Int) * 256) = ((b * 256 : Nat) : Int) := by
    rw [IntKind.wrap_u16, IntKind.wrap_u16]; omega
  rw [e]
  exact u16_xor_nat n (b * 256) hn (by omega)
theorem fs_feed (n b : Nat) (hn : n < 65536) (hb : b < 256) :
    Fs Try.prog nro 32 [.v (.int .u8 b), .ptr 0 0] (bx n) fun r h => r = .v unit ∧ h.blks = [(33, [.v (.int .u16 (byt n b : Nat))])] ∧ h.tips = [] := by
  refine Fs.of_body (has_fn (by kernel_rfl)) ?_
  rw [sl_feed, re_feed]
  refine Tr.of_flat (Trl.split 2 (Trl.of_code (known_none nro) (ne_nil (by kernel_rfl)) (f_pre b n _) ⟨trivial, ?_⟩))
  show Trl _ _ ((flatten (bodyOf 32)).drop 2) _ _ _
  rw [fl_feed]
  have hx : n ^^^ (b * 256) < 65536 := xor_lt hn (by omega)
  let I : Nat → List AV → AH → Prop := fun m act H => ∃ k v, k ≤ 8 ∧ m = 8 - k ∧ act = feedA b k ∧ v = ((stpN (n ^^^ (b * 256)) k : Nat) : Int) ∧ H = hp [(33, [.v (.int .u16 v)])] []
  refine Tr.block (Tr.loop I ?_ (m := 8) ⟨0, _, Nat.zero_le _, rfl, rfl, ?_, rfl⟩)
  · rintro m act H ⟨k, v, hk, rfl, rfl, rfl, rfl⟩
    have hlt := stpN_lt hx k
    have hf : Int.fdiv ((stpN (n ^^^ (b * 256)) k : Nat) : Int) 32768 = ((stpN (n ^^^ (b * 256)) k / 32768 : Nat) : Int) := Int.fdiv_eq_ediv_of_nonneg _ (by decide)
    refine Tr.of_code (known_none nro) (f_body b _ k _) (holds_bif (fun h8 => holds_bif (fun hd => ?_) (fun hd => ?_)) (fun h8 => ?_))
    · have h8 := of_decide_eq_true h8
      have hd : stpN (n ^^^ (b * 256)) k / 32768 = 1 := by rw [hf] at hd; have := eq_of_beq hd; omega
      refine ⟨trivial, 8 - (k + 1), by omega, k + 1, _, by omega, rfl, ?_, ?_, rfl⟩
      · rw [add_one k (by omega)]; rfl
      · show bits .xor .u16 (IntKind.wrap .u16 ((stpN (n ^^^ (b * 256)) k : Nat) * 2)) 4129 = _
        rw [dbl16]
        refine (u16_xor_nat _ 4129 (Nat.mod_lt _ (by decide)) (by decide)).trans ?_
        show _ = ((stp _ : Nat) : Int)
        unfold stp
        rw [if_pos hd]
    · have h8 := of_decide_eq_true h8
      have hd : ¬ stpN (n ^^^ (b * 256)) k / 32768 = 1 := by
        rw [hf] at hd
        have := ne_of_beq_false hd
        omega
      refine ⟨trivial, 8 - (k + 1), by omega, k + 1, _, by omega, rfl, ?_, ?_, rfl⟩
      · rw [add_one k (by omega)]; rfl
      · rw [dbl16]
        show _ = ((stp _ : Nat) : Int)
        unfold stp
        rw [if_neg hd]
    · have h8 := of_decide_eq_false h8
      obtain rfl : k = 8 := by omega
      exact ⟨trivial, .inl rfl, trivial, rfl, rfl, rfl⟩
  · exact shl8 n b hn hb
end Go.Proofs.Ytimocgjeikgilaa.AE
