/-
  Layer 3: a text of which bits are turned.
-/
import Derived.RowKit3
import Derived.Test.YtimocgjeikgilaaAETr
import Derived.Test.YtimocgjeikgilaaAEMark
namespace Go.Proofs.Ytimocgjeikgilaa
namespace Cr
/-- The register's step, without a bit. -/
def stp (n : Nat) : Nat := if n / 32768 = 1 then (n * 2 % 65536) ^^^ 4129 else n * 2 % 65536
def hi (b : Bool) : Nat := if b then 32768 else 0
/-- A bit is fed. -/
def fd (n : Nat) (b : Bool) : Nat := stp (n ^^^ hi b)
def stpV (v : BitVec 16) : BitVec 16 := if v.msb then (v <<< 1) ^^^ 4129#16 else v <<< 1
theorem stpV_xor (a b : BitVec 16) : stpV (a ^^^ b) = stpV a ^^^ stpV b := by
  unfold stpV
  rw [BitVec.msb_xor, BitVec.shiftLeft_xor_distrib]
  generalize a <<< 1 = x
  generalize b <<< 1 = y
  cases a.msb <;> cases b.msb <;> simp
  · rw [BitVec.xor_assoc]
  · rw [BitVec.xor_assoc, BitVec.xor_assoc, BitVec.xor_comm y]
  · rw [BitVec.xor_assoc, ← BitVec.xor_assoc 4129#16, BitVec.xor_comm 4129#16, BitVec.xor_assoc y, BitVec.xor_self, BitVec.xor_zero]
theorem hi_lt (b : Bool) : hi b < 65536 := by cases b <;> decide
theorem xor_lt {a b : Nat} (ha : a < 65536) (hb : b < 65536) : a ^^^ b < 65536 := Nat.xor_lt_two_pow (n := 16) ha hb
theorem stp_lt (n : Nat) : stp n < 65536 := by
  unfold stp
  have h : n * 2 % 65536 < 65536 := Nat.mod_lt _ (by decide)
  split
  · exact xor_lt h (by decide)
  · exact h
theorem stp_V (n : Nat) (h : n < 65536) : stp n = (stpV (BitVec.ofNat 16 n)).toNat := by
  have hm : (BitVec.ofNat 16 n).msb = decide (n / 32768 = 1) := by
    rw [BitVec.msb_eq_decide, BitVec.toNat_ofNat]
    apply decide_eq_decide.2
    rw [Nat.mod_eq_of_lt (by simpa using h)]
    simp
    omega
  have hs : (BitVec.ofNat 16 n <<< 1).toNat = n * 2 % 65536 := by
    rw [BitVec.toNat_shiftLeft, BitVec.toNat_ofNat, Nat.shiftLeft_eq]
    simp
  unfold stp stpV
  rw [hm]
  by_cases hh : n / 32768 = 1
  · simp only [hh, decide_true, if_true]
    rw [BitVec.toNat_xor, hs]; rfl
  · simp only [hh, decide_false, if_false, Bool.false_eq_true]
    exact hs.symm
theorem ofNat_xor (a b : Nat) (ha : a < 65536) (hb : b < 65536) : BitVec.ofNat 16 (a ^^^ b) = BitVec.ofNat 16 a ^^^ BitVec.ofNat 16 b := by
  apply BitVec.eq_of_toNat_eq
  rw [BitVec.toNat_xor, BitVec.toNat_ofNat, BitVec.toNat_ofNat, BitVec.toNat_ofNat, Nat.mod_eq_of_lt (xor_lt ha hb), Nat.mod_eq_of_lt ha, Nat.mod_eq_of_lt hb]
theorem stp_xor {a b : Nat} (ha : a < 65536) (hb : b < 65536) : stp (a ^^^ b) = stp a ^^^ stp b := by
  rw [stp_V _ (xor_lt ha hb), stp_V a ha, stp_V b hb, ofNat_xor a b ha hb, stpV_xor, BitVec.toNat_xor]
theorem fd_lt (n : Nat) (b : Bool) : fd n b < 65536 := stp_lt _
theorem fd_xor {a b : Nat} (x y : Bool) (ha : a < 65536) (hb : b < 65536) : fd (a ^^^ b) (x != y) = fd a x ^^^ fd b y := by
  unfold fd
  rw [← stp_xor (xor_lt ha (hi_lt x)) (xor_lt hb (hi_lt y))]
  congr 1
  have : hi (x != y) = hi x ^^^ hi y := by cases x <;> cases y <;> decide
  rw [this, Nat.xor_assoc, Nat.xor_assoc, ← Nat.xor_assoc b, Nat.xor_comm b, Nat.xor_assoc]
/-- The document's step: the highest bit is compared with the bit that comes. -/
theorem fd_ref (n : Nat) (h : n < 65536) (b : Bool) : fd n b = if n / 32768 = (if b then 1 else 0) then n * 2 % 65536 else (n * 2 % 65536) ^^^ 4129 := by
  cases b
  · show stp (n ^^^ 0) = _
    rw [Nat.xor_zero]
    unfold stp
    have : n / 32768 = 0 ∨ n / 32768 = 1 := by omega
    rcases this with h | h <;> simp [h]
  · show stp (n ^^^ 32768) = _
    rw [stp_xor h (by decide)]
    have h8 : stp 32768 = 4129 := by decide
    rw [h8]
    unfold stp
    have : n / 32768 = 0 ∨ n / 32768 = 1 := by omega
    rcases this with h | h
    · simp [h]
    · simp [h, Nat.xor_assoc]
/-- A row of bits is fed. -/
def reg (n : Nat) (l : List Bool) : Nat := l.foldl fd n
theorem reg_lt {n : Nat} (l : List Bool) (h : n < 65536) : reg n l < 65536 := by
  induction l generalizing n with
  | nil => exact h
  | cons b l ih => exact ih (fd_lt n b)
theorem reg_app (n : Nat) (l m : List Bool) : reg n (l ++ m) = reg (reg n l) m := List.foldl_append
def bitN (b i : Nat) : Bool := decide (b / 2 ^ (7 - i) % 2 = 1)
def bitsB (b : Nat) : List Bool := [bitN b 0, bitN b 1, bitN b 2, bitN b 3, bitN b 4, bitN b 5, bitN b 6, bitN b 7]
def stpN (n : Nat) : Nat → Nat
  | 0 => n
  | k + 1 => stp (stpN n k)
theorem stpN_lt {n : Nat} (h : n < 65536) (k : Nat) : stpN n k < 65536 := by
  cases k with
  | zero => exact h
  | succ k => exact stp_lt _
/-- A byte is fed at once. -/
def byt (n b : Nat) : Nat := stpN (n ^^^ (b * 256)) 8
def T (k b : Nat) : Nat := b * 256 * 2 ^ k % 65536
theorem T_next : ∀ k, k < 8 → ∀ b, b < 256 → T k b = hi (bitN b k) ^^^ (T k b % 32768) ∧ stp (T k b % 32768) = T (k + 1) b := by decide +kernel
theorem byt_step {r : Nat} (k b : Nat) (hk : k < 8) (hb : b < 256) (hr : r < 65536) : stp (r ^^^ T k b) = fd r (bitN b k) ^^^ T (k + 1) b := by
  obtain ⟨h1, h2⟩ := T_next k hk b hb
  have h3 : T k b % 32768 < 65536 := by omega
  unfold fd
  rw [← h2, ← stp_xor (xor_lt hr (hi_lt _)) h3, Nat.xor_assoc, ← h1]
theorem byt_reg {n b : Nat} (hn : n < 65536) (hb : b < 256) : byt n b = reg n (bitsB b) := by
  have h0 : n ^^^ (b * 256) = n ^^^ T 0 b := by unfold T; rw [Nat.pow_zero, Nat.mul_one, Nat.mod_eq_of_lt (by omega)]
  have h8 : T 8 b = 0 := by unfold T; rw [Nat.mul_assoc]; exact Nat.mul_mod_left b 65536
  unfold byt
  rw [h0]
  show stp (stp (stp (stp (stp (stp (stp (stp (n ^^^ T 0 b)))))))) = fd (fd (fd (fd (fd (fd (fd (fd n _) _) _) _) _) _) _) _
  rw [byt_step 0 b (by decide) hb hn, byt_step 1 b (by decide) hb (fd_lt _ _), byt_step 2 b (by decide) hb (fd_lt _ _), byt_step 3 b (by decide) hb (fd_lt _ _), byt_step 4 b (by decide) hb (fd_lt _ _), byt_step 5 b (by decide) hb (fd_lt _ _), byt_step 6 b (by decide) hb (fd_lt _ _), byt_step 7 b (by decide) hb (fd_lt _ _), h8, Nat.xor_zero]
/-- A text's bits, and its register. -/
def bitsL (l : List UInt8) : List Bool := l.flatMap fun b => bitsB b.toNat
def bytL (n : Nat) (l : List UInt8) : Nat := l.foldl (fun n b => byt n b.toNat) n
theorem bytL_reg {n : Nat} (hn : n < 65536) (l : List UInt8) : bytL n l = reg n (bitsL l) := by
  induction l generalizing n with
  | nil => rfl
  | cons b l ih =>
    show bytL (byt n b.toNat) l = reg n (bitsB b.toNat ++ bitsL l)
    rw [reg_app, ← byt_reg hn b.toNat_lt, ih (by rw [byt_reg hn b.toNat_lt]; exact reg_lt _ hn)]
theorem bytL_lt {n : Nat} (hn : n < 65536) (l : List UInt8) : bytL n l < 65536 := by rw [bytL_reg hn]; exact reg_lt _ hn
theorem bytL_app (n : Nat) (l m : List UInt8) : bytL n (l ++ m) = bytL (bytL n l) m := List.foldl_append
/-- Rows of bits of one length, compared. -/
theorem reg_xor {a b : Nat} (l m : List Bool) (hl : l.length = m.length) (ha : a < 65536) (hb : b < 65536) : reg a l ^^^ reg b m = reg (a ^^^ b) (List.zipWith (· != ·) l m) := by
  induction l generalizing a b m with
  | nil => cases m with
    | nil => rfl
    | cons y m => simp at hl
  | cons x l ih => cases m with
    | nil => simp at hl
    | cons y m =>
      show reg (fd a x) l ^^^ reg (fd b y) m = reg (fd (a ^^^ b) (x != y)) (List.zipWith _ l m)
      rw [ih m (by simpa using hl) (fd_lt _ _) (fd_lt _ _), fd_xor x y ha hb]
theorem xor_nil {a b : Nat} (h : a ^^^ b = 0) : a = b := by
  have h2 : a ^^^ b ^^^ b = b := by rw [h, Nat.zero_xor]
  rwa [Nat.xor_assoc, Nat.xor_self, Nat.xor_zero] at h2
theorem stp_zero : stp 0 = 0 := by decide
/-- The step is never undone to nothing. -/
theorem stp_ne {n : Nat} (h : n < 65536) (h0 : n ≠ 0) : stp n ≠ 0 := by
  unfold stp
  split
  · intro he
    have h2 : n * 2 % 65536 = 4129 := xor_nil he
    omega
  · omega
theorem reg_zeros (k : Nat) : reg 0 (List.replicate k false) = 0 := by
  induction k with
  | zero => rfl
  | succ k ih => exact ih
theorem reg_zeros_ne {n : Nat} (k : Nat) (h : n < 65536) (h0 : n ≠ 0) : reg n (List.replicate k false) ≠ 0 := by
  induction k generalizing n with
  | zero => exact h0
  | succ k ih =>
    refine ih (n := fd n false) (fd_lt _ _) ?_
    show stp (n ^^^ 0) ≠ 0
    rw [Nat.xor_zero]
    exact stp_ne h h0
end Cr
end Go.Proofs.Ytimocgjeikgilaa
namespace Go.Proofs.Ytimocgjeikgilaa.AE
open Go.RowKit
/-- A function that is handed the run's one box. -/
def box? (spec : TypeId → List AV → Value → Option (Value × Value × Bool)) (args : List AV) (H : AH) : Ans := match H.blks, H.tips with
  | [(t, [.v x])], [] => match decide (H.mb = 0) with
    | true => match spec t args x with
      | some c => some (.v c.1, { H with blks := [(t, [.v c.2.1])], cd := cdb H.cd c.2.2 })
      | none => none
    | false => none
  | _, _ => none
theorem box_ok {ro : Nat → Option (List Value)} {g : FuncId} {spec : TypeId → List AV → Value → Option (Value × Value × Bool)} (hf : ∃ fn, Try.prog.funcs[g]? = some fn ∧ fn.body.isSome = true)
    (h : ∀ t args x c x', spec t args x = some (c, x', true) → Fs Try.prog ro g args (hp [(t, [.v x])] []) fun r h => r = .v c ∧ h.blks = [(t, [.v x'])] ∧ h.tips = []) :
    ∀ args H r H', box? spec args H = some (r, H') → HSound1 Try.prog ro g args H r H' := by
  intro args H r H' hp'
  unfold box? at hp'
  split at hp'
  · rename_i t x hb ht
    split at hp'
    · rename_i hmb
      have hmb := of_decide_eq_true hmb
      split at hp'
      · rename_i cc hs
        obtain ⟨c, x', q⟩ := cc
        cases hp'
        refine ⟨⟨fun x => (cdb_iff.1 x).1, rfl, rfl, rfl, by simp [hb], Nat.le_refl _, fun i hi _ => absurd hi (by omega), fun _ _ _ => rfl⟩, fun hcd G W cargs hI hR hA => ⟨hf, ?_⟩⟩
        have hq : q = true := (cdb_iff.1 hcd).2
        subst hq
        refine ((h _ _ _ _ _ hs) G W cargs (hI.same hb.symm ht.symm) hR hA).2.mono ?_
        rintro e W' ⟨c1, G', r1, H1, rfl, ⟨rfl, h2, h3⟩, e1, e2, e3⟩
        exact ⟨c1, G', rfl, e1, e2.same h2.symm (by rw [h3]; exact ht), e3⟩
      · cases hp'
    · cases hp'
  · cases hp'
theorem f_pre (b n : Int) (R : Exit → List AV → AH → Prop) : codeL nro (fun _ => false) (fun _ => none) 5 ((flatten (bodyOf 32)).take 2) ([.v (.int .u8 b), .ptr 0 0] ++ List.replicate 18 (.v undef)) (hp [(33, [.v (.int .u16 n)])] []) (kp [0, 1, 9] R) =
    (some (True ∧ (R Exit.normal [(AV.v (Value.int IntKind.u8 b)), (AV.ptr (0 : Nat) (0 : Nat)), AV.dead, AV.dead, AV.dead, AV.dead, AV.dead, AV.dead, AV.dead, (AV.v (Value.int IntKind.i64 (0 : Int))), AV.dead, AV.dead, AV.dead, AV.dead, AV.dead, AV.dead, AV.dead, AV.dead, AV.dead, AV.dead] (AH.mk [((33 : Nat), [(AV.v (Value.int IntKind.u16 (IntKind.wrap IntKind.u16 (((@BitVec.toFin (IntKind.bits IntKind.u16) ((BitVec.ofInt (IntKind.bits IntKind.u16) n) ^^^ (BitVec.ofInt (IntKind.bits IntKind.u16) (IntKind.wrap IntKind.u16 ((IntKind.wrap IntKind.u16 b) * ((2 : Int) ^ (@Min.min Nat instMinNat (Int.toNat (8 : Int)) (IntKind.bits IntKind.u16))))))))).1 : Int))))])] (@List.nil Nat) (0 : Nat) (0 : Nat) true (@List.nil (Prod Nat Bool)) True)))) := by kernel_rfl
theorem f_body (b n i : Int) (R : Exit → List AV → AH → Prop) : code nro (fun _ => false) (fun _ => none) 5 (sub (bodyOf 32) [1, 1, 0, 0]) ([.v (.int .u8 b), .ptr 0 0] ++ List.replicate 7 .dead ++ .v (.int .i64 i) :: List.replicate 10 .dead) (hp [(33, [.v (.int .u16 n)])] []) (kp [0, 1, 9] R) =
    (bif (decide (i < (8 : Int))) then (bif ((Int.fdiv n (32768 : Int)) == (1 : Int)) then (some (True ∧ (R Exit.normal [(AV.v (Value.int IntKind.u8 b)), (AV.ptr (0 : Nat) (0 : Nat)), AV.dead, AV.dead, AV.dead, AV.dead, AV.dead, AV.dead, AV.dead, (AV.v (Value.int IntKind.i64 (IntKind.wrap IntKind.i64 (i + (1 : Int))))), AV.dead, AV.dead, AV.dead, AV.dead, AV.dead, AV.dead, AV.dead, AV.dead, AV.dead, AV.dead] (AH.mk [((33 : Nat), [(AV.v (Value.int IntKind.u16 (IntKind.wrap IntKind.u16 (((@BitVec.toFin (IntKind.bits IntKind.u16) ((BitVec.ofInt (IntKind.bits IntKind.u16) (IntKind.wrap IntKind.u16 (n * ((2 : Int) ^ (@Min.min Nat instMinNat (Int.toNat (1 : Int)) (IntKind.bits IntKind.u16)))))) ^^^ (BitVec.ofInt (IntKind.bits IntKind.u16) (4129 : Int))))).1 : Int))))])] (@List.nil Nat) (0 : Nat) (0 : Nat) true (@List.nil (Prod Nat Bool)) True)))) else (some (True ∧ (R Exit.normal [(AV.v (Value.int IntKind.u8 b)), (AV.ptr (0 : Nat) (0 : Nat)), AV.dead, AV.dead, AV.dead, AV.dead, AV.dead, AV.dead, AV.dead, (AV.v (Value.int IntKind.i64 (IntKind.wrap IntKind.i64 (i + (1 : Int))))), AV.dead, AV.dead, AV.dead, AV.dead, AV.dead, AV.dead, AV.dead, AV.dead, AV.dead, AV.dead] (AH.mk [((33 : Nat), [(AV.v (Value.int IntKind.u16 (IntKind.wrap IntKind.u16 (n * (2 : Int)))))])] (@List.nil Nat) (0 : Nat) (0 : Nat) true (@List.nil (Prod Nat Bool)) True))))) else (some (True ∧ (R (Exit.exit (0 : Nat)) [(AV.v (Value.int IntKind.u8 b)), (AV.ptr (0 : Nat) (0 : Nat)), AV.dead, AV.dead, AV.dead, AV.dead, AV.dead, AV.dead, AV.dead, (AV.v (Value.int IntKind.i64 i)), AV.dead, AV.dead, AV.dead, AV.dead, AV.dead, AV.dead, AV.dead, AV.dead, AV.dead, AV.dead] (AH.mk [((33 : Nat), [(AV.v (Value.int IntKind.u16 n))])] (@List.nil Nat) (0 : Nat) (0 : Nat) true (@List.nil (Prod Nat Bool)) True))))) := by kernel_rfl
end Go.Proofs.Ytimocgjeikgilaa.AE
namespace Go.Proofs.Ytimocgjeikgilaa.AE
open Go.RowKit Cr
theorem ne_nil {α : Type} {l : List α} (h : l.isEmpty = false) : l ≠ [] := by cases l <;> simp_all
theorem add_one (k : Nat) (h : k ≤ 1000000) : IntKind.wrap .i64 ((k : Int) + 1) = ((k + 1 : Nat) : Int) := by
  rw [IntKind.wrap_i64]; omega
theorem dbl16 (n : Nat) : IntKind.wrap .u16 ((n : Int) * 2) = ((n * 2 % 65536 : Nat) : Int) := by
  rw [IntKind.wrap_u16]; omega
theorem sl_feed : slotsOf 32 = 20 := by kernel_rfl
theorem re_feed : resultsOf 32 = [] := by kernel_rfl
theorem fl_feed : (flatten (bodyOf 32)).drop 2 = [.block 0 (.loop (sub (bodyOf 32) [1, 1, 0, 0]))] := by kernel_rfl
def unit : Value := .tuple #[]
def bx (n : Nat) : AH := hp [(33, [.v (.int .u16 n)])] []
def feedA (b k : Nat) : List AV := [.v (.int .u8 b), .ptr 0 0] ++ List.replicate 7 .dead ++ .v (.int .i64 k) :: List.replicate 10 .dead
theorem shl8 (n b : Nat) (hn : n < 65536) (hb : b < 256) : bits .xor .u16 (n : Int) (IntKind.wrap .u16 (IntKind.wrap .u16 (b : Int) * 256)) = ((n ^^^ (b * 256) : Nat) : Int) := by
  have e : IntKind.wrap .u16 (IntKind.wrap .u16 (b : Int) * 256) = ((b * 256 : Nat) : Int) := by
    rw [IntKind.wrap_u16, IntKind.wrap_u16]; omega
  rw [e]
  exact u16_xor_nat n (b * 256) hn (by omega)
theorem fs_feed (n b : Nat) (hn : n < 65536) (hb : b < 256) :
    Fs Try.prog nro 32 [.v (.int .u8 b), .ptr 0 0] (bx n) fun r h => r = .v unit ∧ h.blks = [(33, [.v (.int .u16 (byt n b : Nat))])] ∧ h.tips = [] := by
  refine Fs.of_body (has_fn (by kernel_rfl)) ?_
  rw [sl_feed, re_feed]
  refine Tr.of_flat (Trl.split 2 (Trl.of_code (known_none nro) (ne_nil (by kernel_rfl)) (f_pre b n _) ⟨trivial, ?_⟩))
  show Trl _ _ ((flatten (bodyOf 32)).drop 2) _ _ _
  rw [fl_feed]
  have hx : n ^^^ (b * 256) < 65536 := xor_lt hn (by omega)
  let I : Nat → List AV → AH → Prop := fun m act H => ∃ k v, k ≤ 8 ∧ m = 8 - k ∧ act = feedA b k ∧ v = ((stpN (n ^^^ (b * 256)) k : Nat) : Int) ∧ H = hp [(33, [.v (.int .u16 v)])] []
  refine Tr.block (Tr.loop I ?_ (m := 8) ⟨0, _, Nat.zero_le _, rfl, rfl, ?_, rfl⟩)
  · rintro m act H ⟨k, v, hk, rfl, rfl, rfl, rfl⟩
    have hlt := stpN_lt hx k
    have hf : Int.fdiv ((stpN (n ^^^ (b * 256)) k : Nat) : Int) 32768 = ((stpN (n ^^^ (b * 256)) k / 32768 : Nat) : Int) := Int.fdiv_eq_ediv_of_nonneg _ (by decide)
    refine Tr.of_code (known_none nro) (f_body b _ k _) (holds_bif (fun h8 => holds_bif (fun hd => ?_) (fun hd => ?_)) (fun h8 => ?_))
    · have h8 := of_decide_eq_true h8
      have hd : stpN (n ^^^ (b * 256)) k / 32768 = 1 := by rw [hf] at hd; have := eq_of_beq hd; omega
      refine ⟨trivial, 8 - (k + 1), by omega, k + 1, _, by omega, rfl, ?_, ?_, rfl⟩
      · rw [add_one k (by omega)]; rfl
      · show bits .xor .u16 (IntKind.wrap .u16 ((stpN (n ^^^ (b * 256)) k : Nat) * 2)) 4129 = _
        rw [dbl16]
        refine (u16_xor_nat _ 4129 (Nat.mod_lt _ (by decide)) (by decide)).trans ?_
        show _ = ((stp _ : Nat) : Int)
        unfold stp
        rw [if_pos hd]
    · have h8 := of_decide_eq_true h8
      have hd : ¬ stpN (n ^^^ (b * 256)) k / 32768 = 1 := by
        rw [hf] at hd
        have := ne_of_beq_false hd
        omega
      refine ⟨trivial, 8 - (k + 1), by omega, k + 1, _, by omega, rfl, ?_, ?_, rfl⟩
      · rw [add_one k (by omega)]; rfl
      · rw [dbl16]
        show _ = ((stp _ : Nat) : Int)
        unfold stp
        rw [if_neg hd]
    · have h8 := of_decide_eq_false h8
      obtain rfl : k = 8 := by omega
      exact ⟨trivial, .inl rfl, trivial, rfl, rfl, rfl⟩
  · exact shl8 n b hn hb
end Go.Proofs.Ytimocgjeikgilaa.AE
namespace Go.Proofs.Ytimocgjeikgilaa.AE
open Go.RowKit Cr
def feedP (t : TypeId) (args : List AV) (x : Value) : Option (Value × Value × Bool) := match args, x with
  | [.v (.int .u8 b), .ptr 0 0], .int .u16 n => match decide (t = 33) with
    | true => some (unit, .int .u16 (byt n.toNat b.toNat : Nat), decide (0 ≤ n ∧ n < 65536 ∧ 0 ≤ b ∧ b < 256))
    | false => none
  | _, _ => none
theorem Fs.ro {g : FuncId} {args : List AV} {H : AH} {Φ : AV → AH → Prop} (h : Fs Try.prog nro g args H Φ) (ro : Nat → Option (List Value)) : Fs Try.prog ro g args H Φ :=
  fun G W cargs hI _ hA => h G W cargs hI (ro_none _ _) hA
theorem feed_ok (ro : Nat → Option (List Value)) : ∀ args H r H', box? feedP args H = some (r, H') → HSound1 Try.prog ro 32 args H r H' := by
  refine box_ok (has_fn (by kernel_rfl)) fun t args x c x' hs => Fs.ro ?_ ro
  unfold feedP at hs
  split at hs
  · rename_i b n
    split at hs
    · rename_i ht
      have ht := of_decide_eq_true ht
      simp only [Option.some.injEq, Prod.mk.injEq, decide_eq_true_eq] at hs
      obtain ⟨rfl, rfl, h1, h2, h3, h4⟩ := hs
      obtain ⟨n, rfl⟩ := Int.eq_ofNat_of_zero_le h1
      obtain ⟨b, rfl⟩ := Int.eq_ofNat_of_zero_le h3
      subst ht
      exact fs_feed n b (by omega) (by omega)
    · cases hs
  · cases hs
noncomputable def prF : FuncId → Option (List AV → AH → Ans) := fun g => match g with
  | 32 => some (box? feedP)
  | _ => none
theorem knownF (ro : Nat → Option (List Value)) : Known ro prF := by
  intro g p h
  unfold prF at h
  split at h
  · cases h; exact feed_ok _
  · cases h
def feeder : AV := .fn (.func 32) [] [.ptr 0 0]
theorem reg_run (n : Int) (Φ : AV → AH → Prop) : callK nro (fun _ => false) (fun _ => none) 5 29 [.v (.int .i64 n)] (hp [] []) (fun r h => some (h.cd ∧ Φ r h)) =
    (some (True ∧ (Φ (AV.tuple [(AV.fn (Go.Fn.func (32 : Nat)) (@List.nil AV) [(AV.ptr (List.length (@List.nil (Prod Go.TypeId (List AV)))) (0 : Nat))]), (AV.fn (Go.Fn.func (33 : Nat)) (@List.nil AV) [(AV.ptr (List.length (@List.nil (Prod Go.TypeId (List AV)))) (0 : Nat))])]) (AH.mk [((33 : Nat), [(AV.v (Value.int IntKind.u16 (IntKind.wrap IntKind.u16 n)))])] (@List.nil Nat) (0 : Nat) (0 : Nat) true (@List.nil (Prod Nat Bool)) True)))) := by kernel_rfl
theorem a_pre (s : ByteArray) (n : Int) (R : Exit → List AV → AH → Prop) : codeL nro (fun _ => false) prF 5 ((flatten (bodyOf 30)).take 1) ([.v (.string s), .fn (.func 32) [] [.ptr 0 0]] ++ List.replicate 14 (.v undef)) (hp [(33, [.v (.int .u16 n)])] []) (kp [0, 1, 6, 7] R) =
    (some (True ∧ (R Exit.normal [(AV.v (Value.string s)), (AV.fn (Go.Fn.func (32 : Nat)) (@List.nil AV) [(AV.ptr (0 : Nat) (0 : Nat))]), AV.dead, AV.dead, AV.dead, AV.dead, (AV.v (Value.int IntKind.i64 ((ByteArray.size s) : Int))), (AV.v (Value.int IntKind.i64 (0 : Int))), AV.dead, AV.dead, AV.dead, AV.dead, AV.dead, AV.dead, AV.dead, AV.dead] (AH.mk [((33 : Nat), [(AV.v (Value.int IntKind.u16 n))])] (@List.nil Nat) (0 : Nat) (0 : Nat) true (@List.nil (Prod Nat Bool)) True)))) := by kernel_rfl
theorem a_body (s : ByteArray) (n l i : Int) (R : Exit → List AV → AH → Prop) : code nro (fun _ => false) prF 5 (sub (bodyOf 30) [1, 0, 0]) ([.v (.string s), .fn (.func 32) [] [.ptr 0 0]] ++ List.replicate 4 .dead ++ [.v (.int .i64 l), .v (.int .i64 i)] ++ List.replicate 8 .dead) (hp [(33, [.v (.int .u16 n)])] []) (kp [0, 1, 6, 7] R) =
    (bif (decide (i < l)) then (some ((cdb (cdb True (decide (((0 : Int) ≤ i) ∧ ((Int.toNat i) < (ByteArray.size s))))) (decide (((0 : Int) ≤ n) ∧ ((n < (65536 : Int)) ∧ (((0 : Int) ≤ ((UInt8.toNat (Array.getD (ByteArray.data s) (Int.toNat i) (@OfNat.ofNat UInt8 (0 : Nat) (@UInt8.instOfNat 0)))) : Int)) ∧ (((UInt8.toNat (Array.getD (ByteArray.data s) (Int.toNat i) (@OfNat.ofNat UInt8 (0 : Nat) (@UInt8.instOfNat 0)))) : Int) < (256 : Int))))))) ∧ (R Exit.normal [(AV.v (Value.string s)), (AV.fn (Go.Fn.func (32 : Nat)) (@List.nil AV) [(AV.ptr (0 : Nat) (0 : Nat))]), AV.dead, AV.dead, AV.dead, AV.dead, (AV.v (Value.int IntKind.i64 l)), (AV.v (Value.int IntKind.i64 (IntKind.wrap IntKind.i64 (i + (1 : Int))))), AV.dead, AV.dead, AV.dead, AV.dead, AV.dead, AV.dead, AV.dead, AV.dead] (AH.mk [((33 : Nat), [(AV.v (Value.int IntKind.u16 ((Cr.byt (Int.toNat n) (Int.toNat ((UInt8.toNat (Array.getD (ByteArray.data s) (Int.toNat i) (@OfNat.ofNat UInt8 (0 : Nat) (@UInt8.instOfNat 0)))) : Int))) : Int)))])] (@List.nil Nat) (0 : Nat) (0 : Nat) true (@List.nil (Prod Nat Bool)) True)))) else (some (True ∧ (R (Exit.exit (0 : Nat)) [(AV.v (Value.string s)), (AV.fn (Go.Fn.func (32 : Nat)) (@List.nil AV) [(AV.ptr (0 : Nat) (0 : Nat))]), AV.dead, AV.dead, AV.dead, AV.dead, (AV.v (Value.int IntKind.i64 l)), (AV.v (Value.int IntKind.i64 i)), AV.dead, AV.dead, AV.dead, AV.dead, AV.dead, AV.dead, AV.dead, AV.dead] (AH.mk [((33 : Nat), [(AV.v (Value.int IntKind.u16 n))])] (@List.nil Nat) (0 : Nat) (0 : Nat) true (@List.nil (Prod Nat Bool)) True))))) := by kernel_rfl
end Go.Proofs.Ytimocgjeikgilaa.AE
namespace Go.Proofs.Ytimocgjeikgilaa.AE
open Go.RowKit Cr
def bytsOf (s : ByteArray) : List UInt8 := s.data.toList
theorem sl_all : slotsOf 30 = 16 := by kernel_rfl
theorem re_all : resultsOf 30 = [] := by kernel_rfl
theorem fl_all : (flatten (bodyOf 30)).drop 1 = [.block 0 (.loop (sub (bodyOf 30) [1, 0, 0]))] := by kernel_rfl
def allA (s : ByteArray) (k : Nat) : List AV := [.v (.string s), .fn (.func 32) [] [.ptr 0 0]] ++ List.replicate 4 .dead ++ [.v (.int .i64 (s.size : Nat)), .v (.int .i64 k)] ++ List.replicate 8 .dead
theorem len_byts (s : ByteArray) : (bytsOf s).length = s.size := by unfold bytsOf; rw [Array.length_toList]; rfl
theorem getD_byts (s : ByteArray) (k : Nat) (h : k < s.size) : Array.getD s.data k 0 = (bytsOf s)[k]'(by rw [len_byts]; exact h) := by
  have h2 : k < s.data.size := h
  unfold bytsOf
  simp only [Array.getD, h2, dif_pos]
  rfl
theorem fs_all (s : ByteArray) (n : Nat) (hn : n < 65536) (hs : s.size ≤ 100000) :
    Fs Try.prog nro 30 [.v (.string s), .fn (.func 32) [] [.ptr 0 0]] (bx n) fun r h => r = .v unit ∧ h.blks = [(33, [.v (.int .u16 (bytL n (bytsOf s) : Nat))])] ∧ h.tips = [] := by
  refine Fs.of_body (has_fn (by kernel_rfl)) ?_
  rw [sl_all, re_all]
  refine Tr.of_flat (Trl.split 1 (Trl.of_code (knownF nro) (ne_nil (by kernel_rfl)) (a_pre s n _) ⟨trivial, ?_⟩))
  show Trl _ _ ((flatten (bodyOf 30)).drop 1) _ _ _
  rw [fl_all]
  let I : Nat → List AV → AH → Prop := fun m act H => ∃ k v, k ≤ s.size ∧ m = s.size - k ∧ act = allA s k ∧ v = ((bytL n ((bytsOf s).take k) : Nat) : Int) ∧ H = hp [(33, [.v (.int .u16 v)])] []
  refine Tr.block (Tr.loop I ?_ (m := s.size) ⟨0, _, Nat.zero_le _, rfl, rfl, rfl, rfl⟩)
  rintro m act H ⟨k, v, hk, rfl, rfl, rfl, rfl⟩
  have hlt := bytL_lt hn ((bytsOf s).take k)
  refine Tr.of_code (knownF nro) (a_body s _ _ k _) (holds_bif (fun h8 => ?_) (fun h8 => ?_))
  · have h8 := of_decide_eq_true h8
    have h8 : k < s.size := by omega
    have hg := getD_byts s k h8
    have hb := ((bytsOf s)[k]'(by rw [len_byts]; exact h8)).toNat_lt
    refine ⟨?_, s.size - (k + 1), by omega, k + 1, _, by omega, rfl, ?_, ?_, rfl⟩
    · with_reducible refine cdb_iff.2 ⟨cdb_iff.2 ⟨trivial, ?_⟩, ?_⟩
      · exact decide_eq_true ⟨Int.natCast_nonneg k, h8⟩
      · have hb' : (UInt8.toNat (Array.getD s.data k 0) : Int) < 256 := by rw [hg]; omega
        have h0 : (0 : Int) ≤ (bytL n ((bytsOf s).take k) : Nat) := Int.natCast_nonneg _
        have h1 : ((bytL n ((bytsOf s).take k) : Nat) : Int) < 65536 := by omega
        exact decide_eq_true ⟨h0, h1, Int.natCast_nonneg _, hb'⟩
    · rw [add_one k (by omega)]; rfl
    · show ((byt (bytL n ((bytsOf s).take k)) (UInt8.toNat (Array.getD s.data k 0)) : Nat) : Int) = _
      rw [hg, List.take_succ_eq_append_getElem (by rw [len_byts]; exact h8), bytL_app]
      rfl
  · have h8 := of_decide_eq_false h8
    obtain rfl : k = s.size := by omega
    refine ⟨trivial, .inl rfl, trivial, rfl, ?_, rfl⟩
    rw [← len_byts, List.take_length]
    rfl
def allP (t : TypeId) (args : List AV) (x : Value) : Option (Value × Value × Bool) := match args, x with
  | [.v (.string s), .fn (.func f) [] [.ptr 0 0]], .int .u16 n => match decide (f = 32) && decide (t = 33) with
    | true => some (unit, .int .u16 (bytL n.toNat (bytsOf s) : Nat), decide (0 ≤ n ∧ n < 65536 ∧ s.size ≤ 100000))
    | false => none
  | _, _ => none
theorem all_ok (ro : Nat → Option (List Value)) : ∀ args H r H', box? allP args H = some (r, H') → HSound1 Try.prog ro 30 args H r H' := by
  refine box_ok (has_fn (by kernel_rfl)) fun t args x c x' hs => Fs.ro ?_ ro
  unfold allP at hs
  split at hs
  · rename_i s f n
    split at hs
    · rename_i ht
      simp only [Bool.and_eq_true, decide_eq_true_eq] at ht
      obtain ⟨hf, ht⟩ := ht
      simp only [Option.some.injEq, Prod.mk.injEq, decide_eq_true_eq] at hs
      obtain ⟨rfl, rfl, h1, h2, h3⟩ := hs
      obtain ⟨n, rfl⟩ := Int.eq_ofNat_of_zero_le h1
      subst ht hf
      exact fs_all s n (by omega) h3
    · cases hs
  · cases hs
noncomputable def prM : FuncId → Option (List AV → AH → Ans) := fun g => match g with
  | 30 => some (box? allP)
  | _ => none
theorem knownM (ro : Nat → Option (List Value)) : Known ro prM := by
  intro g p h
  unfold prM at h
  split at h
  · cases h; exact all_ok _
  · cases h
theorem more_run (n : Int) (s : ByteArray) (Φ : AV → AH → Prop) : callK nro (fun _ => false) prM 5 27 [.v (.int .i64 n), .v (.string s)] (hp [] []) (fun r h => some (h.cd ∧ Φ r (tidy h))) =
    (some ((cdb True (decide (((0 : Int) ≤ (IntKind.wrap IntKind.u16 n)) ∧ (((IntKind.wrap IntKind.u16 n) < (65536 : Int)) ∧ ((ByteArray.size s) ≤ (100000 : Nat)))))) ∧ (Φ (AV.v (Value.int IntKind.i64 (IntKind.wrap IntKind.i64 ((Cr.bytL (Int.toNat (IntKind.wrap IntKind.u16 n)) (bytsOf s)) : Int)))) (AH.mk [((33 : Nat), [(AV.v (Value.int IntKind.u16 ((Cr.bytL (Int.toNat (IntKind.wrap IntKind.u16 n)) (bytsOf s)) : Int)))])] (@List.nil Nat) (0 : Nat) (0 : Nat) true (@List.nil (Prod Nat Bool)) True)))) := by kernel_rfl
end Go.Proofs.Ytimocgjeikgilaa.AE
namespace Go.Proofs.Ytimocgjeikgilaa.AE
open Go.RowKit Cr
def w16 (n : Int) : Nat := (n % 65536).toNat
theorem w16_lt (n : Int) : w16 n < 65536 := by unfold w16; omega
theorem wrap16 (n : Int) : IntKind.wrap .u16 n = (w16 n : Nat) := by rw [IntKind.wrap_u16]; unfold w16; omega
theorem wrap64 (n : Nat) (h : n < 9223372036854775808) : IntKind.wrap .i64 (n : Int) = (n : Nat) := by rw [IntKind.wrap_i64]; omega
def moreV (n : Int) (s : ByteArray) : Value := .int .i64 (bytL (w16 n) (bytsOf s) : Nat)
theorem fs_more (n : Int) (s : ByteArray) (hs : s.size ≤ 100000) : Fs Try.prog nro 27 [.v (.int .i64 n), .v (.string s)] (hp [] []) fun r _ => r = .v (moreV n s) := by
  refine Fs.of_call (knownM nro) (more_run n s (fun r _ => r = .v (moreV n s))) ⟨?_, ?_⟩
  · with_reducible refine cdb_iff.2 ⟨trivial, decide_eq_true ⟨?_, ?_, hs⟩⟩
    · rw [wrap16]; exact Int.natCast_nonneg _
    · rw [wrap16]; have := w16_lt n; omega
  · rw [wrap16, Int.toNat_natCast, wrap64 _ (Nat.lt_trans (bytL_lt (w16_lt n) _) (by decide))]
    rfl
def moreP : List Value → Option (Value × Bool) := fun us => match us with
  | [.int .i64 n, .string s] => some (moreV n s, decide (s.size ≤ 100000))
  | _ => none
theorem more_ok (ro : Nat → Option (List Value)) : ∀ args H r H', pure? moreP args H = some (r, H') → HSound1 Try.prog ro 27 args H r H' := by
  refine pure_ok (fun us c hs => Fs.ro ?_ ro) (has_fn (by kernel_rfl))
  unfold moreP at hs
  split at hs
  · rename_i n s
    simp only [Option.some.injEq, Prod.mk.injEq, decide_eq_true_eq] at hs
    obtain ⟨rfl, h⟩ := hs
    exact fs_more n s h
  · cases hs
theorem b_pre (s : ByteArray) (i : Int) (R : Exit → List AV → AH → Prop) : codeL nro (fun _ => false) (fun _ => none) 5 ((flatten (bodyOf 31)).take 3) ([.v (.string s), .v (.int .i64 i)] ++ List.replicate 26 (.v undef)) (hp [] []) (kp [5, 6] R) =
    (some ((cdb True (decide (((0 : Int) ≤ (IntKind.wrap IntKind.i64 (Int.tdiv i (8 : Int)))) ∧ ((Int.toNat (IntKind.wrap IntKind.i64 (Int.tdiv i (8 : Int)))) < (ByteArray.size s))))) ∧ (R Exit.normal [AV.dead, AV.dead, AV.dead, AV.dead, AV.dead, (AV.v (Value.int IntKind.i64 (IntKind.wrap IntKind.i64 ((UInt8.toNat (Array.getD (ByteArray.data s) (Int.toNat (IntKind.wrap IntKind.i64 (Int.tdiv i (8 : Int)))) (@OfNat.ofNat UInt8 (0 : Nat) (@UInt8.instOfNat 0)))) : Int)))), (AV.v (Value.int IntKind.i64 (IntKind.wrap IntKind.i64 (i - (IntKind.wrap IntKind.i64 ((IntKind.wrap IntKind.i64 (Int.tdiv i (8 : Int))) * (8 : Int))))))), AV.dead, AV.dead, AV.dead, AV.dead, AV.dead, AV.dead, AV.dead, AV.dead, AV.dead, AV.dead, AV.dead, AV.dead, AV.dead, AV.dead, AV.dead, AV.dead, AV.dead, AV.dead, AV.dead, AV.dead, AV.dead] (AH.mk (@List.nil (Prod Go.TypeId (List AV))) (@List.nil Nat) (0 : Nat) (0 : Nat) true (@List.nil (Prod Nat Bool)) True)))) := by kernel_rfl
theorem b_body (c k : Int) (R : Exit → List AV → AH → Prop) : code nro (fun _ => false) (fun _ => none) 5 (sub (bodyOf 31) [1, 1, 0, 1, 0, 0]) (List.replicate 5 .dead ++ [.v (.int .i64 c), .v (.int .i64 k)] ++ List.replicate 21 .dead) (hp [] []) (kp [5, 6] R) =
    (bif (decide (k < (7 : Int))) then (some (True ∧ (R Exit.normal [AV.dead, AV.dead, AV.dead, AV.dead, AV.dead, (AV.v (Value.int IntKind.i64 (IntKind.wrap IntKind.i64 (Int.tdiv c (2 : Int))))), (AV.v (Value.int IntKind.i64 (IntKind.wrap IntKind.i64 (k + (1 : Int))))), AV.dead, AV.dead, AV.dead, AV.dead, AV.dead, AV.dead, AV.dead, AV.dead, AV.dead, AV.dead, AV.dead, AV.dead, AV.dead, AV.dead, AV.dead, AV.dead, AV.dead, AV.dead, AV.dead, AV.dead, AV.dead] (AH.mk (@List.nil (Prod Go.TypeId (List AV))) (@List.nil Nat) (0 : Nat) (0 : Nat) true (@List.nil (Prod Nat Bool)) True)))) else (some (True ∧ (R (Exit.exit (0 : Nat)) [AV.dead, AV.dead, AV.dead, AV.dead, AV.dead, (AV.v (Value.int IntKind.i64 c)), (AV.v (Value.int IntKind.i64 k)), AV.dead, AV.dead, AV.dead, AV.dead, AV.dead, AV.dead, AV.dead, AV.dead, AV.dead, AV.dead, AV.dead, AV.dead, AV.dead, AV.dead, AV.dead, AV.dead, AV.dead, AV.dead, AV.dead, AV.dead, AV.dead] (AH.mk (@List.nil (Prod Go.TypeId (List AV))) (@List.nil Nat) (0 : Nat) (0 : Nat) true (@List.nil (Prod Nat Bool)) True))))) := by kernel_rfl
theorem b_post (c k : Int) (R : Exit → List AV → AH → Prop) : codeL nro (fun _ => false) (fun _ => none) 5 ((flatten (bodyOf 31)).drop 4) (List.replicate 5 .dead ++ [.v (.int .i64 c), .v (.int .i64 k)] ++ List.replicate 21 .dead) (hp [] []) (kp [4] R) =
    (some (True ∧ (R Exit.ret [AV.dead, AV.dead, AV.dead, AV.dead, (AV.v (Value.int IntKind.i64 (IntKind.wrap IntKind.i64 (c - (IntKind.wrap IntKind.i64 ((IntKind.wrap IntKind.i64 (Int.tdiv c (2 : Int))) * (2 : Int))))))), AV.dead, AV.dead, AV.dead, AV.dead, AV.dead, AV.dead, AV.dead, AV.dead, AV.dead, AV.dead, AV.dead, AV.dead, AV.dead, AV.dead, AV.dead, AV.dead, AV.dead, AV.dead, AV.dead, AV.dead, AV.dead, AV.dead, AV.dead] (AH.mk (@List.nil (Prod Go.TypeId (List AV))) (@List.nil Nat) (0 : Nat) (0 : Nat) true (@List.nil (Prod Nat Bool)) True)))) := by kernel_rfl
theorem sl_bit : slotsOf 31 = 28 := by kernel_rfl
theorem re_bit : resultsOf 31 = [.tmp 4] := by kernel_rfl
theorem fl_bit : (flatten (bodyOf 31)).drop 3 = .block 0 (.loop (sub (bodyOf 31) [1, 1, 0, 1, 0, 0])) :: (flatten (bodyOf 31)).drop 4 := by kernel_rfl
def bitA (c k : Nat) : List AV := List.replicate 5 .dead ++ [.v (.int .i64 c), .v (.int .i64 k)] ++ List.replicate 21 .dead
def bitV (s : ByteArray) (i : Nat) : Nat := (bitN (Array.getD s.data (i / 8) 0).toNat (i % 8)).toNat
theorem tdiv_nat (i c : Nat) : Int.tdiv (i : Int) (c : Int) = ((i / c : Nat) : Int) := Int.tdiv_eq_ediv_of_nonneg (Int.natCast_nonneg i)
theorem bit_end (c : Nat) (h : c < 256) : IntKind.wrap .i64 ((c : Int) - IntKind.wrap .i64 (IntKind.wrap .i64 (Int.tdiv (c : Int) 2) * 2)) = ((c % 2 : Nat) : Int) := by
  rw [show Int.tdiv (c : Int) 2 = ((c / 2 : Nat) : Int) from tdiv_nat c 2, wrap64 (c / 2) (by omega), IntKind.wrap_i64, IntKind.wrap_i64]
  omega
theorem bit_val {s : ByteArray} {i B c : Nat} (hB : B = (Array.getD s.data (i / 8) 0).toNat) (hc : c = B / 2 ^ (7 - i % 8)) : c % 2 = bitV s i := by
  unfold bitV bitN
  rw [← hB, ← hc]
  have : c % 2 = 0 ∨ c % 2 = 1 := by omega
  rcases this with h | h <;> simp [h]
theorem fs_bit (s : ByteArray) (i : Nat) (hs : s.size ≤ 100000) (hi : i < 8 * s.size) : Fs Try.prog nro 31 [.v (.string s), .v (.int .i64 i)] (hp [] []) fun r _ => r = .v (.int .i64 (bitV s i : Nat)) := by
  refine Fs.of_body (has_fn (by kernel_rfl)) ?_
  rw [sl_bit, re_bit]
  have ht : IntKind.wrap .i64 (Int.tdiv (i : Int) 8) = ((i / 8 : Nat) : Int) := by
    rw [show Int.tdiv (i : Int) 8 = ((i / 8 : Nat) : Int) from tdiv_nat i 8]
    exact wrap64 _ (by omega)
  have hm : IntKind.wrap .i64 ((i : Int) - IntKind.wrap .i64 (((i / 8 : Nat) : Int) * 8)) = ((i % 8 : Nat) : Int) := by
    rw [IntKind.wrap_i64, IntKind.wrap_i64]; omega
  obtain ⟨B, hB⟩ : ∃ B, B = (Array.getD s.data (i / 8) 0).toNat := ⟨_, rfl⟩
  have hB' : B < 256 := by rw [hB]; exact UInt8.toNat_lt _
  have hc : IntKind.wrap .i64 ((UInt8.toNat (Array.getD s.data (Int.toNat ((i / 8 : Nat) : Int)) 0) : Nat) : Int) = ((B : Nat) : Int) := by
    show IntKind.wrap .i64 ((UInt8.toNat (Array.getD s.data (i / 8) 0) : Nat) : Int) = _
    rw [← hB]; exact wrap64 _ (by omega)
  have pre := fun R => b_pre s i R
  rw [ht, hm, hc] at pre
  refine Tr.of_flat (Trl.split 3 (Trl.of_code (known_none nro) (ne_nil (by kernel_rfl)) (pre _) ⟨?_, ?_⟩))
  · with_reducible refine cdb_iff.2 ⟨trivial, decide_eq_true ⟨Int.natCast_nonneg _, ?_⟩⟩
    show i / 8 < s.size
    omega
  show Trl _ _ ((flatten (bodyOf 31)).drop 3) _ _ _
  rw [fl_bit]
  let I : Nat → List AV → AH → Prop := fun m act H => ∃ k c, i % 8 ≤ k ∧ k ≤ 7 ∧ m = 7 - k ∧ act = bitA c k ∧ c = B / 2 ^ (k - i % 8) ∧ H = hp [] []
  refine Tr.block (Tr.loop I ?_ (m := 7 - i % 8) ⟨i % 8, B, Nat.le_refl _, by omega, rfl, rfl, ?_, rfl⟩)
  · rintro m act H ⟨k, c, hk0, hk, rfl, rfl, hc, rfl⟩
    have hcs : c ≤ B := by rw [hc]; exact Nat.div_le_self _ _
    have body := fun R => b_body c k R
    rw [show IntKind.wrap .i64 (Int.tdiv (c : Int) 2) = ((c / 2 : Nat) : Int) by rw [show Int.tdiv (c : Int) 2 = ((c / 2 : Nat) : Int) from tdiv_nat c 2]; exact wrap64 _ (by omega), add_one k (by omega)] at body
    refine Tr.of_code (known_none nro) (body _) (holds_bif (fun h8 => ?_) (fun h8 => ?_))
    · have h8 := of_decide_eq_true h8
      refine ⟨trivial, 7 - (k + 1), by omega, k + 1, c / 2, by omega, by omega, rfl, rfl, ?_, rfl⟩
      rw [hc, Nat.div_div_eq_div_mul, show k + 1 - i % 8 = (k - i % 8) + 1 by omega, Nat.pow_succ]
    · have h8 := of_decide_eq_false h8
      obtain rfl : k = 7 := by omega
      refine ⟨trivial, ?_⟩
      show Trl _ _ ((flatten (bodyOf 31)).drop 4) _ _ _
      have post := fun R => b_post c (7 : Nat) R
      rw [bit_end c (by omega)] at post
      have hb : c % 2 = bitV s i := bit_val hB hc
      clear hc body
      exact Trl.of_code (known_none nro) (ne_nil (by kernel_rfl)) (post _) ⟨trivial, .inr rfl, trivial, congrArg (fun z : Nat => AV.v (.int .i64 (z : Int))) hb⟩
  · rw [Nat.sub_self, Nat.pow_zero, Nat.div_one]
end Go.Proofs.Ytimocgjeikgilaa.AE
namespace Go.Proofs.Ytimocgjeikgilaa.AE
open Go.RowKit Cr
theorem bits_get : ∀ (l : List UInt8) (i : Nat), i < 8 * l.length → (bitsL l)[i]? = some (bitN (l.getD (i / 8) 0).toNat (i % 8))
  | [], i, h => by simp at h
  | b :: l, i, h => by
    have hl : 8 * (b :: l).length = 8 * l.length + 8 := by simp; omega
    rw [hl] at h
    show (bitsB b.toNat ++ bitsL l)[i]? = _
    have h8 : (bitsB b.toNat).length = 8 := rfl
    by_cases hi : i < 8
    · rw [List.getElem?_append_left (by rw [h8]; exact hi), Nat.div_eq_of_lt hi, Nat.mod_eq_of_lt hi]
      have : i = 0 ∨ i = 1 ∨ i = 2 ∨ i = 3 ∨ i = 4 ∨ i = 5 ∨ i = 6 ∨ i = 7 := by omega
      rcases this with h | h | h | h | h | h | h | h <;> subst h <;> rfl
    · rw [List.getElem?_append_right (by rw [h8]; omega), h8, bits_get l (i - 8) (by omega), show i / 8 = (i - 8) / 8 + 1 by omega, show (i - 8) % 8 = i % 8 by omega]
      rfl
theorem bits_len : ∀ l : List UInt8, (bitsL l).length = 8 * l.length
  | [] => rfl
  | b :: l => by
    show (bitsB b.toNat ++ bitsL l).length = _
    rw [List.length_append, bits_len l, List.length_cons]
    show 8 + 8 * l.length = _
    omega
theorem bitV_get (s : ByteArray) (i : Nat) (h : i < 8 * s.size) : ∃ b, (bitsL (bytsOf s))[i]? = some b ∧ bitV s i = b.toNat := by
  refine ⟨_, bits_get (bytsOf s) i (by rw [len_byts]; exact h), ?_⟩
  unfold bitV
  rw [getD_byts s (i / 8) (by omega), List.getD_eq_getElem?_getD, List.getElem?_eq_getElem (by rw [len_byts]; omega)]
  rfl
def bitP : List Value → Option (Value × Bool) := fun us => match us with
  | [.string s, .int .i64 i] => some (.int .i64 (bitV s i.toNat : Nat), decide (0 ≤ i ∧ i < 8 * (s.size : Int) ∧ s.size ≤ 100000))
  | _ => none
theorem bit_ok (ro : Nat → Option (List Value)) : ∀ args H r H', pure? bitP args H = some (r, H') → HSound1 Try.prog ro 31 args H r H' := by
  refine pure_ok (fun us c hs => Fs.ro ?_ ro) (has_fn (by kernel_rfl))
  unfold bitP at hs
  split at hs
  · rename_i s i
    simp only [Option.some.injEq, Prod.mk.injEq, decide_eq_true_eq] at hs
    obtain ⟨rfl, h1, h2, h3⟩ := hs
    obtain ⟨i, rfl⟩ := Int.eq_ofNat_of_zero_le h1
    exact fs_bit s i h3 (by omega)
  · cases hs
noncomputable def prB : FuncId → Option (List AV → AH → Ans) := fun g => match g with
  | 31 => some (pure? bitP)
  | _ => none
theorem knownB (ro : Nat → Option (List Value)) : Known ro prB := by
  intro g p h
  unfold prB at h
  split at h
  · cases h; exact bit_ok _
  · cases h
theorem m_pre (n : Int) (s : ByteArray) (R : Exit → List AV → AH → Prop) : codeL nro (fun _ => false) prB 5 ((flatten (bodyOf 28)).take 3) ([.v (.int .i64 n), .v (.string s)] ++ List.replicate 30 (.v undef)) (hp [] []) (kp [0, 1, 5] R) =
    (some (True ∧ (R Exit.normal [(AV.v (Value.int IntKind.i64 (IntKind.wrap IntKind.i64 (((@BitVec.toFin (IntKind.bits IntKind.i64) ((BitVec.ofInt (IntKind.bits IntKind.i64) n) &&& (BitVec.ofInt (IntKind.bits IntKind.i64) (65535 : Int))))).1 : Int)))), (AV.v (Value.string s)), AV.dead, AV.dead, AV.dead, (AV.v (Value.int IntKind.i64 (0 : Int))), AV.dead, AV.dead, AV.dead, AV.dead, AV.dead, AV.dead, AV.dead, AV.dead, AV.dead, AV.dead, AV.dead, AV.dead, AV.dead, AV.dead, AV.dead, AV.dead, AV.dead, AV.dead, AV.dead, AV.dead, AV.dead, AV.dead, AV.dead, AV.dead, AV.dead, AV.dead] (AH.mk (@List.nil (Prod Go.TypeId (List AV))) (@List.nil Nat) (0 : Nat) (0 : Nat) true (@List.nil (Prod Nat Bool)) True)))) := by kernel_rfl
theorem m_body (n i : Int) (s : ByteArray) (R : Exit → List AV → AH → Prop) : code nro (fun _ => false) prB 5 (sub (bodyOf 28) [1, 1, 0, 1, 0, 0]) ([.v (.int .i64 n), .v (.string s)] ++ List.replicate 3 .dead ++ .v (.int .i64 i) :: List.replicate 26 .dead) (hp [] []) (kp [0, 1, 5] R) =
    (bif (decide (i < (IntKind.wrap IntKind.i64 ((8 : Int) * ((ByteArray.size s) : Int))))) then (bif (decide ((65535 : Int) < (IntKind.wrap IntKind.i64 (n * (2 : Int))))) then (bif ((IntKind.wrap IntKind.i64 (Int.tdiv n (32768 : Int))) != ((bitV s (Int.toNat i)) : Int)) then (some ((cdb True (decide (((0 : Int) ≤ i) ∧ ((i < ((8 : Int) * ((ByteArray.size s) : Int))) ∧ ((ByteArray.size s) ≤ (100000 : Nat)))))) ∧ (R Exit.normal [(AV.v (Value.int IntKind.i64 (IntKind.wrap IntKind.i64 (((@BitVec.toFin (IntKind.bits IntKind.i64) ((BitVec.ofInt (IntKind.bits IntKind.i64) (IntKind.wrap IntKind.i64 ((IntKind.wrap IntKind.i64 (n * (2 : Int))) - (65536 : Int)))) ^^^ (BitVec.ofInt (IntKind.bits IntKind.i64) (4129 : Int))))).1 : Int)))), (AV.v (Value.string s)), AV.dead, AV.dead, AV.dead, (AV.v (Value.int IntKind.i64 (IntKind.wrap IntKind.i64 (i + (1 : Int))))), AV.dead, AV.dead, AV.dead, AV.dead, AV.dead, AV.dead, AV.dead, AV.dead, AV.dead, AV.dead, AV.dead, AV.dead, AV.dead, AV.dead, AV.dead, AV.dead, AV.dead, AV.dead, AV.dead, AV.dead, AV.dead, AV.dead, AV.dead, AV.dead, AV.dead, AV.dead] (AH.mk (@List.nil (Prod Go.TypeId (List AV))) (@List.nil Nat) (0 : Nat) (0 : Nat) true (@List.nil (Prod Nat Bool)) True)))) else (some ((cdb True (decide (((0 : Int) ≤ i) ∧ ((i < ((8 : Int) * ((ByteArray.size s) : Int))) ∧ ((ByteArray.size s) ≤ (100000 : Nat)))))) ∧ (R Exit.normal [(AV.v (Value.int IntKind.i64 (IntKind.wrap IntKind.i64 ((IntKind.wrap IntKind.i64 (n * (2 : Int))) - (65536 : Int))))), (AV.v (Value.string s)), AV.dead, AV.dead, AV.dead, (AV.v (Value.int IntKind.i64 (IntKind.wrap IntKind.i64 (i + (1 : Int))))), AV.dead, AV.dead, AV.dead, AV.dead, AV.dead, AV.dead, AV.dead, AV.dead, AV.dead, AV.dead, AV.dead, AV.dead, AV.dead, AV.dead, AV.dead, AV.dead, AV.dead, AV.dead, AV.dead, AV.dead, AV.dead, AV.dead, AV.dead, AV.dead, AV.dead, AV.dead] (AH.mk (@List.nil (Prod Go.TypeId (List AV))) (@List.nil Nat) (0 : Nat) (0 : Nat) true (@List.nil (Prod Nat Bool)) True))))) else (bif ((IntKind.wrap IntKind.i64 (Int.tdiv n (32768 : Int))) != ((bitV s (Int.toNat i)) : Int)) then (some ((cdb True (decide (((0 : Int) ≤ i) ∧ ((i < ((8 : Int) * ((ByteArray.size s) : Int))) ∧ ((ByteArray.size s) ≤ (100000 : Nat)))))) ∧ (R Exit.normal [(AV.v (Value.int IntKind.i64 (IntKind.wrap IntKind.i64 (((@BitVec.toFin (IntKind.bits IntKind.i64) ((BitVec.ofInt (IntKind.bits IntKind.i64) (IntKind.wrap IntKind.i64 (n * (2 : Int)))) ^^^ (BitVec.ofInt (IntKind.bits IntKind.i64) (4129 : Int))))).1 : Int)))), (AV.v (Value.string s)), AV.dead, AV.dead, AV.dead, (AV.v (Value.int IntKind.i64 (IntKind.wrap IntKind.i64 (i + (1 : Int))))), AV.dead, AV.dead, AV.dead, AV.dead, AV.dead, AV.dead, AV.dead, AV.dead, AV.dead, AV.dead, AV.dead, AV.dead, AV.dead, AV.dead, AV.dead, AV.dead, AV.dead, AV.dead, AV.dead, AV.dead, AV.dead, AV.dead, AV.dead, AV.dead, AV.dead, AV.dead] (AH.mk (@List.nil (Prod Go.TypeId (List AV))) (@List.nil Nat) (0 : Nat) (0 : Nat) true (@List.nil (Prod Nat Bool)) True)))) else (some ((cdb True (decide (((0 : Int) ≤ i) ∧ ((i < ((8 : Int) * ((ByteArray.size s) : Int))) ∧ ((ByteArray.size s) ≤ (100000 : Nat)))))) ∧ (R Exit.normal [(AV.v (Value.int IntKind.i64 (IntKind.wrap IntKind.i64 (n * (2 : Int))))), (AV.v (Value.string s)), AV.dead, AV.dead, AV.dead, (AV.v (Value.int IntKind.i64 (IntKind.wrap IntKind.i64 (i + (1 : Int))))), AV.dead, AV.dead, AV.dead, AV.dead, AV.dead, AV.dead, AV.dead, AV.dead, AV.dead, AV.dead, AV.dead, AV.dead, AV.dead, AV.dead, AV.dead, AV.dead, AV.dead, AV.dead, AV.dead, AV.dead, AV.dead, AV.dead, AV.dead, AV.dead, AV.dead, AV.dead] (AH.mk (@List.nil (Prod Go.TypeId (List AV))) (@List.nil Nat) (0 : Nat) (0 : Nat) true (@List.nil (Prod Nat Bool)) True)))))) else (some (True ∧ (R (Exit.exit (0 : Nat)) [(AV.v (Value.int IntKind.i64 n)), (AV.v (Value.string s)), AV.dead, AV.dead, AV.dead, (AV.v (Value.int IntKind.i64 i)), AV.dead, AV.dead, AV.dead, AV.dead, AV.dead, AV.dead, AV.dead, AV.dead, AV.dead, AV.dead, AV.dead, AV.dead, AV.dead, AV.dead, AV.dead, AV.dead, AV.dead, AV.dead, AV.dead, AV.dead, AV.dead, AV.dead, AV.dead, AV.dead, AV.dead, AV.dead] (AH.mk (@List.nil (Prod Go.TypeId (List AV))) (@List.nil Nat) (0 : Nat) (0 : Nat) true (@List.nil (Prod Nat Bool)) True))))) := by kernel_rfl
theorem m_post (n i : Int) (s : ByteArray) (R : Exit → List AV → AH → Prop) : codeL nro (fun _ => false) prB 5 ((flatten (bodyOf 28)).drop 4) ([.v (.int .i64 n), .v (.string s)] ++ List.replicate 3 .dead ++ .v (.int .i64 i) :: List.replicate 26 .dead) (hp [] []) (kp [4] R) =
    (some (True ∧ (R Exit.ret [AV.dead, AV.dead, AV.dead, AV.dead, (AV.v (Value.int IntKind.i64 n)), AV.dead, AV.dead, AV.dead, AV.dead, AV.dead, AV.dead, AV.dead, AV.dead, AV.dead, AV.dead, AV.dead, AV.dead, AV.dead, AV.dead, AV.dead, AV.dead, AV.dead, AV.dead, AV.dead, AV.dead, AV.dead, AV.dead, AV.dead, AV.dead, AV.dead, AV.dead, AV.dead] (AH.mk (@List.nil (Prod Go.TypeId (List AV))) (@List.nil Nat) (0 : Nat) (0 : Nat) true (@List.nil (Prod Nat Bool)) True)))) := by kernel_rfl
end Go.Proofs.Ytimocgjeikgilaa.AE
namespace Go.Proofs.Ytimocgjeikgilaa.AE
open Go.RowKit Cr
theorem i64_xor_small (a b : Nat) (ha : a < 65536) (hb : b < 65536) : bits .xor .i64 (a : Int) (b : Int) = ((a ^^^ b : Nat) : Int) := by
  have hx : a ^^^ b < 65536 := xor_lt ha hb
  have h1 : (BitVec.ofInt 64 (a : Int)).toNat = a := by rw [BitVec.toNat_ofInt]; omega
  have h2 : (BitVec.ofInt 64 (b : Int)).toNat = b := by rw [BitVec.toNat_ofInt]; omega
  show IntKind.i64.wrap ((BitVec.ofInt 64 (a : Int) ^^^ BitVec.ofInt 64 (b : Int)).toNat : Int) = _
  rw [BitVec.toNat_xor, h1, h2, IntKind.wrap_i64]
  omega
theorem i64_and16 (n : Int) : bits .and .i64 n 65535 = (w16 n : Nat) := by
  have h127 : (BitVec.ofInt 64 65535).toNat = 2 ^ 16 - 1 := by decide
  have key : (BitVec.ofInt 64 n &&& BitVec.ofInt 64 65535).toNat = (n % ((2 ^ 64 : Nat) : Int)).toNat % 2 ^ 16 := by
    rw [BitVec.toNat_and, BitVec.toNat_ofInt, h127, Nat.and_two_pow_sub_one_eq_mod]
  show IntKind.i64.wrap ((BitVec.ofInt 64 n &&& BitVec.ofInt 64 65535).toNat : Nat) = _
  rw [key, IntKind.wrap_i64]
  unfold w16
  omega
theorem sl_rm : slotsOf 28 = 32 := by kernel_rfl
theorem re_rm : resultsOf 28 = [.tmp 4] := by kernel_rfl
theorem fl_rm : (flatten (bodyOf 28)).drop 3 = .block 0 (.loop (sub (bodyOf 28) [1, 1, 0, 1, 0, 0])) :: (flatten (bodyOf 28)).drop 4 := by kernel_rfl
def rmA (s : ByteArray) (n k : Nat) : List AV := [.v (.int .i64 n), .v (.string s)] ++ List.replicate 3 .dead ++ .v (.int .i64 k) :: List.replicate 26 .dead
theorem reg_next {n k : Nat} {l : List Bool} {b : Bool} (h : l[k]? = some b) : reg n (l.take (k + 1)) = fd (reg n (l.take k)) b := by
  rw [List.take_add_one, h, reg_app]; rfl
theorem bits_txt (s : ByteArray) : (bitsL (bytsOf s)).length = 8 * s.size := by rw [bits_len, len_byts]
theorem dblI (r : Nat) (h : r < 65536) : IntKind.wrap .i64 ((r : Int) * 2) = ((r * 2 : Nat) : Int) := by rw [IntKind.wrap_i64]; omega
theorem subI (r : Nat) (h : r < 65536) (h2 : (65535 : Int) < ((r * 2 : Nat) : Int)) : IntKind.wrap .i64 (((r * 2 : Nat) : Int) - 65536) = ((r * 2 % 65536 : Nat) : Int) := by rw [IntKind.wrap_i64]; omega
theorem divI (r : Nat) (h : r < 65536) : IntKind.wrap .i64 (Int.tdiv (r : Int) 32768) = ((r / 32768 : Nat) : Int) := by
  rw [show Int.tdiv (r : Int) 32768 = ((r / 32768 : Nat) : Int) from tdiv_nat r 32768]; exact wrap64 _ (by omega)
theorem fs_rmore (n : Int) (s : ByteArray) (hs : s.size ≤ 100000) : Fs Try.prog nro 28 [.v (.int .i64 n), .v (.string s)] (hp [] []) fun r _ => r = .v (moreV n s) := by
  refine Fs.of_body (has_fn (by kernel_rfl)) ?_
  rw [sl_rm, re_rm]
  refine Tr.of_flat (Trl.split 3 (Trl.of_code (knownB nro) (ne_nil (by kernel_rfl)) (m_pre n s _) ⟨trivial, ?_⟩))
  show Trl _ _ ((flatten (bodyOf 28)).drop 3) _ _ _
  rw [fl_rm]
  have hw := w16_lt n
  let I : Nat → List AV → AH → Prop := fun m act H => ∃ k r, k ≤ 8 * s.size ∧ m = 8 * s.size - k ∧ act = rmA s r k ∧ r = reg (w16 n) ((bitsL (bytsOf s)).take k) ∧ H = hp [] []
  refine Tr.block (Tr.loop I ?_ (m := 8 * s.size) ⟨0, w16 n, Nat.zero_le _, rfl, ?_, rfl, rfl⟩)
  · rintro m act H ⟨k, r, hk, rfl, rfl, hr, rfl⟩
    have hr16 : r < 65536 := by rw [hr]; exact reg_lt _ hw
    have hl : IntKind.wrap .i64 ((8 : Int) * ((s.size : Nat) : Int)) = ((8 * s.size : Nat) : Int) := by rw [IntKind.wrap_i64]; omega
    have body := fun R => m_body r k s R
    rw [dblI r hr16, divI r hr16, add_one k (by omega), hl] at body
    have hc : k < 8 * s.size → decide ((0 : Int) ≤ (k : Int) ∧ (k : Int) < 8 * ((s.size : Nat) : Int) ∧ s.size ≤ 100000) = true := fun h => decide_eq_true ⟨Int.natCast_nonneg k, by omega, hs⟩
    have fin : ∀ (hlt : k < 8 * s.size) (v : Int), v = (fd r (bitV s k == 1) : Nat) →
        ∃ m', m' < 8 * s.size - k ∧ I m' ([.v (.int .i64 v), .v (.string s)] ++ List.replicate 3 .dead ++ .v (.int .i64 (k + 1 : Nat)) :: List.replicate 26 .dead) (hp [] []) := by
      intro hlt v hv
      obtain ⟨b, hb, hv2⟩ := bitV_get s k hlt
      refine ⟨8 * s.size - (k + 1), by omega, k + 1, _, by omega, rfl, by rw [hv]; rfl, ?_, rfl⟩
      rw [reg_next hb, ← hr, hv2]
      cases b <;> rfl
    refine Tr.of_code (knownB nro) (body _) (holds_bif (fun h8 => ?_) (fun h8 => ?_))
    · have h8 := of_decide_eq_true h8
      have hlt : k < 8 * s.size := by omega
      obtain ⟨b, hb, hv2⟩ := bitV_get s k hlt
      have hbv : (bitV s k == 1) = b := by rw [hv2]; cases b <;> rfl
      have hrf := fd_ref r hr16 b
      have hbn : b.toNat = if b then 1 else 0 := by cases b <;> rfl
      have hmod : r * 2 % 65536 < 65536 := Nat.mod_lt _ (by decide)
      have ne : ((((r / 32768 : Nat) : Int) != ((bitV s k : Nat) : Int)) = true) → ¬ r / 32768 = if b then 1 else 0 := fun h e => by
        rw [hv2, hbn, ← e] at h; simp at h
      have eq : ((((r / 32768 : Nat) : Int) != ((bitV s k : Nat) : Int)) = false) → r / 32768 = if b then 1 else 0 := fun h => by
        have : ((r / 32768 : Nat) : Int) = ((bitV s k : Nat) : Int) := by simpa using h
        rw [hv2, hbn] at this
        exact Int.ofNat_inj.1 this
      refine holds_bif (fun h2 => holds_bif (fun h3 => ?_) (fun h3 => ?_)) (fun h2 => holds_bif (fun h3 => ?_) (fun h3 => ?_))
      · have h2 := of_decide_eq_true h2
        refine ⟨cdb_iff.2 ⟨trivial, hc hlt⟩, fin hlt _ ?_⟩
        show bits .xor .i64 (IntKind.wrap .i64 (((r * 2 : Nat) : Int) - 65536)) 4129 = _
        rw [subI r hr16 h2, hbv, hrf, if_neg (ne h3)]
        exact i64_xor_small _ 4129 hmod (by decide)
      · have h2 := of_decide_eq_true h2
        refine ⟨cdb_iff.2 ⟨trivial, hc hlt⟩, fin hlt _ ?_⟩
        rw [subI r hr16 h2, hbv, hrf, if_pos (eq h3)]
      · have h2 := of_decide_eq_false h2
        have hm : r * 2 % 65536 = r * 2 := Nat.mod_eq_of_lt (by omega)
        refine ⟨cdb_iff.2 ⟨trivial, hc hlt⟩, fin hlt _ ?_⟩
        rw [hbv, hrf, if_neg (ne h3), hm]
        rw [hm] at hmod
        exact i64_xor_small _ 4129 hmod (by decide)
      · have h2 := of_decide_eq_false h2
        have hm : r * 2 % 65536 = r * 2 := Nat.mod_eq_of_lt (by omega)
        refine ⟨cdb_iff.2 ⟨trivial, hc hlt⟩, fin hlt _ ?_⟩
        rw [hbv, hrf, if_pos (eq h3), hm]
    · have h8 := of_decide_eq_false h8
      obtain rfl : k = 8 * s.size := by omega
      refine ⟨trivial, ?_⟩
      show Trl _ _ ((flatten (bodyOf 28)).drop 4) _ _ _
      refine Trl.of_code (knownB nro) (ne_nil (by kernel_rfl)) (m_post r _ s _) ⟨trivial, .inr rfl, trivial, ?_⟩
      have : bytL (w16 n) (bytsOf s) = r := by rw [hr, ← bits_txt, List.take_length, bytL_reg hw]
      show _ = AV.v (moreV n s)
      unfold moreV
      rw [this]
      rfl
  · have h := i64_and16 n
    show [AV.v (.int .i64 (bits .and .i64 n 65535)), .v (.string s)] ++ List.replicate 3 .dead ++ .v (.int .i64 0) :: List.replicate 26 .dead = _
    rw [h]; rfl
end Go.Proofs.Ytimocgjeikgilaa.AE
namespace Go.Proofs.Ytimocgjeikgilaa.AE
open Go.RowKit Cr
def tuA (at_ t : Int) (n cap : Nat) (k : Int) (i one j q : AV) : List AV := [.dead, .v (.int .i64 at_), .v (.int .u16 t)] ++ List.replicate 4 .dead ++ [.sl 0 0 n cap, .v (.int .i64 k), i, one, j] ++ List.replicate 22 .dead ++ [q] ++ List.replicate 25 .dead
def tuH (L : List AV) : AH := hp [(999999, L)] []
theorem tu_pre (s : ByteArray) (at_ t : Int) (R : Exit → List AV → AH → Prop) : codeL nro (fun _ => false) (fun _ => none) 5 ((flatten (bodyOf 14)).take 1) ([.v (.string s), .v (.int .i64 at_), .v (.int .u16 t)] ++ List.replicate 57 (.v undef)) (hp [] []) (kp [0, 1, 2] R) =
    (some (True ∧ (R Exit.normal [(AV.v (Value.string s)), (AV.v (Value.int IntKind.i64 at_)), (AV.v (Value.int IntKind.u16 t)), AV.dead, AV.dead, AV.dead, AV.dead, AV.dead, AV.dead, AV.dead, AV.dead, AV.dead, AV.dead, AV.dead, AV.dead, AV.dead, AV.dead, AV.dead, AV.dead, AV.dead, AV.dead, AV.dead, AV.dead, AV.dead, AV.dead, AV.dead, AV.dead, AV.dead, AV.dead, AV.dead, AV.dead, AV.dead, AV.dead, AV.dead, AV.dead, AV.dead, AV.dead, AV.dead, AV.dead, AV.dead, AV.dead, AV.dead, AV.dead, AV.dead, AV.dead, AV.dead, AV.dead, AV.dead, AV.dead, AV.dead, AV.dead, AV.dead, AV.dead, AV.dead, AV.dead, AV.dead, AV.dead, AV.dead, AV.dead, AV.dead] (AH.mk (@List.nil (Prod Go.TypeId (List AV))) (@List.nil Nat) (0 : Nat) (0 : Nat) true (@List.nil (Prod Nat Bool)) True)))) := by kernel_rfl
theorem tu_two (at_ t : Int) (n cap : Nat) (L : List AV) (R : Exit → List AV → AH → Prop) : codeL nro (fun _ => false) (fun _ => none) 5 (((flatten (bodyOf 14)).drop 2).take 1) ([.dead, .v (.int .i64 at_), .v (.int .u16 t)] ++ List.replicate 4 .dead ++ [.sl 0 0 n cap] ++ List.replicate 52 .dead) (tuH L) (kp [1, 2, 7, 8] R) =
    (some (True ∧ (R Exit.normal [AV.dead, (AV.v (Value.int IntKind.i64 at_)), (AV.v (Value.int IntKind.u16 t)), AV.dead, AV.dead, AV.dead, AV.dead, (AV.sl (0 : Nat) (0 : Nat) n cap), (AV.v (Value.int IntKind.i64 (0 : Int))), AV.dead, AV.dead, AV.dead, AV.dead, AV.dead, AV.dead, AV.dead, AV.dead, AV.dead, AV.dead, AV.dead, AV.dead, AV.dead, AV.dead, AV.dead, AV.dead, AV.dead, AV.dead, AV.dead, AV.dead, AV.dead, AV.dead, AV.dead, AV.dead, AV.dead, AV.dead, AV.dead, AV.dead, AV.dead, AV.dead, AV.dead, AV.dead, AV.dead, AV.dead, AV.dead, AV.dead, AV.dead, AV.dead, AV.dead, AV.dead, AV.dead, AV.dead, AV.dead, AV.dead, AV.dead, AV.dead, AV.dead, AV.dead, AV.dead, AV.dead, AV.dead] (AH.mk [((999999 : Nat), L)] (@List.nil Nat) (0 : Nat) (0 : Nat) true (@List.nil (Prod Nat Bool)) True)))) := by kernel_rfl
theorem tu_head (at_ t k : Int) (n cap : Nat) (L : List AV) (R : Exit → List AV → AH → Prop) : codeL nro (fun _ => false) (fun _ => none) 5 ((flatten (sub (bodyOf 14) [1, 1, 0, 1, 0, 0])).take 2) (tuA at_ t n cap k .dead .dead .dead .dead) (tuH L) (kp [1, 2, 7, 8] R) =
    (bif (decide (k < (16 : Int))) then (some (True ∧ (R Exit.normal [AV.dead, (AV.v (Value.int IntKind.i64 at_)), (AV.v (Value.int IntKind.u16 t)), AV.dead, AV.dead, AV.dead, AV.dead, (AV.sl (0 : Nat) (0 : Nat) n cap), (AV.v (Value.int IntKind.i64 k)), AV.dead, AV.dead, AV.dead, AV.dead, AV.dead, AV.dead, AV.dead, AV.dead, AV.dead, AV.dead, AV.dead, AV.dead, AV.dead, AV.dead, AV.dead, AV.dead, AV.dead, AV.dead, AV.dead, AV.dead, AV.dead, AV.dead, AV.dead, AV.dead, AV.dead, AV.dead, AV.dead, AV.dead, AV.dead, AV.dead, AV.dead, AV.dead, AV.dead, AV.dead, AV.dead, AV.dead, AV.dead, AV.dead, AV.dead, AV.dead, AV.dead, AV.dead, AV.dead, AV.dead, AV.dead, AV.dead, AV.dead, AV.dead, AV.dead, AV.dead, AV.dead] (AH.mk [((999999 : Nat), L)] (@List.nil Nat) (0 : Nat) (0 : Nat) true (@List.nil (Prod Nat Bool)) True)))) else (some (True ∧ (R (Exit.exit (0 : Nat)) [AV.dead, (AV.v (Value.int IntKind.i64 at_)), (AV.v (Value.int IntKind.u16 t)), AV.dead, AV.dead, AV.dead, AV.dead, (AV.sl (0 : Nat) (0 : Nat) n cap), (AV.v (Value.int IntKind.i64 k)), AV.dead, AV.dead, AV.dead, AV.dead, AV.dead, AV.dead, AV.dead, AV.dead, AV.dead, AV.dead, AV.dead, AV.dead, AV.dead, AV.dead, AV.dead, AV.dead, AV.dead, AV.dead, AV.dead, AV.dead, AV.dead, AV.dead, AV.dead, AV.dead, AV.dead, AV.dead, AV.dead, AV.dead, AV.dead, AV.dead, AV.dead, AV.dead, AV.dead, AV.dead, AV.dead, AV.dead, AV.dead, AV.dead, AV.dead, AV.dead, AV.dead, AV.dead, AV.dead, AV.dead, AV.dead, AV.dead, AV.dead, AV.dead, AV.dead, AV.dead, AV.dead] (AH.mk [((999999 : Nat), L)] (@List.nil Nat) (0 : Nat) (0 : Nat) true (@List.nil (Prod Nat Bool)) True))))) := by kernel_rfl
theorem tu_test (at_ t k : Int) (n cap : Nat) (L : List AV) (R : Exit → List AV → AH → Prop) : codeL nro (fun _ => false) (fun _ => none) 5 ((flatten (sub (bodyOf 14) [1, 1, 0, 1, 0, 0, 1, 0, 0])).take 2) (tuA at_ t n cap k .dead .dead .dead .dead) (tuH L) (kp [1, 2, 7, 8, 9, 34] R) =
    (bif ((IntKind.wrap IntKind.u16 (Int.tdiv t (32768 : Int))) == (1 : Int)) then (bif (decide ((0 : Int) ≤ (IntKind.wrap IntKind.i64 (at_ + k)))) then (some (True ∧ (R Exit.normal [AV.dead, (AV.v (Value.int IntKind.i64 at_)), (AV.v (Value.int IntKind.u16 t)), AV.dead, AV.dead, AV.dead, AV.dead, (AV.sl (0 : Nat) (0 : Nat) n cap), (AV.v (Value.int IntKind.i64 k)), (AV.v (Value.int IntKind.i64 (IntKind.wrap IntKind.i64 (at_ + k)))), AV.dead, AV.dead, AV.dead, AV.dead, AV.dead, AV.dead, AV.dead, AV.dead, AV.dead, AV.dead, AV.dead, AV.dead, AV.dead, AV.dead, AV.dead, AV.dead, AV.dead, AV.dead, AV.dead, AV.dead, AV.dead, AV.dead, AV.dead, AV.dead, (AV.v (Value.bool (decide ((IntKind.wrap IntKind.i64 (at_ + k)) < (IntKind.wrap IntKind.i64 ((8 : Int) * (n : Int))))))), AV.dead, AV.dead, AV.dead, AV.dead, AV.dead, AV.dead, AV.dead, AV.dead, AV.dead, AV.dead, AV.dead, AV.dead, AV.dead, AV.dead, AV.dead, AV.dead, AV.dead, AV.dead, AV.dead, AV.dead, AV.dead, AV.dead, AV.dead, AV.dead, AV.dead] (AH.mk [((999999 : Nat), L)] (@List.nil Nat) (0 : Nat) (0 : Nat) true (@List.nil (Prod Nat Bool)) True)))) else (some (True ∧ (R Exit.normal [AV.dead, (AV.v (Value.int IntKind.i64 at_)), (AV.v (Value.int IntKind.u16 t)), AV.dead, AV.dead, AV.dead, AV.dead, (AV.sl (0 : Nat) (0 : Nat) n cap), (AV.v (Value.int IntKind.i64 k)), (AV.v (Value.int IntKind.i64 (IntKind.wrap IntKind.i64 (at_ + k)))), AV.dead, AV.dead, AV.dead, AV.dead, AV.dead, AV.dead, AV.dead, AV.dead, AV.dead, AV.dead, AV.dead, AV.dead, AV.dead, AV.dead, AV.dead, AV.dead, AV.dead, AV.dead, AV.dead, AV.dead, AV.dead, AV.dead, AV.dead, AV.dead, (AV.v (Value.bool false)), AV.dead, AV.dead, AV.dead, AV.dead, AV.dead, AV.dead, AV.dead, AV.dead, AV.dead, AV.dead, AV.dead, AV.dead, AV.dead, AV.dead, AV.dead, AV.dead, AV.dead, AV.dead, AV.dead, AV.dead, AV.dead, AV.dead, AV.dead, AV.dead, AV.dead] (AH.mk [((999999 : Nat), L)] (@List.nil Nat) (0 : Nat) (0 : Nat) true (@List.nil (Prod Nat Bool)) True))))) else (some (True ∧ (R Exit.normal [AV.dead, (AV.v (Value.int IntKind.i64 at_)), (AV.v (Value.int IntKind.u16 t)), AV.dead, AV.dead, AV.dead, AV.dead, (AV.sl (0 : Nat) (0 : Nat) n cap), (AV.v (Value.int IntKind.i64 k)), (AV.v (Value.int IntKind.i64 (IntKind.wrap IntKind.i64 (at_ + k)))), AV.dead, AV.dead, AV.dead, AV.dead, AV.dead, AV.dead, AV.dead, AV.dead, AV.dead, AV.dead, AV.dead, AV.dead, AV.dead, AV.dead, AV.dead, AV.dead, AV.dead, AV.dead, AV.dead, AV.dead, AV.dead, AV.dead, AV.dead, AV.dead, (AV.v (Value.bool false)), AV.dead, AV.dead, AV.dead, AV.dead, AV.dead, AV.dead, AV.dead, AV.dead, AV.dead, AV.dead, AV.dead, AV.dead, AV.dead, AV.dead, AV.dead, AV.dead, AV.dead, AV.dead, AV.dead, AV.dead, AV.dead, AV.dead, AV.dead, AV.dead, AV.dead] (AH.mk [((999999 : Nat), L)] (@List.nil Nat) (0 : Nat) (0 : Nat) true (@List.nil (Prod Nat Bool)) True))))) := by kernel_rfl
theorem tu_set (at_ t k i : Int) (n cap : Nat) (L : List AV) (R : Exit → List AV → AH → Prop) : codeL nro (fun _ => false) (fun _ => none) 5 ((flatten (sub (bodyOf 14) [1, 1, 0, 1, 0, 0, 1, 0, 0, 1, 0, 1, 0])).take 2) (tuA at_ t n cap k (.v (.int .i64 i)) .dead .dead .dead) (tuH L) (kp [1, 2, 7, 8, 9, 10, 11] R) =
    (some (True ∧ (R Exit.normal [AV.dead, (AV.v (Value.int IntKind.i64 at_)), (AV.v (Value.int IntKind.u16 t)), AV.dead, AV.dead, AV.dead, AV.dead, (AV.sl (0 : Nat) (0 : Nat) n cap), (AV.v (Value.int IntKind.i64 k)), (AV.v (Value.int IntKind.i64 i)), (AV.v (Value.int IntKind.u8 (128 : Int))), (AV.v (Value.int IntKind.i64 (IntKind.wrap IntKind.i64 ((IntKind.wrap IntKind.i64 (Int.tdiv i (8 : Int))) * (8 : Int))))), AV.dead, AV.dead, AV.dead, AV.dead, AV.dead, AV.dead, AV.dead, AV.dead, AV.dead, AV.dead, AV.dead, AV.dead, AV.dead, AV.dead, AV.dead, AV.dead, AV.dead, AV.dead, AV.dead, AV.dead, AV.dead, AV.dead, AV.dead, AV.dead, AV.dead, AV.dead, AV.dead, AV.dead, AV.dead, AV.dead, AV.dead, AV.dead, AV.dead, AV.dead, AV.dead, AV.dead, AV.dead, AV.dead, AV.dead, AV.dead, AV.dead, AV.dead, AV.dead, AV.dead, AV.dead, AV.dead, AV.dead, AV.dead] (AH.mk [((999999 : Nat), L)] (@List.nil Nat) (0 : Nat) (0 : Nat) true (@List.nil (Prod Nat Bool)) True)))) := by kernel_rfl
theorem tu_in (at_ t k i o j : Int) (n cap : Nat) (L : List AV) (R : Exit → List AV → AH → Prop) : code nro (fun _ => false) (fun _ => none) 5 (sub (bodyOf 14) [1, 1, 0, 1, 0, 0, 1, 0, 0, 1, 0, 1, 0, 1, 0, 1, 0, 0]) (tuA at_ t n cap k (.v (.int .i64 i)) (.v (.int .u8 o)) (.v (.int .i64 j)) .dead) (tuH L) (kp [1, 2, 7, 8, 9, 10, 11] R) =
    (bif (decide (j < i)) then (some (True ∧ (R Exit.normal [AV.dead, (AV.v (Value.int IntKind.i64 at_)), (AV.v (Value.int IntKind.u16 t)), AV.dead, AV.dead, AV.dead, AV.dead, (AV.sl (0 : Nat) (0 : Nat) n cap), (AV.v (Value.int IntKind.i64 k)), (AV.v (Value.int IntKind.i64 i)), (AV.v (Value.int IntKind.u8 (IntKind.wrap IntKind.u8 (Int.tdiv o (2 : Int))))), (AV.v (Value.int IntKind.i64 (IntKind.wrap IntKind.i64 (j + (1 : Int))))), AV.dead, AV.dead, AV.dead, AV.dead, AV.dead, AV.dead, AV.dead, AV.dead, AV.dead, AV.dead, AV.dead, AV.dead, AV.dead, AV.dead, AV.dead, AV.dead, AV.dead, AV.dead, AV.dead, AV.dead, AV.dead, AV.dead, AV.dead, AV.dead, AV.dead, AV.dead, AV.dead, AV.dead, AV.dead, AV.dead, AV.dead, AV.dead, AV.dead, AV.dead, AV.dead, AV.dead, AV.dead, AV.dead, AV.dead, AV.dead, AV.dead, AV.dead, AV.dead, AV.dead, AV.dead, AV.dead, AV.dead, AV.dead] (AH.mk [((999999 : Nat), L)] (@List.nil Nat) (0 : Nat) (0 : Nat) true (@List.nil (Prod Nat Bool)) True)))) else (some (True ∧ (R (Exit.exit (2 : Nat)) [AV.dead, (AV.v (Value.int IntKind.i64 at_)), (AV.v (Value.int IntKind.u16 t)), AV.dead, AV.dead, AV.dead, AV.dead, (AV.sl (0 : Nat) (0 : Nat) n cap), (AV.v (Value.int IntKind.i64 k)), (AV.v (Value.int IntKind.i64 i)), (AV.v (Value.int IntKind.u8 o)), (AV.v (Value.int IntKind.i64 j)), AV.dead, AV.dead, AV.dead, AV.dead, AV.dead, AV.dead, AV.dead, AV.dead, AV.dead, AV.dead, AV.dead, AV.dead, AV.dead, AV.dead, AV.dead, AV.dead, AV.dead, AV.dead, AV.dead, AV.dead, AV.dead, AV.dead, AV.dead, AV.dead, AV.dead, AV.dead, AV.dead, AV.dead, AV.dead, AV.dead, AV.dead, AV.dead, AV.dead, AV.dead, AV.dead, AV.dead, AV.dead, AV.dead, AV.dead, AV.dead, AV.dead, AV.dead, AV.dead, AV.dead, AV.dead, AV.dead, AV.dead, AV.dead] (AH.mk [((999999 : Nat), L)] (@List.nil Nat) (0 : Nat) (0 : Nat) true (@List.nil (Prod Nat Bool)) True))))) := by kernel_rfl
theorem tu_put (at_ t k i o : Int) (n cap : Nat) (L : List AV) (R : Exit → List AV → AH → Prop) : codeL nro (fun _ => false) (fun _ => none) 5 ((flatten (sub (bodyOf 14) [1, 1, 0, 1, 0, 0, 1, 0, 0, 1, 0, 1, 0])).drop 3) (tuA at_ t n cap k (.v (.int .i64 i)) (.v (.int .u8 o)) .dead .dead) (tuH L) (kp [1, 2, 7, 8] R) =
    some (cdb (cdb (cds (cdb True (decide (0 ≤ IntKind.wrap .i64 (Int.tdiv i 8) ∧ IntKind.wrap .i64 (Int.tdiv i 8) < (n : Int)))) (shapes Try.prog ((L.drop (0 + (IntKind.wrap .i64 (Int.tdiv i 8)).toNat * 1)).take 1) [5]) ((L.drop (0 + (IntKind.wrap .i64 (Int.tdiv i 8)).toNat * 1)).take 1 = [.v (.int .u8 (exInt (L.getD (0 + (IntKind.wrap .i64 (Int.tdiv i 8)).toNat * 1 + 0) .dead)))])) (decide (0 ≤ IntKind.wrap .i64 (Int.tdiv i 8) ∧ IntKind.wrap .i64 (Int.tdiv i 8) < (n : Int)))) (decide (0 + (IntKind.wrap .i64 (Int.tdiv i 8)).toNat * 1 + 1 ≤ L.length)) ∧
      R .normal (tuA at_ t n cap k .dead .dead .dead .dead) (tuH (splice L (0 + (IntKind.wrap .i64 (Int.tdiv i 8)).toNat * 1) [.v (.int .u8 (bits .xor .u8 (exInt (L.getD (0 + (IntKind.wrap .i64 (Int.tdiv i 8)).toNat * 1 + 0) .dead)) o))]))) := by kernel_rfl
theorem tu_dbl (at_ t k : Int) (n cap : Nat) (L : List AV) (R : Exit → List AV → AH → Prop) : codeL nro (fun _ => false) (fun _ => none) 5 ((flatten (sub (bodyOf 14) [1, 1, 0, 1, 0, 0, 1, 0, 0])).drop 3) (tuA at_ t n cap k .dead .dead .dead .dead) (tuH L) (kp [1, 2, 7, 8] R) =
    (some (True ∧ (R Exit.normal [AV.dead, (AV.v (Value.int IntKind.i64 at_)), (AV.v (Value.int IntKind.u16 (IntKind.wrap IntKind.u16 (t * (2 : Int))))), AV.dead, AV.dead, AV.dead, AV.dead, (AV.sl (0 : Nat) (0 : Nat) n cap), (AV.v (Value.int IntKind.i64 k)), AV.dead, AV.dead, AV.dead, AV.dead, AV.dead, AV.dead, AV.dead, AV.dead, AV.dead, AV.dead, AV.dead, AV.dead, AV.dead, AV.dead, AV.dead, AV.dead, AV.dead, AV.dead, AV.dead, AV.dead, AV.dead, AV.dead, AV.dead, AV.dead, AV.dead, AV.dead, AV.dead, AV.dead, AV.dead, AV.dead, AV.dead, AV.dead, AV.dead, AV.dead, AV.dead, AV.dead, AV.dead, AV.dead, AV.dead, AV.dead, AV.dead, AV.dead, AV.dead, AV.dead, AV.dead, AV.dead, AV.dead, AV.dead, AV.dead, AV.dead, AV.dead] (AH.mk [((999999 : Nat), L)] (@List.nil Nat) (0 : Nat) (0 : Nat) true (@List.nil (Prod Nat Bool)) True)))) := by kernel_rfl
theorem tu_next (at_ t k : Int) (n cap : Nat) (L : List AV) (R : Exit → List AV → AH → Prop) : codeL nro (fun _ => false) (fun _ => none) 5 ((flatten (sub (bodyOf 14) [1, 1, 0, 1, 0, 0])).drop 3) (tuA at_ t n cap k .dead .dead .dead .dead) (tuH L) (kp [1, 2, 7, 8] R) =
    (some (True ∧ (R Exit.normal [AV.dead, (AV.v (Value.int IntKind.i64 at_)), (AV.v (Value.int IntKind.u16 t)), AV.dead, AV.dead, AV.dead, AV.dead, (AV.sl (0 : Nat) (0 : Nat) n cap), (AV.v (Value.int IntKind.i64 (IntKind.wrap IntKind.i64 (k + (1 : Int))))), AV.dead, AV.dead, AV.dead, AV.dead, AV.dead, AV.dead, AV.dead, AV.dead, AV.dead, AV.dead, AV.dead, AV.dead, AV.dead, AV.dead, AV.dead, AV.dead, AV.dead, AV.dead, AV.dead, AV.dead, AV.dead, AV.dead, AV.dead, AV.dead, AV.dead, AV.dead, AV.dead, AV.dead, AV.dead, AV.dead, AV.dead, AV.dead, AV.dead, AV.dead, AV.dead, AV.dead, AV.dead, AV.dead, AV.dead, AV.dead, AV.dead, AV.dead, AV.dead, AV.dead, AV.dead, AV.dead, AV.dead, AV.dead, AV.dead, AV.dead, AV.dead] (AH.mk [((999999 : Nat), L)] (@List.nil Nat) (0 : Nat) (0 : Nat) true (@List.nil (Prod Nat Bool)) True)))) := by kernel_rfl
theorem tu_post (at_ t k : Int) (n cap : Nat) (L : List AV) (R : Exit → List AV → AH → Prop) : codeL nro (fun _ => false) (fun _ => none) 5 ((flatten (bodyOf 14)).drop 4) (tuA at_ t n cap k .dead .dead .dead .dead) (tuH L) (kp [6] R) =
    (some ((cds (cdb True (decide ((((0 : Nat) + (n * (1 : Nat))) ≤ (List.length L)) ∧ (((List.all (List.take (n * (1 : Nat)) L) (fun (x : AV) => (pur.match_1 (fun (x : AV) => Bool) x (fun (x : Go.Value) => true) (fun (x : AV) => false)))) = true) ∧ ((List.all (List.take (n * (1 : Nat)) L) (fun (x : AV) => (one.match_1 (fun (x : AV) => Bool) x (fun (u : Go.Value) => (Value.oneCell'.match_1 (fun (x : Go.Value) => Bool) u (fun (x : (Array Go.Value)) => false) (fun (x : (Array Go.Value)) => false) (fun (x : Go.Value) => true))) (fun (x : (List AV)) => false) (fun (x : (List AV)) => false) (fun (_ : Unit) => false) (fun (x : AV) => true)))) = true))))) (@Option.isSome.match_1 (List Int) (fun (x : (Option (List Int))) => Bool) (bytesOf? (if ((1 : Nat) = (1 : Nat)) then (List.take n L) else (chunksN (1 : Nat) n L))) (fun (x : (List Int)) => true) (fun (_ : Unit) => false)) ((bytesOf? (if ((1 : Nat) = (1 : Nat)) then (List.take n L) else (chunksN (1 : Nat) n L))) = (some (List.map exInt (if ((1 : Nat) = (1 : Nat)) then (List.take n L) else (chunksN (1 : Nat) n L)))))) ∧ (R Exit.ret [AV.dead, AV.dead, AV.dead, AV.dead, AV.dead, AV.dead, (AV.v (Value.string (ByteArray.mk (Array.mk (List.map (fun (n : Int) => (UInt8.ofNat (Int.toNat n))) (List.map exInt (if ((1 : Nat) = (1 : Nat)) then (List.take n L) else (chunksN (1 : Nat) n L)))))))), AV.dead, AV.dead, AV.dead, AV.dead, AV.dead, AV.dead, AV.dead, AV.dead, AV.dead, AV.dead, AV.dead, AV.dead, AV.dead, AV.dead, AV.dead, AV.dead, AV.dead, AV.dead, AV.dead, AV.dead, AV.dead, AV.dead, AV.dead, AV.dead, AV.dead, AV.dead, AV.dead, AV.dead, AV.dead, AV.dead, AV.dead, AV.dead, AV.dead, AV.dead, AV.dead, AV.dead, AV.dead, AV.dead, AV.dead, AV.dead, AV.dead, AV.dead, AV.dead, AV.dead, AV.dead, AV.dead, AV.dead, AV.dead, AV.dead, AV.dead, AV.dead, AV.dead, AV.dead] (AH.mk [((999999 : Nat), L)] (@List.nil Nat) (0 : Nat) (0 : Nat) true (@List.nil (Prod Nat Bool)) True)))) := by kernel_rfl
end Go.Proofs.Ytimocgjeikgilaa.AE
namespace Go.Proofs.Ytimocgjeikgilaa
namespace Cr
/-- A bit further: the first and the last one that are unlike. -/
def apStep (p : Int × Int) (k : Nat) (d : Bool) : Int × Int := if d then (if p.1 < 0 then (k : Int) else p.1, (k : Int)) else p
def apS (D : List Bool) : Nat → Int × Int
  | 0 => (-1, -2)
  | k + 1 => apStep (apS D k) k (D.getD k false)
def fT : List Bool → Nat
  | [] => 0
  | d :: l => if d then 0 else fT l + 1
def lT : List Bool → Nat
  | [] => 0
  | _ :: l => if l.any id then lT l + 1 else 0
def runL (p : Int × Int) (base : Nat) : List Bool → Int × Int
  | [] => p
  | d :: l => runL (apStep p base d) (base + 1) l
theorem runL_eq : ∀ (l : List Bool) (p : Int × Int) (base : Nat), runL p base l = if l.any id then (if p.1 < 0 then ((base + fT l : Nat) : Int) else p.1, ((base + lT l : Nat) : Int)) else p
  | [], p, base => rfl
  | d :: l, p, base => by
    show runL (apStep p base d) (base + 1) l = _
    rw [runL_eq l]
    cases d with
    | false =>
      have e : apStep p base false = p := rfl
      have e2 : (false :: l).any id = l.any id := by simp
      rw [e, e2]
      cases h : l.any id with
      | false => rfl
      | true =>
        have e3 : fT (false :: l) = fT l + 1 := rfl
        have e4 : lT (false :: l) = lT l + 1 := by show (if l.any id then _ else _) = _; rw [h]; rfl
        rw [e3, e4]
        simp only [if_true]
        have a1 : base + 1 + fT l = base + (fT l + 1) := by omega
        have a2 : base + 1 + lT l = base + (lT l + 1) := by omega
        rw [a1, a2]
    | true =>
      have e : apStep p base true = (if p.1 < 0 then (base : Int) else p.1, (base : Int)) := rfl
      have e2 : (true :: l).any id = true := by simp
      have e3 : fT (true :: l) = 0 := rfl
      rw [e, e2, e3]
      have hn : ¬ (if p.1 < 0 then (base : Int) else p.1) < 0 := by split <;> omega
      cases h : l.any id with
      | false =>
        have e4 : lT (true :: l) = 0 := by show (if l.any id then _ else _) = _; rw [h]; rfl
        rw [e4]; rfl
      | true =>
        have e4 : lT (true :: l) = lT l + 1 := by show (if l.any id then _ else _) = _; rw [h]; rfl
        rw [e4]
        simp only [if_true, if_neg hn]
        have a2 : base + 1 + lT l = base + (lT l + 1) := by omega
        rw [a2]; rfl
theorem runL_apS (D : List Bool) (l : List Bool) (k : Nat) (h : ∀ i, i < l.length → D.getD (k + i) false = l.getD i false) : runL (apS D k) k l = apS D (k + l.length) := by
  induction l generalizing k with
  | nil => rfl
  | cons d l ih =>
    have h0 : D.getD k false = d := by have := h 0 (by simp); simpa using this
    show runL (apStep (apS D k) k d) (k + 1) l = _
    have e : apStep (apS D k) k d = apS D (k + 1) := by show _ = apStep (apS D k) k (D.getD k false); rw [h0]
    rw [e, ih (k + 1) (fun i hi => by
      have := h (i + 1) (by simp; omega)
      rw [show k + 1 + i = k + (i + 1) by omega, this]; simp)]
    rw [List.length_cons]; congr 1; omega
def lzV (u : Nat) : Nat := if u = 0 then 8 else fT (bitsB u)
def tzV (u : Nat) : Nat := if u = 0 then 8 else 7 - lT (bitsB u)
theorem byte_any : ∀ u, u < 256 → (bitsB u).any id = !decide (u = 0) := by decide +kernel
theorem byte_lt : ∀ u, u < 256 → lT (bitsB u) ≤ 7 := by decide +kernel
theorem ap_byte (D : List Bool) (j u : Nat) (hu : u < 256) (h : ∀ i, i < 8 → D.getD (8 * j + i) false = bitN u i) :
    apS D (8 * (j + 1)) = if u = 0 then apS D (8 * j) else (if (apS D (8 * j)).1 < 0 then ((8 * j + lzV u : Nat) : Int) else (apS D (8 * j)).1, ((8 * j + 7 - tzV u : Nat) : Int)) := by
  have hr := runL_apS D (bitsB u) (8 * j) (fun i hi => by
    have hi : i < 8 := hi
    rw [h i hi]
    have : i = 0 ∨ i = 1 ∨ i = 2 ∨ i = 3 ∨ i = 4 ∨ i = 5 ∨ i = 6 ∨ i = 7 := by omega
    rcases this with h | h | h | h | h | h | h | h <;> subst h <;> rfl)
  rw [show 8 * j + (bitsB u).length = 8 * (j + 1) from rfl, runL_eq, byte_any u hu] at hr
  rw [← hr]
  have hl := byte_lt u hu
  unfold lzV tzV
  by_cases h0 : u = 0
  · simp [h0]
  · simp only [h0, decide_false, Bool.not_false, if_true, if_false]
    have a2 : 8 * j + lT (bitsB u) = 8 * j + 7 - (7 - lT (bitsB u)) := by omega
    rw [a2]
/-- The first one is below zero as long as there is none; else the last one is not below it. -/
theorem ap_rng (D : List Bool) : ∀ k, ((apS D k).1 = -1 ∧ (apS D k).2 = -2) ∨ (0 ≤ (apS D k).1 ∧ (apS D k).1 ≤ (apS D k).2 ∧ (apS D k).2 < k)
  | 0 => .inl ⟨rfl, rfl⟩
  | k + 1 => by
    have ih := ap_rng D k
    show ((apStep (apS D k) k (D.getD k false)).1 = _ ∧ (apStep (apS D k) k (D.getD k false)).2 = _) ∨ (0 ≤ (apStep (apS D k) k (D.getD k false)).1 ∧ (apStep (apS D k) k (D.getD k false)).1 ≤ (apStep (apS D k) k (D.getD k false)).2 ∧ (apStep (apS D k) k (D.getD k false)).2 < ((k + 1 : Nat) : Int))
    unfold apStep
    generalize apS D k = p at ih
    cases D.getD k false with
    | false => simp only [Bool.false_eq_true, if_false]; rcases ih with ih | ih
               · exact .inl ih
               · exact .inr ⟨ih.1, ih.2.1, by omega⟩
    | true =>
      simp only [if_true]
      refine .inr ?_
      split <;> (refine ⟨?_, ?_, ?_⟩ <;> omega)
def unl (l m : List Bool) : List Bool := List.zipWith (· != ·) l m
theorem unl_get (l m : List Bool) (i : Nat) (hl : i < l.length) (hm : i < m.length) : (unl l m).getD i false = (l.getD i false != m.getD i false) := by
  unfold unl
  rw [List.getD_eq_getElem?_getD, List.getD_eq_getElem?_getD, List.getD_eq_getElem?_getD, List.getElem?_zipWith, List.getElem?_eq_getElem hl, List.getElem?_eq_getElem hm]
  rfl
theorem xor_bit : ∀ i, i < 8 → ∀ a, a < 256 → ∀ b, b < 256 → bitN (a ^^^ b) i = (bitN a i != bitN b i) := by
  intro i hi a ha b hb
  have h : ∀ x, bitN x i = x.testBit (7 - i) := by
    intro x
    unfold bitN
    rw [Nat.testBit_eq_decide_div_mod_eq]
  rw [h, h, h, Nat.testBit_xor]
end Cr
end Go.Proofs.Ytimocgjeikgilaa
namespace Go.Proofs.Ytimocgjeikgilaa
namespace Cr
def flipB (l : List UInt8) (i : Nat) : List UInt8 := l.set (i / 8) (l.getD (i / 8) 0 ^^^ UInt8.ofNat (128 / 2 ^ (i % 8)))
def tw (t k : Nat) : Nat := t * 2 ^ k % 65536
def tb (t k : Nat) : Bool := decide (tw t k / 32768 = 1)
def turnL (l : List UInt8) (a t : Nat) : Nat → List UInt8
  | 0 => l
  | k + 1 => if tb t k = true ∧ a + k < 8 * l.length then flipB (turnL l a t k) (a + k) else turnL l a t k
theorem flipB_len (l : List UInt8) (i : Nat) : (flipB l i).length = l.length := List.length_set
theorem turnL_len (l : List UInt8) (a t k : Nat) : (turnL l a t k).length = l.length := by
  induction k with
  | zero => rfl
  | succ k ih =>
    show (if _ then _ else _ : List UInt8).length = _
    split
    · rw [flipB_len, ih]
    · exact ih
theorem tw_next (t k : Nat) : tw t k * 2 % 65536 = tw t (k + 1) := by
  unfold tw
  rw [Nat.pow_succ, ← Nat.mul_assoc]
  omega
theorem tw_lt (t k : Nat) : tw t k < 65536 := Nat.mod_lt _ (by decide)
theorem flip_bit : ∀ i, i < 8 → ∀ j, j < 8 → ∀ b, b < 256 → bitN (b ^^^ (128 / 2 ^ i)) j = (bitN b j != decide (j = i)) := by
  intro i hi j hj b hb
  have h : bitN (128 / 2 ^ i) j = decide (j = i) := by
    revert i j
    decide +kernel
  have h128 : 128 / 2 ^ i < 256 := Nat.lt_of_le_of_lt (Nat.div_le_self _ _) (by decide)
  rw [xor_bit j hj b hb _ h128, h]
theorem bits_getD (l : List UInt8) (i : Nat) (h : i < 8 * l.length) : (bitsL l).getD i false = bitN (l.getD (i / 8) 0).toNat (i % 8) := by
  induction l generalizing i with
  | nil => simp at h
  | cons b l ih =>
    have h8 : (bitsB b.toNat).length = 8 := rfl
    show (bitsB b.toNat ++ bitsL l).getD i false = _
    rw [List.getD_eq_getElem?_getD]
    by_cases hi : i < 8
    · rw [List.getElem?_append_left (by rw [h8]; exact hi), Nat.div_eq_of_lt hi, Nat.mod_eq_of_lt hi]
      have : i = 0 ∨ i = 1 ∨ i = 2 ∨ i = 3 ∨ i = 4 ∨ i = 5 ∨ i = 6 ∨ i = 7 := by omega
      rcases this with h | h | h | h | h | h | h | h <;> subst h <;> rfl
    · rw [List.getElem?_append_right (by rw [h8]; omega), h8, ← List.getD_eq_getElem?_getD, ih (i - 8) (by simp at h; omega)]
      have e1 : i / 8 = (i - 8) / 8 + 1 := by omega
      have e2 : (i - 8) % 8 = i % 8 := by omega
      rw [e1, e2]
      rfl
theorem bitsL_len (l : List UInt8) : (bitsL l).length = 8 * l.length := by
  induction l with
  | nil => rfl
  | cons b l ih =>
    show (bitsB b.toNat ++ bitsL l).length = _
    rw [List.length_append, ih, List.length_cons]
    show 8 + 8 * l.length = _
    omega
theorem flipB_bit (l : List UInt8) (i j : Nat) (hi : i < 8 * l.length) (hj : j < 8 * l.length) : (bitsL (flipB l i)).getD j false = ((bitsL l).getD j false != decide (j = i)) := by
  rw [bits_getD _ j (by rw [flipB_len]; exact hj), bits_getD l j hj]
  unfold flipB
  by_cases e : i / 8 = j / 8
  · have hk : j / 8 < l.length := by omega
    rw [e, List.getD_eq_getElem?_getD, List.getElem?_set_self hk, Option.getD_some, UInt8.toNat_xor, UInt8.toNat_ofNat_of_lt' (by show 128 / 2 ^ (i % 8) < 256; exact Nat.lt_of_le_of_lt (Nat.div_le_self _ _) (by decide))]
    rw [flip_bit (i % 8) (by omega) (j % 8) (by omega) _ (UInt8.toNat_lt _)]
    congr 1
    apply decide_eq_decide.2
    omega
  · have hne : ¬ j = i := by rintro rfl; exact e rfl
    rw [List.getD_eq_getElem?_getD, List.getElem?_set_ne e, ← List.getD_eq_getElem?_getD, decide_eq_false hne]
    simp
theorem turnL_bit (l : List UInt8) (a t : Nat) (j : Nat) (hj : j < 8 * l.length) : ∀ k, (bitsL (turnL l a t k)).getD j false = ((bitsL l).getD j false != decide (a ≤ j ∧ j < a + k ∧ tb t (j - a) = true))
  | 0 => by
    have : decide (a ≤ j ∧ j < a + 0 ∧ tb t (j - a) = true) = false := decide_eq_false (by omega)
    rw [this]
    simp [turnL]
  | k + 1 => by
    have ih := turnL_bit l a t j hj k
    have hl := turnL_len l a t k
    show (bitsL (if _ then _ else _ : List UInt8)).getD j false = _
    by_cases hc : tb t k = true ∧ a + k < 8 * l.length
    · rw [if_pos hc, flipB_bit _ _ _ (by rw [hl]; exact hc.2) (by rw [hl]; exact hj), ih]
      by_cases e : j = a + k
      · have h1 : decide (a ≤ j ∧ j < a + k ∧ tb t (j - a) = true) = false := decide_eq_false (by omega)
        have h2 : decide (a ≤ j ∧ j < a + (k + 1) ∧ tb t (j - a) = true) = true := decide_eq_true ⟨by omega, by omega, by rw [show j - a = k by omega]; exact hc.1⟩
        rw [h1, h2, decide_eq_true e]
        simp
      · have h2 : decide (a ≤ j ∧ j < a + (k + 1) ∧ tb t (j - a) = true) = decide (a ≤ j ∧ j < a + k ∧ tb t (j - a) = true) := decide_eq_decide.2 (by
          constructor <;> (rintro ⟨x, y, z⟩; exact ⟨x, by omega, z⟩))
        rw [h2, decide_eq_false e]
        simp
    · rw [if_neg hc, ih]
      congr 1
      apply decide_eq_decide.2
      constructor
      · rintro ⟨x, y, z⟩; exact ⟨x, by omega, z⟩
      · rintro ⟨x, y, z⟩
        refine ⟨x, ?_, z⟩
        by_cases e : j = a + k
        · exact absurd ⟨by rw [show k = j - a by omega]; exact z, by omega⟩ hc
        · omega
end Cr
end Go.Proofs.Ytimocgjeikgilaa
namespace Go.Proofs.Ytimocgjeikgilaa.AE
open Go.RowKit Cr
def nthOp (c : Code) (i : Nat) : Oper := match c with
  | .region _ os _ => os.toList.getD i default
  | _ => default
theorem sl_tu : slotsOf 14 = 60 := by kernel_rfl
theorem re_tu : resultsOf 14 = [.tmp 6] := by kernel_rfl
theorem fl_tu1 : (flatten (bodyOf 14)).drop 1 = sub (bodyOf 14) [1, 0] :: (flatten (bodyOf 14)).drop 2 := by kernel_rfl
theorem fl_tu2 : ((flatten (bodyOf 14)).drop 2).drop 1 = .block 0 (.loop (sub (bodyOf 14) [1, 1, 0, 1, 0, 0])) :: (flatten (bodyOf 14)).drop 4 := by kernel_rfl
theorem fl_tu3 : (flatten (sub (bodyOf 14) [1, 1, 0, 1, 0, 0])).drop 2 = .block 1 (sub (bodyOf 14) [1, 1, 0, 1, 0, 0, 1, 0, 0]) :: (flatten (sub (bodyOf 14) [1, 1, 0, 1, 0, 0])).drop 3 := by kernel_rfl
theorem fl_tu4 : (flatten (sub (bodyOf 14) [1, 1, 0, 1, 0, 0, 1, 0, 0])).drop 2 = .cond (.tmp 34) (sub (bodyOf 14) [1, 1, 0, 1, 0, 0, 1, 0, 0, 1, 0, 1, 0]) .skip :: (flatten (sub (bodyOf 14) [1, 1, 0, 1, 0, 0, 1, 0, 0])).drop 3 := by kernel_rfl
theorem fl_tu5 : (flatten (sub (bodyOf 14) [1, 1, 0, 1, 0, 0, 1, 0, 0, 1, 0, 1, 0])).drop 2 = .block 2 (.loop (sub (bodyOf 14) [1, 1, 0, 1, 0, 0, 1, 0, 0, 1, 0, 1, 0, 1, 0, 1, 0, 0])) :: (flatten (sub (bodyOf 14) [1, 1, 0, 1, 0, 0, 1, 0, 0, 1, 0, 1, 0])).drop 3 := by kernel_rfl
theorem cv_tu : conv3 (sub (bodyOf 14) [1, 0]) 9 39 0 12 13 7 :=
  ⟨1, nthOp (sub (bodyOf 14) [1, 0]) 0, nthOp (sub (bodyOf 14) [1, 0]) 1, nthOp (sub (bodyOf 14) [1, 0]) 2, by kernel_rfl, ⟨by kernel_rfl, by kernel_rfl, by kernel_rfl⟩, ⟨by kernel_rfl, by kernel_rfl, by kernel_rfl⟩, by kernel_rfl, by kernel_rfl, by kernel_rfl⟩
def bA (b : UInt8) : AV := .v (.int .u8 b.toNat)
def rowL (l : List UInt8) (z : Nat) : List AV := l.map bA ++ List.replicate z (.v (.int .u8 0))
theorem rowA_eq (s : ByteArray) (cap : Nat) : rowA s cap = rowL (bytsOf s) (cap - s.size) := by
  unfold rowA bytesRow rowL bytsOf
  rw [Array.toList_append, List.map_append, Array.toList_map, List.map_map, Array.toList_replicate, List.map_replicate]
  rfl
theorem rowL_len (l : List UInt8) (z : Nat) : (rowL l z).length = l.length + z := by unfold rowL; rw [List.length_append, List.length_map, List.length_replicate]
theorem rowL_get (l : List UInt8) (z i : Nat) (h : i < l.length) : (rowL l z)[i]? = some (bA (l.getD i 0)) := by
  unfold rowL
  rw [List.getElem?_append_left (by rw [List.length_map]; exact h), List.getElem?_map, List.getElem?_eq_getElem h, List.getD_eq_getElem?_getD, List.getElem?_eq_getElem h]
  rfl
theorem rowL_take1 (l : List UInt8) (z i : Nat) (h : i < l.length) : ((rowL l z).drop i).take 1 = [bA (l.getD i 0)] := by
  have hl : i < (rowL l z).length := by rw [rowL_len]; omega
  have hg := rowL_get l z i h
  rw [List.getElem?_eq_getElem hl, Option.some.injEq] at hg
  rw [List.drop_eq_getElem_cons hl, hg]
  rfl
theorem rowL_set (l : List UInt8) (z i : Nat) (h : i < l.length) (x : UInt8) : splice (rowL l z) i [bA x] = rowL (l.set i x) z := by
  have hl : i < (rowL l z).length := by rw [rowL_len]; omega
  have e : splice (rowL l z) i [bA x] = (rowL l z).set i (bA x) := by
    unfold splice
    rw [List.set_eq_take_append_cons_drop, if_pos hl]
    simp
  rw [e]
  unfold rowL
  rw [List.set_append_left _ _ (by rw [List.length_map]; exact h), List.map_set]
theorem rowL_take (l : List UInt8) (z n : Nat) (h : n = l.length) : (rowL l z).take n = l.map bA := by
  unfold rowL
  rw [h]
  exact List.take_left' (by rw [List.length_map])
theorem bytes_bA (l : List UInt8) : bytesOf? (l.map bA) = some ((l.map bA).map exInt) := by
  induction l with
  | nil => rfl
  | cons b l ih =>
    show (match byteOf? (bA b) with | some n => (match bytesOf? (l.map bA) with | some r => some (n :: r) | none => none) | none => none) = _
    rw [ih]
    rfl
theorem back_bA (l : List UInt8) : ((l.map bA).map exInt).map (fun n => UInt8.ofNat n.toNat) = l := by
  rw [List.map_map, List.map_map]
  conv => rhs; rw [← List.map_id l]
  apply List.map_congr_left
  intro b _
  show UInt8.ofNat ((b.toNat : Nat) : Int).toNat = b
  rw [Int.toNat_natCast]
  exact UInt8.ofNat_toNat
def turnS (s : ByteArray) (a t : Nat) : ByteArray := ⟨(turnL (bytsOf s) a t 16).toArray⟩
theorem all_bA (l : List UInt8) (f : AV → Bool) (h : ∀ b, f (bA b) = true) : (l.map bA).all f = true := by
  rw [List.all_map, List.all_eq_true]
  exact fun b _ => h b
theorem half_next (j i : Nat) (h : j < i) : IntKind.wrap .u8 (Int.tdiv ((128 / 2 ^ (j - i / 8 * 8) : Nat) : Int) 2) = ((128 / 2 ^ (j + 1 - i / 8 * 8) : Nat) : Int) ∨ j < i / 8 * 8 := by
  by_cases hj : j < i / 8 * 8
  · exact .inr hj
  · left
    rw [show j + 1 - i / 8 * 8 = (j - i / 8 * 8) + 1 by omega, Nat.pow_succ, ← Nat.div_div_eq_div_mul]
    have h128 : 128 / 2 ^ (j - i / 8 * 8) ≤ 128 := Nat.div_le_self _ _
    generalize 128 / 2 ^ (j - i / 8 * 8) = q at *
    rw [show Int.tdiv ((q : Nat) : Int) 2 = ((q / 2 : Nat) : Int) from rfl, IntKind.wrap_u8]
    omega
theorem div8 (i : Nat) (h : i ≤ 1000000) : IntKind.wrap .i64 (Int.tdiv (i : Int) 8) = ((i / 8 : Nat) : Int) := by
  rw [show Int.tdiv (i : Int) 8 = ((i / 8 : Nat) : Int) from rfl, IntKind.wrap_i64]; omega
theorem div8m (i : Nat) (h : i ≤ 1000000) : IntKind.wrap .i64 (((i / 8 : Nat) : Int) * 8) = ((i / 8 * 8 : Nat) : Int) := by
  rw [IntKind.wrap_i64]; omega
theorem t_div (t : Nat) (h : t < 65536) : IntKind.wrap .u16 (Int.tdiv (t : Int) 32768) = ((t / 32768 : Nat) : Int) := by
  rw [show Int.tdiv (t : Int) 32768 = ((t / 32768 : Nat) : Int) from rfl, IntKind.wrap_u16]; omega
theorem t_dbl (t : Nat) : IntKind.wrap .u16 ((t : Int) * 2) = ((t * 2 % 65536 : Nat) : Int) := by rw [IntKind.wrap_u16]; omega
theorem add_at (a k : Nat) (h : a ≤ 100000) (hk : k ≤ 16) : IntKind.wrap .i64 ((a : Int) + (k : Int)) = ((a + k : Nat) : Int) := by rw [IntKind.wrap_i64]; omega
theorem mul8 (n : Nat) (h : n ≤ 100000) : IntKind.wrap .i64 (8 * (n : Int)) = ((8 * n : Nat) : Int) := by rw [IntKind.wrap_i64]; omega
/-- A bit is turned in the row. -/
theorem put_bit (l : List UInt8) (z i : Nat) (h : i < 8 * l.length) : splice (rowL l z) (i / 8) [.v (.int .u8 (bits .xor .u8 (exInt ((rowL l z).getD (i / 8) .dead)) ((128 / 2 ^ (i % 8) : Nat) : Int)))] = rowL (flipB l i) z := by
  have hk : i / 8 < l.length := by omega
  have h128 : 128 / 2 ^ (i % 8) < 256 := Nat.lt_of_le_of_lt (Nat.div_le_self _ _) (by decide)
  have e1 : exInt ((rowL l z).getD (i / 8) .dead) = (((l.getD (i / 8) 0).toNat : Nat) : Int) := by
    rw [List.getD_eq_getElem?_getD, rowL_get l z _ hk]; rfl
  have e2 : bits .xor .u8 (((l.getD (i / 8) 0).toNat : Nat) : Int) ((128 / 2 ^ (i % 8) : Nat) : Int) = (((l.getD (i / 8) 0 ^^^ UInt8.ofNat (128 / 2 ^ (i % 8))).toNat : Nat) : Int) := by
    rw [UInt8.toNat_xor, UInt8.toNat_ofNat_of_lt' (by show 128 / 2 ^ (i % 8) < 256; exact h128)]
    exact u8_xor_nat _ _ (UInt8.toNat_lt _) h128
  rw [e1, e2]
  exact rowL_set l z (i / 8) hk _
theorem tr_skip {ro : Nat → Option (List Value)} {act : List AV} {H : AH} {R : Exit → List AV → AH → Prop} (is : List Nat) (hcd : H.cd) (h : R .normal (keepI 0 is act) (AE.tidy H)) : Tr Try.prog ro .skip act H R :=
  Tr.of_code (mu := fun _ => false) (d := 5) (known_none ro) (is := is) (X := some (H.cd ∧ R .normal (keepI 0 is act) (AE.tidy H))) rfl ⟨hcd, h⟩
def stA (a w n cap k : Nat) : List AV := tuA a (w : Nat) n cap k .dead .dead .dead .dead
theorem tr_flip (a w n cap k i : Nat) (q : AV) (l : List UInt8) (z : Nat) (hn : n = l.length) (hi : i < 8 * n) (hi6 : i ≤ 1000000) :
    Tr Try.prog nro (sub (bodyOf 14) [1, 1, 0, 1, 0, 0, 1, 0, 0, 1, 0, 1, 0]) (tuA a (w : Nat) n cap k (.v (.int .i64 i)) .dead .dead q) (tuH (rowL l z)) fun e x h => e = .normal ∧ x = stA a w n cap k ∧ h = tuH (rowL (flipB l i) z) := by
  refine Tr.of_flat (Tr.keepL [1, 2, 7, 8, 9] rfl ?_)
  refine Trl.split 2 (Trl.of_code (known_none nro) (ne_nil (by kernel_rfl)) (tu_set a w k i n cap (rowL l z) _) ⟨trivial, ?_⟩)
  show Trl _ _ ((flatten (sub (bodyOf 14) [1, 1, 0, 1, 0, 0, 1, 0, 0, 1, 0, 1, 0])).drop 2) _ _ _
  rw [fl_tu5, div8 _ hi6, div8m _ hi6]
  let J : Nat → List AV → AH → Prop := fun m act H => ∃ j o : Nat, i / 8 * 8 ≤ j ∧ j ≤ i ∧ m = i - j ∧ act = tuA a w n cap k (.v (.int .i64 (i : Nat))) (.v (.int .u8 (o : Nat))) (.v (.int .i64 (j : Nat))) .dead ∧ o = 128 / 2 ^ (j - i / 8 * 8) ∧ H = tuH (rowL l z)
  refine Tr.block (Tr.loop J ?_ (m := i - i / 8 * 8) ⟨i / 8 * 8, 128, Nat.le_refl _, by omega, rfl, rfl, by rw [Nat.sub_self], rfl⟩)
  rintro m act H ⟨j, o, hj1, hj2, rfl, rfl, ho, rfl⟩
  have body := fun R => tu_in a w k i o j n cap (rowL l z) R
  rw [add_one j (by omega)] at body
  refine Tr.of_code (known_none nro) (body _) (holds_bif (fun h9 => ⟨trivial, ?_⟩) (fun h9 => ⟨trivial, ?_⟩))
  · have h9 := of_decide_eq_true h9
    rcases half_next j i (by omega) with hh | hh
    · rw [ho, hh]
      exact ⟨i - (j + 1), by omega, j + 1, _, by omega, by omega, rfl, rfl, rfl, rfl⟩
    · omega
  · have h9 := of_decide_eq_false h9
    obtain rfl : j = i := by omega
    have ho : o = 128 / 2 ^ (j % 8) := by rw [ho]; congr 2; omega
    subst ho
    show Trl _ _ ((flatten (sub (bodyOf 14) [1, 1, 0, 1, 0, 0, 1, 0, 0, 1, 0, 1, 0])).drop 3) _ _ _
    refine Tr.keepL [1, 2, 7, 8, 9, 10] rfl ?_
    have post := fun R => tu_put a w k j (128 / 2 ^ (j % 8) : Nat) n cap (rowL l z) R
    have hk8 : j / 8 < l.length := by omega
    rw [div8 j hi6, Int.toNat_natCast, Nat.mul_one, Nat.zero_add, Nat.add_zero, put_bit l z j (by omega)] at post
    refine Trl.of_code (known_none nro) (ne_nil (by kernel_rfl)) (post _) ⟨?_, rfl, rfl, rfl⟩
    have c1 : decide ((0 : Int) ≤ ((j / 8 : Nat) : Int) ∧ ((j / 8 : Nat) : Int) < ((n : Nat) : Int)) = true := decide_eq_true ⟨Int.natCast_nonneg _, by omega⟩
    have c2 : decide (j / 8 + 1 ≤ (rowL l z).length) = true := decide_eq_true (by rw [rowL_len]; omega)
    have c3 : ((rowL l z).drop (j / 8)).take 1 = [.v (.int .u8 (exInt ((rowL l z).getD (j / 8) .dead)))] := by
      have e3 : (rowL l z).getD (j / 8) .dead = bA (l.getD (j / 8) 0) := by rw [List.getD_eq_getElem?_getD, rowL_get l z _ hk8]; rfl
      rw [rowL_take1 l z _ hk8, e3]; rfl
    with_reducible exact cdb_iff.2 ⟨cdb_iff.2 ⟨cds_of (cdb_iff.2 ⟨trivial, c1⟩) c3, c1⟩, c2⟩
def nextL (l : List UInt8) (a w n k : Nat) : List UInt8 := if w / 32768 = 1 ∧ a + k < 8 * n then flipB l (a + k) else l
theorem tr_body (a w n cap k : Nat) (l : List UInt8) (z : Nat) (hn : n = l.length) (ha : a ≤ 100000) (hk : k ≤ 16) (hs : n ≤ 100000) (hwl : w < 65536) :
    Tr Try.prog nro (sub (bodyOf 14) [1, 1, 0, 1, 0, 0, 1, 0, 0]) (stA a w n cap k) (tuH (rowL l z)) fun e x h => e = .normal ∧ x = stA a (w * 2 % 65536) n cap k ∧ h = tuH (rowL (nextL l a w n k) z) := by
  have fin : ∀ l', l' = nextL l a w n k → Trl Try.prog nro ((flatten (sub (bodyOf 14) [1, 1, 0, 1, 0, 0, 1, 0, 0])).drop 3) (stA a w n cap k) (tuH (rowL l' z)) fun e x h => e = .normal ∧ x = stA a (w * 2 % 65536) n cap k ∧ h = tuH (rowL (nextL l a w n k) z) := by
    rintro l' rfl
    have dbl := fun R => tu_dbl a w k n cap (rowL (nextL l a w n k) z) R
    rw [t_dbl] at dbl
    exact Trl.of_code (known_none nro) (ne_nil (by kernel_rfl)) (dbl _) ⟨trivial, rfl, rfl, rfl⟩
  have test := fun R => tu_test a w k n cap (rowL l z) R
  rw [t_div w hwl, add_at a k ha hk, mul8 n hs] at test
  refine Tr.of_flat (Trl.split 2 (Trl.of_code (known_none nro) (ne_nil (by kernel_rfl)) (test _) (holds_bif (fun h1 => holds_bif (fun h2 => ⟨trivial, ?_⟩) (fun h2 => ?_)) (fun h1 => ⟨trivial, ?_⟩))))
  · have h1 : w / 32768 = 1 := by have := eq_of_beq h1; omega
    show Trl _ _ ((flatten (sub (bodyOf 14) [1, 1, 0, 1, 0, 0, 1, 0, 0])).drop 2) _ _ _
    rw [fl_tu4]
    refine Tr.cond (b := decide (((a + k : Nat) : Int) < ((8 * n : Nat) : Int))) rfl (fun h3 => ?_) (fun h3 => ?_)
    · have h3 := of_decide_eq_true h3
      refine Tr.mono (tr_flip a w n cap k (a + k) _ l z hn (by omega) (by omega)) ?_
      rintro e x h ⟨rfl, rfl, rfl⟩
      exact fin _ (if_pos ⟨h1, by omega⟩).symm
    · have h3 := of_decide_eq_false h3
      exact tr_skip [1, 2, 7, 8] trivial (fin _ (if_neg (by omega)).symm)
  · have h2 := of_decide_eq_false h2; omega
  · have h1 : ¬ w / 32768 = 1 := fun e => by rw [e] at h1; simp at h1
    show Trl _ _ ((flatten (sub (bodyOf 14) [1, 1, 0, 1, 0, 0, 1, 0, 0])).drop 2) _ _ _
    rw [fl_tu4]
    refine Tr.cond (b := false) rfl (fun h3 => nomatch h3) (fun _ => ?_)
    exact tr_skip [1, 2, 7, 8] trivial (fin _ (if_neg (fun h => h1 h.1)).symm)
theorem one_bA (b : UInt8) : one (bA b) = true := rfl
theorem fs_turn (s : ByteArray) (a t : Nat) (hs : s.size ≤ 100000) (ha : a ≤ 100000) (ht : t < 65536) : Fs Try.prog nro 14 [.v (.string s), .v (.int .i64 a), .v (.int .u16 t)] (hp [] []) fun r _ => r = .v (.string (turnS s a t)) := by
  refine Fs.of_body (has_fn (by kernel_rfl)) ?_
  rw [sl_tu, re_tu]
  refine Tr.of_flat (Trl.split 1 (Trl.of_code (known_none nro) (ne_nil (by kernel_rfl)) (tu_pre s a t _) ⟨trivial, ?_⟩))
  show Trl _ _ ((flatten (bodyOf 14)).drop 1) _ _ _
  rw [fl_tu1]
  refine Tr.mono (tr_conv cv_tu (e := 5) (s := s) (by kernel_rfl) (by kernel_rfl) (by kernel_rfl) rfl (by simp) (by simp)) ?_
  rintro e act h ⟨rfl, cap, hcap, rfl, rfl⟩
  show Trl _ _ ((flatten (bodyOf 14)).drop 2) _ _ _
  refine Tr.keepL [1, 2, 7] rfl ?_
  rw [rowA_eq]
  obtain ⟨z, hz⟩ : ∃ z, z = cap - s.size := ⟨_, rfl⟩
  rw [← hz]
  show Trl _ _ ((flatten (bodyOf 14)).drop 2) ([.dead, .v (.int .i64 a), .v (.int .u16 t)] ++ List.replicate 4 .dead ++ [.sl 0 0 s.size cap] ++ List.replicate 52 .dead) (tuH (rowL (bytsOf s) z)) _
  refine Trl.split 1 (Trl.of_code (known_none nro) (ne_nil (by kernel_rfl)) (tu_two a t s.size cap (rowL (bytsOf s) z) _) ⟨trivial, ?_⟩)
  show Trl _ _ (((flatten (bodyOf 14)).drop 2).drop 1) _ _ _
  rw [fl_tu2]
  have hw0 : t = tw t 0 := by unfold tw; rw [Nat.pow_zero, Nat.mul_one, Nat.mod_eq_of_lt ht]
  have hlen : (bytsOf s).length = s.size := len_byts s
  let I : Nat → List AV → AH → Prop := fun m act H => ∃ k w, k ≤ 16 ∧ m = 16 - k ∧ w = tw t k ∧ act = stA a w s.size cap k ∧ H = tuH (rowL (turnL (bytsOf s) a t k) z)
  refine Tr.block (Tr.loop I ?_ (m := 16) ⟨0, t, Nat.zero_le _, rfl, hw0, rfl, rfl⟩)
  rintro m act H ⟨k, w, hk, rfl, hw, rfl, rfl⟩
  have hll : s.size = (turnL (bytsOf s) a t k).length := by rw [turnL_len, hlen]
  have hwl : w < 65536 := by rw [hw]; exact tw_lt t k
  have hnext : nextL (turnL (bytsOf s) a t k) a w s.size k = turnL (bytsOf s) a t (k + 1) := by
    unfold nextL
    show _ = (if _ then _ else _ : List UInt8)
    rw [hlen, hw]
    have : (tb t k = true ∧ a + k < 8 * s.size) ↔ (tw t k / 32768 = 1 ∧ a + k < 8 * s.size) := by unfold tb; rw [decide_eq_true_eq]
    simp only [this]
  refine Tr.of_flat (Trl.split 2 (Trl.of_code (known_none nro) (ne_nil (by kernel_rfl)) (tu_head a w k s.size cap (rowL (turnL (bytsOf s) a t k) z) _) (holds_bif (fun h8 => ⟨trivial, ?_⟩) (fun h8 => ⟨trivial, ?_⟩))))
  · have h8 := of_decide_eq_true h8
    show Trl _ _ ((flatten (sub (bodyOf 14) [1, 1, 0, 1, 0, 0])).drop 2) _ _ _
    rw [fl_tu3]
    refine Tr.block (Tr.mono (tr_body a w s.size cap k _ z hll ha (by omega) hs hwl) ?_)
    rintro e x h ⟨rfl, rfl, rfl⟩
    rw [hnext]
    have nxt := fun R => tu_next a (w * 2 % 65536 : Nat) k s.size cap (rowL (turnL (bytsOf s) a t (k + 1)) z) R
    rw [add_one k (by omega)] at nxt
    show Trl _ _ ((flatten (sub (bodyOf 14) [1, 1, 0, 1, 0, 0])).drop 3) _ _ _
    refine Trl.of_code (known_none nro) (ne_nil (by kernel_rfl)) (nxt _) ⟨trivial, ?_⟩
    exact ⟨16 - (k + 1), by omega, k + 1, _, by omega, rfl, by rw [hw]; exact tw_next t k, rfl, rfl⟩
  · have h8 := of_decide_eq_false h8
    obtain rfl : k = 16 := by omega
    show Trl _ _ ((flatten (bodyOf 14)).drop 4) _ _ _
    have htk := rowL_take (turnL (bytsOf s) a t 16) z s.size hll
    have post := fun R => tu_post a w (16 : Nat) s.size cap (rowL (turnL (bytsOf s) a t 16) z) R
    rw [if_pos rfl, Nat.mul_one, htk] at post
    refine Trl.of_code (known_none nro) (ne_nil (by kernel_rfl)) (post _) ⟨?_, .inr rfl, trivial, ?_⟩
    · refine cds_of (cdb_iff.2 ⟨trivial, decide_eq_true ⟨by rw [rowL_len]; omega, ?_, ?_⟩⟩) (bytes_bA _)
      · exact all_bA _ _ fun _ => rfl
      · exact all_bA _ _ fun _ => rfl
    · refine congrArg (fun x => AV.v (.string x)) ?_
      unfold turnS
      rw [back_bA]
def turnP : List Value → Option (Value × Bool) := fun us => match us with
  | [.string s, .int .i64 a, .int .u16 t] => some (.string (turnS s a.toNat t.toNat), decide (s.size ≤ 100000 ∧ 0 ≤ a ∧ a ≤ 100000 ∧ 0 ≤ t ∧ t < 65536))
  | _ => none
theorem turn_ok (ro : Nat → Option (List Value)) : ∀ args H r H', pure? turnP args H = some (r, H') → HSound1 Try.prog ro 14 args H r H' := by
  refine pure_ok (fun us c hs => Fs.ro ?_ ro) (has_fn (by kernel_rfl))
  unfold turnP at hs
  split at hs
  · rename_i s a t
    simp only [Option.some.injEq, Prod.mk.injEq, decide_eq_true_eq] at hs
    obtain ⟨rfl, h0, h1, h2, h3, h4⟩ := hs
    obtain ⟨a, rfl⟩ := Int.eq_ofNat_of_zero_le h1
    obtain ⟨t, rfl⟩ := Int.eq_ofNat_of_zero_le h3
    exact fs_turn s a t h0 (by omega) (by omega)
  · cases hs
end Go.Proofs.Ytimocgjeikgilaa.AE
