/-
  The law CrcBursts of layer 3: the call comes to true.
-/
import Derived.RowKit3
import Derived.Test.YtbnhhacjoabpaaaAETr
import Derived.Test.YtbnhhacjoabpaaaOctetPlain
import Derived.Test.YtbnhhacjoabpaaaAEOct
import Derived.Test.YtbnhhacjoabpaaaAEMark
namespace Go.Proofs.Ytbnhhacjoabpaaa
namespace Cr
/-- The register's step, without a bit. -/
def stp (n : Nat) : Nat := if n / 32768 = 1 then (n * 2 % 65536) ^^^ 4129 else n * 2 % 65536
def hi (b : Bool) : Nat := if b then 32768 else 0
/-- A bit is fed. -/
def fd (n : Nat) (b : Bool) : Nat := stp (n ^^^ hi b)
def stpV (v : BitVec 16) : BitVec 16 := if v.msb then (v <<< 1) ^^^ 4129#16 else v <<< 1
theorem stpV_xor (a b : BitVec 16) : stpV (a ^^^ b) = stpV a ^^^ stpV b := by
  unfold stpV
  rw [BitVec.msb_xor, BitVec.shiftLeft_xor_distrib]
  generalize a <<< 1 = x
  generalize b <<< 1 = y
  cases a.msb <;> cases b.msb <;> simp
  · rw [BitVec.xor_assoc]
  · rw [BitVec.xor_assoc, BitVec.xor_assoc, BitVec.xor_comm y]
  · rw [BitVec.xor_assoc, ← BitVec.xor_assoc 4129#16, BitVec.xor_comm 4129#16, BitVec.xor_assoc y, BitVec.xor_self, BitVec.xor_zero]
theorem hi_lt (b : Bool) : hi b < 65536 := by cases b <;> decide
theorem xor_lt {a b : Nat} (ha : a < 65536) (hb : b < 65536) : a ^^^ b < 65536 := Nat.xor_lt_two_pow (n := 16) ha hb
theorem stp_lt (n : Nat) : stp n < 65536 := by
  unfold stp
  have h : n * 2 % 65536 < 65536 := Nat.mod_lt _ (by decide)
  split
  · exact xor_lt h (by decide)
  · exact h
theorem stp_V (n : Nat) (h : n < 65536) : stp n = (stpV (BitVec.ofNat 16 n)).toNat := by
  have hm : (BitVec.ofNat 16 n).msb = decide (n / 32768 = 1) := by
    rw [BitVec.msb_eq_decide, BitVec.toNat_ofNat]
    apply decide_eq_decide.2
    rw [Nat.mod_eq_of_lt (by simpa using h)]
    simp
    omega
  have hs : (BitVec.ofNat 16 n <<< 1).toNat = n * 2 % 65536 := by
    rw [BitVec.toNat_shiftLeft, BitVec.toNat_ofNat, Nat.shiftLeft_eq]
    simp
  unfold stp stpV
  rw [hm]
  by_cases hh : n / 32768 = 1
  · simp only [hh, decide_true, if_true]
    rw [BitVec.toNat_xor, hs]; rfl
  · simp only [hh, decide_false, if_false, Bool.false_eq_true]
    exact hs.symm
theorem ofNat_xor (a b : Nat) (ha : a < 65536) (hb : b < 65536) : BitVec.ofNat 16 (a ^^^ b) = BitVec.ofNat 16 a ^^^ BitVec.ofNat 16 b := by
  apply BitVec.eq_of_toNat_eq
  rw [BitVec.toNat_xor, BitVec.toNat_ofNat, BitVec.toNat_ofNat, BitVec.toNat_ofNat, Nat.mod_eq_of_lt (xor_lt ha hb), Nat.mod_eq_of_lt ha, Nat.mod_eq_of_lt hb]
theorem stp_xor {a b : Nat} (ha : a < 65536) (hb : b < 65536) : stp (a ^^^ b) = stp a ^^^ stp b := by
  rw [stp_V _ (xor_lt ha hb), stp_V a ha, stp_V b hb, ofNat_xor a b ha hb, stpV_xor, BitVec.toNat_xor]
theorem fd_lt (n : Nat) (b : Bool) : fd n b < 65536 := stp_lt _
theorem fd_xor {a b : Nat} (x y : Bool) (ha : a < 65536) (hb : b < 65536) : fd (a ^^^ b) (x != y) = fd a x ^^^ fd b y := by
  unfold fd
  rw [← stp_xor (xor_lt ha (hi_lt x)) (xor_lt hb (hi_lt y))]
  congr 1
  have : hi (x != y) = hi x ^^^ hi y := by cases x <;> cases y <;> decide
  rw [this, Nat.xor_assoc, Nat.xor_assoc, ← Nat.xor_assoc b, Nat.xor_comm b, Nat.xor_assoc]
/-- The document's step: the highest bit is compared with the bit that comes. -/
theorem fd_ref (n : Nat) (h : n < 65536) (b : Bool) : fd n b = if n / 32768 = (if b then 1 else 0) then n * 2 % 65536 else (n * 2 % 65536) ^^^ 4129 := by
  cases b
  · show stp (n ^^^ 0) = _
    rw [Nat.xor_zero]
    unfold stp
    have : n / 32768 = 0 ∨ n / 32768 = 1 := by omega
    rcases this with h | h <;> simp [h]
  · show stp (n ^^^ 32768) = _
    rw [stp_xor h (by decide)]
    have h8 : stp 32768 = 4129 := by decide
    rw [h8]
    unfold stp
    have : n / 32768 = 0 ∨ n / 32768 = 1 := by omega
    rcases this with h | h
    · simp [h]
    · simp [h, Nat.xor_assoc]
/-- A row of bits is fed. -/
def reg (n : Nat) (l : List Bool) : Nat := l.foldl fd n
theorem reg_lt {n : Nat} (l : List Bool) (h : n < 65536) : reg n l < 65536 := by
  induction l generalizing n with
  | nil => exact h
  | cons b l ih => exact ih (fd_lt n b)
theorem reg_app (n : Nat) (l m : List Bool) : reg n (l ++ m) = reg (reg n l) m := List.foldl_append
def bitN (b i : Nat) : Bool := decide (b / 2 ^ (7 - i) % 2 = 1)
def bitsB (b : Nat) : List Bool := [bitN b 0, bitN b 1, bitN b 2, bitN b 3, bitN b 4, bitN b 5, bitN b 6, bitN b 7]
def stpN (n : Nat) : Nat → Nat
  | 0 => n
  | k + 1 => stp (stpN n k)
theorem stpN_lt {n : Nat} (h : n < 65536) (k : Nat) : stpN n k < 65536 := by
  cases k with
  | zero => exact h
  | succ k => exact stp_lt _
/-- A byte is fed at once. -/
def byt (n b : Nat) : Nat := stpN (n ^^^ (b * 256)) 8
def T (k b : Nat) : Nat := b * 256 * 2 ^ k % 65536
theorem T_next : ∀ k, k < 8 → ∀ b, b < 256 → T k b = hi (bitN b k) ^^^ (T k b % 32768) ∧ stp (T k b % 32768) = T (k + 1) b := by decide +kernel
theorem byt_step {r : Nat} (k b : Nat) (hk : k < 8) (hb : b < 256) (hr : r < 65536) : stp (r ^^^ T k b) = fd r (bitN b k) ^^^ T (k + 1) b := by
  obtain ⟨h1, h2⟩ := T_next k hk b hb
  have h3 : T k b % 32768 < 65536 := by omega
  unfold fd
  rw [← h2, ← stp_xor (xor_lt hr (hi_lt _)) h3, Nat.xor_assoc, ← h1]
theorem byt_reg {n b : Nat} (hn : n < 65536) (hb : b < 256) : byt n b = reg n (bitsB b) := by
  have h0 : n ^^^ (b * 256) = n ^^^ T 0 b := by unfold T; rw [Nat.pow_zero, Nat.mul_one, Nat.mod_eq_of_lt (by omega)]
  have h8 : T 8 b = 0 := by unfold T; rw [Nat.mul_assoc]; exact Nat.mul_mod_left b 65536
  unfold byt
  rw [h0]
  show stp (stp (stp (stp (stp (stp (stp (stp (n ^^^ T 0 b)))))))) = fd (fd (fd (fd (fd (fd (fd (fd n _) _) _) _) _) _) _) _
  rw [byt_step 0 b (by decide) hb hn, byt_step 1 b (by decide) hb (fd_lt _ _), byt_step 2 b (by decide) hb (fd_lt _ _), byt_step 3 b (by decide) hb (fd_lt _ _), byt_step 4 b (by decide) hb (fd_lt _ _), byt_step 5 b (by decide) hb (fd_lt _ _), byt_step 6 b (by decide) hb (fd_lt _ _), byt_step 7 b (by decide) hb (fd_lt _ _), h8, Nat.xor_zero]
/-- A text's bits, and its register. -/
def bitsL (l : List UInt8) : List Bool := l.flatMap fun b => bitsB b.toNat
def bytL (n : Nat) (l : List UInt8) : Nat := l.foldl (fun n b => byt n b.toNat) n
theorem bytL_reg {n : Nat} (hn : n < 65536) (l : List UInt8) : bytL n l = reg n (bitsL l) := by
  induction l generalizing n with
  | nil => rfl
  | cons b l ih =>
    show bytL (byt n b.toNat) l = reg n (bitsB b.toNat ++ bitsL l)
    rw [reg_app, ← byt_reg hn b.toNat_lt, ih (by rw [byt_reg hn b.toNat_lt]; exact reg_lt _ hn)]
theorem bytL_lt {n : Nat} (hn : n < 65536) (l : List UInt8) : bytL n l < 65536 := by rw [bytL_reg hn]; exact reg_lt _ hn
theorem bytL_app (n : Nat) (l m : List UInt8) : bytL n (l ++ m) = bytL (bytL n l) m := List.foldl_append
/-- Rows of bits of one length, compared. -/
theorem reg_xor {a b : Nat} (l m : List Bool) (hl : l.length = m.length) (ha : a < 65536) (hb : b < 65536) : reg a l ^^^ reg b m = reg (a ^^^ b) (List.zipWith (· != ·) l m) := by
  induction l generalizing a b m with
  | nil => cases m with
    | nil => rfl
    | cons y m => simp at hl
  | cons x l ih => cases m with
    | nil => simp at hl
    | cons y m =>
      show reg (fd a x) l ^^^ reg (fd b y) m = reg (fd (a ^^^ b) (x != y)) (List.zipWith _ l m)
      rw [ih m (by simpa using hl) (fd_lt _ _) (fd_lt _ _), fd_xor x y ha hb]
theorem xor_nil {a b : Nat} (h : a ^^^ b = 0) : a = b := by
  have h2 : a ^^^ b ^^^ b = b := by rw [h, Nat.zero_xor]
  rwa [Nat.xor_assoc, Nat.xor_self, Nat.xor_zero] at h2
theorem stp_zero : stp 0 = 0 := by decide
/-- The step is never undone to nothing. -/
theorem stp_ne {n : Nat} (h : n < 65536) (h0 : n ≠ 0) : stp n ≠ 0 := by
  unfold stp
  split
  · intro he
    have h2 : n * 2 % 65536 = 4129 := xor_nil he
    omega
  · omega
theorem reg_zeros (k : Nat) : reg 0 (List.replicate k false) = 0 := by
  induction k with
  | zero => rfl
  | succ k ih => exact ih
theorem reg_zeros_ne {n : Nat} (k : Nat) (h : n < 65536) (h0 : n ≠ 0) : reg n (List.replicate k false) ≠ 0 := by
  induction k generalizing n with
  | zero => exact h0
  | succ k ih =>
    refine ih (n := fd n false) (fd_lt _ _) ?_
    show stp (n ^^^ 0) ≠ 0
    rw [Nat.xor_zero]
    exact stp_ne h h0
end Cr
end Go.Proofs.Ytbnhhacjoabpaaa
namespace Go.Proofs.Ytbnhhacjoabpaaa.AE
open Go.RowKit
/-- A function that is handed the run's one box. -/
def box? (spec : TypeId → List AV → Value → Option (Value × Value × Bool)) (args : List AV) (H : AH) : Ans := match H.blks, H.tips with
  | [(t, [.v x])], [] => match decide (H.mb = 0) with
    | true => match spec t args x with
      | some c => some (.v c.1, { H with blks := [(t, [.v c.2.1])], cd := cdb H.cd c.2.2 })
      | none => none
    | false => none
  | _, _ => none
theorem box_ok {ro : Nat → Option (List Value)} {g : FuncId} {spec : TypeId → List AV → Value → Option (Value × Value × Bool)} (hf : ∃ fn, Try.prog.funcs[g]? = some fn ∧ fn.body.isSome = true)
    (h : ∀ t args x c x', spec t args x = some (c, x', true) → Fs Try.prog ro g args (hp [(t, [.v x])] []) fun r h => r = .v c ∧ h.blks = [(t, [.v x'])] ∧ h.tips = []) :
    ∀ args H r H', box? spec args H = some (r, H') → HSound1 Try.prog ro g args H r H' := by
  intro args H r H' hp'
  unfold box? at hp'
  split at hp'
  · rename_i t x hb ht
    split at hp'
    · rename_i hmb
      have hmb := of_decide_eq_true hmb
      split at hp'
      · rename_i cc hs
        obtain ⟨c, x', q⟩ := cc
        cases hp'
        refine ⟨⟨fun x => (cdb_iff.1 x).1, rfl, rfl, rfl, by simp [hb], Nat.le_refl _, fun i hi _ => absurd hi (by omega), fun _ _ _ => rfl⟩, fun hcd G W cargs hI hR hA => ⟨hf, ?_⟩⟩
        have hq : q = true := (cdb_iff.1 hcd).2
        subst hq
        refine ((h _ _ _ _ _ hs) G W cargs (hI.same hb.symm ht.symm) hR hA).2.mono ?_
        rintro e W' ⟨c1, G', r1, H1, rfl, ⟨rfl, h2, h3⟩, e1, e2, e3⟩
        exact ⟨c1, G', rfl, e1, e2.same h2.symm (by rw [h3]; exact ht), e3⟩
      · cases hp'
    · cases hp'
  · cases hp'
theorem f_pre (b n : Int) (R : Exit → List AV → AH → Prop) : codeL nro (fun _ => false) (fun _ => none) 5 ((flatten (bodyOf 26)).take 2) ([.v (.int .u8 b), .ptr 0 0] ++ List.replicate 18 (.v undef)) (hp [(33, [.v (.int .u16 n)])] []) (kp [0, 1, 9] R) =
    (some (True ∧ (R Exit.normal [(AV.v (Value.int IntKind.u8 b)), (AV.ptr (0 : Nat) (0 : Nat)), AV.dead, AV.dead, AV.dead, AV.dead, AV.dead, AV.dead, AV.dead, (AV.v (Value.int IntKind.i64 (0 : Int))), AV.dead, AV.dead, AV.dead, AV.dead, AV.dead, AV.dead, AV.dead, AV.dead, AV.dead, AV.dead] (AH.mk [((33 : Nat), [(AV.v (Value.int IntKind.u16 (IntKind.wrap IntKind.u16 (((@BitVec.toFin (IntKind.bits IntKind.u16) ((BitVec.ofInt (IntKind.bits IntKind.u16) n) ^^^ (BitVec.ofInt (IntKind.bits IntKind.u16) (IntKind.wrap IntKind.u16 ((IntKind.wrap IntKind.u16 b) * ((2 : Int) ^ (@Min.min Nat instMinNat (Int.toNat (8 : Int)) (IntKind.bits IntKind.u16))))))))).1 : Int))))])] (@List.nil Nat) (0 : Nat) (0 : Nat) true (@List.nil (Prod Nat Bool)) True)))) := by kernel_rfl
theorem f_body (b n i : Int) (R : Exit → List AV → AH → Prop) : code nro (fun _ => false) (fun _ => none) 5 (sub (bodyOf 26) [1, 1, 0, 0]) ([.v (.int .u8 b), .ptr 0 0] ++ List.replicate 7 .dead ++ .v (.int .i64 i) :: List.replicate 10 .dead) (hp [(33, [.v (.int .u16 n)])] []) (kp [0, 1, 9] R) =
    (bif (decide (i < (8 : Int))) then (bif ((Int.fdiv n (32768 : Int)) == (1 : Int)) then (some (True ∧ (R Exit.normal [(AV.v (Value.int IntKind.u8 b)), (AV.ptr (0 : Nat) (0 : Nat)), AV.dead, AV.dead, AV.dead, AV.dead, AV.dead, AV.dead, AV.dead, (AV.v (Value.int IntKind.i64 (IntKind.wrap IntKind.i64 (i + (1 : Int))))), AV.dead, AV.dead, AV.dead, AV.dead, AV.dead, AV.dead, AV.dead, AV.dead, AV.dead, AV.dead] (AH.mk [((33 : Nat), [(AV.v (Value.int IntKind.u16 (IntKind.wrap IntKind.u16 (((@BitVec.toFin (IntKind.bits IntKind.u16) ((BitVec.ofInt (IntKind.bits IntKind.u16) (IntKind.wrap IntKind.u16 (n * ((2 : Int) ^ (@Min.min Nat instMinNat (Int.toNat (1 : Int)) (IntKind.bits IntKind.u16)))))) ^^^ (BitVec.ofInt (IntKind.bits IntKind.u16) (4129 : Int))))).1 : Int))))])] (@List.nil Nat) (0 : Nat) (0 : Nat) true (@List.nil (Prod Nat Bool)) True)))) else (some (True ∧ (R Exit.normal [(AV.v (Value.int IntKind.u8 b)), (AV.ptr (0 : Nat) (0 : Nat)), AV.dead, AV.dead, AV.dead, AV.dead, AV.dead, AV.dead, AV.dead, (AV.v (Value.int IntKind.i64 (IntKind.wrap IntKind.i64 (i + (1 : Int))))), AV.dead, AV.dead, AV.dead, AV.dead, AV.dead, AV.dead, AV.dead, AV.dead, AV.dead, AV.dead] (AH.mk [((33 : Nat), [(AV.v (Value.int IntKind.u16 (IntKind.wrap IntKind.u16 (n * (2 : Int)))))])] (@List.nil Nat) (0 : Nat) (0 : Nat) true (@List.nil (Prod Nat Bool)) True))))) else (some (True ∧ (R (Exit.exit (0 : Nat)) [(AV.v (Value.int IntKind.u8 b)), (AV.ptr (0 : Nat) (0 : Nat)), AV.dead, AV.dead, AV.dead, AV.dead, AV.dead, AV.dead, AV.dead, (AV.v (Value.int IntKind.i64 i)), AV.dead, AV.dead, AV.dead, AV.dead, AV.dead, AV.dead, AV.dead, AV.dead, AV.dead, AV.dead] (AH.mk [((33 : Nat), [(AV.v (Value.int IntKind.u16 n))])] (@List.nil Nat) (0 : Nat) (0 : Nat) true (@List.nil (Prod Nat Bool)) True))))) := by kernel_rfl
end Go.Proofs.Ytbnhhacjoabpaaa.AE
namespace Go.Proofs.Ytbnhhacjoabpaaa.AE
open Go.RowKit Cr
theorem ne_nil {α : Type} {l : List α} (h : l.isEmpty = false) : l ≠ [] := by cases l <;> simp_all
theorem add_one (k : Nat) (h : k ≤ 1000000) : IntKind.wrap .i64 ((k : Int) + 1) = ((k + 1 : Nat) : Int) := by
  rw [IntKind.wrap_i64]; omega
theorem dbl16 (n : Nat) : IntKind.wrap .u16 ((n : Int) * 2) = ((n * 2 % 65536 : Nat) : Int) := by
  rw [IntKind.wrap_u16]; omega
theorem sl_feed : slotsOf 26 = 20 := by kernel_rfl
theorem re_feed : resultsOf 26 = [] := by kernel_rfl
theorem fl_feed : (flatten (bodyOf 26)).drop 2 = [.block 0 (.loop (sub (bodyOf 26) [1, 1, 0, 0]))] := by kernel_rfl
def unit : Value := .tuple #[]
def bx (n : Nat) : AH := hp [(33, [.v (.int .u16 n)])] []
def feedA (b k : Nat) : List AV := [.v (.int .u8 b), .ptr 0 0] ++ List.replicate 7 .dead ++ .v (.int .i64 k) :: List.replicate 10 .dead
theorem shl8 (n b : Nat) (hn : n < 65536) (hb : b < 256) : bits .xor .u16 (n : Int) (IntKind.wrap .u16 (IntKind.wrap .u16 (b : Int) * 256)) = ((n ^^^ (b * 256) : Nat) : Int) := by
  have e : IntKind.wrap .u16 (IntKind.wrap .u16 (b : Int) * 256) = ((b * 256 : Nat) : Int) := by
    rw [IntKind.wrap_u16, IntKind.wrap_u16]; omega
  rw [e]
  exact u16_xor_nat n (b * 256) hn (by omega)
theorem fs_feed (n b : Nat) (hn : n < 65536) (hb : b < 256) :
    Fs Try.prog nro 26 [.v (.int .u8 b), .ptr 0 0] (bx n) fun r h => r = .v unit ∧ h.blks = [(33, [.v (.int .u16 (byt n b : Nat))])] ∧ h.tips = [] := by
  refine Fs.of_body (has_fn (by kernel_rfl)) ?_
  rw [sl_feed, re_feed]
  refine Tr.of_flat (Trl.split 2 (Trl.of_code (known_none nro) (ne_nil (by kernel_rfl)) (f_pre b n _) ⟨trivial, ?_⟩))
  show Trl _ _ ((flatten (bodyOf 26)).drop 2) _ _ _
  rw [fl_feed]
  have hx : n ^^^ (b * 256) < 65536 := xor_lt hn (by omega)
  let I : Nat → List AV → AH → Prop := fun m act H => ∃ k v, k ≤ 8 ∧ m = 8 - k ∧ act = feedA b k ∧ v = ((stpN (n ^^^ (b * 256)) k : Nat) : Int) ∧ H = hp [(33, [.v (.int .u16 v)])] []
  refine Tr.block (Tr.loop I ?_ (m := 8) ⟨0, _, Nat.zero_le _, rfl, rfl, ?_, rfl⟩)
  · rintro m act H ⟨k, v, hk, rfl, rfl, rfl, rfl⟩
    have hlt := stpN_lt hx k
    have hf : Int.fdiv ((stpN (n ^^^ (b * 256)) k : Nat) : Int) 32768 = ((stpN (n ^^^ (b * 256)) k / 32768 : Nat) : Int) := Int.fdiv_eq_ediv_of_nonneg _ (by decide)
    refine Tr.of_code (known_none nro) (f_body b _ k _) (holds_bif (fun h8 => holds_bif (fun hd => ?_) (fun hd => ?_)) (fun h8 => ?_))
    · have h8 := of_decide_eq_true h8
      have hd : stpN (n ^^^ (b * 256)) k / 32768 = 1 := by rw [hf] at hd; have := eq_of_beq hd; omega
      refine ⟨trivial, 8 - (k + 1), by omega, k + 1, _, by omega, rfl, ?_, ?_, rfl⟩
      · rw [add_one k (by omega)]; rfl
      · show bits .xor .u16 (IntKind.wrap .u16 ((stpN (n ^^^ (b * 256)) k : Nat) * 2)) 4129 = _
        rw [dbl16]
        refine (u16_xor_nat _ 4129 (Nat.mod_lt _ (by decide)) (by decide)).trans ?_
        show _ = ((stp _ : Nat) : Int)
        unfold stp
        rw [if_pos hd]
    · have h8 := of_decide_eq_true h8
      have hd : ¬ stpN (n ^^^ (b * 256)) k / 32768 = 1 := by
        rw [hf] at hd
        have := ne_of_beq_false hd
        omega
      refine ⟨trivial, 8 - (k + 1), by omega, k + 1, _, by omega, rfl, ?_, ?_, rfl⟩
      · rw [add_one k (by omega)]; rfl
      · rw [dbl16]
        show _ = ((stp _ : Nat) : Int)
        unfold stp
        rw [if_neg hd]
    · have h8 := of_decide_eq_false h8
      obtain rfl : k = 8 := by omega
      exact ⟨trivial, .inl rfl, trivial, rfl, rfl, rfl⟩
  · exact shl8 n b hn hb
end Go.Proofs.Ytbnhhacjoabpaaa.AE
namespace Go.Proofs.Ytbnhhacjoabpaaa.AE
open Go.RowKit Cr
def feedP (t : TypeId) (args : List AV) (x : Value) : Option (Value × Value × Bool) := match args, x with
  | [.v (.int .u8 b), .ptr 0 0], .int .u16 n => match decide (t = 33) with
    | true => some (unit, .int .u16 (byt n.toNat b.toNat : Nat), decide (0 ≤ n ∧ n < 65536 ∧ 0 ≤ b ∧ b < 256))
    | false => none
  | _, _ => none
theorem Fs.ro {g : FuncId} {args : List AV} {H : AH} {Φ : AV → AH → Prop} (h : Fs Try.prog nro g args H Φ) (ro : Nat → Option (List Value)) : Fs Try.prog ro g args H Φ :=
  fun G W cargs hI _ hA => h G W cargs hI (ro_none _ _) hA
theorem feed_ok (ro : Nat → Option (List Value)) : ∀ args H r H', box? feedP args H = some (r, H') → HSound1 Try.prog ro 26 args H r H' := by
  refine box_ok (has_fn (by kernel_rfl)) fun t args x c x' hs => Fs.ro ?_ ro
  unfold feedP at hs
  split at hs
  · rename_i b n
    split at hs
    · rename_i ht
      have ht := of_decide_eq_true ht
      simp only [Option.some.injEq, Prod.mk.injEq, decide_eq_true_eq] at hs
      obtain ⟨rfl, rfl, h1, h2, h3, h4⟩ := hs
      obtain ⟨n, rfl⟩ := Int.eq_ofNat_of_zero_le h1
      obtain ⟨b, rfl⟩ := Int.eq_ofNat_of_zero_le h3
      subst ht
      exact fs_feed n b (by omega) (by omega)
    · cases hs
  · cases hs
noncomputable def prF : FuncId → Option (List AV → AH → Ans) := fun g => match g with
  | 26 => some (box? feedP)
  | _ => none
theorem knownF (ro : Nat → Option (List Value)) : Known ro prF := by
  intro g p h
  unfold prF at h
  split at h
  · cases h; exact feed_ok _
  · cases h
def feeder : AV := .fn (.func 26) [] [.ptr 0 0]
theorem reg_run (n : Int) (Φ : AV → AH → Prop) : callK nro (fun _ => false) (fun _ => none) 5 18 [.v (.int .i64 n)] (hp [] []) (fun r h => some (h.cd ∧ Φ r h)) =
    (some (True ∧ (Φ (AV.tuple [(AV.fn (Go.Fn.func (26 : Nat)) (@List.nil AV) [(AV.ptr (List.length (@List.nil (Prod Go.TypeId (List AV)))) (0 : Nat))]), (AV.fn (Go.Fn.func (27 : Nat)) (@List.nil AV) [(AV.ptr (List.length (@List.nil (Prod Go.TypeId (List AV)))) (0 : Nat))])]) (AH.mk [((33 : Nat), [(AV.v (Value.int IntKind.u16 (IntKind.wrap IntKind.u16 n)))])] (@List.nil Nat) (0 : Nat) (0 : Nat) true (@List.nil (Prod Nat Bool)) True)))) := by kernel_rfl
theorem a_pre (s : ByteArray) (n : Int) (R : Exit → List AV → AH → Prop) : codeL nro (fun _ => false) prF 5 ((flatten (bodyOf 19)).take 1) ([.v (.string s), .fn (.func 26) [] [.ptr 0 0]] ++ List.replicate 14 (.v undef)) (hp [(33, [.v (.int .u16 n)])] []) (kp [0, 1, 6, 7] R) =
    (some (True ∧ (R Exit.normal [(AV.v (Value.string s)), (AV.fn (Go.Fn.func (26 : Nat)) (@List.nil AV) [(AV.ptr (0 : Nat) (0 : Nat))]), AV.dead, AV.dead, AV.dead, AV.dead, (AV.v (Value.int IntKind.i64 ((ByteArray.size s) : Int))), (AV.v (Value.int IntKind.i64 (0 : Int))), AV.dead, AV.dead, AV.dead, AV.dead, AV.dead, AV.dead, AV.dead, AV.dead] (AH.mk [((33 : Nat), [(AV.v (Value.int IntKind.u16 n))])] (@List.nil Nat) (0 : Nat) (0 : Nat) true (@List.nil (Prod Nat Bool)) True)))) := by kernel_rfl
theorem a_body (s : ByteArray) (n l i : Int) (R : Exit → List AV → AH → Prop) : code nro (fun _ => false) prF 5 (sub (bodyOf 19) [1, 0, 0]) ([.v (.string s), .fn (.func 26) [] [.ptr 0 0]] ++ List.replicate 4 .dead ++ [.v (.int .i64 l), .v (.int .i64 i)] ++ List.replicate 8 .dead) (hp [(33, [.v (.int .u16 n)])] []) (kp [0, 1, 6, 7] R) =
    (bif (decide (i < l)) then (some ((cdb (cdb True (decide (((0 : Int) ≤ i) ∧ ((Int.toNat i) < (ByteArray.size s))))) (decide (((0 : Int) ≤ n) ∧ ((n < (65536 : Int)) ∧ (((0 : Int) ≤ ((UInt8.toNat (Array.getD (ByteArray.data s) (Int.toNat i) (@OfNat.ofNat UInt8 (0 : Nat) (@UInt8.instOfNat 0)))) : Int)) ∧ (((UInt8.toNat (Array.getD (ByteArray.data s) (Int.toNat i) (@OfNat.ofNat UInt8 (0 : Nat) (@UInt8.instOfNat 0)))) : Int) < (256 : Int))))))) ∧ (R Exit.normal [(AV.v (Value.string s)), (AV.fn (Go.Fn.func (26 : Nat)) (@List.nil AV) [(AV.ptr (0 : Nat) (0 : Nat))]), AV.dead, AV.dead, AV.dead, AV.dead, (AV.v (Value.int IntKind.i64 l)), (AV.v (Value.int IntKind.i64 (IntKind.wrap IntKind.i64 (i + (1 : Int))))), AV.dead, AV.dead, AV.dead, AV.dead, AV.dead, AV.dead, AV.dead, AV.dead] (AH.mk [((33 : Nat), [(AV.v (Value.int IntKind.u16 ((Cr.byt (Int.toNat n) (Int.toNat ((UInt8.toNat (Array.getD (ByteArray.data s) (Int.toNat i) (@OfNat.ofNat UInt8 (0 : Nat) (@UInt8.instOfNat 0)))) : Int))) : Int)))])] (@List.nil Nat) (0 : Nat) (0 : Nat) true (@List.nil (Prod Nat Bool)) True)))) else (some (True ∧ (R (Exit.exit (0 : Nat)) [(AV.v (Value.string s)), (AV.fn (Go.Fn.func (26 : Nat)) (@List.nil AV) [(AV.ptr (0 : Nat) (0 : Nat))]), AV.dead, AV.dead, AV.dead, AV.dead, (AV.v (Value.int IntKind.i64 l)), (AV.v (Value.int IntKind.i64 i)), AV.dead, AV.dead, AV.dead, AV.dead, AV.dead, AV.dead, AV.dead, AV.dead] (AH.mk [((33 : Nat), [(AV.v (Value.int IntKind.u16 n))])] (@List.nil Nat) (0 : Nat) (0 : Nat) true (@List.nil (Prod Nat Bool)) True))))) := by kernel_rfl
end Go.Proofs.Ytbnhhacjoabpaaa.AE
namespace Go.Proofs.Ytbnhhacjoabpaaa.AE
open Go.RowKit Cr
def bytsOf (s : ByteArray) : List UInt8 := s.data.toList
theorem sl_all : slotsOf 19 = 16 := by kernel_rfl
theorem re_all : resultsOf 19 = [] := by kernel_rfl
theorem fl_all : (flatten (bodyOf 19)).drop 1 = [.block 0 (.loop (sub (bodyOf 19) [1, 0, 0]))] := by kernel_rfl
def allA (s : ByteArray) (k : Nat) : List AV := [.v (.string s), .fn (.func 26) [] [.ptr 0 0]] ++ List.replicate 4 .dead ++ [.v (.int .i64 (s.size : Nat)), .v (.int .i64 k)] ++ List.replicate 8 .dead
theorem len_byts (s : ByteArray) : (bytsOf s).length = s.size := by unfold bytsOf; rw [Array.length_toList]; rfl
theorem getD_byts (s : ByteArray) (k : Nat) (h : k < s.size) : Array.getD s.data k 0 = (bytsOf s)[k]'(by rw [len_byts]; exact h) := by
  have h2 : k < s.data.size := h
  unfold bytsOf
  simp only [Array.getD, h2, dif_pos]
  rfl
theorem fs_all (s : ByteArray) (n : Nat) (hn : n < 65536) (hs : s.size ≤ 100000) :
    Fs Try.prog nro 19 [.v (.string s), .fn (.func 26) [] [.ptr 0 0]] (bx n) fun r h => r = .v unit ∧ h.blks = [(33, [.v (.int .u16 (bytL n (bytsOf s) : Nat))])] ∧ h.tips = [] := by
  refine Fs.of_body (has_fn (by kernel_rfl)) ?_
  rw [sl_all, re_all]
  refine Tr.of_flat (Trl.split 1 (Trl.of_code (knownF nro) (ne_nil (by kernel_rfl)) (a_pre s n _) ⟨trivial, ?_⟩))
  show Trl _ _ ((flatten (bodyOf 19)).drop 1) _ _ _
  rw [fl_all]
  let I : Nat → List AV → AH → Prop := fun m act H => ∃ k v, k ≤ s.size ∧ m = s.size - k ∧ act = allA s k ∧ v = ((bytL n ((bytsOf s).take k) : Nat) : Int) ∧ H = hp [(33, [.v (.int .u16 v)])] []
  refine Tr.block (Tr.loop I ?_ (m := s.size) ⟨0, _, Nat.zero_le _, rfl, rfl, rfl, rfl⟩)
  rintro m act H ⟨k, v, hk, rfl, rfl, rfl, rfl⟩
  have hlt := bytL_lt hn ((bytsOf s).take k)
  refine Tr.of_code (knownF nro) (a_body s _ _ k _) (holds_bif (fun h8 => ?_) (fun h8 => ?_))
  · have h8 := of_decide_eq_true h8
    have h8 : k < s.size := by omega
    have hg := getD_byts s k h8
    have hb := ((bytsOf s)[k]'(by rw [len_byts]; exact h8)).toNat_lt
    refine ⟨?_, s.size - (k + 1), by omega, k + 1, _, by omega, rfl, ?_, ?_, rfl⟩
    · with_reducible refine cdb_iff.2 ⟨cdb_iff.2 ⟨trivial, ?_⟩, ?_⟩
      · exact decide_eq_true ⟨Int.natCast_nonneg k, h8⟩
      · have hb' : (UInt8.toNat (Array.getD s.data k 0) : Int) < 256 := by rw [hg]; omega
        have h0 : (0 : Int) ≤ (bytL n ((bytsOf s).take k) : Nat) := Int.natCast_nonneg _
        have h1 : ((bytL n ((bytsOf s).take k) : Nat) : Int) < 65536 := by omega
        exact decide_eq_true ⟨h0, h1, Int.natCast_nonneg _, hb'⟩
    · rw [add_one k (by omega)]; rfl
    · show ((byt (bytL n ((bytsOf s).take k)) (UInt8.toNat (Array.getD s.data k 0)) : Nat) : Int) = _
      rw [hg, List.take_succ_eq_append_getElem (by rw [len_byts]; exact h8), bytL_app]
      rfl
  · have h8 := of_decide_eq_false h8
    obtain rfl : k = s.size := by omega
    refine ⟨trivial, .inl rfl, trivial, rfl, ?_, rfl⟩
    rw [← len_byts, List.take_length]
    rfl
def allP (t : TypeId) (args : List AV) (x : Value) : Option (Value × Value × Bool) := match args, x with
  | [.v (.string s), .fn (.func f) [] [.ptr 0 0]], .int .u16 n => match decide (f = 26) && decide (t = 33) with
    | true => some (unit, .int .u16 (bytL n.toNat (bytsOf s) : Nat), decide (0 ≤ n ∧ n < 65536 ∧ s.size ≤ 100000))
    | false => none
  | _, _ => none
theorem all_ok (ro : Nat → Option (List Value)) : ∀ args H r H', box? allP args H = some (r, H') → HSound1 Try.prog ro 19 args H r H' := by
  refine box_ok (has_fn (by kernel_rfl)) fun t args x c x' hs => Fs.ro ?_ ro
  unfold allP at hs
  split at hs
  · rename_i s f n
    split at hs
    · rename_i ht
      simp only [Bool.and_eq_true, decide_eq_true_eq] at ht
      obtain ⟨hf, ht⟩ := ht
      simp only [Option.some.injEq, Prod.mk.injEq, decide_eq_true_eq] at hs
      obtain ⟨rfl, rfl, h1, h2, h3⟩ := hs
      obtain ⟨n, rfl⟩ := Int.eq_ofNat_of_zero_le h1
      subst ht hf
      exact fs_all s n (by omega) h3
    · cases hs
  · cases hs
noncomputable def prM : FuncId → Option (List AV → AH → Ans) := fun g => match g with
  | 19 => some (box? allP)
  | _ => none
theorem knownM (ro : Nat → Option (List Value)) : Known ro prM := by
  intro g p h
  unfold prM at h
  split at h
  · cases h; exact all_ok _
  · cases h
theorem more_run (n : Int) (s : ByteArray) (Φ : AV → AH → Prop) : callK nro (fun _ => false) prM 5 9 [.v (.int .i64 n), .v (.string s)] (hp [] []) (fun r h => some (h.cd ∧ Φ r (tidy h))) =
    (some ((cdb True (decide (((0 : Int) ≤ (IntKind.wrap IntKind.u16 n)) ∧ (((IntKind.wrap IntKind.u16 n) < (65536 : Int)) ∧ ((ByteArray.size s) ≤ (100000 : Nat)))))) ∧ (Φ (AV.v (Value.int IntKind.i64 (IntKind.wrap IntKind.i64 ((Cr.bytL (Int.toNat (IntKind.wrap IntKind.u16 n)) (bytsOf s)) : Int)))) (AH.mk [((33 : Nat), [(AV.v (Value.int IntKind.u16 ((Cr.bytL (Int.toNat (IntKind.wrap IntKind.u16 n)) (bytsOf s)) : Int)))])] (@List.nil Nat) (0 : Nat) (0 : Nat) true (@List.nil (Prod Nat Bool)) True)))) := by kernel_rfl
end Go.Proofs.Ytbnhhacjoabpaaa.AE
namespace Go.Proofs.Ytbnhhacjoabpaaa.AE
open Go.RowKit Cr
def w16 (n : Int) : Nat := (n % 65536).toNat
theorem w16_lt (n : Int) : w16 n < 65536 := by unfold w16; omega
theorem wrap16 (n : Int) : IntKind.wrap .u16 n = (w16 n : Nat) := by rw [IntKind.wrap_u16]; unfold w16; omega
theorem wrap64 (n : Nat) (h : n < 9223372036854775808) : IntKind.wrap .i64 (n : Int) = (n : Nat) := by rw [IntKind.wrap_i64]; omega
def moreV (n : Int) (s : ByteArray) : Value := .int .i64 (bytL (w16 n) (bytsOf s) : Nat)
theorem fs_more (n : Int) (s : ByteArray) (hs : s.size ≤ 100000) : Fs Try.prog nro 9 [.v (.int .i64 n), .v (.string s)] (hp [] []) fun r _ => r = .v (moreV n s) := by
  refine Fs.of_call (knownM nro) (more_run n s (fun r _ => r = .v (moreV n s))) ⟨?_, ?_⟩
  · with_reducible refine cdb_iff.2 ⟨trivial, decide_eq_true ⟨?_, ?_, hs⟩⟩
    · rw [wrap16]; exact Int.natCast_nonneg _
    · rw [wrap16]; have := w16_lt n; omega
  · rw [wrap16, Int.toNat_natCast, wrap64 _ (Nat.lt_trans (bytL_lt (w16_lt n) _) (by decide))]
    rfl
def moreP : List Value → Option (Value × Bool) := fun us => match us with
  | [.int .i64 n, .string s] => some (moreV n s, decide (s.size ≤ 100000))
  | _ => none
theorem more_ok (ro : Nat → Option (List Value)) : ∀ args H r H', pure? moreP args H = some (r, H') → HSound1 Try.prog ro 9 args H r H' := by
  refine pure_ok (fun us c hs => Fs.ro ?_ ro) (has_fn (by kernel_rfl))
  unfold moreP at hs
  split at hs
  · rename_i n s
    simp only [Option.some.injEq, Prod.mk.injEq, decide_eq_true_eq] at hs
    obtain ⟨rfl, h⟩ := hs
    exact fs_more n s h
  · cases hs
theorem b_pre (s : ByteArray) (i : Int) (R : Exit → List AV → AH → Prop) : codeL nro (fun _ => false) (fun _ => none) 5 ((flatten (bodyOf 20)).take 3) ([.v (.string s), .v (.int .i64 i)] ++ List.replicate 26 (.v undef)) (hp [] []) (kp [5, 6] R) =
    (some ((cdb True (decide (((0 : Int) ≤ (IntKind.wrap IntKind.i64 (Int.tdiv i (8 : Int)))) ∧ ((Int.toNat (IntKind.wrap IntKind.i64 (Int.tdiv i (8 : Int)))) < (ByteArray.size s))))) ∧ (R Exit.normal [AV.dead, AV.dead, AV.dead, AV.dead, AV.dead, (AV.v (Value.int IntKind.i64 (IntKind.wrap IntKind.i64 ((UInt8.toNat (Array.getD (ByteArray.data s) (Int.toNat (IntKind.wrap IntKind.i64 (Int.tdiv i (8 : Int)))) (@OfNat.ofNat UInt8 (0 : Nat) (@UInt8.instOfNat 0)))) : Int)))), (AV.v (Value.int IntKind.i64 (IntKind.wrap IntKind.i64 (i - (IntKind.wrap IntKind.i64 ((IntKind.wrap IntKind.i64 (Int.tdiv i (8 : Int))) * (8 : Int))))))), AV.dead, AV.dead, AV.dead, AV.dead, AV.dead, AV.dead, AV.dead, AV.dead, AV.dead, AV.dead, AV.dead, AV.dead, AV.dead, AV.dead, AV.dead, AV.dead, AV.dead, AV.dead, AV.dead, AV.dead, AV.dead] (AH.mk (@List.nil (Prod Go.TypeId (List AV))) (@List.nil Nat) (0 : Nat) (0 : Nat) true (@List.nil (Prod Nat Bool)) True)))) := by kernel_rfl
theorem b_body (c k : Int) (R : Exit → List AV → AH → Prop) : code nro (fun _ => false) (fun _ => none) 5 (sub (bodyOf 20) [1, 1, 0, 1, 0, 0]) (List.replicate 5 .dead ++ [.v (.int .i64 c), .v (.int .i64 k)] ++ List.replicate 21 .dead) (hp [] []) (kp [5, 6] R) =
    (bif (decide (k < (7 : Int))) then (some (True ∧ (R Exit.normal [AV.dead, AV.dead, AV.dead, AV.dead, AV.dead, (AV.v (Value.int IntKind.i64 (IntKind.wrap IntKind.i64 (Int.tdiv c (2 : Int))))), (AV.v (Value.int IntKind.i64 (IntKind.wrap IntKind.i64 (k + (1 : Int))))), AV.dead, AV.dead, AV.dead, AV.dead, AV.dead, AV.dead, AV.dead, AV.dead, AV.dead, AV.dead, AV.dead, AV.dead, AV.dead, AV.dead, AV.dead, AV.dead, AV.dead, AV.dead, AV.dead, AV.dead, AV.dead] (AH.mk (@List.nil (Prod Go.TypeId (List AV))) (@List.nil Nat) (0 : Nat) (0 : Nat) true (@List.nil (Prod Nat Bool)) True)))) else (some (True ∧ (R (Exit.exit (0 : Nat)) [AV.dead, AV.dead, AV.dead, AV.dead, AV.dead, (AV.v (Value.int IntKind.i64 c)), (AV.v (Value.int IntKind.i64 k)), AV.dead, AV.dead, AV.dead, AV.dead, AV.dead, AV.dead, AV.dead, AV.dead, AV.dead, AV.dead, AV.dead, AV.dead, AV.dead, AV.dead, AV.dead, AV.dead, AV.dead, AV.dead, AV.dead, AV.dead, AV.dead] (AH.mk (@List.nil (Prod Go.TypeId (List AV))) (@List.nil Nat) (0 : Nat) (0 : Nat) true (@List.nil (Prod Nat Bool)) True))))) := by kernel_rfl
theorem b_post (c k : Int) (R : Exit → List AV → AH → Prop) : codeL nro (fun _ => false) (fun _ => none) 5 ((flatten (bodyOf 20)).drop 4) (List.replicate 5 .dead ++ [.v (.int .i64 c), .v (.int .i64 k)] ++ List.replicate 21 .dead) (hp [] []) (kp [4] R) =
    (some (True ∧ (R Exit.ret [AV.dead, AV.dead, AV.dead, AV.dead, (AV.v (Value.int IntKind.i64 (IntKind.wrap IntKind.i64 (c - (IntKind.wrap IntKind.i64 ((IntKind.wrap IntKind.i64 (Int.tdiv c (2 : Int))) * (2 : Int))))))), AV.dead, AV.dead, AV.dead, AV.dead, AV.dead, AV.dead, AV.dead, AV.dead, AV.dead, AV.dead, AV.dead, AV.dead, AV.dead, AV.dead, AV.dead, AV.dead, AV.dead, AV.dead, AV.dead, AV.dead, AV.dead, AV.dead, AV.dead] (AH.mk (@List.nil (Prod Go.TypeId (List AV))) (@List.nil Nat) (0 : Nat) (0 : Nat) true (@List.nil (Prod Nat Bool)) True)))) := by kernel_rfl
theorem sl_bit : slotsOf 20 = 28 := by kernel_rfl
theorem re_bit : resultsOf 20 = [.tmp 4] := by kernel_rfl
theorem fl_bit : (flatten (bodyOf 20)).drop 3 = .block 0 (.loop (sub (bodyOf 20) [1, 1, 0, 1, 0, 0])) :: (flatten (bodyOf 20)).drop 4 := by kernel_rfl
def bitA (c k : Nat) : List AV := List.replicate 5 .dead ++ [.v (.int .i64 c), .v (.int .i64 k)] ++ List.replicate 21 .dead
def bitV (s : ByteArray) (i : Nat) : Nat := (bitN (Array.getD s.data (i / 8) 0).toNat (i % 8)).toNat
theorem tdiv_nat (i c : Nat) : Int.tdiv (i : Int) (c : Int) = ((i / c : Nat) : Int) := Int.tdiv_eq_ediv_of_nonneg (Int.natCast_nonneg i)
theorem bit_end (c : Nat) (h : c < 256) : IntKind.wrap .i64 ((c : Int) - IntKind.wrap .i64 (IntKind.wrap .i64 (Int.tdiv (c : Int) 2) * 2)) = ((c % 2 : Nat) : Int) := by
  rw [show Int.tdiv (c : Int) 2 = ((c / 2 : Nat) : Int) from tdiv_nat c 2, wrap64 (c / 2) (by omega), IntKind.wrap_i64, IntKind.wrap_i64]
  omega
theorem bit_val {s : ByteArray} {i B c : Nat} (hB : B = (Array.getD s.data (i / 8) 0).toNat) (hc : c = B / 2 ^ (7 - i % 8)) : c % 2 = bitV s i := by
  unfold bitV bitN
  rw [← hB, ← hc]
  have : c % 2 = 0 ∨ c % 2 = 1 := by omega
  rcases this with h | h <;> simp [h]
theorem fs_bit (s : ByteArray) (i : Nat) (hs : s.size ≤ 100000) (hi : i < 8 * s.size) : Fs Try.prog nro 20 [.v (.string s), .v (.int .i64 i)] (hp [] []) fun r _ => r = .v (.int .i64 (bitV s i : Nat)) := by
  refine Fs.of_body (has_fn (by kernel_rfl)) ?_
  rw [sl_bit, re_bit]
  have ht : IntKind.wrap .i64 (Int.tdiv (i : Int) 8) = ((i / 8 : Nat) : Int) := by
    rw [show Int.tdiv (i : Int) 8 = ((i / 8 : Nat) : Int) from tdiv_nat i 8]
    exact wrap64 _ (by omega)
  have hm : IntKind.wrap .i64 ((i : Int) - IntKind.wrap .i64 (((i / 8 : Nat) : Int) * 8)) = ((i % 8 : Nat) : Int) := by
    rw [IntKind.wrap_i64, IntKind.wrap_i64]; omega
  obtain ⟨B, hB⟩ : ∃ B, B = (Array.getD s.data (i / 8) 0).toNat := ⟨_, rfl⟩
  have hB' : B < 256 := by rw [hB]; exact UInt8.toNat_lt _
  have hc : IntKind.wrap .i64 ((UInt8.toNat (Array.getD s.data (Int.toNat ((i / 8 : Nat) : Int)) 0) : Nat) : Int) = ((B : Nat) : Int) := by
    show IntKind.wrap .i64 ((UInt8.toNat (Array.getD s.data (i / 8) 0) : Nat) : Int) = _
    rw [← hB]; exact wrap64 _ (by omega)
  have pre := fun R => b_pre s i R
  rw [ht, hm, hc] at pre
  refine Tr.of_flat (Trl.split 3 (Trl.of_code (known_none nro) (ne_nil (by kernel_rfl)) (pre _) ⟨?_, ?_⟩))
  · with_reducible refine cdb_iff.2 ⟨trivial, decide_eq_true ⟨Int.natCast_nonneg _, ?_⟩⟩
    show i / 8 < s.size
    omega
  show Trl _ _ ((flatten (bodyOf 20)).drop 3) _ _ _
  rw [fl_bit]
  let I : Nat → List AV → AH → Prop := fun m act H => ∃ k c, i % 8 ≤ k ∧ k ≤ 7 ∧ m = 7 - k ∧ act = bitA c k ∧ c = B / 2 ^ (k - i % 8) ∧ H = hp [] []
  refine Tr.block (Tr.loop I ?_ (m := 7 - i % 8) ⟨i % 8, B, Nat.le_refl _, by omega, rfl, rfl, ?_, rfl⟩)
  · rintro m act H ⟨k, c, hk0, hk, rfl, rfl, hc, rfl⟩
    have hcs : c ≤ B := by rw [hc]; exact Nat.div_le_self _ _
    have body := fun R => b_body c k R
    rw [show IntKind.wrap .i64 (Int.tdiv (c : Int) 2) = ((c / 2 : Nat) : Int) by rw [show Int.tdiv (c : Int) 2 = ((c / 2 : Nat) : Int) from tdiv_nat c 2]; exact wrap64 _ (by omega), add_one k (by omega)] at body
    refine Tr.of_code (known_none nro) (body _) (holds_bif (fun h8 => ?_) (fun h8 => ?_))
    · have h8 := of_decide_eq_true h8
      refine ⟨trivial, 7 - (k + 1), by omega, k + 1, c / 2, by omega, by omega, rfl, rfl, ?_, rfl⟩
      rw [hc, Nat.div_div_eq_div_mul, show k + 1 - i % 8 = (k - i % 8) + 1 by omega, Nat.pow_succ]
    · have h8 := of_decide_eq_false h8
      obtain rfl : k = 7 := by omega
      refine ⟨trivial, ?_⟩
      show Trl _ _ ((flatten (bodyOf 20)).drop 4) _ _ _
      have post := fun R => b_post c (7 : Nat) R
      rw [bit_end c (by omega)] at post
      have hb : c % 2 = bitV s i := bit_val hB hc
      clear hc body
      exact Trl.of_code (known_none nro) (ne_nil (by kernel_rfl)) (post _) ⟨trivial, .inr rfl, trivial, congrArg (fun z : Nat => AV.v (.int .i64 (z : Int))) hb⟩
  · rw [Nat.sub_self, Nat.pow_zero, Nat.div_one]
end Go.Proofs.Ytbnhhacjoabpaaa.AE
namespace Go.Proofs.Ytbnhhacjoabpaaa.AE
open Go.RowKit Cr
theorem bits_get : ∀ (l : List UInt8) (i : Nat), i < 8 * l.length → (bitsL l)[i]? = some (bitN (l.getD (i / 8) 0).toNat (i % 8))
  | [], i, h => by simp at h
  | b :: l, i, h => by
    have hl : 8 * (b :: l).length = 8 * l.length + 8 := by simp; omega
    rw [hl] at h
    show (bitsB b.toNat ++ bitsL l)[i]? = _
    have h8 : (bitsB b.toNat).length = 8 := rfl
    by_cases hi : i < 8
    · rw [List.getElem?_append_left (by rw [h8]; exact hi), Nat.div_eq_of_lt hi, Nat.mod_eq_of_lt hi]
      have : i = 0 ∨ i = 1 ∨ i = 2 ∨ i = 3 ∨ i = 4 ∨ i = 5 ∨ i = 6 ∨ i = 7 := by omega
      rcases this with h | h | h | h | h | h | h | h <;> subst h <;> rfl
    · rw [List.getElem?_append_right (by rw [h8]; omega), h8, bits_get l (i - 8) (by omega), show i / 8 = (i - 8) / 8 + 1 by omega, show (i - 8) % 8 = i % 8 by omega]
      rfl
theorem bits_len : ∀ l : List UInt8, (bitsL l).length = 8 * l.length
  | [] => rfl
  | b :: l => by
    show (bitsB b.toNat ++ bitsL l).length = _
    rw [List.length_append, bits_len l, List.length_cons]
    show 8 + 8 * l.length = _
    omega
theorem bitV_get (s : ByteArray) (i : Nat) (h : i < 8 * s.size) : ∃ b, (bitsL (bytsOf s))[i]? = some b ∧ bitV s i = b.toNat := by
  refine ⟨_, bits_get (bytsOf s) i (by rw [len_byts]; exact h), ?_⟩
  unfold bitV
  rw [getD_byts s (i / 8) (by omega), List.getD_eq_getElem?_getD, List.getElem?_eq_getElem (by rw [len_byts]; omega)]
  rfl
def bitP : List Value → Option (Value × Bool) := fun us => match us with
  | [.string s, .int .i64 i] => some (.int .i64 (bitV s i.toNat : Nat), decide (0 ≤ i ∧ i < 8 * (s.size : Int) ∧ s.size ≤ 100000))
  | _ => none
theorem bit_ok (ro : Nat → Option (List Value)) : ∀ args H r H', pure? bitP args H = some (r, H') → HSound1 Try.prog ro 20 args H r H' := by
  refine pure_ok (fun us c hs => Fs.ro ?_ ro) (has_fn (by kernel_rfl))
  unfold bitP at hs
  split at hs
  · rename_i s i
    simp only [Option.some.injEq, Prod.mk.injEq, decide_eq_true_eq] at hs
    obtain ⟨rfl, h1, h2, h3⟩ := hs
    obtain ⟨i, rfl⟩ := Int.eq_ofNat_of_zero_le h1
    exact fs_bit s i h3 (by omega)
  · cases hs
noncomputable def prB : FuncId → Option (List AV → AH → Ans) := fun g => match g with
  | 20 => some (pure? bitP)
  | _ => none
theorem knownB (ro : Nat → Option (List Value)) : Known ro prB := by
  intro g p h
  unfold prB at h
  split at h
  · cases h; exact bit_ok _
  · cases h
theorem m_pre (n : Int) (s : ByteArray) (R : Exit → List AV → AH → Prop) : codeL nro (fun _ => false) prB 5 ((flatten (bodyOf 10)).take 3) ([.v (.int .i64 n), .v (.string s)] ++ List.replicate 30 (.v undef)) (hp [] []) (kp [0, 1, 5] R) =
    (some (True ∧ (R Exit.normal [(AV.v (Value.int IntKind.i64 (IntKind.wrap IntKind.i64 (((@BitVec.toFin (IntKind.bits IntKind.i64) ((BitVec.ofInt (IntKind.bits IntKind.i64) n) &&& (BitVec.ofInt (IntKind.bits IntKind.i64) (65535 : Int))))).1 : Int)))), (AV.v (Value.string s)), AV.dead, AV.dead, AV.dead, (AV.v (Value.int IntKind.i64 (0 : Int))), AV.dead, AV.dead, AV.dead, AV.dead, AV.dead, AV.dead, AV.dead, AV.dead, AV.dead, AV.dead, AV.dead, AV.dead, AV.dead, AV.dead, AV.dead, AV.dead, AV.dead, AV.dead, AV.dead, AV.dead, AV.dead, AV.dead, AV.dead, AV.dead, AV.dead, AV.dead] (AH.mk (@List.nil (Prod Go.TypeId (List AV))) (@List.nil Nat) (0 : Nat) (0 : Nat) true (@List.nil (Prod Nat Bool)) True)))) := by kernel_rfl
theorem m_body (n i : Int) (s : ByteArray) (R : Exit → List AV → AH → Prop) : code nro (fun _ => false) prB 5 (sub (bodyOf 10) [1, 1, 0, 1, 0, 0]) ([.v (.int .i64 n), .v (.string s)] ++ List.replicate 3 .dead ++ .v (.int .i64 i) :: List.replicate 26 .dead) (hp [] []) (kp [0, 1, 5] R) =
    (bif (decide (i < (IntKind.wrap IntKind.i64 ((8 : Int) * ((ByteArray.size s) : Int))))) then (bif (decide ((65535 : Int) < (IntKind.wrap IntKind.i64 (n * (2 : Int))))) then (bif ((IntKind.wrap IntKind.i64 (Int.tdiv n (32768 : Int))) != ((bitV s (Int.toNat i)) : Int)) then (some ((cdb True (decide (((0 : Int) ≤ i) ∧ ((i < ((8 : Int) * ((ByteArray.size s) : Int))) ∧ ((ByteArray.size s) ≤ (100000 : Nat)))))) ∧ (R Exit.normal [(AV.v (Value.int IntKind.i64 (IntKind.wrap IntKind.i64 (((@BitVec.toFin (IntKind.bits IntKind.i64) ((BitVec.ofInt (IntKind.bits IntKind.i64) (IntKind.wrap IntKind.i64 ((IntKind.wrap IntKind.i64 (n * (2 : Int))) - (65536 : Int)))) ^^^ (BitVec.ofInt (IntKind.bits IntKind.i64) (4129 : Int))))).1 : Int)))), (AV.v (Value.string s)), AV.dead, AV.dead, AV.dead, (AV.v (Value.int IntKind.i64 (IntKind.wrap IntKind.i64 (i + (1 : Int))))), AV.dead, AV.dead, AV.dead, AV.dead, AV.dead, AV.dead, AV.dead, AV.dead, AV.dead, AV.dead, AV.dead, AV.dead, AV.dead, AV.dead, AV.dead, AV.dead, AV.dead, AV.dead, AV.dead, AV.dead, AV.dead, AV.dead, AV.dead, AV.dead, AV.dead, AV.dead] (AH.mk (@List.nil (Prod Go.TypeId (List AV))) (@List.nil Nat) (0 : Nat) (0 : Nat) true (@List.nil (Prod Nat Bool)) True)))) else (some ((cdb True (decide (((0 : Int) ≤ i) ∧ ((i < ((8 : Int) * ((ByteArray.size s) : Int))) ∧ ((ByteArray.size s) ≤ (100000 : Nat)))))) ∧ (R Exit.normal [(AV.v (Value.int IntKind.i64 (IntKind.wrap IntKind.i64 ((IntKind.wrap IntKind.i64 (n * (2 : Int))) - (65536 : Int))))), (AV.v (Value.string s)), AV.dead, AV.dead, AV.dead, (AV.v (Value.int IntKind.i64 (IntKind.wrap IntKind.i64 (i + (1 : Int))))), AV.dead, AV.dead, AV.dead, AV.dead, AV.dead, AV.dead, AV.dead, AV.dead, AV.dead, AV.dead, AV.dead, AV.dead, AV.dead, AV.dead, AV.dead, AV.dead, AV.dead, AV.dead, AV.dead, AV.dead, AV.dead, AV.dead, AV.dead, AV.dead, AV.dead, AV.dead] (AH.mk (@List.nil (Prod Go.TypeId (List AV))) (@List.nil Nat) (0 : Nat) (0 : Nat) true (@List.nil (Prod Nat Bool)) True))))) else (bif ((IntKind.wrap IntKind.i64 (Int.tdiv n (32768 : Int))) != ((bitV s (Int.toNat i)) : Int)) then (some ((cdb True (decide (((0 : Int) ≤ i) ∧ ((i < ((8 : Int) * ((ByteArray.size s) : Int))) ∧ ((ByteArray.size s) ≤ (100000 : Nat)))))) ∧ (R Exit.normal [(AV.v (Value.int IntKind.i64 (IntKind.wrap IntKind.i64 (((@BitVec.toFin (IntKind.bits IntKind.i64) ((BitVec.ofInt (IntKind.bits IntKind.i64) (IntKind.wrap IntKind.i64 (n * (2 : Int)))) ^^^ (BitVec.ofInt (IntKind.bits IntKind.i64) (4129 : Int))))).1 : Int)))), (AV.v (Value.string s)), AV.dead, AV.dead, AV.dead, (AV.v (Value.int IntKind.i64 (IntKind.wrap IntKind.i64 (i + (1 : Int))))), AV.dead, AV.dead, AV.dead, AV.dead, AV.dead, AV.dead, AV.dead, AV.dead, AV.dead, AV.dead, AV.dead, AV.dead, AV.dead, AV.dead, AV.dead, AV.dead, AV.dead, AV.dead, AV.dead, AV.dead, AV.dead, AV.dead, AV.dead, AV.dead, AV.dead, AV.dead] (AH.mk (@List.nil (Prod Go.TypeId (List AV))) (@List.nil Nat) (0 : Nat) (0 : Nat) true (@List.nil (Prod Nat Bool)) True)))) else (some ((cdb True (decide (((0 : Int) ≤ i) ∧ ((i < ((8 : Int) * ((ByteArray.size s) : Int))) ∧ ((ByteArray.size s) ≤ (100000 : Nat)))))) ∧ (R Exit.normal [(AV.v (Value.int IntKind.i64 (IntKind.wrap IntKind.i64 (n * (2 : Int))))), (AV.v (Value.string s)), AV.dead, AV.dead, AV.dead, (AV.v (Value.int IntKind.i64 (IntKind.wrap IntKind.i64 (i + (1 : Int))))), AV.dead, AV.dead, AV.dead, AV.dead, AV.dead, AV.dead, AV.dead, AV.dead, AV.dead, AV.dead, AV.dead, AV.dead, AV.dead, AV.dead, AV.dead, AV.dead, AV.dead, AV.dead, AV.dead, AV.dead, AV.dead, AV.dead, AV.dead, AV.dead, AV.dead, AV.dead] (AH.mk (@List.nil (Prod Go.TypeId (List AV))) (@List.nil Nat) (0 : Nat) (0 : Nat) true (@List.nil (Prod Nat Bool)) True)))))) else (some (True ∧ (R (Exit.exit (0 : Nat)) [(AV.v (Value.int IntKind.i64 n)), (AV.v (Value.string s)), AV.dead, AV.dead, AV.dead, (AV.v (Value.int IntKind.i64 i)), AV.dead, AV.dead, AV.dead, AV.dead, AV.dead, AV.dead, AV.dead, AV.dead, AV.dead, AV.dead, AV.dead, AV.dead, AV.dead, AV.dead, AV.dead, AV.dead, AV.dead, AV.dead, AV.dead, AV.dead, AV.dead, AV.dead, AV.dead, AV.dead, AV.dead, AV.dead] (AH.mk (@List.nil (Prod Go.TypeId (List AV))) (@List.nil Nat) (0 : Nat) (0 : Nat) true (@List.nil (Prod Nat Bool)) True))))) := by kernel_rfl
theorem m_post (n i : Int) (s : ByteArray) (R : Exit → List AV → AH → Prop) : codeL nro (fun _ => false) prB 5 ((flatten (bodyOf 10)).drop 4) ([.v (.int .i64 n), .v (.string s)] ++ List.replicate 3 .dead ++ .v (.int .i64 i) :: List.replicate 26 .dead) (hp [] []) (kp [4] R) =
    (some (True ∧ (R Exit.ret [AV.dead, AV.dead, AV.dead, AV.dead, (AV.v (Value.int IntKind.i64 n)), AV.dead, AV.dead, AV.dead, AV.dead, AV.dead, AV.dead, AV.dead, AV.dead, AV.dead, AV.dead, AV.dead, AV.dead, AV.dead, AV.dead, AV.dead, AV.dead, AV.dead, AV.dead, AV.dead, AV.dead, AV.dead, AV.dead, AV.dead, AV.dead, AV.dead, AV.dead, AV.dead] (AH.mk (@List.nil (Prod Go.TypeId (List AV))) (@List.nil Nat) (0 : Nat) (0 : Nat) true (@List.nil (Prod Nat Bool)) True)))) := by kernel_rfl
end Go.Proofs.Ytbnhhacjoabpaaa.AE
namespace Go.Proofs.Ytbnhhacjoabpaaa.AE
open Go.RowKit Cr
theorem i64_xor_small (a b : Nat) (ha : a < 65536) (hb : b < 65536) : bits .xor .i64 (a : Int) (b : Int) = ((a ^^^ b : Nat) : Int) := by
  have hx : a ^^^ b < 65536 := xor_lt ha hb
  have h1 : (BitVec.ofInt 64 (a : Int)).toNat = a := by rw [BitVec.toNat_ofInt]; omega
  have h2 : (BitVec.ofInt 64 (b : Int)).toNat = b := by rw [BitVec.toNat_ofInt]; omega
  show IntKind.i64.wrap ((BitVec.ofInt 64 (a : Int) ^^^ BitVec.ofInt 64 (b : Int)).toNat : Int) = _
  rw [BitVec.toNat_xor, h1, h2, IntKind.wrap_i64]
  omega
theorem i64_and16 (n : Int) : bits .and .i64 n 65535 = (w16 n : Nat) := by
  have h127 : (BitVec.ofInt 64 65535).toNat = 2 ^ 16 - 1 := by decide
  have key : (BitVec.ofInt 64 n &&& BitVec.ofInt 64 65535).toNat = (n % ((2 ^ 64 : Nat) : Int)).toNat % 2 ^ 16 := by
    rw [BitVec.toNat_and, BitVec.toNat_ofInt, h127, Nat.and_two_pow_sub_one_eq_mod]
  show IntKind.i64.wrap ((BitVec.ofInt 64 n &&& BitVec.ofInt 64 65535).toNat : Nat) = _
  rw [key, IntKind.wrap_i64]
  unfold w16
  omega
theorem sl_rm : slotsOf 10 = 32 := by kernel_rfl
theorem re_rm : resultsOf 10 = [.tmp 4] := by kernel_rfl
theorem fl_rm : (flatten (bodyOf 10)).drop 3 = .block 0 (.loop (sub (bodyOf 10) [1, 1, 0, 1, 0, 0])) :: (flatten (bodyOf 10)).drop 4 := by kernel_rfl
def rmA (s : ByteArray) (n k : Nat) : List AV := [.v (.int .i64 n), .v (.string s)] ++ List.replicate 3 .dead ++ .v (.int .i64 k) :: List.replicate 26 .dead
theorem reg_next {n k : Nat} {l : List Bool} {b : Bool} (h : l[k]? = some b) : reg n (l.take (k + 1)) = fd (reg n (l.take k)) b := by
  rw [List.take_add_one, h, reg_app]; rfl
theorem bits_txt (s : ByteArray) : (bitsL (bytsOf s)).length = 8 * s.size := by rw [bits_len, len_byts]
theorem dblI (r : Nat) (h : r < 65536) : IntKind.wrap .i64 ((r : Int) * 2) = ((r * 2 : Nat) : Int) := by rw [IntKind.wrap_i64]; omega
theorem subI (r : Nat) (h : r < 65536) (h2 : (65535 : Int) < ((r * 2 : Nat) : Int)) : IntKind.wrap .i64 (((r * 2 : Nat) : Int) - 65536) = ((r * 2 % 65536 : Nat) : Int) := by rw [IntKind.wrap_i64]; omega
theorem divI (r : Nat) (h : r < 65536) : IntKind.wrap .i64 (Int.tdiv (r : Int) 32768) = ((r / 32768 : Nat) : Int) := by
  rw [show Int.tdiv (r : Int) 32768 = ((r / 32768 : Nat) : Int) from tdiv_nat r 32768]; exact wrap64 _ (by omega)
theorem fs_rmore (n : Int) (s : ByteArray) (hs : s.size ≤ 100000) : Fs Try.prog nro 10 [.v (.int .i64 n), .v (.string s)] (hp [] []) fun r _ => r = .v (moreV n s) := by
  refine Fs.of_body (has_fn (by kernel_rfl)) ?_
  rw [sl_rm, re_rm]
  refine Tr.of_flat (Trl.split 3 (Trl.of_code (knownB nro) (ne_nil (by kernel_rfl)) (m_pre n s _) ⟨trivial, ?_⟩))
  show Trl _ _ ((flatten (bodyOf 10)).drop 3) _ _ _
  rw [fl_rm]
  have hw := w16_lt n
  let I : Nat → List AV → AH → Prop := fun m act H => ∃ k r, k ≤ 8 * s.size ∧ m = 8 * s.size - k ∧ act = rmA s r k ∧ r = reg (w16 n) ((bitsL (bytsOf s)).take k) ∧ H = hp [] []
  refine Tr.block (Tr.loop I ?_ (m := 8 * s.size) ⟨0, w16 n, Nat.zero_le _, rfl, ?_, rfl, rfl⟩)
  · rintro m act H ⟨k, r, hk, rfl, rfl, hr, rfl⟩
    have hr16 : r < 65536 := by rw [hr]; exact reg_lt _ hw
    have hl : IntKind.wrap .i64 ((8 : Int) * ((s.size : Nat) : Int)) = ((8 * s.size : Nat) : Int) := by rw [IntKind.wrap_i64]; omega
    have body := fun R => m_body r k s R
    rw [dblI r hr16, divI r hr16, add_one k (by omega), hl] at body
    have hc : k < 8 * s.size → decide ((0 : Int) ≤ (k : Int) ∧ (k : Int) < 8 * ((s.size : Nat) : Int) ∧ s.size ≤ 100000) = true := fun h => decide_eq_true ⟨Int.natCast_nonneg k, by omega, hs⟩
    have fin : ∀ (hlt : k < 8 * s.size) (v : Int), v = (fd r (bitV s k == 1) : Nat) →
        ∃ m', m' < 8 * s.size - k ∧ I m' ([.v (.int .i64 v), .v (.string s)] ++ List.replicate 3 .dead ++ .v (.int .i64 (k + 1 : Nat)) :: List.replicate 26 .dead) (hp [] []) := by
      intro hlt v hv
      obtain ⟨b, hb, hv2⟩ := bitV_get s k hlt
      refine ⟨8 * s.size - (k + 1), by omega, k + 1, _, by omega, rfl, by rw [hv]; rfl, ?_, rfl⟩
      rw [reg_next hb, ← hr, hv2]
      cases b <;> rfl
    refine Tr.of_code (knownB nro) (body _) (holds_bif (fun h8 => ?_) (fun h8 => ?_))
    · have h8 := of_decide_eq_true h8
      have hlt : k < 8 * s.size := by omega
      obtain ⟨b, hb, hv2⟩ := bitV_get s k hlt
      have hbv : (bitV s k == 1) = b := by rw [hv2]; cases b <;> rfl
      have hrf := fd_ref r hr16 b
      have hbn : b.toNat = if b then 1 else 0 := by cases b <;> rfl
      have hmod : r * 2 % 65536 < 65536 := Nat.mod_lt _ (by decide)
      have ne : ((((r / 32768 : Nat) : Int) != ((bitV s k : Nat) : Int)) = true) → ¬ r / 32768 = if b then 1 else 0 := fun h e => by
        rw [hv2, hbn, ← e] at h; simp at h
      have eq : ((((r / 32768 : Nat) : Int) != ((bitV s k : Nat) : Int)) = false) → r / 32768 = if b then 1 else 0 := fun h => by
        have : ((r / 32768 : Nat) : Int) = ((bitV s k : Nat) : Int) := by simpa using h
        rw [hv2, hbn] at this
        exact Int.ofNat_inj.1 this
      refine holds_bif (fun h2 => holds_bif (fun h3 => ?_) (fun h3 => ?_)) (fun h2 => holds_bif (fun h3 => ?_) (fun h3 => ?_))
      · have h2 := of_decide_eq_true h2
        refine ⟨cdb_iff.2 ⟨trivial, hc hlt⟩, fin hlt _ ?_⟩
        show bits .xor .i64 (IntKind.wrap .i64 (((r * 2 : Nat) : Int) - 65536)) 4129 = _
        rw [subI r hr16 h2, hbv, hrf, if_neg (ne h3)]
        exact i64_xor_small _ 4129 hmod (by decide)
      · have h2 := of_decide_eq_true h2
        refine ⟨cdb_iff.2 ⟨trivial, hc hlt⟩, fin hlt _ ?_⟩
        rw [subI r hr16 h2, hbv, hrf, if_pos (eq h3)]
      · have h2 := of_decide_eq_false h2
        have hm : r * 2 % 65536 = r * 2 := Nat.mod_eq_of_lt (by omega)
        refine ⟨cdb_iff.2 ⟨trivial, hc hlt⟩, fin hlt _ ?_⟩
        rw [hbv, hrf, if_neg (ne h3), hm]
        rw [hm] at hmod
        exact i64_xor_small _ 4129 hmod (by decide)
      · have h2 := of_decide_eq_false h2
        have hm : r * 2 % 65536 = r * 2 := Nat.mod_eq_of_lt (by omega)
        refine ⟨cdb_iff.2 ⟨trivial, hc hlt⟩, fin hlt _ ?_⟩
        rw [hbv, hrf, if_pos (eq h3), hm]
    · have h8 := of_decide_eq_false h8
      obtain rfl : k = 8 * s.size := by omega
      refine ⟨trivial, ?_⟩
      show Trl _ _ ((flatten (bodyOf 10)).drop 4) _ _ _
      refine Trl.of_code (knownB nro) (ne_nil (by kernel_rfl)) (m_post r _ s _) ⟨trivial, .inr rfl, trivial, ?_⟩
      have : bytL (w16 n) (bytsOf s) = r := by rw [hr, ← bits_txt, List.take_length, bytL_reg hw]
      show _ = AV.v (moreV n s)
      unfold moreV
      rw [this]
      rfl
  · have h := i64_and16 n
    show [AV.v (.int .i64 (bits .and .i64 n 65535)), .v (.string s)] ++ List.replicate 3 .dead ++ .v (.int .i64 0) :: List.replicate 26 .dead = _
    rw [h]; rfl
end Go.Proofs.Ytbnhhacjoabpaaa.AE
namespace Go.Proofs.Ytbnhhacjoabpaaa
namespace Cr
open Oc
theorem top_cut : ∀ a, a < 256 → ∀ b, b < 256 → (a * 256 + b) ^^^ (a * 256) = b := by decide +kernel
theorem stp_small (n : Nat) (h : n < 32768) : stp n = n * 2 := by
  unfold stp
  rw [if_neg (by omega), Nat.mod_eq_of_lt (by omega)]
theorem stpN_small (n : Nat) (h : n < 256) : stpN n 8 = n * 256 := by
  show stp (stp (stp (stp (stp (stp (stp (stp n))))))) = _
  rw [stp_small n (by omega), stp_small (n * 2) (by omega), stp_small (n * 2 * 2) (by omega), stp_small (n * 2 * 2 * 2) (by omega), stp_small (n * 2 * 2 * 2 * 2) (by omega), stp_small (n * 2 * 2 * 2 * 2 * 2) (by omega), stp_small (n * 2 * 2 * 2 * 2 * 2 * 2) (by omega), stp_small (n * 2 * 2 * 2 * 2 * 2 * 2 * 2) (by omega)]
  omega
theorem byt_hi (n : Nat) (h : n < 65536) : byt n (n / 256) = (n % 256) * 256 := by
  have e : n ^^^ (n / 256 * 256) = n % 256 := by
    have := top_cut (n / 256) (by omega) (n % 256) (by omega)
    rwa [show n / 256 * 256 + n % 256 = n by omega] at this
  unfold byt
  rw [e, stpN_small _ (by omega)]
theorem byt_lo (m : Nat) : byt (m * 256) m = 0 := by
  unfold byt
  rw [Nat.xor_self]
  decide
theorem be2 (n : Nat) : be 2 n = [UInt8.ofNat (n / 256), UInt8.ofNat n] := rfl
theorem seal_zero (n : Nat) (h : n < 65536) : bytL n (be 2 n) = 0 := by
  rw [be2]
  show byt (byt n (UInt8.ofNat (n / 256)).toNat) (UInt8.ofNat n).toNat = 0
  rw [UInt8.toNat_ofNat_of_lt' (by show n / 256 < 256; omega), byt_hi n h, show (UInt8.ofNat n).toNat = n % 256 from UInt8.toNat_ofNat', byt_lo]
theorem num_two (x y : UInt8) : num [x, y] = 256 * x.toNat + y.toNat := by
  show 256 * (256 * 0 + x.toNat) + y.toNat = _
  omega
theorem be_num (x y : UInt8) : be 2 (num [x, y]) = [x, y] := by
  rw [num_two, be2]
  have hx := x.toNat_lt
  have hy := y.toNat_lt
  congr 1
  · apply UInt8.toNat_inj.1
    rw [UInt8.toNat_ofNat_of_lt' (by show _ < 256; omega)]
    omega
  · congr 1
    apply UInt8.toNat_inj.1
    rw [show (UInt8.ofNat (256 * x.toNat + y.toNat)).toNat = (256 * x.toNat + y.toNat) % 256 from UInt8.toNat_ofNat']
    omega
theorem num_be2 (n : Nat) (h : n < 65536) : num (be 2 n) = n := by
  rw [be2, num_two, UInt8.toNat_ofNat_of_lt' (by show n / 256 < 256; omega), show (UInt8.ofNat n).toNat = n % 256 from UInt8.toNat_ofNat']
  omega
theorem be_iff (l : List UInt8) (n : Nat) (hl : l.length = 2) (h : n < 65536) : be 2 n = l ↔ n = num l := by
  obtain ⟨x, y, rfl⟩ : ∃ x y, l = [x, y] := by
    match l, hl with
    | [x, y], _ => exact ⟨x, y, rfl⟩
  constructor
  · intro e; rw [← e, num_be2 n h]
  · intro e; rw [e, be_num]
end Cr
end Go.Proofs.Ytbnhhacjoabpaaa
namespace Go.Proofs.Ytbnhhacjoabpaaa.AE
open Go.RowKit Cr Oc
theorem rmore_ok (ro : Nat → Option (List Value)) : ∀ args H r H', pure? moreP args H = some (r, H') → HSound1 Try.prog ro 10 args H r H' := by
  refine pure_ok (fun us c hs => Fs.ro ?_ ro) (has_fn (by kernel_rfl))
  unfold moreP at hs
  split at hs
  · rename_i n s
    simp only [Option.some.injEq, Prod.mk.injEq, decide_eq_true_eq] at hs
    obtain ⟨rfl, h⟩ := hs
    exact fs_rmore n s h
  · cases hs
noncomputable def prK : FuncId → Option (List AV → AH → Ans) := fun g => match g with
  | 9 => some (pure? moreP)
  | 10 => some (pure? moreP)
  | 21 => some (pure? putP)
  | 25 => some (pure? numP)
  | 22 => some (pure? ofP)
  | _ => none
theorem knownK (ro : Nat → Option (List Value)) : Known ro prK := by
  intro g p h
  unfold prK at h
  split at h
  · cases h; exact more_ok _
  · cases h; exact rmore_ok _
  · cases h; exact put_ok _
  · cases h; exact num_ok _
  · cases h; exact of_ok _
  · cases h
theorem t_seal (s : ByteArray) (Φ : AV → Prop) : callK nro (fun _ => false) prK 5 11 [.v (.string s)] (hp [] []) (fun r h => some (h.cd ∧ Φ r)) =
    (some ((cdb (cdb True (decide ((ByteArray.size s) ≤ (100000 : Nat)))) (decide ((ByteArray.size s) ≤ (70368744177664 : Nat)))) ∧ (Φ (AV.v (Value.string (putS s ((Cr.bytL (65535 : Nat) (bytsOf s)) : Int) (2 : Int))))))) := by kernel_rfl
theorem t_rseal (s : ByteArray) (Φ : AV → Prop) : callK nro (fun _ => false) prK 5 16 [.v (.string s)] (hp [] []) (fun r h => some (h.cd ∧ Φ r)) =
    (some ((cdb (cdb (cdb True (decide ((ByteArray.size s) ≤ (100000 : Nat)))) (decide (((Cr.bytL (65535 : Nat) (bytsOf s)) : Int) ≤ (9223372036854775807 : Int)))) (decide (((ByteArray.size s) + (ByteArray.size (numStr ((Cr.bytL (65535 : Nat) (bytsOf s)) : Int) (2 : Int)))) ≤ (9223372036854775807 : Nat)))) ∧ (Φ (AV.v (Value.string (s ++ (numStr ((Cr.bytL (65535 : Nat) (bytsOf s)) : Int) (2 : Int)))))))) := by kernel_rfl
theorem t_ropen (s : ByteArray) (Φ : AV → Prop) : callK nro (fun _ => false) prK 5 13 [.v (.string s)] (hp [] []) (fun r h => some (h.cd ∧ Φ r)) =
    (bif (decide (((ByteArray.size s) : Int) < (2 : Int))) then (some (True ∧ (Φ (AV.v (Value.tuple #[(Value.string (ByteArray.mk (Array.mk (@List.nil UInt8)))), (Value.int IntKind.i64 (3 : Int))]))))) else (bif (((Cr.bytL (65535 : Nat) (bytsOf (ByteArray.extract s (0 : Nat) (Int.toNat (IntKind.wrap IntKind.i64 (((ByteArray.size s) : Int) - (2 : Int))))))) : Int) != ((Oc.num (Array.toList (ByteArray.data (ByteArray.extract s (Int.toNat (IntKind.wrap IntKind.i64 (((ByteArray.size s) : Int) - (2 : Int)))) (Int.toNat ((ByteArray.size s) : Int)))))) : Int)) then (some ((cdb (cdb (cdb (cdb True (decide (((0 : Int) ≤ (0 : Int)) ∧ (((0 : Int) ≤ (IntKind.wrap IntKind.i64 (((ByteArray.size s) : Int) - (2 : Int)))) ∧ ((IntKind.wrap IntKind.i64 (((ByteArray.size s) : Int) - (2 : Int))) ≤ ((ByteArray.size s) : Int)))))) (decide ((ByteArray.size (ByteArray.extract s (0 : Nat) (Int.toNat (IntKind.wrap IntKind.i64 (((ByteArray.size s) : Int) - (2 : Int)))))) ≤ (100000 : Nat)))) (decide (((0 : Int) ≤ (IntKind.wrap IntKind.i64 (((ByteArray.size s) : Int) - (2 : Int)))) ∧ (((IntKind.wrap IntKind.i64 (((ByteArray.size s) : Int) - (2 : Int))) ≤ ((ByteArray.size s) : Int)) ∧ (((ByteArray.size s) : Int) ≤ ((ByteArray.size s) : Int)))))) (decide ((ByteArray.size (ByteArray.extract s (Int.toNat (IntKind.wrap IntKind.i64 (((ByteArray.size s) : Int) - (2 : Int)))) (Int.toNat ((ByteArray.size s) : Int)))) ≤ (6 : Nat)))) ∧ (Φ (AV.v (Value.tuple #[(Value.string (ByteArray.mk (Array.mk (@List.nil UInt8)))), (Value.int IntKind.i64 (4 : Int))]))))) else (some ((cdb (cdb (cdb (cdb (cdb True (decide (((0 : Int) ≤ (0 : Int)) ∧ (((0 : Int) ≤ (IntKind.wrap IntKind.i64 (((ByteArray.size s) : Int) - (2 : Int)))) ∧ ((IntKind.wrap IntKind.i64 (((ByteArray.size s) : Int) - (2 : Int))) ≤ ((ByteArray.size s) : Int)))))) (decide ((ByteArray.size (ByteArray.extract s (0 : Nat) (Int.toNat (IntKind.wrap IntKind.i64 (((ByteArray.size s) : Int) - (2 : Int)))))) ≤ (100000 : Nat)))) (decide (((0 : Int) ≤ (IntKind.wrap IntKind.i64 (((ByteArray.size s) : Int) - (2 : Int)))) ∧ (((IntKind.wrap IntKind.i64 (((ByteArray.size s) : Int) - (2 : Int))) ≤ ((ByteArray.size s) : Int)) ∧ (((ByteArray.size s) : Int) ≤ ((ByteArray.size s) : Int)))))) (decide ((ByteArray.size (ByteArray.extract s (Int.toNat (IntKind.wrap IntKind.i64 (((ByteArray.size s) : Int) - (2 : Int)))) (Int.toNat ((ByteArray.size s) : Int)))) ≤ (6 : Nat)))) (decide (((0 : Int) ≤ (0 : Int)) ∧ (((0 : Int) ≤ (IntKind.wrap IntKind.i64 (((ByteArray.size s) : Int) - (2 : Int)))) ∧ ((IntKind.wrap IntKind.i64 (((ByteArray.size s) : Int) - (2 : Int))) ≤ ((ByteArray.size s) : Int)))))) ∧ (Φ (AV.v (Value.tuple #[(Value.string (ByteArray.extract s (0 : Nat) (Int.toNat (IntKind.wrap IntKind.i64 (((ByteArray.size s) : Int) - (2 : Int)))))), (Value.int IntKind.i64 (0 : Int))]))))))) := by kernel_rfl
end Go.Proofs.Ytbnhhacjoabpaaa.AE
namespace Go.Proofs.Ytbnhhacjoabpaaa.AE
open Go.RowKit Cr Oc
def sumS (s : ByteArray) : Nat := bytL 65535 (bytsOf s)
theorem sumS_lt (s : ByteArray) : sumS s < 65536 := bytL_lt (by decide) _
def sealS (s : ByteArray) : ByteArray := ⟨(bytsOf s ++ be 2 (sumS s)).toArray⟩
theorem fits2 (n : Nat) (h : n < 65536) : fits (n : Int) 2 = true := by
  simp only [fits, Bool.and_eq_true, decide_eq_true_eq]
  refine ⟨⟨⟨?_, ?_⟩, ?_⟩, ?_⟩ <;> first | decide | omega | (show (n : Int) < (256 : Int) ^ 2; omega)
theorem put_seal (s : ByteArray) : putS s ((sumS s : Nat) : Int) 2 = sealS s := by
  unfold putS
  rw [if_pos (fits2 _ (sumS_lt s))]
  rfl
theorem num_seal (s : ByteArray) : s ++ numStr ((sumS s : Nat) : Int) 2 = sealS s := by
  unfold numStr
  rw [if_neg (by omega)]
  apply ByteArray.ext
  rw [ByteArray.data_append]
  apply Array.toList_inj.1
  rw [Array.toList_append]
  rfl
theorem seal_size (s : ByteArray) : (sealS s).size = s.size + 2 := by
  show (bytsOf s ++ be 2 (sumS s)).toArray.size = _
  rw [List.size_toArray, List.length_append, len_byts]
  rfl
def sealP : List Value → Option (Value × Bool) := fun us => match us with
  | [.string s] => some (.string (sealS s), decide (s.size ≤ 100000))
  | _ => none
theorem fs_seal (s : ByteArray) (hs : s.size ≤ 100000) : Fs Try.prog nro 11 [.v (.string s)] (hp [] []) fun r _ => r = .v (.string (sealS s)) := by
  refine Fs.of_call (knownK nro) (t_seal s fun r => r = .v (.string (sealS s))) ⟨?_, ?_⟩
  · with_reducible refine cdb_iff.2 ⟨cdb_iff.2 ⟨trivial, decide_eq_true hs⟩, decide_eq_true ?_⟩
    omega
  · exact congrArg (fun z => AV.v (.string z)) (put_seal s)
theorem seal_ok (ro : Nat → Option (List Value)) : ∀ args H r H', pure? sealP args H = some (r, H') → HSound1 Try.prog ro 11 args H r H' := by
  refine pure_ok (fun us c hs => Fs.ro ?_ ro) (has_fn (by kernel_rfl))
  unfold sealP at hs
  split at hs
  · rename_i s
    simp only [Option.some.injEq, Prod.mk.injEq, decide_eq_true_eq] at hs
    obtain ⟨rfl, h⟩ := hs
    exact fs_seal s h
  · cases hs
theorem fs_rseal (s : ByteArray) (hs : s.size ≤ 100000) : Fs Try.prog nro 16 [.v (.string s)] (hp [] []) fun r _ => r = .v (.string (sealS s)) := by
  refine Fs.of_call (knownK nro) (t_rseal s fun r => r = .v (.string (sealS s))) ⟨?_, ?_⟩
  · have h1 := sumS_lt s
    have h2 : s.size + (numStr ((sumS s : Nat) : Int) 2).size = s.size + 2 := by
      rw [← ByteArray.size_append, num_seal, seal_size]
    with_reducible refine cdb_iff.2 ⟨cdb_iff.2 ⟨cdb_iff.2 ⟨trivial, decide_eq_true hs⟩, decide_eq_true ?_⟩, decide_eq_true ?_⟩
    · show ((sumS s : Nat) : Int) ≤ _
      omega
    · show s.size + (numStr ((sumS s : Nat) : Int) 2).size ≤ _
      omega
  · exact congrArg (fun z => AV.v (.string z)) (num_seal s)
theorem rseal_ok (ro : Nat → Option (List Value)) : ∀ args H r H', pure? sealP args H = some (r, H') → HSound1 Try.prog ro 16 args H r H' := by
  refine pure_ok (fun us c hs => Fs.ro ?_ ro) (has_fn (by kernel_rfl))
  unfold sealP at hs
  split at hs
  · rename_i s
    simp only [Option.some.injEq, Prod.mk.injEq, decide_eq_true_eq] at hs
    obtain ⟨rfl, h⟩ := hs
    exact fs_rseal s h
  · cases hs
noncomputable def prL : FuncId → Option (List AV → AH → Ans) := fun g => match g with
  | 11 => some (pure? sealP)
  | _ => none
theorem knownL (ro : Nat → Option (List Value)) : Known ro prL := by
  intro g p h
  unfold prL at h
  split at h
  · cases h; exact seal_ok _
  · cases h
theorem t_open (s : ByteArray) (Φ : AV → Prop) : callK nro (fun _ => false) prL 5 12 [.v (.string s)] (hp [] []) (fun r h => some (h.cd ∧ Φ r)) =
    (bif (decide (((ByteArray.size s) : Int) < (2 : Int))) then (some (True ∧ (Φ (AV.v (Value.tuple #[(Value.string (ByteArray.mk (Array.mk (@List.nil UInt8)))), (Value.int IntKind.i64 (3 : Int))]))))) else (bif (!((ByteArray.toList (sealS (ByteArray.extract s (0 : Nat) (Int.toNat (IntKind.wrap IntKind.i64 (((ByteArray.size s) : Int) - (2 : Int))))))) == (ByteArray.toList s))) then (some ((cdb (cdb True (decide (((0 : Int) ≤ (0 : Int)) ∧ (((0 : Int) ≤ (IntKind.wrap IntKind.i64 (((ByteArray.size s) : Int) - (2 : Int)))) ∧ ((IntKind.wrap IntKind.i64 (((ByteArray.size s) : Int) - (2 : Int))) ≤ ((ByteArray.size s) : Int)))))) (decide ((ByteArray.size (ByteArray.extract s (0 : Nat) (Int.toNat (IntKind.wrap IntKind.i64 (((ByteArray.size s) : Int) - (2 : Int)))))) ≤ (100000 : Nat)))) ∧ (Φ (AV.v (Value.tuple #[(Value.string (ByteArray.mk (Array.mk (@List.nil UInt8)))), (Value.int IntKind.i64 (4 : Int))]))))) else (some ((cdb (cdb True (decide (((0 : Int) ≤ (0 : Int)) ∧ (((0 : Int) ≤ (IntKind.wrap IntKind.i64 (((ByteArray.size s) : Int) - (2 : Int)))) ∧ ((IntKind.wrap IntKind.i64 (((ByteArray.size s) : Int) - (2 : Int))) ≤ ((ByteArray.size s) : Int)))))) (decide ((ByteArray.size (ByteArray.extract s (0 : Nat) (Int.toNat (IntKind.wrap IntKind.i64 (((ByteArray.size s) : Int) - (2 : Int)))))) ≤ (100000 : Nat)))) ∧ (Φ (AV.v (Value.tuple #[(Value.string (ByteArray.extract s (0 : Nat) (Int.toNat (IntKind.wrap IntKind.i64 (((ByteArray.size s) : Int) - (2 : Int)))))), (Value.int IntKind.i64 (0 : Int))]))))))) := by kernel_rfl
end Go.Proofs.Ytbnhhacjoabpaaa.AE
namespace Go.Proofs.Ytbnhhacjoabpaaa.AE
open Go.RowKit Cr Oc
def bodyB (s : ByteArray) : ByteArray := s.extract 0 (s.size - 2)
def tailB (s : ByteArray) : ByteArray := s.extract (s.size - 2) s.size
def opens (s : ByteArray) : Bool := bytsOf (sealS (bodyB s)) == bytsOf s
def openV (s : ByteArray) : Value := if s.size < 2 then .tuple #[.string ⟨#[]⟩, .int .i64 3] else if opens s then .tuple #[.string (bodyB s), .int .i64 0] else .tuple #[.string ⟨#[]⟩, .int .i64 4]
theorem hw2 (s : ByteArray) (h2 : 2 ≤ s.size) (hs : s.size ≤ 100000) : IntKind.wrap .i64 ((s.size : Int) - 2) = ((s.size - 2 : Nat) : Int) := by rw [IntKind.wrap_i64]; omega
theorem body_size (s : ByteArray) : (bodyB s).size ≤ s.size := by unfold bodyB; rw [ByteArray.size_extract]; omega
theorem split_b (s : ByteArray) (h2 : 2 ≤ s.size) : bytsOf s = bytsOf (bodyB s) ++ bytsOf (tailB s) := by
  have h : bytsOf s = (bytsOf s).take (s.size - 2) ++ (bytsOf s).drop (s.size - 2) := (List.take_append_drop _ _).symm
  have e1 : bytsOf (bodyB s) = (bytsOf s).take (s.size - 2) := by
    unfold bodyB bytsOf
    rw [ByteArray.data_extract, Array.toList_extract]
    show ((bytsOf s).drop 0).take (s.size - 2 - 0) = _
    simp
    rfl
  have e2 : bytsOf (tailB s) = (bytsOf s).drop (s.size - 2) := by
    unfold tailB
    rw [show bytsOf (s.extract (s.size - 2) s.size) = (s.data.extract (s.size - 2) s.size).toList by unfold bytsOf; rw [ByteArray.data_extract], Array.toList_extract]
    show ((bytsOf s).drop (s.size - 2)).take (s.size - (s.size - 2)) = _
    rw [List.take_of_length_le (by rw [List.length_drop, len_byts]; omega)]
  rw [e1, e2]; exact h
theorem tail_len (s : ByteArray) (h2 : 2 ≤ s.size) : (bytsOf (tailB s)).length = 2 := by
  rw [len_byts]; unfold tailB; rw [ByteArray.size_extract]; omega
theorem opens_iff (s : ByteArray) (h2 : 2 ≤ s.size) : opens s = decide (sumS (bodyB s) = num (bytsOf (tailB s))) := by
  rw [Bool.eq_iff_iff, decide_eq_true_eq]
  unfold opens
  rw [beq_iff_eq, split_b s h2]
  show bytsOf (bodyB s) ++ be 2 (sumS (bodyB s)) = _ ↔ _
  rw [List.append_cancel_left_eq]
  exact be_iff _ _ (tail_len s h2) (sumS_lt _)
theorem fs_open (s : ByteArray) (hs : s.size ≤ 100000) : Fs Try.prog nro 12 [.v (.string s)] (hp [] []) fun r _ => r = .v (openV s) := by
  by_cases h2 : s.size < 2
  · refine Fs.of_call (knownL nro) (t_open s fun r => r = .v (openV s)) (holds_bif (fun _ => ⟨trivial, ?_⟩) fun h => ?_)
    · unfold openV; rw [if_pos h2]
    · have := of_decide_eq_false h; omega
  · have t := t_open s fun r => r = .v (openV s)
    rw [hw2 s (by omega) hs, Int.toNat_natCast] at t
    have hb := body_size s
    refine Fs.of_call (knownL nro) t (holds_bif (fun h => ?_) fun _ => holds_bif (fun h => ?_) fun h => ?_)
    · have := of_decide_eq_true h; omega
    · have ho : opens s = false := by
        rw [ByteArray.toList_eq, ByteArray.toList_eq] at h
        simpa [opens, bytsOf, bodyB] using h
      refine ⟨?_, ?_⟩
      · with_reducible refine cdb_iff.2 ⟨cdb_iff.2 ⟨trivial, decide_eq_true ⟨?_, ?_, ?_⟩⟩, decide_eq_true ?_⟩ <;> first | omega | exact Nat.le_trans hb hs
      · unfold openV; rw [if_neg h2, ho]; rfl
    · have ho : opens s = true := by
        rw [ByteArray.toList_eq, ByteArray.toList_eq] at h
        simpa [opens, bytsOf, bodyB] using h
      refine ⟨?_, ?_⟩
      · with_reducible refine cdb_iff.2 ⟨cdb_iff.2 ⟨trivial, decide_eq_true ⟨?_, ?_, ?_⟩⟩, decide_eq_true ?_⟩ <;> first | omega | exact Nat.le_trans hb hs
      · unfold openV; rw [if_neg h2, ho]; rfl
theorem fs_ropen (s : ByteArray) (hs : s.size ≤ 100000) : Fs Try.prog nro 13 [.v (.string s)] (hp [] []) fun r _ => r = .v (openV s) := by
  by_cases h2 : s.size < 2
  · refine Fs.of_call (knownK nro) (t_ropen s fun r => r = .v (openV s)) (holds_bif (fun _ => ⟨trivial, ?_⟩) fun h => ?_)
    · unfold openV; rw [if_pos h2]
    · have := of_decide_eq_false h; omega
  · have t := t_ropen s fun r => r = .v (openV s)
    rw [hw2 s (by omega) hs, Int.toNat_natCast, Int.toNat_natCast] at t
    have hb := body_size s
    have ho := opens_iff s (by omega)
    have ht := tail_len s (by omega)
    rw [len_byts] at ht
    have hb6 : (s.extract 0 (s.size - 2)).size ≤ 100000 := Nat.le_trans hb hs
    have ht6 : (s.extract (s.size - 2) s.size).size ≤ 6 := by
      have : (s.extract (s.size - 2) s.size).size = 2 := ht
      omega
    refine Fs.of_call (knownK nro) t (holds_bif (fun h => ?_) fun _ => holds_bif (fun h => ?_) fun h => ?_)
    · have := of_decide_eq_true h; omega
    · have hne : ¬ sumS (bodyB s) = num (bytsOf (tailB s)) := fun e => by
        have h : (((sumS (bodyB s) : Nat) : Int) != ((num (bytsOf (tailB s)) : Nat) : Int)) = true := h
        rw [e] at h; simp at h
      rw [decide_eq_false hne] at ho
      refine ⟨?_, ?_⟩
      · repeat' first
          | with_reducible exact trivial
          | with_reducible refine cdb_iff.2 ⟨?_, ?_⟩
        all_goals (refine decide_eq_true ?_; first | with_reducible exact hb6 | with_reducible exact ht6 | omega)
      · unfold openV; rw [if_neg h2, ho]; rfl
    · have he : sumS (bodyB s) = num (bytsOf (tailB s)) := by
        have h : (((sumS (bodyB s) : Nat) : Int) != ((num (bytsOf (tailB s)) : Nat) : Int)) = false := h
        have h : ((sumS (bodyB s) : Nat) : Int) = ((num (bytsOf (tailB s)) : Nat) : Int) := by simpa using h
        exact Int.ofNat_inj.1 h
      have sz : s.size ≤ 100000 := hs
      rw [decide_eq_true he] at ho
      refine ⟨?_, ?_⟩
      · repeat' first
          | with_reducible exact trivial
          | with_reducible refine cdb_iff.2 ⟨?_, ?_⟩
        all_goals (refine decide_eq_true ?_; first | with_reducible exact hb6 | with_reducible exact ht6 | with_reducible exact sz | omega)
      · unfold openV; rw [if_neg h2, ho]; rfl
def openS (s : ByteArray) : ByteArray := if s.size < 2 then ⟨#[]⟩ else if opens s then bodyB s else ⟨#[]⟩
def openE (s : ByteArray) : Int := if s.size < 2 then 3 else if opens s then 0 else 4
theorem openV_eq (s : ByteArray) : openV s = .tuple #[.string (openS s), .int .i64 (openE s)] := by
  unfold openV openS openE
  by_cases h : s.size < 2
  · rw [if_pos h, if_pos h, if_pos h]
  · rw [if_neg h, if_neg h, if_neg h]
    cases opens s <;> rfl
def openP : List Value → Option (Value × Bool) := fun us => match us with
  | [.string s] => some (.tuple #[.string (openS s), .int .i64 (openE s)], decide (s.size ≤ 100000))
  | _ => none
theorem open_ok (ro : Nat → Option (List Value)) : ∀ args H r H', pure? openP args H = some (r, H') → HSound1 Try.prog ro 12 args H r H' := by
  refine pure_ok (fun us c hs => Fs.ro ?_ ro) (has_fn (by kernel_rfl))
  unfold openP at hs
  split at hs
  · rename_i s
    simp only [Option.some.injEq, Prod.mk.injEq, decide_eq_true_eq] at hs
    obtain ⟨rfl, h⟩ := hs
    rw [← openV_eq]
    exact fs_open s h
  · cases hs
theorem ropen_ok (ro : Nat → Option (List Value)) : ∀ args H r H', pure? openP args H = some (r, H') → HSound1 Try.prog ro 13 args H r H' := by
  refine pure_ok (fun us c hs => Fs.ro ?_ ro) (has_fn (by kernel_rfl))
  unfold openP at hs
  split at hs
  · rename_i s
    simp only [Option.some.injEq, Prod.mk.injEq, decide_eq_true_eq] at hs
    obtain ⟨rfl, h⟩ := hs
    rw [← openV_eq]
    exact fs_ropen s h
  · cases hs
end Go.Proofs.Ytbnhhacjoabpaaa.AE
namespace Go.Proofs.Ytbnhhacjoabpaaa
namespace Cr
/-- A bit further: the first and the last one that are unlike. -/
def apStep (p : Int × Int) (k : Nat) (d : Bool) : Int × Int := if d then (if p.1 < 0 then (k : Int) else p.1, (k : Int)) else p
def apS (D : List Bool) : Nat → Int × Int
  | 0 => (-1, -2)
  | k + 1 => apStep (apS D k) k (D.getD k false)
def fT : List Bool → Nat
  | [] => 0
  | d :: l => if d then 0 else fT l + 1
def lT : List Bool → Nat
  | [] => 0
  | _ :: l => if l.any id then lT l + 1 else 0
def runL (p : Int × Int) (base : Nat) : List Bool → Int × Int
  | [] => p
  | d :: l => runL (apStep p base d) (base + 1) l
theorem runL_eq : ∀ (l : List Bool) (p : Int × Int) (base : Nat), runL p base l = if l.any id then (if p.1 < 0 then ((base + fT l : Nat) : Int) else p.1, ((base + lT l : Nat) : Int)) else p
  | [], p, base => rfl
  | d :: l, p, base => by
    show runL (apStep p base d) (base + 1) l = _
    rw [runL_eq l]
    cases d with
    | false =>
      have e : apStep p base false = p := rfl
      have e2 : (false :: l).any id = l.any id := by simp
      rw [e, e2]
      cases h : l.any id with
      | false => rfl
      | true =>
        have e3 : fT (false :: l) = fT l + 1 := rfl
        have e4 : lT (false :: l) = lT l + 1 := by show (if l.any id then _ else _) = _; rw [h]; rfl
        rw [e3, e4]
        simp only [if_true]
        have a1 : base + 1 + fT l = base + (fT l + 1) := by omega
        have a2 : base + 1 + lT l = base + (lT l + 1) := by omega
        rw [a1, a2]
    | true =>
      have e : apStep p base true = (if p.1 < 0 then (base : Int) else p.1, (base : Int)) := rfl
      have e2 : (true :: l).any id = true := by simp
      have e3 : fT (true :: l) = 0 := rfl
      rw [e, e2, e3]
      have hn : ¬ (if p.1 < 0 then (base : Int) else p.1) < 0 := by split <;> omega
      cases h : l.any id with
      | false =>
        have e4 : lT (true :: l) = 0 := by show (if l.any id then _ else _) = _; rw [h]; rfl
        rw [e4]; rfl
      | true =>
        have e4 : lT (true :: l) = lT l + 1 := by show (if l.any id then _ else _) = _; rw [h]; rfl
        rw [e4]
        simp only [if_true, if_neg hn]
        have a2 : base + 1 + lT l = base + (lT l + 1) := by omega
        rw [a2]; rfl
theorem runL_apS (D : List Bool) (l : List Bool) (k : Nat) (h : ∀ i, i < l.length → D.getD (k + i) false = l.getD i false) : runL (apS D k) k l = apS D (k + l.length) := by
  induction l generalizing k with
  | nil => rfl
  | cons d l ih =>
    have h0 : D.getD k false = d := by have := h 0 (by simp); simpa using this
    show runL (apStep (apS D k) k d) (k + 1) l = _
    have e : apStep (apS D k) k d = apS D (k + 1) := by show _ = apStep (apS D k) k (D.getD k false); rw [h0]
    rw [e, ih (k + 1) (fun i hi => by
      have := h (i + 1) (by simp; omega)
      rw [show k + 1 + i = k + (i + 1) by omega, this]; simp)]
    rw [List.length_cons]; congr 1; omega
def lzV (u : Nat) : Nat := if u = 0 then 8 else fT (bitsB u)
def tzV (u : Nat) : Nat := if u = 0 then 8 else 7 - lT (bitsB u)
theorem byte_any : ∀ u, u < 256 → (bitsB u).any id = !decide (u = 0) := by decide +kernel
theorem byte_lt : ∀ u, u < 256 → lT (bitsB u) ≤ 7 := by decide +kernel
theorem ap_byte (D : List Bool) (j u : Nat) (hu : u < 256) (h : ∀ i, i < 8 → D.getD (8 * j + i) false = bitN u i) :
    apS D (8 * (j + 1)) = if u = 0 then apS D (8 * j) else (if (apS D (8 * j)).1 < 0 then ((8 * j + lzV u : Nat) : Int) else (apS D (8 * j)).1, ((8 * j + 7 - tzV u : Nat) : Int)) := by
  have hr := runL_apS D (bitsB u) (8 * j) (fun i hi => by
    have hi : i < 8 := hi
    rw [h i hi]
    have : i = 0 ∨ i = 1 ∨ i = 2 ∨ i = 3 ∨ i = 4 ∨ i = 5 ∨ i = 6 ∨ i = 7 := by omega
    rcases this with h | h | h | h | h | h | h | h <;> subst h <;> rfl)
  rw [show 8 * j + (bitsB u).length = 8 * (j + 1) from rfl, runL_eq, byte_any u hu] at hr
  rw [← hr]
  have hl := byte_lt u hu
  unfold lzV tzV
  by_cases h0 : u = 0
  · simp [h0]
  · simp only [h0, decide_false, Bool.not_false, if_true, if_false]
    have a2 : 8 * j + lT (bitsB u) = 8 * j + 7 - (7 - lT (bitsB u)) := by omega
    rw [a2]
/-- The first one is below zero as long as there is none; else the last one is not below it. -/
theorem ap_rng (D : List Bool) : ∀ k, ((apS D k).1 = -1 ∧ (apS D k).2 = -2) ∨ (0 ≤ (apS D k).1 ∧ (apS D k).1 ≤ (apS D k).2 ∧ (apS D k).2 < k)
  | 0 => .inl ⟨rfl, rfl⟩
  | k + 1 => by
    have ih := ap_rng D k
    show ((apStep (apS D k) k (D.getD k false)).1 = _ ∧ (apStep (apS D k) k (D.getD k false)).2 = _) ∨ (0 ≤ (apStep (apS D k) k (D.getD k false)).1 ∧ (apStep (apS D k) k (D.getD k false)).1 ≤ (apStep (apS D k) k (D.getD k false)).2 ∧ (apStep (apS D k) k (D.getD k false)).2 < ((k + 1 : Nat) : Int))
    unfold apStep
    generalize apS D k = p at ih
    cases D.getD k false with
    | false => simp only [Bool.false_eq_true, if_false]; rcases ih with ih | ih
               · exact .inl ih
               · exact .inr ⟨ih.1, ih.2.1, by omega⟩
    | true =>
      simp only [if_true]
      refine .inr ?_
      split <;> (refine ⟨?_, ?_, ?_⟩ <;> omega)
def unl (l m : List Bool) : List Bool := List.zipWith (· != ·) l m
theorem unl_get (l m : List Bool) (i : Nat) (hl : i < l.length) (hm : i < m.length) : (unl l m).getD i false = (l.getD i false != m.getD i false) := by
  unfold unl
  rw [List.getD_eq_getElem?_getD, List.getD_eq_getElem?_getD, List.getD_eq_getElem?_getD, List.getElem?_zipWith, List.getElem?_eq_getElem hl, List.getElem?_eq_getElem hm]
  rfl
theorem xor_bit : ∀ i, i < 8 → ∀ a, a < 256 → ∀ b, b < 256 → bitN (a ^^^ b) i = (bitN a i != bitN b i) := by
  intro i hi a ha b hb
  have h : ∀ x, bitN x i = x.testBit (7 - i) := by
    intro x
    unfold bitN
    rw [Nat.testBit_eq_decide_div_mod_eq]
  rw [h, h, h, Nat.testBit_xor]
end Cr
end Go.Proofs.Ytbnhhacjoabpaaa
namespace Go.Proofs.Ytbnhhacjoabpaaa.AE
open Go.RowKit Cr Oc
theorem t_lz (b : Int) (Φ : AV → Prop) : callK nro (fun _ => false) (fun _ => none) 5 23 [.v (.int .u8 b)] (hp [] []) (fun r h => some (h.cd ∧ Φ r)) =
    (some ((cdb True (decide (((0 : Int) ≤ b) ∧ ((Int.toNat b) < (256 : Nat))))) ∧ (Φ (AV.v (Value.int IntKind.i64 (IntKind.wrap IntKind.i64 ((8 : Int) - (IntKind.wrap IntKind.i64 ((UInt8.toNat (Array.getD #[(@OfNat.ofNat UInt8 (0 : Nat) (@UInt8.instOfNat 0)), (@OfNat.ofNat UInt8 (1 : Nat) (@UInt8.instOfNat 1)), (@OfNat.ofNat UInt8 (2 : Nat) (@UInt8.instOfNat 2)), (@OfNat.ofNat UInt8 (2 : Nat) (@UInt8.instOfNat 2)), (@OfNat.ofNat UInt8 (3 : Nat) (@UInt8.instOfNat 3)), (@OfNat.ofNat UInt8 (3 : Nat) (@UInt8.instOfNat 3)), (@OfNat.ofNat UInt8 (3 : Nat) (@UInt8.instOfNat 3)), (@OfNat.ofNat UInt8 (3 : Nat) (@UInt8.instOfNat 3)), (@OfNat.ofNat UInt8 (4 : Nat) (@UInt8.instOfNat 4)), (@OfNat.ofNat UInt8 (4 : Nat) (@UInt8.instOfNat 4)), (@OfNat.ofNat UInt8 (4 : Nat) (@UInt8.instOfNat 4)), (@OfNat.ofNat UInt8 (4 : Nat) (@UInt8.instOfNat 4)), (@OfNat.ofNat UInt8 (4 : Nat) (@UInt8.instOfNat 4)), (@OfNat.ofNat UInt8 (4 : Nat) (@UInt8.instOfNat 4)), (@OfNat.ofNat UInt8 (4 : Nat) (@UInt8.instOfNat 4)), (@OfNat.ofNat UInt8 (4 : Nat) (@UInt8.instOfNat 4)), (@OfNat.ofNat UInt8 (5 : Nat) (@UInt8.instOfNat 5)), (@OfNat.ofNat UInt8 (5 : Nat) (@UInt8.instOfNat 5)), (@OfNat.ofNat UInt8 (5 : Nat) (@UInt8.instOfNat 5)), (@OfNat.ofNat UInt8 (5 : Nat) (@UInt8.instOfNat 5)), (@OfNat.ofNat UInt8 (5 : Nat) (@UInt8.instOfNat 5)), (@OfNat.ofNat UInt8 (5 : Nat) (@UInt8.instOfNat 5)), (@OfNat.ofNat UInt8 (5 : Nat) (@UInt8.instOfNat 5)), (@OfNat.ofNat UInt8 (5 : Nat) (@UInt8.instOfNat 5)), (@OfNat.ofNat UInt8 (5 : Nat) (@UInt8.instOfNat 5)), (@OfNat.ofNat UInt8 (5 : Nat) (@UInt8.instOfNat 5)), (@OfNat.ofNat UInt8 (5 : Nat) (@UInt8.instOfNat 5)), (@OfNat.ofNat UInt8 (5 : Nat) (@UInt8.instOfNat 5)), (@OfNat.ofNat UInt8 (5 : Nat) (@UInt8.instOfNat 5)), (@OfNat.ofNat UInt8 (5 : Nat) (@UInt8.instOfNat 5)), (@OfNat.ofNat UInt8 (5 : Nat) (@UInt8.instOfNat 5)), (@OfNat.ofNat UInt8 (5 : Nat) (@UInt8.instOfNat 5)), (@OfNat.ofNat UInt8 (6 : Nat) (@UInt8.instOfNat 6)), (@OfNat.ofNat UInt8 (6 : Nat) (@UInt8.instOfNat 6)), (@OfNat.ofNat UInt8 (6 : Nat) (@UInt8.instOfNat 6)), (@OfNat.ofNat UInt8 (6 : Nat) (@UInt8.instOfNat 6)), (@OfNat.ofNat UInt8 (6 : Nat) (@UInt8.instOfNat 6)), (@OfNat.ofNat UInt8 (6 : Nat) (@UInt8.instOfNat 6)), (@OfNat.ofNat UInt8 (6 : Nat) (@UInt8.instOfNat 6)), (@OfNat.ofNat UInt8 (6 : Nat) (@UInt8.instOfNat 6)), (@OfNat.ofNat UInt8 (6 : Nat) (@UInt8.instOfNat 6)), (@OfNat.ofNat UInt8 (6 : Nat) (@UInt8.instOfNat 6)), (@OfNat.ofNat UInt8 (6 : Nat) (@UInt8.instOfNat 6)), (@OfNat.ofNat UInt8 (6 : Nat) (@UInt8.instOfNat 6)), (@OfNat.ofNat UInt8 (6 : Nat) (@UInt8.instOfNat 6)), (@OfNat.ofNat UInt8 (6 : Nat) (@UInt8.instOfNat 6)), (@OfNat.ofNat UInt8 (6 : Nat) (@UInt8.instOfNat 6)), (@OfNat.ofNat UInt8 (6 : Nat) (@UInt8.instOfNat 6)), (@OfNat.ofNat UInt8 (6 : Nat) (@UInt8.instOfNat 6)), (@OfNat.ofNat UInt8 (6 : Nat) (@UInt8.instOfNat 6)), (@OfNat.ofNat UInt8 (6 : Nat) (@UInt8.instOfNat 6)), (@OfNat.ofNat UInt8 (6 : Nat) (@UInt8.instOfNat 6)), (@OfNat.ofNat UInt8 (6 : Nat) (@UInt8.instOfNat 6)), (@OfNat.ofNat UInt8 (6 : Nat) (@UInt8.instOfNat 6)), (@OfNat.ofNat UInt8 (6 : Nat) (@UInt8.instOfNat 6)), (@OfNat.ofNat UInt8 (6 : Nat) (@UInt8.instOfNat 6)), (@OfNat.ofNat UInt8 (6 : Nat) (@UInt8.instOfNat 6)), (@OfNat.ofNat UInt8 (6 : Nat) (@UInt8.instOfNat 6)), (@OfNat.ofNat UInt8 (6 : Nat) (@UInt8.instOfNat 6)), (@OfNat.ofNat UInt8 (6 : Nat) (@UInt8.instOfNat 6)), (@OfNat.ofNat UInt8 (6 : Nat) (@UInt8.instOfNat 6)), (@OfNat.ofNat UInt8 (6 : Nat) (@UInt8.instOfNat 6)), (@OfNat.ofNat UInt8 (6 : Nat) (@UInt8.instOfNat 6)), (@OfNat.ofNat UInt8 (6 : Nat) (@UInt8.instOfNat 6)), (@OfNat.ofNat UInt8 (7 : Nat) (@UInt8.instOfNat 7)), (@OfNat.ofNat UInt8 (7 : Nat) (@UInt8.instOfNat 7)), (@OfNat.ofNat UInt8 (7 : Nat) (@UInt8.instOfNat 7)), (@OfNat.ofNat UInt8 (7 : Nat) (@UInt8.instOfNat 7)), (@OfNat.ofNat UInt8 (7 : Nat) (@UInt8.instOfNat 7)), (@OfNat.ofNat UInt8 (7 : Nat) (@UInt8.instOfNat 7)), (@OfNat.ofNat UInt8 (7 : Nat) (@UInt8.instOfNat 7)), (@OfNat.ofNat UInt8 (7 : Nat) (@UInt8.instOfNat 7)), (@OfNat.ofNat UInt8 (7 : Nat) (@UInt8.instOfNat 7)), (@OfNat.ofNat UInt8 (7 : Nat) (@UInt8.instOfNat 7)), (@OfNat.ofNat UInt8 (7 : Nat) (@UInt8.instOfNat 7)), (@OfNat.ofNat UInt8 (7 : Nat) (@UInt8.instOfNat 7)), (@OfNat.ofNat UInt8 (7 : Nat) (@UInt8.instOfNat 7)), (@OfNat.ofNat UInt8 (7 : Nat) (@UInt8.instOfNat 7)), (@OfNat.ofNat UInt8 (7 : Nat) (@UInt8.instOfNat 7)), (@OfNat.ofNat UInt8 (7 : Nat) (@UInt8.instOfNat 7)), (@OfNat.ofNat UInt8 (7 : Nat) (@UInt8.instOfNat 7)), (@OfNat.ofNat UInt8 (7 : Nat) (@UInt8.instOfNat 7)), (@OfNat.ofNat UInt8 (7 : Nat) (@UInt8.instOfNat 7)), (@OfNat.ofNat UInt8 (7 : Nat) (@UInt8.instOfNat 7)), (@OfNat.ofNat UInt8 (7 : Nat) (@UInt8.instOfNat 7)), (@OfNat.ofNat UInt8 (7 : Nat) (@UInt8.instOfNat 7)), (@OfNat.ofNat UInt8 (7 : Nat) (@UInt8.instOfNat 7)), (@OfNat.ofNat UInt8 (7 : Nat) (@UInt8.instOfNat 7)), (@OfNat.ofNat UInt8 (7 : Nat) (@UInt8.instOfNat 7)), (@OfNat.ofNat UInt8 (7 : Nat) (@UInt8.instOfNat 7)), (@OfNat.ofNat UInt8 (7 : Nat) (@UInt8.instOfNat 7)), (@OfNat.ofNat UInt8 (7 : Nat) (@UInt8.instOfNat 7)), (@OfNat.ofNat UInt8 (7 : Nat) (@UInt8.instOfNat 7)), (@OfNat.ofNat UInt8 (7 : Nat) (@UInt8.instOfNat 7)), (@OfNat.ofNat UInt8 (7 : Nat) (@UInt8.instOfNat 7)), (@OfNat.ofNat UInt8 (7 : Nat) (@UInt8.instOfNat 7)), (@OfNat.ofNat UInt8 (7 : Nat) (@UInt8.instOfNat 7)), (@OfNat.ofNat UInt8 (7 : Nat) (@UInt8.instOfNat 7)), (@OfNat.ofNat UInt8 (7 : Nat) (@UInt8.instOfNat 7)), (@OfNat.ofNat UInt8 (7 : Nat) (@UInt8.instOfNat 7)), (@OfNat.ofNat UInt8 (7 : Nat) (@UInt8.instOfNat 7)), (@OfNat.ofNat UInt8 (7 : Nat) (@UInt8.instOfNat 7)), (@OfNat.ofNat UInt8 (7 : Nat) (@UInt8.instOfNat 7)), (@OfNat.ofNat UInt8 (7 : Nat) (@UInt8.instOfNat 7)), (@OfNat.ofNat UInt8 (7 : Nat) (@UInt8.instOfNat 7)), (@OfNat.ofNat UInt8 (7 : Nat) (@UInt8.instOfNat 7)), (@OfNat.ofNat UInt8 (7 : Nat) (@UInt8.instOfNat 7)), (@OfNat.ofNat UInt8 (7 : Nat) (@UInt8.instOfNat 7)), (@OfNat.ofNat UInt8 (7 : Nat) (@UInt8.instOfNat 7)), (@OfNat.ofNat UInt8 (7 : Nat) (@UInt8.instOfNat 7)), (@OfNat.ofNat UInt8 (7 : Nat) (@UInt8.instOfNat 7)), (@OfNat.ofNat UInt8 (7 : Nat) (@UInt8.instOfNat 7)), (@OfNat.ofNat UInt8 (7 : Nat) (@UInt8.instOfNat 7)), (@OfNat.ofNat UInt8 (7 : Nat) (@UInt8.instOfNat 7)), (@OfNat.ofNat UInt8 (7 : Nat) (@UInt8.instOfNat 7)), (@OfNat.ofNat UInt8 (7 : Nat) (@UInt8.instOfNat 7)), (@OfNat.ofNat UInt8 (7 : Nat) (@UInt8.instOfNat 7)), (@OfNat.ofNat UInt8 (7 : Nat) (@UInt8.instOfNat 7)), (@OfNat.ofNat UInt8 (7 : Nat) (@UInt8.instOfNat 7)), (@OfNat.ofNat UInt8 (7 : Nat) (@UInt8.instOfNat 7)), (@OfNat.ofNat UInt8 (7 : Nat) (@UInt8.instOfNat 7)), (@OfNat.ofNat UInt8 (7 : Nat) (@UInt8.instOfNat 7)), (@OfNat.ofNat UInt8 (7 : Nat) (@UInt8.instOfNat 7)), (@OfNat.ofNat UInt8 (7 : Nat) (@UInt8.instOfNat 7)), (@OfNat.ofNat UInt8 (7 : Nat) (@UInt8.instOfNat 7)), (@OfNat.ofNat UInt8 (7 : Nat) (@UInt8.instOfNat 7)), (@OfNat.ofNat UInt8 (7 : Nat) (@UInt8.instOfNat 7)), (@OfNat.ofNat UInt8 (7 : Nat) (@UInt8.instOfNat 7)), (@OfNat.ofNat UInt8 (8 : Nat) (@UInt8.instOfNat 8)), (@OfNat.ofNat UInt8 (8 : Nat) (@UInt8.instOfNat 8)), (@OfNat.ofNat UInt8 (8 : Nat) (@UInt8.instOfNat 8)), (@OfNat.ofNat UInt8 (8 : Nat) (@UInt8.instOfNat 8)), (@OfNat.ofNat UInt8 (8 : Nat) (@UInt8.instOfNat 8)), (@OfNat.ofNat UInt8 (8 : Nat) (@UInt8.instOfNat 8)), (@OfNat.ofNat UInt8 (8 : Nat) (@UInt8.instOfNat 8)), (@OfNat.ofNat UInt8 (8 : Nat) (@UInt8.instOfNat 8)), (@OfNat.ofNat UInt8 (8 : Nat) (@UInt8.instOfNat 8)), (@OfNat.ofNat UInt8 (8 : Nat) (@UInt8.instOfNat 8)), (@OfNat.ofNat UInt8 (8 : Nat) (@UInt8.instOfNat 8)), (@OfNat.ofNat UInt8 (8 : Nat) (@UInt8.instOfNat 8)), (@OfNat.ofNat UInt8 (8 : Nat) (@UInt8.instOfNat 8)), (@OfNat.ofNat UInt8 (8 : Nat) (@UInt8.instOfNat 8)), (@OfNat.ofNat UInt8 (8 : Nat) (@UInt8.instOfNat 8)), (@OfNat.ofNat UInt8 (8 : Nat) (@UInt8.instOfNat 8)), (@OfNat.ofNat UInt8 (8 : Nat) (@UInt8.instOfNat 8)), (@OfNat.ofNat UInt8 (8 : Nat) (@UInt8.instOfNat 8)), (@OfNat.ofNat UInt8 (8 : Nat) (@UInt8.instOfNat 8)), (@OfNat.ofNat UInt8 (8 : Nat) (@UInt8.instOfNat 8)), (@OfNat.ofNat UInt8 (8 : Nat) (@UInt8.instOfNat 8)), (@OfNat.ofNat UInt8 (8 : Nat) (@UInt8.instOfNat 8)), (@OfNat.ofNat UInt8 (8 : Nat) (@UInt8.instOfNat 8)), (@OfNat.ofNat UInt8 (8 : Nat) (@UInt8.instOfNat 8)), (@OfNat.ofNat UInt8 (8 : Nat) (@UInt8.instOfNat 8)), (@OfNat.ofNat UInt8 (8 : Nat) (@UInt8.instOfNat 8)), (@OfNat.ofNat UInt8 (8 : Nat) (@UInt8.instOfNat 8)), (@OfNat.ofNat UInt8 (8 : Nat) (@UInt8.instOfNat 8)), (@OfNat.ofNat UInt8 (8 : Nat) (@UInt8.instOfNat 8)), (@OfNat.ofNat UInt8 (8 : Nat) (@UInt8.instOfNat 8)), (@OfNat.ofNat UInt8 (8 : Nat) (@UInt8.instOfNat 8)), (@OfNat.ofNat UInt8 (8 : Nat) (@UInt8.instOfNat 8)), (@OfNat.ofNat UInt8 (8 : Nat) (@UInt8.instOfNat 8)), (@OfNat.ofNat UInt8 (8 : Nat) (@UInt8.instOfNat 8)), (@OfNat.ofNat UInt8 (8 : Nat) (@UInt8.instOfNat 8)), (@OfNat.ofNat UInt8 (8 : Nat) (@UInt8.instOfNat 8)), (@OfNat.ofNat UInt8 (8 : Nat) (@UInt8.instOfNat 8)), (@OfNat.ofNat UInt8 (8 : Nat) (@UInt8.instOfNat 8)), (@OfNat.ofNat UInt8 (8 : Nat) (@UInt8.instOfNat 8)), (@OfNat.ofNat UInt8 (8 : Nat) (@UInt8.instOfNat 8)), (@OfNat.ofNat UInt8 (8 : Nat) (@UInt8.instOfNat 8)), (@OfNat.ofNat UInt8 (8 : Nat) (@UInt8.instOfNat 8)), (@OfNat.ofNat UInt8 (8 : Nat) (@UInt8.instOfNat 8)), (@OfNat.ofNat UInt8 (8 : Nat) (@UInt8.instOfNat 8)), (@OfNat.ofNat UInt8 (8 : Nat) (@UInt8.instOfNat 8)), (@OfNat.ofNat UInt8 (8 : Nat) (@UInt8.instOfNat 8)), (@OfNat.ofNat UInt8 (8 : Nat) (@UInt8.instOfNat 8)), (@OfNat.ofNat UInt8 (8 : Nat) (@UInt8.instOfNat 8)), (@OfNat.ofNat UInt8 (8 : Nat) (@UInt8.instOfNat 8)), (@OfNat.ofNat UInt8 (8 : Nat) (@UInt8.instOfNat 8)), (@OfNat.ofNat UInt8 (8 : Nat) (@UInt8.instOfNat 8)), (@OfNat.ofNat UInt8 (8 : Nat) (@UInt8.instOfNat 8)), (@OfNat.ofNat UInt8 (8 : Nat) (@UInt8.instOfNat 8)), (@OfNat.ofNat UInt8 (8 : Nat) (@UInt8.instOfNat 8)), (@OfNat.ofNat UInt8 (8 : Nat) (@UInt8.instOfNat 8)), (@OfNat.ofNat UInt8 (8 : Nat) (@UInt8.instOfNat 8)), (@OfNat.ofNat UInt8 (8 : Nat) (@UInt8.instOfNat 8)), (@OfNat.ofNat UInt8 (8 : Nat) (@UInt8.instOfNat 8)), (@OfNat.ofNat UInt8 (8 : Nat) (@UInt8.instOfNat 8)), (@OfNat.ofNat UInt8 (8 : Nat) (@UInt8.instOfNat 8)), (@OfNat.ofNat UInt8 (8 : Nat) (@UInt8.instOfNat 8)), (@OfNat.ofNat UInt8 (8 : Nat) (@UInt8.instOfNat 8)), (@OfNat.ofNat UInt8 (8 : Nat) (@UInt8.instOfNat 8)), (@OfNat.ofNat UInt8 (8 : Nat) (@UInt8.instOfNat 8)), (@OfNat.ofNat UInt8 (8 : Nat) (@UInt8.instOfNat 8)), (@OfNat.ofNat UInt8 (8 : Nat) (@UInt8.instOfNat 8)), (@OfNat.ofNat UInt8 (8 : Nat) (@UInt8.instOfNat 8)), (@OfNat.ofNat UInt8 (8 : Nat) (@UInt8.instOfNat 8)), (@OfNat.ofNat UInt8 (8 : Nat) (@UInt8.instOfNat 8)), (@OfNat.ofNat UInt8 (8 : Nat) (@UInt8.instOfNat 8)), (@OfNat.ofNat UInt8 (8 : Nat) (@UInt8.instOfNat 8)), (@OfNat.ofNat UInt8 (8 : Nat) (@UInt8.instOfNat 8)), (@OfNat.ofNat UInt8 (8 : Nat) (@UInt8.instOfNat 8)), (@OfNat.ofNat UInt8 (8 : Nat) (@UInt8.instOfNat 8)), (@OfNat.ofNat UInt8 (8 : Nat) (@UInt8.instOfNat 8)), (@OfNat.ofNat UInt8 (8 : Nat) (@UInt8.instOfNat 8)), (@OfNat.ofNat UInt8 (8 : Nat) (@UInt8.instOfNat 8)), (@OfNat.ofNat UInt8 (8 : Nat) (@UInt8.instOfNat 8)), (@OfNat.ofNat UInt8 (8 : Nat) (@UInt8.instOfNat 8)), (@OfNat.ofNat UInt8 (8 : Nat) (@UInt8.instOfNat 8)), (@OfNat.ofNat UInt8 (8 : Nat) (@UInt8.instOfNat 8)), (@OfNat.ofNat UInt8 (8 : Nat) (@UInt8.instOfNat 8)), (@OfNat.ofNat UInt8 (8 : Nat) (@UInt8.instOfNat 8)), (@OfNat.ofNat UInt8 (8 : Nat) (@UInt8.instOfNat 8)), (@OfNat.ofNat UInt8 (8 : Nat) (@UInt8.instOfNat 8)), (@OfNat.ofNat UInt8 (8 : Nat) (@UInt8.instOfNat 8)), (@OfNat.ofNat UInt8 (8 : Nat) (@UInt8.instOfNat 8)), (@OfNat.ofNat UInt8 (8 : Nat) (@UInt8.instOfNat 8)), (@OfNat.ofNat UInt8 (8 : Nat) (@UInt8.instOfNat 8)), (@OfNat.ofNat UInt8 (8 : Nat) (@UInt8.instOfNat 8)), (@OfNat.ofNat UInt8 (8 : Nat) (@UInt8.instOfNat 8)), (@OfNat.ofNat UInt8 (8 : Nat) (@UInt8.instOfNat 8)), (@OfNat.ofNat UInt8 (8 : Nat) (@UInt8.instOfNat 8)), (@OfNat.ofNat UInt8 (8 : Nat) (@UInt8.instOfNat 8)), (@OfNat.ofNat UInt8 (8 : Nat) (@UInt8.instOfNat 8)), (@OfNat.ofNat UInt8 (8 : Nat) (@UInt8.instOfNat 8)), (@OfNat.ofNat UInt8 (8 : Nat) (@UInt8.instOfNat 8)), (@OfNat.ofNat UInt8 (8 : Nat) (@UInt8.instOfNat 8)), (@OfNat.ofNat UInt8 (8 : Nat) (@UInt8.instOfNat 8)), (@OfNat.ofNat UInt8 (8 : Nat) (@UInt8.instOfNat 8)), (@OfNat.ofNat UInt8 (8 : Nat) (@UInt8.instOfNat 8)), (@OfNat.ofNat UInt8 (8 : Nat) (@UInt8.instOfNat 8)), (@OfNat.ofNat UInt8 (8 : Nat) (@UInt8.instOfNat 8)), (@OfNat.ofNat UInt8 (8 : Nat) (@UInt8.instOfNat 8)), (@OfNat.ofNat UInt8 (8 : Nat) (@UInt8.instOfNat 8)), (@OfNat.ofNat UInt8 (8 : Nat) (@UInt8.instOfNat 8)), (@OfNat.ofNat UInt8 (8 : Nat) (@UInt8.instOfNat 8)), (@OfNat.ofNat UInt8 (8 : Nat) (@UInt8.instOfNat 8)), (@OfNat.ofNat UInt8 (8 : Nat) (@UInt8.instOfNat 8)), (@OfNat.ofNat UInt8 (8 : Nat) (@UInt8.instOfNat 8)), (@OfNat.ofNat UInt8 (8 : Nat) (@UInt8.instOfNat 8)), (@OfNat.ofNat UInt8 (8 : Nat) (@UInt8.instOfNat 8)), (@OfNat.ofNat UInt8 (8 : Nat) (@UInt8.instOfNat 8)), (@OfNat.ofNat UInt8 (8 : Nat) (@UInt8.instOfNat 8)), (@OfNat.ofNat UInt8 (8 : Nat) (@UInt8.instOfNat 8)), (@OfNat.ofNat UInt8 (8 : Nat) (@UInt8.instOfNat 8)), (@OfNat.ofNat UInt8 (8 : Nat) (@UInt8.instOfNat 8)), (@OfNat.ofNat UInt8 (8 : Nat) (@UInt8.instOfNat 8)), (@OfNat.ofNat UInt8 (8 : Nat) (@UInt8.instOfNat 8)), (@OfNat.ofNat UInt8 (8 : Nat) (@UInt8.instOfNat 8)), (@OfNat.ofNat UInt8 (8 : Nat) (@UInt8.instOfNat 8)), (@OfNat.ofNat UInt8 (8 : Nat) (@UInt8.instOfNat 8)), (@OfNat.ofNat UInt8 (8 : Nat) (@UInt8.instOfNat 8)), (@OfNat.ofNat UInt8 (8 : Nat) (@UInt8.instOfNat 8)), (@OfNat.ofNat UInt8 (8 : Nat) (@UInt8.instOfNat 8)), (@OfNat.ofNat UInt8 (8 : Nat) (@UInt8.instOfNat 8)), (@OfNat.ofNat UInt8 (8 : Nat) (@UInt8.instOfNat 8)), (@OfNat.ofNat UInt8 (8 : Nat) (@UInt8.instOfNat 8))] (Int.toNat b) (@OfNat.ofNat UInt8 (0 : Nat) (@UInt8.instOfNat 0)))) : Int))))))))) := by kernel_rfl
theorem t_tz (b : Int) (Φ : AV → Prop) : callK nro (fun _ => false) (fun _ => none) 5 24 [.v (.int .u8 b)] (hp [] []) (fun r h => some (h.cd ∧ Φ r)) =
    (some ((cdb True (decide (((0 : Int) ≤ b) ∧ ((Int.toNat b) < (256 : Nat))))) ∧ (Φ (AV.v (Value.int IntKind.i64 (IntKind.wrap IntKind.i64 ((UInt8.toNat (Array.getD #[(@OfNat.ofNat UInt8 (8 : Nat) (@UInt8.instOfNat 8)), (@OfNat.ofNat UInt8 (0 : Nat) (@UInt8.instOfNat 0)), (@OfNat.ofNat UInt8 (1 : Nat) (@UInt8.instOfNat 1)), (@OfNat.ofNat UInt8 (0 : Nat) (@UInt8.instOfNat 0)), (@OfNat.ofNat UInt8 (2 : Nat) (@UInt8.instOfNat 2)), (@OfNat.ofNat UInt8 (0 : Nat) (@UInt8.instOfNat 0)), (@OfNat.ofNat UInt8 (1 : Nat) (@UInt8.instOfNat 1)), (@OfNat.ofNat UInt8 (0 : Nat) (@UInt8.instOfNat 0)), (@OfNat.ofNat UInt8 (3 : Nat) (@UInt8.instOfNat 3)), (@OfNat.ofNat UInt8 (0 : Nat) (@UInt8.instOfNat 0)), (@OfNat.ofNat UInt8 (1 : Nat) (@UInt8.instOfNat 1)), (@OfNat.ofNat UInt8 (0 : Nat) (@UInt8.instOfNat 0)), (@OfNat.ofNat UInt8 (2 : Nat) (@UInt8.instOfNat 2)), (@OfNat.ofNat UInt8 (0 : Nat) (@UInt8.instOfNat 0)), (@OfNat.ofNat UInt8 (1 : Nat) (@UInt8.instOfNat 1)), (@OfNat.ofNat UInt8 (0 : Nat) (@UInt8.instOfNat 0)), (@OfNat.ofNat UInt8 (4 : Nat) (@UInt8.instOfNat 4)), (@OfNat.ofNat UInt8 (0 : Nat) (@UInt8.instOfNat 0)), (@OfNat.ofNat UInt8 (1 : Nat) (@UInt8.instOfNat 1)), (@OfNat.ofNat UInt8 (0 : Nat) (@UInt8.instOfNat 0)), (@OfNat.ofNat UInt8 (2 : Nat) (@UInt8.instOfNat 2)), (@OfNat.ofNat UInt8 (0 : Nat) (@UInt8.instOfNat 0)), (@OfNat.ofNat UInt8 (1 : Nat) (@UInt8.instOfNat 1)), (@OfNat.ofNat UInt8 (0 : Nat) (@UInt8.instOfNat 0)), (@OfNat.ofNat UInt8 (3 : Nat) (@UInt8.instOfNat 3)), (@OfNat.ofNat UInt8 (0 : Nat) (@UInt8.instOfNat 0)), (@OfNat.ofNat UInt8 (1 : Nat) (@UInt8.instOfNat 1)), (@OfNat.ofNat UInt8 (0 : Nat) (@UInt8.instOfNat 0)), (@OfNat.ofNat UInt8 (2 : Nat) (@UInt8.instOfNat 2)), (@OfNat.ofNat UInt8 (0 : Nat) (@UInt8.instOfNat 0)), (@OfNat.ofNat UInt8 (1 : Nat) (@UInt8.instOfNat 1)), (@OfNat.ofNat UInt8 (0 : Nat) (@UInt8.instOfNat 0)), (@OfNat.ofNat UInt8 (5 : Nat) (@UInt8.instOfNat 5)), (@OfNat.ofNat UInt8 (0 : Nat) (@UInt8.instOfNat 0)), (@OfNat.ofNat UInt8 (1 : Nat) (@UInt8.instOfNat 1)), (@OfNat.ofNat UInt8 (0 : Nat) (@UInt8.instOfNat 0)), (@OfNat.ofNat UInt8 (2 : Nat) (@UInt8.instOfNat 2)), (@OfNat.ofNat UInt8 (0 : Nat) (@UInt8.instOfNat 0)), (@OfNat.ofNat UInt8 (1 : Nat) (@UInt8.instOfNat 1)), (@OfNat.ofNat UInt8 (0 : Nat) (@UInt8.instOfNat 0)), (@OfNat.ofNat UInt8 (3 : Nat) (@UInt8.instOfNat 3)), (@OfNat.ofNat UInt8 (0 : Nat) (@UInt8.instOfNat 0)), (@OfNat.ofNat UInt8 (1 : Nat) (@UInt8.instOfNat 1)), (@OfNat.ofNat UInt8 (0 : Nat) (@UInt8.instOfNat 0)), (@OfNat.ofNat UInt8 (2 : Nat) (@UInt8.instOfNat 2)), (@OfNat.ofNat UInt8 (0 : Nat) (@UInt8.instOfNat 0)), (@OfNat.ofNat UInt8 (1 : Nat) (@UInt8.instOfNat 1)), (@OfNat.ofNat UInt8 (0 : Nat) (@UInt8.instOfNat 0)), (@OfNat.ofNat UInt8 (4 : Nat) (@UInt8.instOfNat 4)), (@OfNat.ofNat UInt8 (0 : Nat) (@UInt8.instOfNat 0)), (@OfNat.ofNat UInt8 (1 : Nat) (@UInt8.instOfNat 1)), (@OfNat.ofNat UInt8 (0 : Nat) (@UInt8.instOfNat 0)), (@OfNat.ofNat UInt8 (2 : Nat) (@UInt8.instOfNat 2)), (@OfNat.ofNat UInt8 (0 : Nat) (@UInt8.instOfNat 0)), (@OfNat.ofNat UInt8 (1 : Nat) (@UInt8.instOfNat 1)), (@OfNat.ofNat UInt8 (0 : Nat) (@UInt8.instOfNat 0)), (@OfNat.ofNat UInt8 (3 : Nat) (@UInt8.instOfNat 3)), (@OfNat.ofNat UInt8 (0 : Nat) (@UInt8.instOfNat 0)), (@OfNat.ofNat UInt8 (1 : Nat) (@UInt8.instOfNat 1)), (@OfNat.ofNat UInt8 (0 : Nat) (@UInt8.instOfNat 0)), (@OfNat.ofNat UInt8 (2 : Nat) (@UInt8.instOfNat 2)), (@OfNat.ofNat UInt8 (0 : Nat) (@UInt8.instOfNat 0)), (@OfNat.ofNat UInt8 (1 : Nat) (@UInt8.instOfNat 1)), (@OfNat.ofNat UInt8 (0 : Nat) (@UInt8.instOfNat 0)), (@OfNat.ofNat UInt8 (6 : Nat) (@UInt8.instOfNat 6)), (@OfNat.ofNat UInt8 (0 : Nat) (@UInt8.instOfNat 0)), (@OfNat.ofNat UInt8 (1 : Nat) (@UInt8.instOfNat 1)), (@OfNat.ofNat UInt8 (0 : Nat) (@UInt8.instOfNat 0)), (@OfNat.ofNat UInt8 (2 : Nat) (@UInt8.instOfNat 2)), (@OfNat.ofNat UInt8 (0 : Nat) (@UInt8.instOfNat 0)), (@OfNat.ofNat UInt8 (1 : Nat) (@UInt8.instOfNat 1)), (@OfNat.ofNat UInt8 (0 : Nat) (@UInt8.instOfNat 0)), (@OfNat.ofNat UInt8 (3 : Nat) (@UInt8.instOfNat 3)), (@OfNat.ofNat UInt8 (0 : Nat) (@UInt8.instOfNat 0)), (@OfNat.ofNat UInt8 (1 : Nat) (@UInt8.instOfNat 1)), (@OfNat.ofNat UInt8 (0 : Nat) (@UInt8.instOfNat 0)), (@OfNat.ofNat UInt8 (2 : Nat) (@UInt8.instOfNat 2)), (@OfNat.ofNat UInt8 (0 : Nat) (@UInt8.instOfNat 0)), (@OfNat.ofNat UInt8 (1 : Nat) (@UInt8.instOfNat 1)), (@OfNat.ofNat UInt8 (0 : Nat) (@UInt8.instOfNat 0)), (@OfNat.ofNat UInt8 (4 : Nat) (@UInt8.instOfNat 4)), (@OfNat.ofNat UInt8 (0 : Nat) (@UInt8.instOfNat 0)), (@OfNat.ofNat UInt8 (1 : Nat) (@UInt8.instOfNat 1)), (@OfNat.ofNat UInt8 (0 : Nat) (@UInt8.instOfNat 0)), (@OfNat.ofNat UInt8 (2 : Nat) (@UInt8.instOfNat 2)), (@OfNat.ofNat UInt8 (0 : Nat) (@UInt8.instOfNat 0)), (@OfNat.ofNat UInt8 (1 : Nat) (@UInt8.instOfNat 1)), (@OfNat.ofNat UInt8 (0 : Nat) (@UInt8.instOfNat 0)), (@OfNat.ofNat UInt8 (3 : Nat) (@UInt8.instOfNat 3)), (@OfNat.ofNat UInt8 (0 : Nat) (@UInt8.instOfNat 0)), (@OfNat.ofNat UInt8 (1 : Nat) (@UInt8.instOfNat 1)), (@OfNat.ofNat UInt8 (0 : Nat) (@UInt8.instOfNat 0)), (@OfNat.ofNat UInt8 (2 : Nat) (@UInt8.instOfNat 2)), (@OfNat.ofNat UInt8 (0 : Nat) (@UInt8.instOfNat 0)), (@OfNat.ofNat UInt8 (1 : Nat) (@UInt8.instOfNat 1)), (@OfNat.ofNat UInt8 (0 : Nat) (@UInt8.instOfNat 0)), (@OfNat.ofNat UInt8 (5 : Nat) (@UInt8.instOfNat 5)), (@OfNat.ofNat UInt8 (0 : Nat) (@UInt8.instOfNat 0)), (@OfNat.ofNat UInt8 (1 : Nat) (@UInt8.instOfNat 1)), (@OfNat.ofNat UInt8 (0 : Nat) (@UInt8.instOfNat 0)), (@OfNat.ofNat UInt8 (2 : Nat) (@UInt8.instOfNat 2)), (@OfNat.ofNat UInt8 (0 : Nat) (@UInt8.instOfNat 0)), (@OfNat.ofNat UInt8 (1 : Nat) (@UInt8.instOfNat 1)), (@OfNat.ofNat UInt8 (0 : Nat) (@UInt8.instOfNat 0)), (@OfNat.ofNat UInt8 (3 : Nat) (@UInt8.instOfNat 3)), (@OfNat.ofNat UInt8 (0 : Nat) (@UInt8.instOfNat 0)), (@OfNat.ofNat UInt8 (1 : Nat) (@UInt8.instOfNat 1)), (@OfNat.ofNat UInt8 (0 : Nat) (@UInt8.instOfNat 0)), (@OfNat.ofNat UInt8 (2 : Nat) (@UInt8.instOfNat 2)), (@OfNat.ofNat UInt8 (0 : Nat) (@UInt8.instOfNat 0)), (@OfNat.ofNat UInt8 (1 : Nat) (@UInt8.instOfNat 1)), (@OfNat.ofNat UInt8 (0 : Nat) (@UInt8.instOfNat 0)), (@OfNat.ofNat UInt8 (4 : Nat) (@UInt8.instOfNat 4)), (@OfNat.ofNat UInt8 (0 : Nat) (@UInt8.instOfNat 0)), (@OfNat.ofNat UInt8 (1 : Nat) (@UInt8.instOfNat 1)), (@OfNat.ofNat UInt8 (0 : Nat) (@UInt8.instOfNat 0)), (@OfNat.ofNat UInt8 (2 : Nat) (@UInt8.instOfNat 2)), (@OfNat.ofNat UInt8 (0 : Nat) (@UInt8.instOfNat 0)), (@OfNat.ofNat UInt8 (1 : Nat) (@UInt8.instOfNat 1)), (@OfNat.ofNat UInt8 (0 : Nat) (@UInt8.instOfNat 0)), (@OfNat.ofNat UInt8 (3 : Nat) (@UInt8.instOfNat 3)), (@OfNat.ofNat UInt8 (0 : Nat) (@UInt8.instOfNat 0)), (@OfNat.ofNat UInt8 (1 : Nat) (@UInt8.instOfNat 1)), (@OfNat.ofNat UInt8 (0 : Nat) (@UInt8.instOfNat 0)), (@OfNat.ofNat UInt8 (2 : Nat) (@UInt8.instOfNat 2)), (@OfNat.ofNat UInt8 (0 : Nat) (@UInt8.instOfNat 0)), (@OfNat.ofNat UInt8 (1 : Nat) (@UInt8.instOfNat 1)), (@OfNat.ofNat UInt8 (0 : Nat) (@UInt8.instOfNat 0)), (@OfNat.ofNat UInt8 (7 : Nat) (@UInt8.instOfNat 7)), (@OfNat.ofNat UInt8 (0 : Nat) (@UInt8.instOfNat 0)), (@OfNat.ofNat UInt8 (1 : Nat) (@UInt8.instOfNat 1)), (@OfNat.ofNat UInt8 (0 : Nat) (@UInt8.instOfNat 0)), (@OfNat.ofNat UInt8 (2 : Nat) (@UInt8.instOfNat 2)), (@OfNat.ofNat UInt8 (0 : Nat) (@UInt8.instOfNat 0)), (@OfNat.ofNat UInt8 (1 : Nat) (@UInt8.instOfNat 1)), (@OfNat.ofNat UInt8 (0 : Nat) (@UInt8.instOfNat 0)), (@OfNat.ofNat UInt8 (3 : Nat) (@UInt8.instOfNat 3)), (@OfNat.ofNat UInt8 (0 : Nat) (@UInt8.instOfNat 0)), (@OfNat.ofNat UInt8 (1 : Nat) (@UInt8.instOfNat 1)), (@OfNat.ofNat UInt8 (0 : Nat) (@UInt8.instOfNat 0)), (@OfNat.ofNat UInt8 (2 : Nat) (@UInt8.instOfNat 2)), (@OfNat.ofNat UInt8 (0 : Nat) (@UInt8.instOfNat 0)), (@OfNat.ofNat UInt8 (1 : Nat) (@UInt8.instOfNat 1)), (@OfNat.ofNat UInt8 (0 : Nat) (@UInt8.instOfNat 0)), (@OfNat.ofNat UInt8 (4 : Nat) (@UInt8.instOfNat 4)), (@OfNat.ofNat UInt8 (0 : Nat) (@UInt8.instOfNat 0)), (@OfNat.ofNat UInt8 (1 : Nat) (@UInt8.instOfNat 1)), (@OfNat.ofNat UInt8 (0 : Nat) (@UInt8.instOfNat 0)), (@OfNat.ofNat UInt8 (2 : Nat) (@UInt8.instOfNat 2)), (@OfNat.ofNat UInt8 (0 : Nat) (@UInt8.instOfNat 0)), (@OfNat.ofNat UInt8 (1 : Nat) (@UInt8.instOfNat 1)), (@OfNat.ofNat UInt8 (0 : Nat) (@UInt8.instOfNat 0)), (@OfNat.ofNat UInt8 (3 : Nat) (@UInt8.instOfNat 3)), (@OfNat.ofNat UInt8 (0 : Nat) (@UInt8.instOfNat 0)), (@OfNat.ofNat UInt8 (1 : Nat) (@UInt8.instOfNat 1)), (@OfNat.ofNat UInt8 (0 : Nat) (@UInt8.instOfNat 0)), (@OfNat.ofNat UInt8 (2 : Nat) (@UInt8.instOfNat 2)), (@OfNat.ofNat UInt8 (0 : Nat) (@UInt8.instOfNat 0)), (@OfNat.ofNat UInt8 (1 : Nat) (@UInt8.instOfNat 1)), (@OfNat.ofNat UInt8 (0 : Nat) (@UInt8.instOfNat 0)), (@OfNat.ofNat UInt8 (5 : Nat) (@UInt8.instOfNat 5)), (@OfNat.ofNat UInt8 (0 : Nat) (@UInt8.instOfNat 0)), (@OfNat.ofNat UInt8 (1 : Nat) (@UInt8.instOfNat 1)), (@OfNat.ofNat UInt8 (0 : Nat) (@UInt8.instOfNat 0)), (@OfNat.ofNat UInt8 (2 : Nat) (@UInt8.instOfNat 2)), (@OfNat.ofNat UInt8 (0 : Nat) (@UInt8.instOfNat 0)), (@OfNat.ofNat UInt8 (1 : Nat) (@UInt8.instOfNat 1)), (@OfNat.ofNat UInt8 (0 : Nat) (@UInt8.instOfNat 0)), (@OfNat.ofNat UInt8 (3 : Nat) (@UInt8.instOfNat 3)), (@OfNat.ofNat UInt8 (0 : Nat) (@UInt8.instOfNat 0)), (@OfNat.ofNat UInt8 (1 : Nat) (@UInt8.instOfNat 1)), (@OfNat.ofNat UInt8 (0 : Nat) (@UInt8.instOfNat 0)), (@OfNat.ofNat UInt8 (2 : Nat) (@UInt8.instOfNat 2)), (@OfNat.ofNat UInt8 (0 : Nat) (@UInt8.instOfNat 0)), (@OfNat.ofNat UInt8 (1 : Nat) (@UInt8.instOfNat 1)), (@OfNat.ofNat UInt8 (0 : Nat) (@UInt8.instOfNat 0)), (@OfNat.ofNat UInt8 (4 : Nat) (@UInt8.instOfNat 4)), (@OfNat.ofNat UInt8 (0 : Nat) (@UInt8.instOfNat 0)), (@OfNat.ofNat UInt8 (1 : Nat) (@UInt8.instOfNat 1)), (@OfNat.ofNat UInt8 (0 : Nat) (@UInt8.instOfNat 0)), (@OfNat.ofNat UInt8 (2 : Nat) (@UInt8.instOfNat 2)), (@OfNat.ofNat UInt8 (0 : Nat) (@UInt8.instOfNat 0)), (@OfNat.ofNat UInt8 (1 : Nat) (@UInt8.instOfNat 1)), (@OfNat.ofNat UInt8 (0 : Nat) (@UInt8.instOfNat 0)), (@OfNat.ofNat UInt8 (3 : Nat) (@UInt8.instOfNat 3)), (@OfNat.ofNat UInt8 (0 : Nat) (@UInt8.instOfNat 0)), (@OfNat.ofNat UInt8 (1 : Nat) (@UInt8.instOfNat 1)), (@OfNat.ofNat UInt8 (0 : Nat) (@UInt8.instOfNat 0)), (@OfNat.ofNat UInt8 (2 : Nat) (@UInt8.instOfNat 2)), (@OfNat.ofNat UInt8 (0 : Nat) (@UInt8.instOfNat 0)), (@OfNat.ofNat UInt8 (1 : Nat) (@UInt8.instOfNat 1)), (@OfNat.ofNat UInt8 (0 : Nat) (@UInt8.instOfNat 0)), (@OfNat.ofNat UInt8 (6 : Nat) (@UInt8.instOfNat 6)), (@OfNat.ofNat UInt8 (0 : Nat) (@UInt8.instOfNat 0)), (@OfNat.ofNat UInt8 (1 : Nat) (@UInt8.instOfNat 1)), (@OfNat.ofNat UInt8 (0 : Nat) (@UInt8.instOfNat 0)), (@OfNat.ofNat UInt8 (2 : Nat) (@UInt8.instOfNat 2)), (@OfNat.ofNat UInt8 (0 : Nat) (@UInt8.instOfNat 0)), (@OfNat.ofNat UInt8 (1 : Nat) (@UInt8.instOfNat 1)), (@OfNat.ofNat UInt8 (0 : Nat) (@UInt8.instOfNat 0)), (@OfNat.ofNat UInt8 (3 : Nat) (@UInt8.instOfNat 3)), (@OfNat.ofNat UInt8 (0 : Nat) (@UInt8.instOfNat 0)), (@OfNat.ofNat UInt8 (1 : Nat) (@UInt8.instOfNat 1)), (@OfNat.ofNat UInt8 (0 : Nat) (@UInt8.instOfNat 0)), (@OfNat.ofNat UInt8 (2 : Nat) (@UInt8.instOfNat 2)), (@OfNat.ofNat UInt8 (0 : Nat) (@UInt8.instOfNat 0)), (@OfNat.ofNat UInt8 (1 : Nat) (@UInt8.instOfNat 1)), (@OfNat.ofNat UInt8 (0 : Nat) (@UInt8.instOfNat 0)), (@OfNat.ofNat UInt8 (4 : Nat) (@UInt8.instOfNat 4)), (@OfNat.ofNat UInt8 (0 : Nat) (@UInt8.instOfNat 0)), (@OfNat.ofNat UInt8 (1 : Nat) (@UInt8.instOfNat 1)), (@OfNat.ofNat UInt8 (0 : Nat) (@UInt8.instOfNat 0)), (@OfNat.ofNat UInt8 (2 : Nat) (@UInt8.instOfNat 2)), (@OfNat.ofNat UInt8 (0 : Nat) (@UInt8.instOfNat 0)), (@OfNat.ofNat UInt8 (1 : Nat) (@UInt8.instOfNat 1)), (@OfNat.ofNat UInt8 (0 : Nat) (@UInt8.instOfNat 0)), (@OfNat.ofNat UInt8 (3 : Nat) (@UInt8.instOfNat 3)), (@OfNat.ofNat UInt8 (0 : Nat) (@UInt8.instOfNat 0)), (@OfNat.ofNat UInt8 (1 : Nat) (@UInt8.instOfNat 1)), (@OfNat.ofNat UInt8 (0 : Nat) (@UInt8.instOfNat 0)), (@OfNat.ofNat UInt8 (2 : Nat) (@UInt8.instOfNat 2)), (@OfNat.ofNat UInt8 (0 : Nat) (@UInt8.instOfNat 0)), (@OfNat.ofNat UInt8 (1 : Nat) (@UInt8.instOfNat 1)), (@OfNat.ofNat UInt8 (0 : Nat) (@UInt8.instOfNat 0)), (@OfNat.ofNat UInt8 (5 : Nat) (@UInt8.instOfNat 5)), (@OfNat.ofNat UInt8 (0 : Nat) (@UInt8.instOfNat 0)), (@OfNat.ofNat UInt8 (1 : Nat) (@UInt8.instOfNat 1)), (@OfNat.ofNat UInt8 (0 : Nat) (@UInt8.instOfNat 0)), (@OfNat.ofNat UInt8 (2 : Nat) (@UInt8.instOfNat 2)), (@OfNat.ofNat UInt8 (0 : Nat) (@UInt8.instOfNat 0)), (@OfNat.ofNat UInt8 (1 : Nat) (@UInt8.instOfNat 1)), (@OfNat.ofNat UInt8 (0 : Nat) (@UInt8.instOfNat 0)), (@OfNat.ofNat UInt8 (3 : Nat) (@UInt8.instOfNat 3)), (@OfNat.ofNat UInt8 (0 : Nat) (@UInt8.instOfNat 0)), (@OfNat.ofNat UInt8 (1 : Nat) (@UInt8.instOfNat 1)), (@OfNat.ofNat UInt8 (0 : Nat) (@UInt8.instOfNat 0)), (@OfNat.ofNat UInt8 (2 : Nat) (@UInt8.instOfNat 2)), (@OfNat.ofNat UInt8 (0 : Nat) (@UInt8.instOfNat 0)), (@OfNat.ofNat UInt8 (1 : Nat) (@UInt8.instOfNat 1)), (@OfNat.ofNat UInt8 (0 : Nat) (@UInt8.instOfNat 0)), (@OfNat.ofNat UInt8 (4 : Nat) (@UInt8.instOfNat 4)), (@OfNat.ofNat UInt8 (0 : Nat) (@UInt8.instOfNat 0)), (@OfNat.ofNat UInt8 (1 : Nat) (@UInt8.instOfNat 1)), (@OfNat.ofNat UInt8 (0 : Nat) (@UInt8.instOfNat 0)), (@OfNat.ofNat UInt8 (2 : Nat) (@UInt8.instOfNat 2)), (@OfNat.ofNat UInt8 (0 : Nat) (@UInt8.instOfNat 0)), (@OfNat.ofNat UInt8 (1 : Nat) (@UInt8.instOfNat 1)), (@OfNat.ofNat UInt8 (0 : Nat) (@UInt8.instOfNat 0)), (@OfNat.ofNat UInt8 (3 : Nat) (@UInt8.instOfNat 3)), (@OfNat.ofNat UInt8 (0 : Nat) (@UInt8.instOfNat 0)), (@OfNat.ofNat UInt8 (1 : Nat) (@UInt8.instOfNat 1)), (@OfNat.ofNat UInt8 (0 : Nat) (@UInt8.instOfNat 0)), (@OfNat.ofNat UInt8 (2 : Nat) (@UInt8.instOfNat 2)), (@OfNat.ofNat UInt8 (0 : Nat) (@UInt8.instOfNat 0)), (@OfNat.ofNat UInt8 (1 : Nat) (@UInt8.instOfNat 1)), (@OfNat.ofNat UInt8 (0 : Nat) (@UInt8.instOfNat 0))] (Int.toNat b) (@OfNat.ofNat UInt8 (0 : Nat) (@UInt8.instOfNat 0)))) : Int))))))) := by kernel_rfl
theorem fs_lz (b : Nat) (h : b < 256) : Fs Try.prog nro 23 [.v (.int .u8 b)] (hp [] []) fun r _ => r = .v (.int .i64 (lzV b : Nat)) := by
  refine Fs.of_call (known_none _) (t_lz b fun r => r = .v (.int .i64 (lzV b : Nat))) ⟨?_, ?_⟩
  · with_reducible refine cdb_iff.2 ⟨trivial, decide_eq_true ⟨?_, ?_⟩⟩ <;> omega
  · refine congrArg (fun z => AV.v (.int .i64 z)) ?_
    revert b
    decide +kernel
theorem fs_tz (b : Nat) (h : b < 256) : Fs Try.prog nro 24 [.v (.int .u8 b)] (hp [] []) fun r _ => r = .v (.int .i64 (tzV b : Nat)) := by
  refine Fs.of_call (known_none _) (t_tz b fun r => r = .v (.int .i64 (tzV b : Nat))) ⟨?_, ?_⟩
  · with_reducible refine cdb_iff.2 ⟨trivial, decide_eq_true ⟨?_, ?_⟩⟩ <;> omega
  · refine congrArg (fun z => AV.v (.int .i64 z)) ?_
    revert b
    decide +kernel
def lzP : List Value → Option (Value × Bool) := fun us => match us with
  | [.int .u8 b] => some (.int .i64 (lzV b.toNat : Nat), decide (0 ≤ b ∧ b < 256))
  | _ => none
def tzP : List Value → Option (Value × Bool) := fun us => match us with
  | [.int .u8 b] => some (.int .i64 (tzV b.toNat : Nat), decide (0 ≤ b ∧ b < 256))
  | _ => none
theorem lz_ok (ro : Nat → Option (List Value)) : ∀ args H r H', pure? lzP args H = some (r, H') → HSound1 Try.prog ro 23 args H r H' := by
  refine pure_ok (fun us c hs => Fs.ro ?_ ro) (has_fn (by kernel_rfl))
  unfold lzP at hs
  split at hs
  · rename_i b
    simp only [Option.some.injEq, Prod.mk.injEq, decide_eq_true_eq] at hs
    obtain ⟨rfl, h1, h2⟩ := hs
    obtain ⟨b, rfl⟩ := Int.eq_ofNat_of_zero_le h1
    exact fs_lz b (by omega)
  · cases hs
theorem tz_ok (ro : Nat → Option (List Value)) : ∀ args H r H', pure? tzP args H = some (r, H') → HSound1 Try.prog ro 24 args H r H' := by
  refine pure_ok (fun us c hs => Fs.ro ?_ ro) (has_fn (by kernel_rfl))
  unfold tzP at hs
  split at hs
  · rename_i b
    simp only [Option.some.injEq, Prod.mk.injEq, decide_eq_true_eq] at hs
    obtain ⟨rfl, h1, h2⟩ := hs
    obtain ⟨b, rfl⟩ := Int.eq_ofNat_of_zero_le h1
    exact fs_tz b (by omega)
  · cases hs
end Go.Proofs.Ytbnhhacjoabpaaa.AE
namespace Go.Proofs.Ytbnhhacjoabpaaa.AE
open Go.RowKit Cr Oc
noncomputable def prA : FuncId → Option (List AV → AH → Ans) := fun g => match g with
  | 20 => some (pure? bitP)
  | 23 => some (pure? lzP)
  | 24 => some (pure? tzP)
  | _ => none
theorem knownA (ro : Nat → Option (List Value)) : Known ro prA := by
  intro g p h
  unfold prA at h
  split at h
  · cases h; exact bit_ok _
  · cases h; exact lz_ok _
  · cases h; exact tz_ok _
  · cases h
theorem ap_pre (a b : ByteArray) (R : Exit → List AV → AH → Prop) : codeL nro (fun _ => false) prA 5 ((flatten (bodyOf 14)).take 5) ([.v (.string a), .v (.string b)] ++ List.replicate 47 (.v undef)) (hp [] []) (kp [0, 1, 4, 5, 6, 7, 16, 17] R) =
    (bif (((ByteArray.size a) : Int) != ((ByteArray.size b) : Int)) then (some (True ∧ (R Exit.ret [(AV.v (Value.string a)), (AV.v (Value.string b)), AV.dead, AV.dead, (AV.v (Value.int IntKind.i64 (0 : Int))), (AV.v (Value.bool false)), (AV.v (Value.tuple (Array.mk (@List.nil Go.Value)))), (AV.v (Value.tuple (Array.mk (@List.nil Go.Value)))), AV.dead, AV.dead, AV.dead, AV.dead, AV.dead, AV.dead, AV.dead, AV.dead, (AV.v (Value.tuple (Array.mk (@List.nil Go.Value)))), (AV.v (Value.tuple (Array.mk (@List.nil Go.Value)))), AV.dead, AV.dead, AV.dead, AV.dead, AV.dead, AV.dead, AV.dead, AV.dead, AV.dead, AV.dead, AV.dead, AV.dead, AV.dead, AV.dead, AV.dead, AV.dead, AV.dead, AV.dead, AV.dead, AV.dead, AV.dead, AV.dead, AV.dead, AV.dead, AV.dead, AV.dead, AV.dead, AV.dead, AV.dead, AV.dead, AV.dead] (AH.mk (@List.nil (Prod Go.TypeId (List AV))) (@List.nil Nat) (0 : Nat) (0 : Nat) true (@List.nil (Prod Nat Bool)) True)))) else (some (True ∧ (R Exit.normal [(AV.v (Value.string a)), (AV.v (Value.string b)), AV.dead, AV.dead, (AV.v (Value.int IntKind.i64 (0 : Int))), (AV.v (Value.bool false)), (AV.v (Value.int IntKind.i64 (-(1 : Int)))), (AV.v (Value.int IntKind.i64 (-(1 : Int)))), AV.dead, AV.dead, AV.dead, AV.dead, AV.dead, AV.dead, AV.dead, AV.dead, (AV.v (Value.int IntKind.i64 ((ByteArray.size a) : Int))), (AV.v (Value.int IntKind.i64 (0 : Int))), AV.dead, AV.dead, AV.dead, AV.dead, AV.dead, AV.dead, AV.dead, AV.dead, AV.dead, AV.dead, AV.dead, AV.dead, AV.dead, AV.dead, AV.dead, AV.dead, AV.dead, AV.dead, AV.dead, AV.dead, AV.dead, AV.dead, AV.dead, AV.dead, AV.dead, AV.dead, AV.dead, AV.dead, AV.dead, AV.dead, AV.dead] (AH.mk (@List.nil (Prod Go.TypeId (List AV))) (@List.nil Nat) (0 : Nat) (0 : Nat) true (@List.nil (Prod Nat Bool)) True))))) := by kernel_rfl
theorem ap_body (a b : ByteArray) (f t n i : Int) (R : Exit → List AV → AH → Prop) : code nro (fun _ => false) prA 5 (sub (bodyOf 14) [1, 1, 1, 0, 1, 0, 0]) ([.v (.string a), .v (.string b)] ++ List.replicate 4 .dead ++ [.v (.int .i64 f), .v (.int .i64 t)] ++ List.replicate 8 .dead ++ [.v (.int .i64 n), .v (.int .i64 i)] ++ List.replicate 31 .dead) (hp [] []) (kp [0, 1, 6, 7, 16, 17] R) =
    (bif (decide (i < n)) then (bif ((IntKind.wrap IntKind.u8 (((@BitVec.toFin (IntKind.bits IntKind.u8) ((BitVec.ofInt (IntKind.bits IntKind.u8) ((UInt8.toNat (Array.getD (ByteArray.data a) (Int.toNat i) (0 : UInt8))) : Int)) ^^^ (BitVec.ofInt (IntKind.bits IntKind.u8) ((UInt8.toNat (Array.getD (ByteArray.data b) (Int.toNat i) (0 : UInt8))) : Int))))).1 : Int)) == (0 : Int)) then (some ((cdb (cdb True (decide (((0 : Int) ≤ i) ∧ ((Int.toNat i) < (ByteArray.size a))))) (decide (((0 : Int) ≤ i) ∧ ((Int.toNat i) < (ByteArray.size b))))) ∧ (R Exit.normal [(AV.v (Value.string a)), (AV.v (Value.string b)), AV.dead, AV.dead, AV.dead, AV.dead, (AV.v (Value.int IntKind.i64 f)), (AV.v (Value.int IntKind.i64 t)), AV.dead, AV.dead, AV.dead, AV.dead, AV.dead, AV.dead, AV.dead, AV.dead, (AV.v (Value.int IntKind.i64 n)), (AV.v (Value.int IntKind.i64 (IntKind.wrap IntKind.i64 (i + (1 : Int))))), AV.dead, AV.dead, AV.dead, AV.dead, AV.dead, AV.dead, AV.dead, AV.dead, AV.dead, AV.dead, AV.dead, AV.dead, AV.dead, AV.dead, AV.dead, AV.dead, AV.dead, AV.dead, AV.dead, AV.dead, AV.dead, AV.dead, AV.dead, AV.dead, AV.dead, AV.dead, AV.dead, AV.dead, AV.dead, AV.dead, AV.dead] (AH.mk (@List.nil (Prod Go.TypeId (List AV))) (@List.nil Nat) (0 : Nat) (0 : Nat) true (@List.nil (Prod Nat Bool)) True)))) else (bif (decide (f < (0 : Int))) then (some ((cdb (cdb (cdb (cdb True (decide (((0 : Int) ≤ i) ∧ ((Int.toNat i) < (ByteArray.size a))))) (decide (((0 : Int) ≤ i) ∧ ((Int.toNat i) < (ByteArray.size b))))) (decide (((0 : Int) ≤ (IntKind.wrap IntKind.u8 (((@BitVec.toFin (IntKind.bits IntKind.u8) ((BitVec.ofInt (IntKind.bits IntKind.u8) ((UInt8.toNat (Array.getD (ByteArray.data a) (Int.toNat i) (0 : UInt8))) : Int)) ^^^ (BitVec.ofInt (IntKind.bits IntKind.u8) ((UInt8.toNat (Array.getD (ByteArray.data b) (Int.toNat i) (0 : UInt8))) : Int))))).1 : Int))) ∧ ((IntKind.wrap IntKind.u8 (((@BitVec.toFin (IntKind.bits IntKind.u8) ((BitVec.ofInt (IntKind.bits IntKind.u8) ((UInt8.toNat (Array.getD (ByteArray.data a) (Int.toNat i) (0 : UInt8))) : Int)) ^^^ (BitVec.ofInt (IntKind.bits IntKind.u8) ((UInt8.toNat (Array.getD (ByteArray.data b) (Int.toNat i) (0 : UInt8))) : Int))))).1 : Int)) < (256 : Int))))) (decide (((0 : Int) ≤ (IntKind.wrap IntKind.u8 (((@BitVec.toFin (IntKind.bits IntKind.u8) ((BitVec.ofInt (IntKind.bits IntKind.u8) ((UInt8.toNat (Array.getD (ByteArray.data a) (Int.toNat i) (0 : UInt8))) : Int)) ^^^ (BitVec.ofInt (IntKind.bits IntKind.u8) ((UInt8.toNat (Array.getD (ByteArray.data b) (Int.toNat i) (0 : UInt8))) : Int))))).1 : Int))) ∧ ((IntKind.wrap IntKind.u8 (((@BitVec.toFin (IntKind.bits IntKind.u8) ((BitVec.ofInt (IntKind.bits IntKind.u8) ((UInt8.toNat (Array.getD (ByteArray.data a) (Int.toNat i) (0 : UInt8))) : Int)) ^^^ (BitVec.ofInt (IntKind.bits IntKind.u8) ((UInt8.toNat (Array.getD (ByteArray.data b) (Int.toNat i) (0 : UInt8))) : Int))))).1 : Int)) < (256 : Int))))) ∧ (R Exit.normal [(AV.v (Value.string a)), (AV.v (Value.string b)), AV.dead, AV.dead, AV.dead, AV.dead, (AV.v (Value.int IntKind.i64 (IntKind.wrap IntKind.i64 ((IntKind.wrap IntKind.i64 ((8 : Int) * i)) + ((Cr.lzV (Int.toNat (IntKind.wrap IntKind.u8 (((@BitVec.toFin (IntKind.bits IntKind.u8) ((BitVec.ofInt (IntKind.bits IntKind.u8) ((UInt8.toNat (Array.getD (ByteArray.data a) (Int.toNat i) (0 : UInt8))) : Int)) ^^^ (BitVec.ofInt (IntKind.bits IntKind.u8) ((UInt8.toNat (Array.getD (ByteArray.data b) (Int.toNat i) (0 : UInt8))) : Int))))).1 : Int)))) : Int))))), (AV.v (Value.int IntKind.i64 (IntKind.wrap IntKind.i64 ((IntKind.wrap IntKind.i64 ((IntKind.wrap IntKind.i64 ((8 : Int) * i)) + (7 : Int))) - ((Cr.tzV (Int.toNat (IntKind.wrap IntKind.u8 (((@BitVec.toFin (IntKind.bits IntKind.u8) ((BitVec.ofInt (IntKind.bits IntKind.u8) ((UInt8.toNat (Array.getD (ByteArray.data a) (Int.toNat i) (0 : UInt8))) : Int)) ^^^ (BitVec.ofInt (IntKind.bits IntKind.u8) ((UInt8.toNat (Array.getD (ByteArray.data b) (Int.toNat i) (0 : UInt8))) : Int))))).1 : Int)))) : Int))))), AV.dead, AV.dead, AV.dead, AV.dead, AV.dead, AV.dead, AV.dead, AV.dead, (AV.v (Value.int IntKind.i64 n)), (AV.v (Value.int IntKind.i64 (IntKind.wrap IntKind.i64 (i + (1 : Int))))), AV.dead, AV.dead, AV.dead, AV.dead, AV.dead, AV.dead, AV.dead, AV.dead, AV.dead, AV.dead, AV.dead, AV.dead, AV.dead, AV.dead, AV.dead, AV.dead, AV.dead, AV.dead, AV.dead, AV.dead, AV.dead, AV.dead, AV.dead, AV.dead, AV.dead, AV.dead, AV.dead, AV.dead, AV.dead, AV.dead, AV.dead] (AH.mk (@List.nil (Prod Go.TypeId (List AV))) (@List.nil Nat) (0 : Nat) (0 : Nat) true (@List.nil (Prod Nat Bool)) True)))) else (some ((cdb (cdb (cdb True (decide (((0 : Int) ≤ i) ∧ ((Int.toNat i) < (ByteArray.size a))))) (decide (((0 : Int) ≤ i) ∧ ((Int.toNat i) < (ByteArray.size b))))) (decide (((0 : Int) ≤ (IntKind.wrap IntKind.u8 (((@BitVec.toFin (IntKind.bits IntKind.u8) ((BitVec.ofInt (IntKind.bits IntKind.u8) ((UInt8.toNat (Array.getD (ByteArray.data a) (Int.toNat i) (0 : UInt8))) : Int)) ^^^ (BitVec.ofInt (IntKind.bits IntKind.u8) ((UInt8.toNat (Array.getD (ByteArray.data b) (Int.toNat i) (0 : UInt8))) : Int))))).1 : Int))) ∧ ((IntKind.wrap IntKind.u8 (((@BitVec.toFin (IntKind.bits IntKind.u8) ((BitVec.ofInt (IntKind.bits IntKind.u8) ((UInt8.toNat (Array.getD (ByteArray.data a) (Int.toNat i) (0 : UInt8))) : Int)) ^^^ (BitVec.ofInt (IntKind.bits IntKind.u8) ((UInt8.toNat (Array.getD (ByteArray.data b) (Int.toNat i) (0 : UInt8))) : Int))))).1 : Int)) < (256 : Int))))) ∧ (R Exit.normal [(AV.v (Value.string a)), (AV.v (Value.string b)), AV.dead, AV.dead, AV.dead, AV.dead, (AV.v (Value.int IntKind.i64 f)), (AV.v (Value.int IntKind.i64 (IntKind.wrap IntKind.i64 ((IntKind.wrap IntKind.i64 ((IntKind.wrap IntKind.i64 ((8 : Int) * i)) + (7 : Int))) - ((Cr.tzV (Int.toNat (IntKind.wrap IntKind.u8 (((@BitVec.toFin (IntKind.bits IntKind.u8) ((BitVec.ofInt (IntKind.bits IntKind.u8) ((UInt8.toNat (Array.getD (ByteArray.data a) (Int.toNat i) (0 : UInt8))) : Int)) ^^^ (BitVec.ofInt (IntKind.bits IntKind.u8) ((UInt8.toNat (Array.getD (ByteArray.data b) (Int.toNat i) (0 : UInt8))) : Int))))).1 : Int)))) : Int))))), AV.dead, AV.dead, AV.dead, AV.dead, AV.dead, AV.dead, AV.dead, AV.dead, (AV.v (Value.int IntKind.i64 n)), (AV.v (Value.int IntKind.i64 (IntKind.wrap IntKind.i64 (i + (1 : Int))))), AV.dead, AV.dead, AV.dead, AV.dead, AV.dead, AV.dead, AV.dead, AV.dead, AV.dead, AV.dead, AV.dead, AV.dead, AV.dead, AV.dead, AV.dead, AV.dead, AV.dead, AV.dead, AV.dead, AV.dead, AV.dead, AV.dead, AV.dead, AV.dead, AV.dead, AV.dead, AV.dead, AV.dead, AV.dead, AV.dead, AV.dead] (AH.mk (@List.nil (Prod Go.TypeId (List AV))) (@List.nil Nat) (0 : Nat) (0 : Nat) true (@List.nil (Prod Nat Bool)) True)))))) else (some (True ∧ (R (Exit.exit (0 : Nat)) [(AV.v (Value.string a)), (AV.v (Value.string b)), AV.dead, AV.dead, AV.dead, AV.dead, (AV.v (Value.int IntKind.i64 f)), (AV.v (Value.int IntKind.i64 t)), AV.dead, AV.dead, AV.dead, AV.dead, AV.dead, AV.dead, AV.dead, AV.dead, (AV.v (Value.int IntKind.i64 n)), (AV.v (Value.int IntKind.i64 i)), AV.dead, AV.dead, AV.dead, AV.dead, AV.dead, AV.dead, AV.dead, AV.dead, AV.dead, AV.dead, AV.dead, AV.dead, AV.dead, AV.dead, AV.dead, AV.dead, AV.dead, AV.dead, AV.dead, AV.dead, AV.dead, AV.dead, AV.dead, AV.dead, AV.dead, AV.dead, AV.dead, AV.dead, AV.dead, AV.dead, AV.dead] (AH.mk (@List.nil (Prod Go.TypeId (List AV))) (@List.nil Nat) (0 : Nat) (0 : Nat) true (@List.nil (Prod Nat Bool)) True))))) := by kernel_rfl
theorem ap_post (a b : ByteArray) (f t n i : Int) (R : Exit → List AV → AH → Prop) : codeL nro (fun _ => false) prA 5 ((flatten (bodyOf 14)).drop 6) ([.v (.string a), .v (.string b)] ++ List.replicate 4 .dead ++ [.v (.int .i64 f), .v (.int .i64 t)] ++ List.replicate 8 .dead ++ [.v (.int .i64 n), .v (.int .i64 i)] ++ List.replicate 31 .dead) (hp [] []) (kp [4, 5] R) =
    (bif (decide (f < (0 : Int))) then (some (True ∧ (R Exit.ret [AV.dead, AV.dead, AV.dead, AV.dead, (AV.v (Value.int IntKind.i64 (0 : Int))), (AV.v (Value.bool true)), AV.dead, AV.dead, AV.dead, AV.dead, AV.dead, AV.dead, AV.dead, AV.dead, AV.dead, AV.dead, AV.dead, AV.dead, AV.dead, AV.dead, AV.dead, AV.dead, AV.dead, AV.dead, AV.dead, AV.dead, AV.dead, AV.dead, AV.dead, AV.dead, AV.dead, AV.dead, AV.dead, AV.dead, AV.dead, AV.dead, AV.dead, AV.dead, AV.dead, AV.dead, AV.dead, AV.dead, AV.dead, AV.dead, AV.dead, AV.dead, AV.dead, AV.dead, AV.dead] (AH.mk (@List.nil (Prod Go.TypeId (List AV))) (@List.nil Nat) (0 : Nat) (0 : Nat) true (@List.nil (Prod Nat Bool)) True)))) else (some (True ∧ (R Exit.ret [AV.dead, AV.dead, AV.dead, AV.dead, (AV.v (Value.int IntKind.i64 (IntKind.wrap IntKind.i64 ((IntKind.wrap IntKind.i64 (t - f)) + (1 : Int))))), (AV.v (Value.bool true)), AV.dead, AV.dead, AV.dead, AV.dead, AV.dead, AV.dead, AV.dead, AV.dead, AV.dead, AV.dead, AV.dead, AV.dead, AV.dead, AV.dead, AV.dead, AV.dead, AV.dead, AV.dead, AV.dead, AV.dead, AV.dead, AV.dead, AV.dead, AV.dead, AV.dead, AV.dead, AV.dead, AV.dead, AV.dead, AV.dead, AV.dead, AV.dead, AV.dead, AV.dead, AV.dead, AV.dead, AV.dead, AV.dead, AV.dead, AV.dead, AV.dead, AV.dead, AV.dead] (AH.mk (@List.nil (Prod Go.TypeId (List AV))) (@List.nil Nat) (0 : Nat) (0 : Nat) true (@List.nil (Prod Nat Bool)) True))))) := by kernel_rfl
theorem ra_pre (a b : ByteArray) (R : Exit → List AV → AH → Prop) : codeL nro (fun _ => false) prA 5 ((flatten (bodyOf 15)).take 5) ([.v (.string a), .v (.string b)] ++ List.replicate 34 (.v undef)) (hp [] []) (kp [0, 1, 4, 5, 6, 7, 8] R) =
    (bif (((ByteArray.size a) : Int) != ((ByteArray.size b) : Int)) then (some (True ∧ (R Exit.ret [(AV.v (Value.string a)), (AV.v (Value.string b)), AV.dead, AV.dead, (AV.v (Value.int IntKind.i64 (0 : Int))), (AV.v (Value.bool false)), (AV.v (Value.tuple (Array.mk (@List.nil Go.Value)))), (AV.v (Value.tuple (Array.mk (@List.nil Go.Value)))), (AV.v (Value.tuple (Array.mk (@List.nil Go.Value)))), AV.dead, AV.dead, AV.dead, AV.dead, AV.dead, AV.dead, AV.dead, AV.dead, AV.dead, AV.dead, AV.dead, AV.dead, AV.dead, AV.dead, AV.dead, AV.dead, AV.dead, AV.dead, AV.dead, AV.dead, AV.dead, AV.dead, AV.dead, AV.dead, AV.dead, AV.dead, AV.dead] (AH.mk (@List.nil (Prod Go.TypeId (List AV))) (@List.nil Nat) (0 : Nat) (0 : Nat) true (@List.nil (Prod Nat Bool)) True)))) else (some (True ∧ (R Exit.normal [(AV.v (Value.string a)), (AV.v (Value.string b)), AV.dead, AV.dead, (AV.v (Value.int IntKind.i64 (0 : Int))), (AV.v (Value.bool false)), (AV.v (Value.int IntKind.i64 (-(1 : Int)))), (AV.v (Value.int IntKind.i64 (-(2 : Int)))), (AV.v (Value.int IntKind.i64 (0 : Int))), AV.dead, AV.dead, AV.dead, AV.dead, AV.dead, AV.dead, AV.dead, AV.dead, AV.dead, AV.dead, AV.dead, AV.dead, AV.dead, AV.dead, AV.dead, AV.dead, AV.dead, AV.dead, AV.dead, AV.dead, AV.dead, AV.dead, AV.dead, AV.dead, AV.dead, AV.dead, AV.dead] (AH.mk (@List.nil (Prod Go.TypeId (List AV))) (@List.nil Nat) (0 : Nat) (0 : Nat) true (@List.nil (Prod Nat Bool)) True))))) := by kernel_rfl
theorem ra_body (a b : ByteArray) (f t i : Int) (R : Exit → List AV → AH → Prop) : code nro (fun _ => false) prA 5 (sub (bodyOf 15) [1, 1, 1, 0, 1, 0, 0]) ([.v (.string a), .v (.string b)] ++ List.replicate 4 .dead ++ [.v (.int .i64 f), .v (.int .i64 t), .v (.int .i64 i)] ++ List.replicate 27 .dead) (hp [] []) (kp [0, 1, 6, 7, 8] R) =
    (bif (decide (i < (IntKind.wrap IntKind.i64 ((8 : Int) * ((ByteArray.size a) : Int))))) then (bif (((bitV a (Int.toNat i)) : Int) != ((bitV b (Int.toNat i)) : Int)) then (bif (decide (f < (0 : Int))) then (some ((cdb (cdb True (decide (((0 : Int) ≤ i) ∧ ((i < ((8 : Int) * ((ByteArray.size a) : Int))) ∧ ((ByteArray.size a) ≤ (100000 : Nat)))))) (decide (((0 : Int) ≤ i) ∧ ((i < ((8 : Int) * ((ByteArray.size b) : Int))) ∧ ((ByteArray.size b) ≤ (100000 : Nat)))))) ∧ (R Exit.normal [(AV.v (Value.string a)), (AV.v (Value.string b)), AV.dead, AV.dead, AV.dead, AV.dead, (AV.v (Value.int IntKind.i64 i)), (AV.v (Value.int IntKind.i64 i)), (AV.v (Value.int IntKind.i64 (IntKind.wrap IntKind.i64 (i + (1 : Int))))), AV.dead, AV.dead, AV.dead, AV.dead, AV.dead, AV.dead, AV.dead, AV.dead, AV.dead, AV.dead, AV.dead, AV.dead, AV.dead, AV.dead, AV.dead, AV.dead, AV.dead, AV.dead, AV.dead, AV.dead, AV.dead, AV.dead, AV.dead, AV.dead, AV.dead, AV.dead, AV.dead] (AH.mk (@List.nil (Prod Go.TypeId (List AV))) (@List.nil Nat) (0 : Nat) (0 : Nat) true (@List.nil (Prod Nat Bool)) True)))) else (some ((cdb (cdb True (decide (((0 : Int) ≤ i) ∧ ((i < ((8 : Int) * ((ByteArray.size a) : Int))) ∧ ((ByteArray.size a) ≤ (100000 : Nat)))))) (decide (((0 : Int) ≤ i) ∧ ((i < ((8 : Int) * ((ByteArray.size b) : Int))) ∧ ((ByteArray.size b) ≤ (100000 : Nat)))))) ∧ (R Exit.normal [(AV.v (Value.string a)), (AV.v (Value.string b)), AV.dead, AV.dead, AV.dead, AV.dead, (AV.v (Value.int IntKind.i64 f)), (AV.v (Value.int IntKind.i64 i)), (AV.v (Value.int IntKind.i64 (IntKind.wrap IntKind.i64 (i + (1 : Int))))), AV.dead, AV.dead, AV.dead, AV.dead, AV.dead, AV.dead, AV.dead, AV.dead, AV.dead, AV.dead, AV.dead, AV.dead, AV.dead, AV.dead, AV.dead, AV.dead, AV.dead, AV.dead, AV.dead, AV.dead, AV.dead, AV.dead, AV.dead, AV.dead, AV.dead, AV.dead, AV.dead] (AH.mk (@List.nil (Prod Go.TypeId (List AV))) (@List.nil Nat) (0 : Nat) (0 : Nat) true (@List.nil (Prod Nat Bool)) True))))) else (some ((cdb (cdb True (decide (((0 : Int) ≤ i) ∧ ((i < ((8 : Int) * ((ByteArray.size a) : Int))) ∧ ((ByteArray.size a) ≤ (100000 : Nat)))))) (decide (((0 : Int) ≤ i) ∧ ((i < ((8 : Int) * ((ByteArray.size b) : Int))) ∧ ((ByteArray.size b) ≤ (100000 : Nat)))))) ∧ (R Exit.normal [(AV.v (Value.string a)), (AV.v (Value.string b)), AV.dead, AV.dead, AV.dead, AV.dead, (AV.v (Value.int IntKind.i64 f)), (AV.v (Value.int IntKind.i64 t)), (AV.v (Value.int IntKind.i64 (IntKind.wrap IntKind.i64 (i + (1 : Int))))), AV.dead, AV.dead, AV.dead, AV.dead, AV.dead, AV.dead, AV.dead, AV.dead, AV.dead, AV.dead, AV.dead, AV.dead, AV.dead, AV.dead, AV.dead, AV.dead, AV.dead, AV.dead, AV.dead, AV.dead, AV.dead, AV.dead, AV.dead, AV.dead, AV.dead, AV.dead, AV.dead] (AH.mk (@List.nil (Prod Go.TypeId (List AV))) (@List.nil Nat) (0 : Nat) (0 : Nat) true (@List.nil (Prod Nat Bool)) True))))) else (some (True ∧ (R (Exit.exit (0 : Nat)) [(AV.v (Value.string a)), (AV.v (Value.string b)), AV.dead, AV.dead, AV.dead, AV.dead, (AV.v (Value.int IntKind.i64 f)), (AV.v (Value.int IntKind.i64 t)), (AV.v (Value.int IntKind.i64 i)), AV.dead, AV.dead, AV.dead, AV.dead, AV.dead, AV.dead, AV.dead, AV.dead, AV.dead, AV.dead, AV.dead, AV.dead, AV.dead, AV.dead, AV.dead, AV.dead, AV.dead, AV.dead, AV.dead, AV.dead, AV.dead, AV.dead, AV.dead, AV.dead, AV.dead, AV.dead, AV.dead] (AH.mk (@List.nil (Prod Go.TypeId (List AV))) (@List.nil Nat) (0 : Nat) (0 : Nat) true (@List.nil (Prod Nat Bool)) True))))) := by kernel_rfl
theorem ra_post (a b : ByteArray) (f t i : Int) (R : Exit → List AV → AH → Prop) : codeL nro (fun _ => false) prA 5 ((flatten (bodyOf 15)).drop 6) ([.v (.string a), .v (.string b)] ++ List.replicate 4 .dead ++ [.v (.int .i64 f), .v (.int .i64 t), .v (.int .i64 i)] ++ List.replicate 27 .dead) (hp [] []) (kp [4, 5] R) =
    (some (True ∧ (R Exit.ret [AV.dead, AV.dead, AV.dead, AV.dead, (AV.v (Value.int IntKind.i64 (IntKind.wrap IntKind.i64 ((IntKind.wrap IntKind.i64 (t - f)) + (1 : Int))))), (AV.v (Value.bool true)), AV.dead, AV.dead, AV.dead, AV.dead, AV.dead, AV.dead, AV.dead, AV.dead, AV.dead, AV.dead, AV.dead, AV.dead, AV.dead, AV.dead, AV.dead, AV.dead, AV.dead, AV.dead, AV.dead, AV.dead, AV.dead, AV.dead, AV.dead, AV.dead, AV.dead, AV.dead, AV.dead, AV.dead, AV.dead, AV.dead] (AH.mk (@List.nil (Prod Go.TypeId (List AV))) (@List.nil Nat) (0 : Nat) (0 : Nat) true (@List.nil (Prod Nat Bool)) True)))) := by kernel_rfl
end Go.Proofs.Ytbnhhacjoabpaaa.AE
namespace Go.Proofs.Ytbnhhacjoabpaaa.AE
open Go.RowKit Cr Oc
def apD (a b : ByteArray) : List Bool := unl (bitsL (bytsOf a)) (bitsL (bytsOf b))
def apN (a b : ByteArray) : Int := if a.size = b.size then (apS (apD a b) (8 * a.size)).2 - (apS (apD a b) (8 * a.size)).1 + 1 else 0
def apB (a b : ByteArray) : Bool := decide (a.size = b.size)
theorem apN_ne {a b : ByteArray} (h : ¬ a.size = b.size) : apN a b = 0 := if_neg h
theorem apN_eq {a b : ByteArray} (h : a.size = b.size) : apN a b = (apS (apD a b) (8 * a.size)).2 - (apS (apD a b) (8 * a.size)).1 + 1 := if_pos h
theorem sl_ap : slotsOf 14 = 49 := by kernel_rfl
theorem re_ap : resultsOf 14 = [.tmp 4, .tmp 5] := by kernel_rfl
theorem fl_ap : (flatten (bodyOf 14)).drop 5 = .block 0 (.loop (sub (bodyOf 14) [1, 1, 1, 0, 1, 0, 0])) :: (flatten (bodyOf 14)).drop 6 := by kernel_rfl
theorem sl_rap : slotsOf 15 = 36 := by kernel_rfl
theorem re_rap : resultsOf 15 = [.tmp 4, .tmp 5] := by kernel_rfl
theorem fl_rap : (flatten (bodyOf 15)).drop 5 = .block 0 (.loop (sub (bodyOf 15) [1, 1, 1, 0, 1, 0, 0])) :: (flatten (bodyOf 15)).drop 6 := by kernel_rfl
def rapA (a b : ByteArray) (f t i : Int) : List AV := [.v (.string a), .v (.string b)] ++ List.replicate 4 .dead ++ [.v (.int .i64 f), .v (.int .i64 t), .v (.int .i64 i)] ++ List.replicate 27 .dead
def apA (a b : ByteArray) (f t n i : Int) : List AV := [.v (.string a), .v (.string b)] ++ List.replicate 4 .dead ++ [.v (.int .i64 f), .v (.int .i64 t)] ++ List.replicate 8 .dead ++ [.v (.int .i64 n), .v (.int .i64 i)] ++ List.replicate 31 .dead
theorem apD_get (a b : ByteArray) (h : a.size = b.size) (k : Nat) (hk : k < 8 * a.size) : (apD a b).getD k false = (bitV a k != bitV b k) := by
  obtain ⟨x, hx, hx2⟩ := bitV_get a k hk
  obtain ⟨y, hy, hy2⟩ := bitV_get b k (by omega)
  unfold apD
  rw [unl_get _ _ k (by rw [bits_txt]; exact hk) (by rw [bits_txt]; omega), List.getD_eq_getElem?_getD, List.getD_eq_getElem?_getD, hx, hy, hx2, hy2]
  cases x <;> cases y <;> rfl
theorem ends_ap (D : List Bool) (k : Nat) (hk : k ≤ 800000) : IntKind.wrap .i64 (IntKind.wrap .i64 ((apS D k).2 - (apS D k).1) + 1) = (apS D k).2 - (apS D k).1 + 1 := by
  have := ap_rng D k
  rw [IntKind.wrap_i64, IntKind.wrap_i64]
  omega
theorem int_bne (x y : Nat) : (((x : Nat) : Int) != ((y : Nat) : Int)) = (x != y) := by
  by_cases h : x = y
  · subst h; simp
  · have : ¬ ((x : Nat) : Int) = ((y : Nat) : Int) := by omega
    rw [bne_iff_ne.2 this, bne_iff_ne.2 h]
theorem elz' (k v : Nat) (hk : k ≤ 1000000) (hv : v ≤ 7) : IntKind.wrap .i64 (IntKind.wrap .i64 (8 * (k : Int)) + ((v : Nat) : Int)) = ((8 * k + v : Nat) : Int) := by
  rw [IntKind.wrap_i64, IntKind.wrap_i64]; omega
theorem etz' (k v : Nat) (hk : k ≤ 1000000) (hv : v ≤ 7) : IntKind.wrap .i64 (IntKind.wrap .i64 (IntKind.wrap .i64 (8 * (k : Int)) + 7) - ((v : Nat) : Int)) = ((8 * k + 7 - v : Nat) : Int) := by
  rw [IntKind.wrap_i64, IntKind.wrap_i64, IntKind.wrap_i64]; omega
theorem ap_bodyU (a b : ByteArray) (f t n i u : Int) (R : Exit → List AV → AH → Prop) (hu : bits .xor .u8 (((Array.getD a.data (Int.toNat i) 0).toNat : Nat) : Int) (((Array.getD b.data (Int.toNat i) 0).toNat : Nat) : Int) = u) :
    code nro (fun _ => false) prA 5 (sub (bodyOf 14) [1, 1, 1, 0, 1, 0, 0]) (apA a b f t n i) (hp [] []) (kp [0, 1, 6, 7, 16, 17] R) =
      (bif decide (i < n) then
        (bif u == 0 then some (cdb (cdb True (decide (0 ≤ i ∧ i.toNat < a.size))) (decide (0 ≤ i ∧ i.toNat < b.size)) ∧ R .normal (apA a b f t n (IntKind.wrap .i64 (i + 1))) (hp [] []))
        else bif decide (f < 0) then some (cdb (cdb (cdb (cdb True (decide (0 ≤ i ∧ i.toNat < a.size))) (decide (0 ≤ i ∧ i.toNat < b.size))) (decide (0 ≤ u ∧ u < 256))) (decide (0 ≤ u ∧ u < 256)) ∧ R .normal (apA a b (IntKind.wrap .i64 (IntKind.wrap .i64 (8 * i) + (lzV u.toNat : Nat))) (IntKind.wrap .i64 (IntKind.wrap .i64 (IntKind.wrap .i64 (8 * i) + 7) - (tzV u.toNat : Nat))) n (IntKind.wrap .i64 (i + 1))) (hp [] []))
        else some (cdb (cdb (cdb True (decide (0 ≤ i ∧ i.toNat < a.size))) (decide (0 ≤ i ∧ i.toNat < b.size))) (decide (0 ≤ u ∧ u < 256)) ∧ R .normal (apA a b f (IntKind.wrap .i64 (IntKind.wrap .i64 (IntKind.wrap .i64 (8 * i) + 7) - (tzV u.toNat : Nat))) n (IntKind.wrap .i64 (i + 1))) (hp [] [])))
      else some (True ∧ R (.exit 0) (apA a b f t n i) (hp [] []))) := by
  subst hu
  exact Eq.trans (ap_body a b f t n i R) (by kernel_rfl)
theorem lz_le : ∀ u, u < 256 → u ≠ 0 → lzV u ≤ 7 ∧ tzV u ≤ 7 := by decide +kernel
theorem fs_rapart (a b : ByteArray) (ha : a.size ≤ 100000) (hb : b.size ≤ 100000) : Fs Try.prog nro 15 [.v (.string a), .v (.string b)] (hp [] []) fun r _ => r = .v (.tuple #[.int .i64 (apN a b), .bool (apB a b)]) := by
  refine Fs.of_body (has_fn (by kernel_rfl)) ?_
  rw [sl_rap, re_rap]
  refine Tr.of_flat (Trl.split 5 (Trl.of_code (knownA nro) (ne_nil (by kernel_rfl)) (ra_pre a b _) (holds_bif (fun h => ⟨trivial, .inr rfl, trivial, ?_⟩) fun h => ⟨trivial, ?_⟩)))
  · have hne : ¬ a.size = b.size := fun e => by rw [e] at h; simp at h
    have e2 : apB a b = false := decide_eq_false hne
    rw [apN_ne hne, e2]; rfl
  have he : a.size = b.size := by
    have h9 : (a.size : Int) = (b.size : Int) := by simpa using h
    omega
  show Trl _ _ ((flatten (bodyOf 15)).drop 5) _ _ _
  rw [fl_rap]
  refine Tr.keepL [0, 1, 6, 7, 8] rfl ?_
  let I : Nat → List AV → AH → Prop := fun m act H => ∃ k f t i, k ≤ 8 * a.size ∧ m = 8 * a.size - k ∧ act = rapA a b f t i ∧ f = (apS (apD a b) k).1 ∧ t = (apS (apD a b) k).2 ∧ i = ((k : Nat) : Int) ∧ H = hp [] []
  refine Tr.block (Tr.loop I ?_ (m := 8 * a.size) ⟨0, _, _, _, Nat.zero_le _, rfl, rfl, rfl, rfl, rfl, rfl⟩)
  rintro m act H ⟨k, f, t, i, hk, rfl, rfl, hf, ht, rfl, rfl⟩
  have hl : IntKind.wrap .i64 ((8 : Int) * ((a.size : Nat) : Int)) = ((8 * a.size : Nat) : Int) := by rw [IntKind.wrap_i64]; omega
  have body := fun R => ra_body a b f t k R
  rw [hl, add_one k (by omega)] at body
  have ca : k < 8 * a.size → decide ((0 : Int) ≤ (k : Int) ∧ (k : Int) < 8 * ((a.size : Nat) : Int) ∧ a.size ≤ 100000) = true := fun h => decide_eq_true ⟨Int.natCast_nonneg k, by omega, ha⟩
  have cb : k < 8 * a.size → decide ((0 : Int) ≤ (k : Int) ∧ (k : Int) < 8 * ((b.size : Nat) : Int) ∧ b.size ≤ 100000) = true := fun h => decide_eq_true ⟨Int.natCast_nonneg k, by omega, hb⟩
  refine Tr.of_code (knownA nro) (body _) (holds_bif (fun h8 => ?_) (fun h8 => ?_))
  · have h8 := of_decide_eq_true h8
    have hlt : k < 8 * a.size := by omega
    have hd := apD_get a b he k hlt
    have en : apS (apD a b) (k + 1) = apStep (apS (apD a b) k) k ((apD a b).getD k false) := rfl
    have fin : ∀ f' t', (apS (apD a b) (k + 1)) = (f', t') →
        ∃ m', m' < 8 * a.size - k ∧ I m' (rapA a b f' t' ((k + 1 : Nat) : Int)) (hp [] []) := fun f' t' h =>
      ⟨8 * a.size - (k + 1), by omega, k + 1, _, _, _, by omega, rfl, rfl, by rw [h], by rw [h], rfl, rfl⟩
    refine holds_bif (fun h2 => holds_bif (fun h3 => ?_) (fun h3 => ?_)) (fun h2 => ?_)
    · have hb2 : (bitV a k != bitV b k) = true := by
        rw [Int.toNat_natCast, int_bne] at h2; exact h2
      have h3 := of_decide_eq_true h3
      refine ⟨cdb_iff.2 ⟨cdb_iff.2 ⟨trivial, ca hlt⟩, cb hlt⟩, fin _ _ ?_⟩
      rw [en, hd, hb2]
      unfold apStep
      rw [if_pos rfl, if_pos (by rw [← hf]; exact h3)]
    · have hb2 : (bitV a k != bitV b k) = true := by
        rw [Int.toNat_natCast, int_bne] at h2; exact h2
      have h3 := of_decide_eq_false h3
      refine ⟨cdb_iff.2 ⟨cdb_iff.2 ⟨trivial, ca hlt⟩, cb hlt⟩, fin _ _ ?_⟩
      rw [en, hd, hb2]
      unfold apStep
      rw [if_pos rfl, if_neg (by rw [← hf]; exact h3), hf]
    · have hb2 : (bitV a k != bitV b k) = false := by
        rw [Int.toNat_natCast, int_bne] at h2; exact h2
      refine ⟨cdb_iff.2 ⟨cdb_iff.2 ⟨trivial, ca hlt⟩, cb hlt⟩, fin _ _ ?_⟩
      rw [en, hd, hb2, hf, ht]
      rfl
  · have h8 := of_decide_eq_false h8
    obtain rfl : k = 8 * a.size := by omega
    refine ⟨trivial, ?_⟩
    show Trl _ _ ((flatten (bodyOf 15)).drop 6) _ _ _
    refine Trl.of_code (knownA nro) (ne_nil (by kernel_rfl)) (ra_post a b f t _ _) ⟨trivial, .inr rfl, trivial, ?_⟩
    show AV.v (.tuple #[.int .i64 (IntKind.wrap .i64 (IntKind.wrap .i64 (t - f) + 1)), .bool true]) = _
    have e2 : apB a b = true := decide_eq_true he
    rw [hf, ht, ends_ap _ _ (by omega), ← apN_eq he, e2]
theorem fs_apart (a b : ByteArray) (ha : a.size ≤ 100000) (hb : b.size ≤ 100000) : Fs Try.prog nro 14 [.v (.string a), .v (.string b)] (hp [] []) fun r _ => r = .v (.tuple #[.int .i64 (apN a b), .bool (apB a b)]) := by
  refine Fs.of_body (has_fn (by kernel_rfl)) ?_
  rw [sl_ap, re_ap]
  refine Tr.of_flat (Trl.split 5 (Trl.of_code (knownA nro) (ne_nil (by kernel_rfl)) (ap_pre a b _) (holds_bif (fun h => ⟨trivial, .inr rfl, trivial, ?_⟩) fun h => ⟨trivial, ?_⟩)))
  · have hne : ¬ a.size = b.size := fun e => by rw [e] at h; simp at h
    have e2 : apB a b = false := decide_eq_false hne
    rw [apN_ne hne, e2]; rfl
  have he : a.size = b.size := by
    have h9 : (a.size : Int) = (b.size : Int) := by simpa using h
    omega
  show Trl _ _ ((flatten (bodyOf 14)).drop 5) _ _ _
  rw [fl_ap]
  refine Tr.keepL [0, 1, 6, 7, 16, 17] rfl ?_
  let I : Nat → List AV → AH → Prop := fun m act H => ∃ k f t i, k ≤ a.size ∧ m = a.size - k ∧ act = apA a b f t (a.size : Nat) i ∧ f = (apS (apD a b) (8 * k)).1 ∧ (0 ≤ f → t = (apS (apD a b) (8 * k)).2) ∧ i = ((k : Nat) : Int) ∧ H = hp [] []
  refine Tr.block (Tr.loop I ?_ (m := a.size) ⟨0, _, _, _, Nat.zero_le _, rfl, rfl, rfl, fun h => absurd h (by decide), rfl, rfl⟩)
  rintro m act H ⟨k, f, t, i, hk, rfl, rfl, hf, ht, rfl, rfl⟩
  by_cases hlt : k < a.size
  · have h80 : decide ((k : Int) < ((a.size : Nat) : Int)) = true := decide_eq_true (by omega)
    have hlb : k < b.size := by omega
    have ga := getD_byts a k hlt
    have gb := getD_byts b k hlb
    obtain ⟨x, hx⟩ : ∃ x, x = (bytsOf a)[k]'(by rw [len_byts]; exact hlt) := ⟨_, rfl⟩
    obtain ⟨y, hy⟩ : ∃ y, y = (bytsOf b)[k]'(by rw [len_byts]; exact hlb) := ⟨_, rfl⟩
    have hu : x.toNat ^^^ y.toNat < 256 := Nat.xor_lt_two_pow (n := 8) x.toNat_lt y.toNat_lt
    obtain ⟨u, hu2⟩ : ∃ u, u = x.toNat ^^^ y.toNat := ⟨_, rfl⟩
    rw [← hu2] at hu
    have ex : bits .xor .u8 (((Array.getD a.data (Int.toNat (k : Int)) 0).toNat : Nat) : Int) (((Array.getD b.data (Int.toNat (k : Int)) 0).toNat : Nat) : Int) = (u : Nat) := by
      rw [Int.toNat_natCast, ga, gb, ← hx, ← hy, hu2]
      exact u8_xor_nat _ _ x.toNat_lt y.toNat_lt
    have hbits : ∀ i, i < 8 → (apD a b).getD (8 * k + i) false = bitN u i := fun i hi => by
      unfold apD
      have e1 : (8 * k + i) / 8 = k := by omega
      have e2 : (8 * k + i) % 8 = i := by omega
      have gx : (bitsL (bytsOf a)).getD (8 * k + i) false = bitN x.toNat i := by
        rw [List.getD_eq_getElem?_getD, bits_get _ _ (by rw [len_byts]; omega), e1, e2, List.getD_eq_getElem?_getD, List.getElem?_eq_getElem (by rw [len_byts]; exact hlt), ← hx]; rfl
      have gy : (bitsL (bytsOf b)).getD (8 * k + i) false = bitN y.toNat i := by
        rw [List.getD_eq_getElem?_getD, bits_get _ _ (by rw [len_byts]; omega), e1, e2, List.getD_eq_getElem?_getD, List.getElem?_eq_getElem (by rw [len_byts]; exact hlb), ← hy]; rfl
      rw [unl_get _ _ _ (by rw [bits_txt]; omega) (by rw [bits_txt]; omega), gx, gy, hu2, xor_bit i hi _ x.toNat_lt _ y.toNat_lt]
    have step := ap_byte (apD a b) k u hu hbits
    have rng := ap_rng (apD a b) (8 * k)
    have c1 : decide ((0 : Int) ≤ (k : Int) ∧ k < a.size) = true := decide_eq_true ⟨Int.natCast_nonneg k, by omega⟩
    have c2 : decide ((0 : Int) ≤ (k : Int) ∧ k < b.size) = true := decide_eq_true ⟨Int.natCast_nonneg k, by omega⟩
    have c3 : decide ((0 : Int) ≤ (u : Int) ∧ (u : Int) < 256) = true := decide_eq_true ⟨Int.natCast_nonneg u, by omega⟩
    have fin : ∀ f' t', f' = (apS (apD a b) (8 * (k + 1))).1 → (0 ≤ f' → t' = (apS (apD a b) (8 * (k + 1))).2) →
        ∃ m', m' < a.size - k ∧ I m' (apA a b f' t' (a.size : Nat) ((k + 1 : Nat) : Int)) (hp [] []) := fun f' t' h1 h2 =>
      ⟨a.size - (k + 1), by omega, k + 1, _, _, _, by omega, rfl, rfl, h1, h2, rfl, rfl⟩
    have hlz := lz_le u hu
    have elz := fun h0 => elz' k (lzV u) (by omega) (hlz h0).1
    have etz := fun h0 => etz' k (tzV u) (by omega) (hlz h0).2
    have body := fun R => ap_bodyU a b f t (a.size : Nat) k u R ex
    rw [add_one k (by omega), h80, Int.toNat_natCast k, Int.toNat_natCast u] at body
    refine Tr.of_code (knownA nro) (body _) (holds_bif (fun _ => holds_bif (fun h2 => ?_) (fun h2 => holds_bif (fun h3 => ?_) (fun h3 => ?_))) fun h => nomatch h)
    · have h0 : u = 0 := by simpa using h2
      refine ⟨cdb_iff.2 ⟨cdb_iff.2 ⟨trivial, c1⟩, c2⟩, fin _ _ ?_ ?_⟩
      · rw [step, if_pos h0]; exact hf
      · rw [step, if_pos h0]; exact ht
    · have h0 : u ≠ 0 := by intro e; rw [e] at h2; simp at h2
      have h3 := of_decide_eq_true h3
      refine ⟨by with_reducible exact cdb_iff.2 ⟨cdb_iff.2 ⟨cdb_iff.2 ⟨cdb_iff.2 ⟨trivial, c1⟩, c2⟩, c3⟩, c3⟩, fin _ _ ?_ ?_⟩
      · refine (elz h0).trans ?_
        rw [step, if_neg h0]
        show _ = if _ then _ else _
        rw [if_pos (by rw [← hf]; exact h3)]
      · intro _
        refine (etz h0).trans ?_
        rw [step, if_neg h0]
    · have h0 : u ≠ 0 := by intro e; rw [e] at h2; simp at h2
      have h3 := of_decide_eq_false h3
      refine ⟨by with_reducible exact cdb_iff.2 ⟨cdb_iff.2 ⟨cdb_iff.2 ⟨trivial, c1⟩, c2⟩, c3⟩, fin _ _ ?_ ?_⟩
      · rw [step, if_neg h0]
        show _ = if _ then _ else _
        rw [if_neg (by rw [← hf]; exact h3)]; exact hf
      · intro _
        refine (etz h0).trans ?_
        rw [step, if_neg h0]
  · have h80 : decide ((k : Int) < ((a.size : Nat) : Int)) = false := decide_eq_false (by omega)
    obtain rfl : k = a.size := by omega
    have body := fun R => ap_bodyU a b f t (a.size : Nat) (a.size : Nat) _ R rfl
    rw [h80] at body
    refine Tr.of_code (knownA nro) (body _) (holds_bif (fun h => nomatch h) fun _ => ⟨trivial, ?_⟩)
    show Trl _ _ ((flatten (bodyOf 14)).drop 6) _ _ _
    have rng := ap_rng (apD a b) (8 * a.size)
    have e2 : apB a b = true := decide_eq_true he
    refine Trl.of_code (knownA nro) (ne_nil (by kernel_rfl)) (ap_post a b f t _ _ _) (holds_bif (fun h => ⟨trivial, .inr rfl, trivial, ?_⟩) fun h => ⟨trivial, .inr rfl, trivial, ?_⟩)
    · have h := of_decide_eq_true h
      show AV.v (.tuple #[.int .i64 0, .bool true]) = _
      rw [e2, apN_eq he]
      have : (apS (apD a b) (8 * a.size)).2 - (apS (apD a b) (8 * a.size)).1 + 1 = 0 := by rw [← hf] at rng ⊢; omega
      rw [this]
    · have h := of_decide_eq_false h
      show AV.v (.tuple #[.int .i64 (IntKind.wrap .i64 (IntKind.wrap .i64 (t - f) + 1)), .bool true]) = _
      rw [e2, ht (by omega), hf, ends_ap _ _ (by omega), ← apN_eq he]
def apP : List Value → Option (Value × Bool) := fun us => match us with
  | [.string a, .string b] => some (.tuple #[.int .i64 (apN a b), .bool (apB a b)], decide (a.size ≤ 100000 ∧ b.size ≤ 100000))
  | _ => none
theorem apart_ok (ro : Nat → Option (List Value)) : ∀ args H r H', pure? apP args H = some (r, H') → HSound1 Try.prog ro 14 args H r H' := by
  refine pure_ok (fun us c hs => Fs.ro ?_ ro) (has_fn (by kernel_rfl))
  unfold apP at hs
  split at hs
  · rename_i a b
    simp only [Option.some.injEq, Prod.mk.injEq, decide_eq_true_eq] at hs
    obtain ⟨rfl, h1, h2⟩ := hs
    exact fs_apart a b h1 h2
  · cases hs
theorem rapart_ok (ro : Nat → Option (List Value)) : ∀ args H r H', pure? apP args H = some (r, H') → HSound1 Try.prog ro 15 args H r H' := by
  refine pure_ok (fun us c hs => Fs.ro ?_ ro) (has_fn (by kernel_rfl))
  unfold apP at hs
  split at hs
  · rename_i a b
    simp only [Option.some.injEq, Prod.mk.injEq, decide_eq_true_eq] at hs
    obtain ⟨rfl, h1, h2⟩ := hs
    exact fs_rapart a b h1 h2
  · cases hs
end Go.Proofs.Ytbnhhacjoabpaaa.AE
namespace Go.Proofs.Ytbnhhacjoabpaaa.AE
open Go.RowKit Cr Oc
theorem awake03 : ends (run nro (fun _ => false) (fun _ => none) 12 6 [] H0) true := by
  have : ends (run nro (fun _ => false) (fun _ => none) 12 6 [] H0) true = (true = true ∧ True) := by kernel_rfl
  rw [this]; exact ⟨rfl, trivial⟩
noncomputable def prS : FuncId → Option (List AV → AH → Ans) := fun g => match g with
  | 9 => some (pure? moreP)
  | 10 => some (pure? moreP)
  | 11 => some (pure? sealP)
  | 16 => some (pure? sealP)
  | 12 => some (pure? openP)
  | 13 => some (pure? openP)
  | 14 => some (pure? apP)
  | 15 => some (pure? apP)
  | 6 => some (pure? awakeS)
  | _ => none
theorem knownS : Known nro prS := by
  intro g p h
  unfold prS at h
  split at h
  · cases h; exact more_ok _
  · cases h; exact rmore_ok _
  · cases h; exact seal_ok _
  · cases h; exact rseal_ok _
  · cases h; exact open_ok _
  · cases h; exact ropen_ok _
  · cases h; exact apart_ok _
  · cases h; exact rapart_ok _
  · cases h; exact awake_ok awake03 (has_fn (by kernel_rfl))
  · cases h
theorem t_seals (a b : ByteArray) (Φ : AV → Prop) : callK nro (fun _ => false) prS 5 4 [.v (.string a), .v (.string b)] (hp [] []) (fun r h => some (h.cd ∧ Φ r)) =
    (bif (decide ((300 : Int) < ((ByteArray.size a) : Int))) then (some (True ∧ (Φ (AV.v (Value.bool true))))) else (bif (decide ((300 : Int) < ((ByteArray.size b) : Int))) then (some (True ∧ (Φ (AV.v (Value.bool true))))) else (bif ((ByteArray.toList (sealS a)) == (ByteArray.toList (sealS a))) then (bif (((Cr.bytL (65535 : Nat) (bytsOf (sealS a))) : Int) == (0 : Int)) then (bif ((ByteArray.toList (openS (sealS a))) == (ByteArray.toList a)) then (bif ((openE (sealS a)) == (0 : Int)) then (bif ((ByteArray.toList (openS b)) == (ByteArray.toList (openS b))) then (bif ((openE b) == (openE b)) then (bif ((apN a b) == (apN a b)) then (bif ((apB a b) == (apB a b)) then (some ((cdb (cdb (cdb (cdb (cdb (cdb (cdb (cdb True (decide ((ByteArray.size a) ≤ (100000 : Nat)))) (decide ((ByteArray.size (sealS a)) ≤ (100000 : Nat)))) (decide ((ByteArray.size b) ≤ (100000 : Nat)))) (decide ((ByteArray.size b) ≤ (100000 : Nat)))) (decide (((ByteArray.size a) ≤ (100000 : Nat)) ∧ ((ByteArray.size b) ≤ (100000 : Nat))))) (decide (((ByteArray.size a) ≤ (100000 : Nat)) ∧ ((ByteArray.size b) ≤ (100000 : Nat))))) (decide ((ByteArray.size a) ≤ (100000 : Nat)))) (decide ((ByteArray.size (sealS a)) ≤ (100000 : Nat)))) ∧ (Φ (AV.v (Value.bool true))))) else (some ((cdb (cdb (cdb (cdb (cdb (cdb (cdb (cdb True (decide ((ByteArray.size a) ≤ (100000 : Nat)))) (decide ((ByteArray.size (sealS a)) ≤ (100000 : Nat)))) (decide ((ByteArray.size b) ≤ (100000 : Nat)))) (decide ((ByteArray.size b) ≤ (100000 : Nat)))) (decide (((ByteArray.size a) ≤ (100000 : Nat)) ∧ ((ByteArray.size b) ≤ (100000 : Nat))))) (decide (((ByteArray.size a) ≤ (100000 : Nat)) ∧ ((ByteArray.size b) ≤ (100000 : Nat))))) (decide ((ByteArray.size a) ≤ (100000 : Nat)))) (decide ((ByteArray.size (sealS a)) ≤ (100000 : Nat)))) ∧ (Φ (AV.v (Value.bool false)))))) else (some ((cdb (cdb (cdb (cdb (cdb (cdb (cdb (cdb True (decide ((ByteArray.size a) ≤ (100000 : Nat)))) (decide ((ByteArray.size (sealS a)) ≤ (100000 : Nat)))) (decide ((ByteArray.size b) ≤ (100000 : Nat)))) (decide ((ByteArray.size b) ≤ (100000 : Nat)))) (decide (((ByteArray.size a) ≤ (100000 : Nat)) ∧ ((ByteArray.size b) ≤ (100000 : Nat))))) (decide (((ByteArray.size a) ≤ (100000 : Nat)) ∧ ((ByteArray.size b) ≤ (100000 : Nat))))) (decide ((ByteArray.size a) ≤ (100000 : Nat)))) (decide ((ByteArray.size (sealS a)) ≤ (100000 : Nat)))) ∧ (Φ (AV.v (Value.bool false)))))) else (some ((cdb (cdb (cdb (cdb (cdb (cdb (cdb (cdb True (decide ((ByteArray.size a) ≤ (100000 : Nat)))) (decide ((ByteArray.size (sealS a)) ≤ (100000 : Nat)))) (decide ((ByteArray.size b) ≤ (100000 : Nat)))) (decide ((ByteArray.size b) ≤ (100000 : Nat)))) (decide (((ByteArray.size a) ≤ (100000 : Nat)) ∧ ((ByteArray.size b) ≤ (100000 : Nat))))) (decide (((ByteArray.size a) ≤ (100000 : Nat)) ∧ ((ByteArray.size b) ≤ (100000 : Nat))))) (decide ((ByteArray.size a) ≤ (100000 : Nat)))) (decide ((ByteArray.size (sealS a)) ≤ (100000 : Nat)))) ∧ (Φ (AV.v (Value.bool false)))))) else (some ((cdb (cdb (cdb (cdb (cdb (cdb (cdb (cdb True (decide ((ByteArray.size a) ≤ (100000 : Nat)))) (decide ((ByteArray.size (sealS a)) ≤ (100000 : Nat)))) (decide ((ByteArray.size b) ≤ (100000 : Nat)))) (decide ((ByteArray.size b) ≤ (100000 : Nat)))) (decide (((ByteArray.size a) ≤ (100000 : Nat)) ∧ ((ByteArray.size b) ≤ (100000 : Nat))))) (decide (((ByteArray.size a) ≤ (100000 : Nat)) ∧ ((ByteArray.size b) ≤ (100000 : Nat))))) (decide ((ByteArray.size a) ≤ (100000 : Nat)))) (decide ((ByteArray.size (sealS a)) ≤ (100000 : Nat)))) ∧ (Φ (AV.v (Value.bool false)))))) else (some ((cdb (cdb (cdb (cdb (cdb (cdb (cdb (cdb True (decide ((ByteArray.size a) ≤ (100000 : Nat)))) (decide ((ByteArray.size (sealS a)) ≤ (100000 : Nat)))) (decide ((ByteArray.size b) ≤ (100000 : Nat)))) (decide ((ByteArray.size b) ≤ (100000 : Nat)))) (decide (((ByteArray.size a) ≤ (100000 : Nat)) ∧ ((ByteArray.size b) ≤ (100000 : Nat))))) (decide (((ByteArray.size a) ≤ (100000 : Nat)) ∧ ((ByteArray.size b) ≤ (100000 : Nat))))) (decide ((ByteArray.size a) ≤ (100000 : Nat)))) (decide ((ByteArray.size (sealS a)) ≤ (100000 : Nat)))) ∧ (Φ (AV.v (Value.bool false)))))) else (some ((cdb (cdb (cdb (cdb (cdb (cdb (cdb (cdb True (decide ((ByteArray.size a) ≤ (100000 : Nat)))) (decide ((ByteArray.size (sealS a)) ≤ (100000 : Nat)))) (decide ((ByteArray.size b) ≤ (100000 : Nat)))) (decide ((ByteArray.size b) ≤ (100000 : Nat)))) (decide (((ByteArray.size a) ≤ (100000 : Nat)) ∧ ((ByteArray.size b) ≤ (100000 : Nat))))) (decide (((ByteArray.size a) ≤ (100000 : Nat)) ∧ ((ByteArray.size b) ≤ (100000 : Nat))))) (decide ((ByteArray.size a) ≤ (100000 : Nat)))) (decide ((ByteArray.size (sealS a)) ≤ (100000 : Nat)))) ∧ (Φ (AV.v (Value.bool false)))))) else (some ((cdb (cdb (cdb (cdb (cdb (cdb (cdb (cdb True (decide ((ByteArray.size a) ≤ (100000 : Nat)))) (decide ((ByteArray.size (sealS a)) ≤ (100000 : Nat)))) (decide ((ByteArray.size b) ≤ (100000 : Nat)))) (decide ((ByteArray.size b) ≤ (100000 : Nat)))) (decide (((ByteArray.size a) ≤ (100000 : Nat)) ∧ ((ByteArray.size b) ≤ (100000 : Nat))))) (decide (((ByteArray.size a) ≤ (100000 : Nat)) ∧ ((ByteArray.size b) ≤ (100000 : Nat))))) (decide ((ByteArray.size a) ≤ (100000 : Nat)))) (decide ((ByteArray.size (sealS a)) ≤ (100000 : Nat)))) ∧ (Φ (AV.v (Value.bool false)))))) else (some ((cdb (cdb (cdb (cdb (cdb (cdb (cdb True (decide ((ByteArray.size a) ≤ (100000 : Nat)))) (decide ((ByteArray.size (sealS a)) ≤ (100000 : Nat)))) (decide ((ByteArray.size b) ≤ (100000 : Nat)))) (decide ((ByteArray.size b) ≤ (100000 : Nat)))) (decide (((ByteArray.size a) ≤ (100000 : Nat)) ∧ ((ByteArray.size b) ≤ (100000 : Nat))))) (decide (((ByteArray.size a) ≤ (100000 : Nat)) ∧ ((ByteArray.size b) ≤ (100000 : Nat))))) (decide ((ByteArray.size a) ≤ (100000 : Nat)))) ∧ (Φ (AV.v (Value.bool false)))))))) := by kernel_rfl
end Go.Proofs.Ytbnhhacjoabpaaa.AE
namespace Go.Proofs.Ytbnhhacjoabpaaa
open Go.RowKit AE Cr Oc
theorem byts_inj {a b : ByteArray} (h : bytsOf a = bytsOf b) : a = b := by
  apply ByteArray.ext
  exact Array.toList_inj.1 h
theorem byts_seal (a : ByteArray) : bytsOf (sealS a) = bytsOf a ++ be 2 (sumS a) := rfl
theorem seal_body (a : ByteArray) : bodyB (sealS a) = a := by
  have h2 : 2 ≤ (sealS a).size := by rw [seal_size]; omega
  have h := split_b (sealS a) h2
  rw [byts_seal] at h
  refine byts_inj (List.append_inj h ?_).1.symm
  rw [len_byts, len_byts]
  unfold bodyB
  rw [ByteArray.size_extract, seal_size]
  omega
theorem seal_opens (a : ByteArray) : opens (sealS a) = true := by
  unfold opens
  rw [seal_body]
  exact beq_self_eq_true _
theorem open_seal (a : ByteArray) : openS (sealS a) = a ∧ openE (sealS a) = 0 := by
  have h2 : ¬ (sealS a).size < 2 := by rw [seal_size]; omega
  unfold openS openE
  rw [if_neg h2, if_neg h2, seal_opens, seal_body]
  exact ⟨rfl, rfl⟩
theorem sum_seal (a : ByteArray) : bytL 65535 (bytsOf (sealS a)) = 0 := by
  rw [byts_seal, bytL_app]
  exact seal_zero _ (sumS_lt a)
theorem no_beq {α : Type} [BEq α] [LawfulBEq α] {n : α} {P : Prop} (h : (n == n) = false) : P := by simp at h
theorem w_CrcSeals (w : World) (a : ByteArray) (_ : a.size ≤ maxLen) (b : ByteArray) (_ : b.size ≤ maxLen) :
    Calls Try.prog 4 #[.string a, .string b] w fun e w' => e = .returned (.bool true) ∧ Below w.heap.size w w' := by
  refine law_true (ro := nro) (args := [.v (.string a), .v (.string b)]) ?_ w _ (ro_none _ _) (.cons (.v _) (.cons (.v _) .nil))
  have t := t_seals a b fun r => r = .v (.bool true)
  rw [sum_seal, (open_seal a).1, (open_seal a).2] at t
  refine Fs.of_call knownS t (holds_bif (fun _ => ⟨trivial, rfl⟩) fun h1 => holds_bif (fun _ => ⟨trivial, rfl⟩) fun h2 => holds_bif (fun _ => holds_bif (fun _ => holds_bif (fun _ => holds_bif (fun _ => holds_bif (fun _ => holds_bif (fun _ => holds_bif (fun _ => holds_bif (fun _ => ?_) no_beq) no_beq) no_beq) no_beq) no_beq) no_beq) (fun h => by simp at h)) no_beq)
  have h1 := of_decide_eq_false h1
  have h2 := of_decide_eq_false h2
  refine ⟨?_, rfl⟩
  have ha : a.size ≤ 100000 := by omega
  have hb : b.size ≤ 100000 := by omega
  have hs : (sealS a).size ≤ 100000 := by rw [seal_size]; omega
  repeat' first
    | with_reducible exact trivial
    | with_reducible refine cdb_iff.2 ⟨?_, ?_⟩
  all_goals (refine decide_eq_true ?_; first | with_reducible exact ha | with_reducible exact hb | with_reducible exact hs | with_reducible exact ⟨ha, hb⟩)
end Go.Proofs.Ytbnhhacjoabpaaa
namespace Go.Proofs.Ytbnhhacjoabpaaa.AE
open Go.RowKit Cr
def tuA (at_ t : Int) (n cap : Nat) (k : Int) (i one j q : AV) : List AV := [.dead, .v (.int .i64 at_), .v (.int .u16 t)] ++ List.replicate 4 .dead ++ [.sl 0 0 n cap, .v (.int .i64 k), i, one, j] ++ List.replicate 22 .dead ++ [q] ++ List.replicate 25 .dead
def tuH (L : List AV) : AH := hp [(999999, L)] []
theorem tu_pre (s : ByteArray) (at_ t : Int) (R : Exit → List AV → AH → Prop) : codeL nro (fun _ => false) (fun _ => none) 5 ((flatten (bodyOf 17)).take 1) ([.v (.string s), .v (.int .i64 at_), .v (.int .u16 t)] ++ List.replicate 57 (.v undef)) (hp [] []) (kp [0, 1, 2] R) =
    (some (True ∧ (R Exit.normal [(AV.v (Value.string s)), (AV.v (Value.int IntKind.i64 at_)), (AV.v (Value.int IntKind.u16 t)), AV.dead, AV.dead, AV.dead, AV.dead, AV.dead, AV.dead, AV.dead, AV.dead, AV.dead, AV.dead, AV.dead, AV.dead, AV.dead, AV.dead, AV.dead, AV.dead, AV.dead, AV.dead, AV.dead, AV.dead, AV.dead, AV.dead, AV.dead, AV.dead, AV.dead, AV.dead, AV.dead, AV.dead, AV.dead, AV.dead, AV.dead, AV.dead, AV.dead, AV.dead, AV.dead, AV.dead, AV.dead, AV.dead, AV.dead, AV.dead, AV.dead, AV.dead, AV.dead, AV.dead, AV.dead, AV.dead, AV.dead, AV.dead, AV.dead, AV.dead, AV.dead, AV.dead, AV.dead, AV.dead, AV.dead, AV.dead, AV.dead] (AH.mk (@List.nil (Prod Go.TypeId (List AV))) (@List.nil Nat) (0 : Nat) (0 : Nat) true (@List.nil (Prod Nat Bool)) True)))) := by kernel_rfl
theorem tu_two (at_ t : Int) (n cap : Nat) (L : List AV) (R : Exit → List AV → AH → Prop) : codeL nro (fun _ => false) (fun _ => none) 5 (((flatten (bodyOf 17)).drop 2).take 1) ([.dead, .v (.int .i64 at_), .v (.int .u16 t)] ++ List.replicate 4 .dead ++ [.sl 0 0 n cap] ++ List.replicate 52 .dead) (tuH L) (kp [1, 2, 7, 8] R) =
    (some (True ∧ (R Exit.normal [AV.dead, (AV.v (Value.int IntKind.i64 at_)), (AV.v (Value.int IntKind.u16 t)), AV.dead, AV.dead, AV.dead, AV.dead, (AV.sl (0 : Nat) (0 : Nat) n cap), (AV.v (Value.int IntKind.i64 (0 : Int))), AV.dead, AV.dead, AV.dead, AV.dead, AV.dead, AV.dead, AV.dead, AV.dead, AV.dead, AV.dead, AV.dead, AV.dead, AV.dead, AV.dead, AV.dead, AV.dead, AV.dead, AV.dead, AV.dead, AV.dead, AV.dead, AV.dead, AV.dead, AV.dead, AV.dead, AV.dead, AV.dead, AV.dead, AV.dead, AV.dead, AV.dead, AV.dead, AV.dead, AV.dead, AV.dead, AV.dead, AV.dead, AV.dead, AV.dead, AV.dead, AV.dead, AV.dead, AV.dead, AV.dead, AV.dead, AV.dead, AV.dead, AV.dead, AV.dead, AV.dead, AV.dead] (AH.mk [((999999 : Nat), L)] (@List.nil Nat) (0 : Nat) (0 : Nat) true (@List.nil (Prod Nat Bool)) True)))) := by kernel_rfl
theorem tu_head (at_ t k : Int) (n cap : Nat) (L : List AV) (R : Exit → List AV → AH → Prop) : codeL nro (fun _ => false) (fun _ => none) 5 ((flatten (sub (bodyOf 17) [1, 1, 0, 1, 0, 0])).take 2) (tuA at_ t n cap k .dead .dead .dead .dead) (tuH L) (kp [1, 2, 7, 8] R) =
    (bif (decide (k < (16 : Int))) then (some (True ∧ (R Exit.normal [AV.dead, (AV.v (Value.int IntKind.i64 at_)), (AV.v (Value.int IntKind.u16 t)), AV.dead, AV.dead, AV.dead, AV.dead, (AV.sl (0 : Nat) (0 : Nat) n cap), (AV.v (Value.int IntKind.i64 k)), AV.dead, AV.dead, AV.dead, AV.dead, AV.dead, AV.dead, AV.dead, AV.dead, AV.dead, AV.dead, AV.dead, AV.dead, AV.dead, AV.dead, AV.dead, AV.dead, AV.dead, AV.dead, AV.dead, AV.dead, AV.dead, AV.dead, AV.dead, AV.dead, AV.dead, AV.dead, AV.dead, AV.dead, AV.dead, AV.dead, AV.dead, AV.dead, AV.dead, AV.dead, AV.dead, AV.dead, AV.dead, AV.dead, AV.dead, AV.dead, AV.dead, AV.dead, AV.dead, AV.dead, AV.dead, AV.dead, AV.dead, AV.dead, AV.dead, AV.dead, AV.dead] (AH.mk [((999999 : Nat), L)] (@List.nil Nat) (0 : Nat) (0 : Nat) true (@List.nil (Prod Nat Bool)) True)))) else (some (True ∧ (R (Exit.exit (0 : Nat)) [AV.dead, (AV.v (Value.int IntKind.i64 at_)), (AV.v (Value.int IntKind.u16 t)), AV.dead, AV.dead, AV.dead, AV.dead, (AV.sl (0 : Nat) (0 : Nat) n cap), (AV.v (Value.int IntKind.i64 k)), AV.dead, AV.dead, AV.dead, AV.dead, AV.dead, AV.dead, AV.dead, AV.dead, AV.dead, AV.dead, AV.dead, AV.dead, AV.dead, AV.dead, AV.dead, AV.dead, AV.dead, AV.dead, AV.dead, AV.dead, AV.dead, AV.dead, AV.dead, AV.dead, AV.dead, AV.dead, AV.dead, AV.dead, AV.dead, AV.dead, AV.dead, AV.dead, AV.dead, AV.dead, AV.dead, AV.dead, AV.dead, AV.dead, AV.dead, AV.dead, AV.dead, AV.dead, AV.dead, AV.dead, AV.dead, AV.dead, AV.dead, AV.dead, AV.dead, AV.dead, AV.dead] (AH.mk [((999999 : Nat), L)] (@List.nil Nat) (0 : Nat) (0 : Nat) true (@List.nil (Prod Nat Bool)) True))))) := by kernel_rfl
theorem tu_test (at_ t k : Int) (n cap : Nat) (L : List AV) (R : Exit → List AV → AH → Prop) : codeL nro (fun _ => false) (fun _ => none) 5 ((flatten (sub (bodyOf 17) [1, 1, 0, 1, 0, 0, 1, 0, 0])).take 2) (tuA at_ t n cap k .dead .dead .dead .dead) (tuH L) (kp [1, 2, 7, 8, 9, 34] R) =
    (bif ((IntKind.wrap IntKind.u16 (Int.tdiv t (32768 : Int))) == (1 : Int)) then (bif (decide ((0 : Int) ≤ (IntKind.wrap IntKind.i64 (at_ + k)))) then (some (True ∧ (R Exit.normal [AV.dead, (AV.v (Value.int IntKind.i64 at_)), (AV.v (Value.int IntKind.u16 t)), AV.dead, AV.dead, AV.dead, AV.dead, (AV.sl (0 : Nat) (0 : Nat) n cap), (AV.v (Value.int IntKind.i64 k)), (AV.v (Value.int IntKind.i64 (IntKind.wrap IntKind.i64 (at_ + k)))), AV.dead, AV.dead, AV.dead, AV.dead, AV.dead, AV.dead, AV.dead, AV.dead, AV.dead, AV.dead, AV.dead, AV.dead, AV.dead, AV.dead, AV.dead, AV.dead, AV.dead, AV.dead, AV.dead, AV.dead, AV.dead, AV.dead, AV.dead, AV.dead, (AV.v (Value.bool (decide ((IntKind.wrap IntKind.i64 (at_ + k)) < (IntKind.wrap IntKind.i64 ((8 : Int) * (n : Int))))))), AV.dead, AV.dead, AV.dead, AV.dead, AV.dead, AV.dead, AV.dead, AV.dead, AV.dead, AV.dead, AV.dead, AV.dead, AV.dead, AV.dead, AV.dead, AV.dead, AV.dead, AV.dead, AV.dead, AV.dead, AV.dead, AV.dead, AV.dead, AV.dead, AV.dead] (AH.mk [((999999 : Nat), L)] (@List.nil Nat) (0 : Nat) (0 : Nat) true (@List.nil (Prod Nat Bool)) True)))) else (some (True ∧ (R Exit.normal [AV.dead, (AV.v (Value.int IntKind.i64 at_)), (AV.v (Value.int IntKind.u16 t)), AV.dead, AV.dead, AV.dead, AV.dead, (AV.sl (0 : Nat) (0 : Nat) n cap), (AV.v (Value.int IntKind.i64 k)), (AV.v (Value.int IntKind.i64 (IntKind.wrap IntKind.i64 (at_ + k)))), AV.dead, AV.dead, AV.dead, AV.dead, AV.dead, AV.dead, AV.dead, AV.dead, AV.dead, AV.dead, AV.dead, AV.dead, AV.dead, AV.dead, AV.dead, AV.dead, AV.dead, AV.dead, AV.dead, AV.dead, AV.dead, AV.dead, AV.dead, AV.dead, (AV.v (Value.bool false)), AV.dead, AV.dead, AV.dead, AV.dead, AV.dead, AV.dead, AV.dead, AV.dead, AV.dead, AV.dead, AV.dead, AV.dead, AV.dead, AV.dead, AV.dead, AV.dead, AV.dead, AV.dead, AV.dead, AV.dead, AV.dead, AV.dead, AV.dead, AV.dead, AV.dead] (AH.mk [((999999 : Nat), L)] (@List.nil Nat) (0 : Nat) (0 : Nat) true (@List.nil (Prod Nat Bool)) True))))) else (some (True ∧ (R Exit.normal [AV.dead, (AV.v (Value.int IntKind.i64 at_)), (AV.v (Value.int IntKind.u16 t)), AV.dead, AV.dead, AV.dead, AV.dead, (AV.sl (0 : Nat) (0 : Nat) n cap), (AV.v (Value.int IntKind.i64 k)), (AV.v (Value.int IntKind.i64 (IntKind.wrap IntKind.i64 (at_ + k)))), AV.dead, AV.dead, AV.dead, AV.dead, AV.dead, AV.dead, AV.dead, AV.dead, AV.dead, AV.dead, AV.dead, AV.dead, AV.dead, AV.dead, AV.dead, AV.dead, AV.dead, AV.dead, AV.dead, AV.dead, AV.dead, AV.dead, AV.dead, AV.dead, (AV.v (Value.bool false)), AV.dead, AV.dead, AV.dead, AV.dead, AV.dead, AV.dead, AV.dead, AV.dead, AV.dead, AV.dead, AV.dead, AV.dead, AV.dead, AV.dead, AV.dead, AV.dead, AV.dead, AV.dead, AV.dead, AV.dead, AV.dead, AV.dead, AV.dead, AV.dead, AV.dead] (AH.mk [((999999 : Nat), L)] (@List.nil Nat) (0 : Nat) (0 : Nat) true (@List.nil (Prod Nat Bool)) True))))) := by kernel_rfl
theorem tu_set (at_ t k i : Int) (n cap : Nat) (L : List AV) (R : Exit → List AV → AH → Prop) : codeL nro (fun _ => false) (fun _ => none) 5 ((flatten (sub (bodyOf 17) [1, 1, 0, 1, 0, 0, 1, 0, 0, 1, 0, 1, 0])).take 2) (tuA at_ t n cap k (.v (.int .i64 i)) .dead .dead .dead) (tuH L) (kp [1, 2, 7, 8, 9, 10, 11] R) =
    (some (True ∧ (R Exit.normal [AV.dead, (AV.v (Value.int IntKind.i64 at_)), (AV.v (Value.int IntKind.u16 t)), AV.dead, AV.dead, AV.dead, AV.dead, (AV.sl (0 : Nat) (0 : Nat) n cap), (AV.v (Value.int IntKind.i64 k)), (AV.v (Value.int IntKind.i64 i)), (AV.v (Value.int IntKind.u8 (128 : Int))), (AV.v (Value.int IntKind.i64 (IntKind.wrap IntKind.i64 ((IntKind.wrap IntKind.i64 (Int.tdiv i (8 : Int))) * (8 : Int))))), AV.dead, AV.dead, AV.dead, AV.dead, AV.dead, AV.dead, AV.dead, AV.dead, AV.dead, AV.dead, AV.dead, AV.dead, AV.dead, AV.dead, AV.dead, AV.dead, AV.dead, AV.dead, AV.dead, AV.dead, AV.dead, AV.dead, AV.dead, AV.dead, AV.dead, AV.dead, AV.dead, AV.dead, AV.dead, AV.dead, AV.dead, AV.dead, AV.dead, AV.dead, AV.dead, AV.dead, AV.dead, AV.dead, AV.dead, AV.dead, AV.dead, AV.dead, AV.dead, AV.dead, AV.dead, AV.dead, AV.dead, AV.dead] (AH.mk [((999999 : Nat), L)] (@List.nil Nat) (0 : Nat) (0 : Nat) true (@List.nil (Prod Nat Bool)) True)))) := by kernel_rfl
theorem tu_in (at_ t k i o j : Int) (n cap : Nat) (L : List AV) (R : Exit → List AV → AH → Prop) : code nro (fun _ => false) (fun _ => none) 5 (sub (bodyOf 17) [1, 1, 0, 1, 0, 0, 1, 0, 0, 1, 0, 1, 0, 1, 0, 1, 0, 0]) (tuA at_ t n cap k (.v (.int .i64 i)) (.v (.int .u8 o)) (.v (.int .i64 j)) .dead) (tuH L) (kp [1, 2, 7, 8, 9, 10, 11] R) =
    (bif (decide (j < i)) then (some (True ∧ (R Exit.normal [AV.dead, (AV.v (Value.int IntKind.i64 at_)), (AV.v (Value.int IntKind.u16 t)), AV.dead, AV.dead, AV.dead, AV.dead, (AV.sl (0 : Nat) (0 : Nat) n cap), (AV.v (Value.int IntKind.i64 k)), (AV.v (Value.int IntKind.i64 i)), (AV.v (Value.int IntKind.u8 (IntKind.wrap IntKind.u8 (Int.tdiv o (2 : Int))))), (AV.v (Value.int IntKind.i64 (IntKind.wrap IntKind.i64 (j + (1 : Int))))), AV.dead, AV.dead, AV.dead, AV.dead, AV.dead, AV.dead, AV.dead, AV.dead, AV.dead, AV.dead, AV.dead, AV.dead, AV.dead, AV.dead, AV.dead, AV.dead, AV.dead, AV.dead, AV.dead, AV.dead, AV.dead, AV.dead, AV.dead, AV.dead, AV.dead, AV.dead, AV.dead, AV.dead, AV.dead, AV.dead, AV.dead, AV.dead, AV.dead, AV.dead, AV.dead, AV.dead, AV.dead, AV.dead, AV.dead, AV.dead, AV.dead, AV.dead, AV.dead, AV.dead, AV.dead, AV.dead, AV.dead, AV.dead] (AH.mk [((999999 : Nat), L)] (@List.nil Nat) (0 : Nat) (0 : Nat) true (@List.nil (Prod Nat Bool)) True)))) else (some (True ∧ (R (Exit.exit (2 : Nat)) [AV.dead, (AV.v (Value.int IntKind.i64 at_)), (AV.v (Value.int IntKind.u16 t)), AV.dead, AV.dead, AV.dead, AV.dead, (AV.sl (0 : Nat) (0 : Nat) n cap), (AV.v (Value.int IntKind.i64 k)), (AV.v (Value.int IntKind.i64 i)), (AV.v (Value.int IntKind.u8 o)), (AV.v (Value.int IntKind.i64 j)), AV.dead, AV.dead, AV.dead, AV.dead, AV.dead, AV.dead, AV.dead, AV.dead, AV.dead, AV.dead, AV.dead, AV.dead, AV.dead, AV.dead, AV.dead, AV.dead, AV.dead, AV.dead, AV.dead, AV.dead, AV.dead, AV.dead, AV.dead, AV.dead, AV.dead, AV.dead, AV.dead, AV.dead, AV.dead, AV.dead, AV.dead, AV.dead, AV.dead, AV.dead, AV.dead, AV.dead, AV.dead, AV.dead, AV.dead, AV.dead, AV.dead, AV.dead, AV.dead, AV.dead, AV.dead, AV.dead, AV.dead, AV.dead] (AH.mk [((999999 : Nat), L)] (@List.nil Nat) (0 : Nat) (0 : Nat) true (@List.nil (Prod Nat Bool)) True))))) := by kernel_rfl
theorem tu_put (at_ t k i o : Int) (n cap : Nat) (L : List AV) (R : Exit → List AV → AH → Prop) : codeL nro (fun _ => false) (fun _ => none) 5 ((flatten (sub (bodyOf 17) [1, 1, 0, 1, 0, 0, 1, 0, 0, 1, 0, 1, 0])).drop 3) (tuA at_ t n cap k (.v (.int .i64 i)) (.v (.int .u8 o)) .dead .dead) (tuH L) (kp [1, 2, 7, 8] R) =
    some (cdb (cdb (cds (cdb True (decide (0 ≤ IntKind.wrap .i64 (Int.tdiv i 8) ∧ IntKind.wrap .i64 (Int.tdiv i 8) < (n : Int)))) (shapes Try.prog ((L.drop (0 + (IntKind.wrap .i64 (Int.tdiv i 8)).toNat * 1)).take 1) [5]) ((L.drop (0 + (IntKind.wrap .i64 (Int.tdiv i 8)).toNat * 1)).take 1 = [.v (.int .u8 (exInt (L.getD (0 + (IntKind.wrap .i64 (Int.tdiv i 8)).toNat * 1 + 0) .dead)))])) (decide (0 ≤ IntKind.wrap .i64 (Int.tdiv i 8) ∧ IntKind.wrap .i64 (Int.tdiv i 8) < (n : Int)))) (decide (0 + (IntKind.wrap .i64 (Int.tdiv i 8)).toNat * 1 + 1 ≤ L.length)) ∧
      R .normal (tuA at_ t n cap k .dead .dead .dead .dead) (tuH (splice L (0 + (IntKind.wrap .i64 (Int.tdiv i 8)).toNat * 1) [.v (.int .u8 (bits .xor .u8 (exInt (L.getD (0 + (IntKind.wrap .i64 (Int.tdiv i 8)).toNat * 1 + 0) .dead)) o))]))) := by kernel_rfl
theorem tu_dbl (at_ t k : Int) (n cap : Nat) (L : List AV) (R : Exit → List AV → AH → Prop) : codeL nro (fun _ => false) (fun _ => none) 5 ((flatten (sub (bodyOf 17) [1, 1, 0, 1, 0, 0, 1, 0, 0])).drop 3) (tuA at_ t n cap k .dead .dead .dead .dead) (tuH L) (kp [1, 2, 7, 8] R) =
    (some (True ∧ (R Exit.normal [AV.dead, (AV.v (Value.int IntKind.i64 at_)), (AV.v (Value.int IntKind.u16 (IntKind.wrap IntKind.u16 (t * (2 : Int))))), AV.dead, AV.dead, AV.dead, AV.dead, (AV.sl (0 : Nat) (0 : Nat) n cap), (AV.v (Value.int IntKind.i64 k)), AV.dead, AV.dead, AV.dead, AV.dead, AV.dead, AV.dead, AV.dead, AV.dead, AV.dead, AV.dead, AV.dead, AV.dead, AV.dead, AV.dead, AV.dead, AV.dead, AV.dead, AV.dead, AV.dead, AV.dead, AV.dead, AV.dead, AV.dead, AV.dead, AV.dead, AV.dead, AV.dead, AV.dead, AV.dead, AV.dead, AV.dead, AV.dead, AV.dead, AV.dead, AV.dead, AV.dead, AV.dead, AV.dead, AV.dead, AV.dead, AV.dead, AV.dead, AV.dead, AV.dead, AV.dead, AV.dead, AV.dead, AV.dead, AV.dead, AV.dead, AV.dead] (AH.mk [((999999 : Nat), L)] (@List.nil Nat) (0 : Nat) (0 : Nat) true (@List.nil (Prod Nat Bool)) True)))) := by kernel_rfl
theorem tu_next (at_ t k : Int) (n cap : Nat) (L : List AV) (R : Exit → List AV → AH → Prop) : codeL nro (fun _ => false) (fun _ => none) 5 ((flatten (sub (bodyOf 17) [1, 1, 0, 1, 0, 0])).drop 3) (tuA at_ t n cap k .dead .dead .dead .dead) (tuH L) (kp [1, 2, 7, 8] R) =
    (some (True ∧ (R Exit.normal [AV.dead, (AV.v (Value.int IntKind.i64 at_)), (AV.v (Value.int IntKind.u16 t)), AV.dead, AV.dead, AV.dead, AV.dead, (AV.sl (0 : Nat) (0 : Nat) n cap), (AV.v (Value.int IntKind.i64 (IntKind.wrap IntKind.i64 (k + (1 : Int))))), AV.dead, AV.dead, AV.dead, AV.dead, AV.dead, AV.dead, AV.dead, AV.dead, AV.dead, AV.dead, AV.dead, AV.dead, AV.dead, AV.dead, AV.dead, AV.dead, AV.dead, AV.dead, AV.dead, AV.dead, AV.dead, AV.dead, AV.dead, AV.dead, AV.dead, AV.dead, AV.dead, AV.dead, AV.dead, AV.dead, AV.dead, AV.dead, AV.dead, AV.dead, AV.dead, AV.dead, AV.dead, AV.dead, AV.dead, AV.dead, AV.dead, AV.dead, AV.dead, AV.dead, AV.dead, AV.dead, AV.dead, AV.dead, AV.dead, AV.dead, AV.dead] (AH.mk [((999999 : Nat), L)] (@List.nil Nat) (0 : Nat) (0 : Nat) true (@List.nil (Prod Nat Bool)) True)))) := by kernel_rfl
theorem tu_post (at_ t k : Int) (n cap : Nat) (L : List AV) (R : Exit → List AV → AH → Prop) : codeL nro (fun _ => false) (fun _ => none) 5 ((flatten (bodyOf 17)).drop 4) (tuA at_ t n cap k .dead .dead .dead .dead) (tuH L) (kp [6] R) =
    (some ((cds (cdb True (decide ((((0 : Nat) + (n * (1 : Nat))) ≤ (List.length L)) ∧ (((List.all (List.take (n * (1 : Nat)) L) (fun (x : AV) => (pur.match_1 (fun (x : AV) => Bool) x (fun (x : Go.Value) => true) (fun (x : AV) => false)))) = true) ∧ ((List.all (List.take (n * (1 : Nat)) L) (fun (x : AV) => (one.match_1 (fun (x : AV) => Bool) x (fun (u : Go.Value) => (Value.oneCell'.match_1 (fun (x : Go.Value) => Bool) u (fun (x : (Array Go.Value)) => false) (fun (x : (Array Go.Value)) => false) (fun (x : Go.Value) => true))) (fun (x : (List AV)) => false) (fun (x : (List AV)) => false) (fun (_ : Unit) => false) (fun (x : AV) => true)))) = true))))) (@Option.isSome.match_1 (List Int) (fun (x : (Option (List Int))) => Bool) (bytesOf? (if ((1 : Nat) = (1 : Nat)) then (List.take n L) else (chunksN (1 : Nat) n L))) (fun (x : (List Int)) => true) (fun (_ : Unit) => false)) ((bytesOf? (if ((1 : Nat) = (1 : Nat)) then (List.take n L) else (chunksN (1 : Nat) n L))) = (some (List.map exInt (if ((1 : Nat) = (1 : Nat)) then (List.take n L) else (chunksN (1 : Nat) n L)))))) ∧ (R Exit.ret [AV.dead, AV.dead, AV.dead, AV.dead, AV.dead, AV.dead, (AV.v (Value.string (ByteArray.mk (Array.mk (List.map (fun (n : Int) => (UInt8.ofNat (Int.toNat n))) (List.map exInt (if ((1 : Nat) = (1 : Nat)) then (List.take n L) else (chunksN (1 : Nat) n L)))))))), AV.dead, AV.dead, AV.dead, AV.dead, AV.dead, AV.dead, AV.dead, AV.dead, AV.dead, AV.dead, AV.dead, AV.dead, AV.dead, AV.dead, AV.dead, AV.dead, AV.dead, AV.dead, AV.dead, AV.dead, AV.dead, AV.dead, AV.dead, AV.dead, AV.dead, AV.dead, AV.dead, AV.dead, AV.dead, AV.dead, AV.dead, AV.dead, AV.dead, AV.dead, AV.dead, AV.dead, AV.dead, AV.dead, AV.dead, AV.dead, AV.dead, AV.dead, AV.dead, AV.dead, AV.dead, AV.dead, AV.dead, AV.dead, AV.dead, AV.dead, AV.dead, AV.dead, AV.dead] (AH.mk [((999999 : Nat), L)] (@List.nil Nat) (0 : Nat) (0 : Nat) true (@List.nil (Prod Nat Bool)) True)))) := by kernel_rfl
end Go.Proofs.Ytbnhhacjoabpaaa.AE
namespace Go.Proofs.Ytbnhhacjoabpaaa
namespace Cr
def flipB (l : List UInt8) (i : Nat) : List UInt8 := l.set (i / 8) (l.getD (i / 8) 0 ^^^ UInt8.ofNat (128 / 2 ^ (i % 8)))
def tw (t k : Nat) : Nat := t * 2 ^ k % 65536
def tb (t k : Nat) : Bool := decide (tw t k / 32768 = 1)
def turnL (l : List UInt8) (a t : Nat) : Nat → List UInt8
  | 0 => l
  | k + 1 => if tb t k = true ∧ a + k < 8 * l.length then flipB (turnL l a t k) (a + k) else turnL l a t k
theorem flipB_len (l : List UInt8) (i : Nat) : (flipB l i).length = l.length := List.length_set
theorem turnL_len (l : List UInt8) (a t k : Nat) : (turnL l a t k).length = l.length := by
  induction k with
  | zero => rfl
  | succ k ih =>
    show (if _ then _ else _ : List UInt8).length = _
    split
    · rw [flipB_len, ih]
    · exact ih
theorem tw_next (t k : Nat) : tw t k * 2 % 65536 = tw t (k + 1) := by
  unfold tw
  rw [Nat.pow_succ, ← Nat.mul_assoc]
  omega
theorem tw_lt (t k : Nat) : tw t k < 65536 := Nat.mod_lt _ (by decide)
theorem flip_bit : ∀ i, i < 8 → ∀ j, j < 8 → ∀ b, b < 256 → bitN (b ^^^ (128 / 2 ^ i)) j = (bitN b j != decide (j = i)) := by
  intro i hi j hj b hb
  have h : bitN (128 / 2 ^ i) j = decide (j = i) := by
    revert i j
    decide +kernel
  have h128 : 128 / 2 ^ i < 256 := Nat.lt_of_le_of_lt (Nat.div_le_self _ _) (by decide)
  rw [xor_bit j hj b hb _ h128, h]
theorem bits_getD (l : List UInt8) (i : Nat) (h : i < 8 * l.length) : (bitsL l).getD i false = bitN (l.getD (i / 8) 0).toNat (i % 8) := by
  induction l generalizing i with
  | nil => simp at h
  | cons b l ih =>
    have h8 : (bitsB b.toNat).length = 8 := rfl
    show (bitsB b.toNat ++ bitsL l).getD i false = _
    rw [List.getD_eq_getElem?_getD]
    by_cases hi : i < 8
    · rw [List.getElem?_append_left (by rw [h8]; exact hi), Nat.div_eq_of_lt hi, Nat.mod_eq_of_lt hi]
      have : i = 0 ∨ i = 1 ∨ i = 2 ∨ i = 3 ∨ i = 4 ∨ i = 5 ∨ i = 6 ∨ i = 7 := by omega
      rcases this with h | h | h | h | h | h | h | h <;> subst h <;> rfl
    · rw [List.getElem?_append_right (by rw [h8]; omega), h8, ← List.getD_eq_getElem?_getD, ih (i - 8) (by simp at h; omega)]
      have e1 : i / 8 = (i - 8) / 8 + 1 := by omega
      have e2 : (i - 8) % 8 = i % 8 := by omega
      rw [e1, e2]
      rfl
theorem bitsL_len (l : List UInt8) : (bitsL l).length = 8 * l.length := by
  induction l with
  | nil => rfl
  | cons b l ih =>
    show (bitsB b.toNat ++ bitsL l).length = _
    rw [List.length_append, ih, List.length_cons]
    show 8 + 8 * l.length = _
    omega
theorem flipB_bit (l : List UInt8) (i j : Nat) (hi : i < 8 * l.length) (hj : j < 8 * l.length) : (bitsL (flipB l i)).getD j false = ((bitsL l).getD j false != decide (j = i)) := by
  rw [bits_getD _ j (by rw [flipB_len]; exact hj), bits_getD l j hj]
  unfold flipB
  by_cases e : i / 8 = j / 8
  · have hk : j / 8 < l.length := by omega
    rw [e, List.getD_eq_getElem?_getD, List.getElem?_set_self hk, Option.getD_some, UInt8.toNat_xor, UInt8.toNat_ofNat_of_lt' (by show 128 / 2 ^ (i % 8) < 256; exact Nat.lt_of_le_of_lt (Nat.div_le_self _ _) (by decide))]
    rw [flip_bit (i % 8) (by omega) (j % 8) (by omega) _ (UInt8.toNat_lt _)]
    congr 1
    apply decide_eq_decide.2
    omega
  · have hne : ¬ j = i := by rintro rfl; exact e rfl
    rw [List.getD_eq_getElem?_getD, List.getElem?_set_ne e, ← List.getD_eq_getElem?_getD, decide_eq_false hne]
    simp
theorem turnL_bit (l : List UInt8) (a t : Nat) (j : Nat) (hj : j < 8 * l.length) : ∀ k, (bitsL (turnL l a t k)).getD j false = ((bitsL l).getD j false != decide (a ≤ j ∧ j < a + k ∧ tb t (j - a) = true))
  | 0 => by
    have : decide (a ≤ j ∧ j < a + 0 ∧ tb t (j - a) = true) = false := decide_eq_false (by omega)
    rw [this]
    simp [turnL]
  | k + 1 => by
    have ih := turnL_bit l a t j hj k
    have hl := turnL_len l a t k
    show (bitsL (if _ then _ else _ : List UInt8)).getD j false = _
    by_cases hc : tb t k = true ∧ a + k < 8 * l.length
    · rw [if_pos hc, flipB_bit _ _ _ (by rw [hl]; exact hc.2) (by rw [hl]; exact hj), ih]
      by_cases e : j = a + k
      · have h1 : decide (a ≤ j ∧ j < a + k ∧ tb t (j - a) = true) = false := decide_eq_false (by omega)
        have h2 : decide (a ≤ j ∧ j < a + (k + 1) ∧ tb t (j - a) = true) = true := decide_eq_true ⟨by omega, by omega, by rw [show j - a = k by omega]; exact hc.1⟩
        rw [h1, h2, decide_eq_true e]
        simp
      · have h2 : decide (a ≤ j ∧ j < a + (k + 1) ∧ tb t (j - a) = true) = decide (a ≤ j ∧ j < a + k ∧ tb t (j - a) = true) := decide_eq_decide.2 (by
          constructor <;> (rintro ⟨x, y, z⟩; exact ⟨x, by omega, z⟩))
        rw [h2, decide_eq_false e]
        simp
    · rw [if_neg hc, ih]
      congr 1
      apply decide_eq_decide.2
      constructor
      · rintro ⟨x, y, z⟩; exact ⟨x, by omega, z⟩
      · rintro ⟨x, y, z⟩
        refine ⟨x, ?_, z⟩
        by_cases e : j = a + k
        · exact absurd ⟨by rw [show k = j - a by omega]; exact z, by omega⟩ hc
        · omega
end Cr
end Go.Proofs.Ytbnhhacjoabpaaa
namespace Go.Proofs.Ytbnhhacjoabpaaa.AE
open Go.RowKit Cr
def nthOp (c : Code) (i : Nat) : Oper := match c with
  | .region _ os _ => os.toList.getD i default
  | _ => default
theorem sl_tu : slotsOf 17 = 60 := by kernel_rfl
theorem re_tu : resultsOf 17 = [.tmp 6] := by kernel_rfl
theorem fl_tu1 : (flatten (bodyOf 17)).drop 1 = sub (bodyOf 17) [1, 0] :: (flatten (bodyOf 17)).drop 2 := by kernel_rfl
theorem fl_tu2 : ((flatten (bodyOf 17)).drop 2).drop 1 = .block 0 (.loop (sub (bodyOf 17) [1, 1, 0, 1, 0, 0])) :: (flatten (bodyOf 17)).drop 4 := by kernel_rfl
theorem fl_tu3 : (flatten (sub (bodyOf 17) [1, 1, 0, 1, 0, 0])).drop 2 = .block 1 (sub (bodyOf 17) [1, 1, 0, 1, 0, 0, 1, 0, 0]) :: (flatten (sub (bodyOf 17) [1, 1, 0, 1, 0, 0])).drop 3 := by kernel_rfl
theorem fl_tu4 : (flatten (sub (bodyOf 17) [1, 1, 0, 1, 0, 0, 1, 0, 0])).drop 2 = .cond (.tmp 34) (sub (bodyOf 17) [1, 1, 0, 1, 0, 0, 1, 0, 0, 1, 0, 1, 0]) .skip :: (flatten (sub (bodyOf 17) [1, 1, 0, 1, 0, 0, 1, 0, 0])).drop 3 := by kernel_rfl
theorem fl_tu5 : (flatten (sub (bodyOf 17) [1, 1, 0, 1, 0, 0, 1, 0, 0, 1, 0, 1, 0])).drop 2 = .block 2 (.loop (sub (bodyOf 17) [1, 1, 0, 1, 0, 0, 1, 0, 0, 1, 0, 1, 0, 1, 0, 1, 0, 0])) :: (flatten (sub (bodyOf 17) [1, 1, 0, 1, 0, 0, 1, 0, 0, 1, 0, 1, 0])).drop 3 := by kernel_rfl
theorem cv_tu : conv3 (sub (bodyOf 17) [1, 0]) 9 46 0 12 13 7 :=
  ⟨1, nthOp (sub (bodyOf 17) [1, 0]) 0, nthOp (sub (bodyOf 17) [1, 0]) 1, nthOp (sub (bodyOf 17) [1, 0]) 2, by kernel_rfl, ⟨by kernel_rfl, by kernel_rfl, by kernel_rfl⟩, ⟨by kernel_rfl, by kernel_rfl, by kernel_rfl⟩, by kernel_rfl, by kernel_rfl, by kernel_rfl⟩
def bA (b : UInt8) : AV := .v (.int .u8 b.toNat)
def rowL (l : List UInt8) (z : Nat) : List AV := l.map bA ++ List.replicate z (.v (.int .u8 0))
theorem rowA_eq (s : ByteArray) (cap : Nat) : rowA s cap = rowL (bytsOf s) (cap - s.size) := by
  unfold rowA bytesRow rowL bytsOf
  rw [Array.toList_append, List.map_append, Array.toList_map, List.map_map, Array.toList_replicate, List.map_replicate]
  rfl
theorem rowL_len (l : List UInt8) (z : Nat) : (rowL l z).length = l.length + z := by unfold rowL; rw [List.length_append, List.length_map, List.length_replicate]
theorem rowL_get (l : List UInt8) (z i : Nat) (h : i < l.length) : (rowL l z)[i]? = some (bA (l.getD i 0)) := by
  unfold rowL
  rw [List.getElem?_append_left (by rw [List.length_map]; exact h), List.getElem?_map, List.getElem?_eq_getElem h, List.getD_eq_getElem?_getD, List.getElem?_eq_getElem h]
  rfl
theorem rowL_take1 (l : List UInt8) (z i : Nat) (h : i < l.length) : ((rowL l z).drop i).take 1 = [bA (l.getD i 0)] := by
  have hl : i < (rowL l z).length := by rw [rowL_len]; omega
  have hg := rowL_get l z i h
  rw [List.getElem?_eq_getElem hl, Option.some.injEq] at hg
  rw [List.drop_eq_getElem_cons hl, hg]
  rfl
theorem rowL_set (l : List UInt8) (z i : Nat) (h : i < l.length) (x : UInt8) : splice (rowL l z) i [bA x] = rowL (l.set i x) z := by
  have hl : i < (rowL l z).length := by rw [rowL_len]; omega
  have e : splice (rowL l z) i [bA x] = (rowL l z).set i (bA x) := by
    unfold splice
    rw [List.set_eq_take_append_cons_drop, if_pos hl]
    simp
  rw [e]
  unfold rowL
  rw [List.set_append_left _ _ (by rw [List.length_map]; exact h), List.map_set]
theorem rowL_take (l : List UInt8) (z n : Nat) (h : n = l.length) : (rowL l z).take n = l.map bA := by
  unfold rowL
  rw [h]
  exact List.take_left' (by rw [List.length_map])
theorem bytes_bA (l : List UInt8) : bytesOf? (l.map bA) = some ((l.map bA).map exInt) := by
  induction l with
  | nil => rfl
  | cons b l ih =>
    show (match byteOf? (bA b) with | some n => (match bytesOf? (l.map bA) with | some r => some (n :: r) | none => none) | none => none) = _
    rw [ih]
    rfl
theorem back_bA (l : List UInt8) : ((l.map bA).map exInt).map (fun n => UInt8.ofNat n.toNat) = l := by
  rw [List.map_map, List.map_map]
  conv => rhs; rw [← List.map_id l]
  apply List.map_congr_left
  intro b _
  show UInt8.ofNat ((b.toNat : Nat) : Int).toNat = b
  rw [Int.toNat_natCast]
  exact UInt8.ofNat_toNat
def turnS (s : ByteArray) (a t : Nat) : ByteArray := ⟨(turnL (bytsOf s) a t 16).toArray⟩
theorem all_bA (l : List UInt8) (f : AV → Bool) (h : ∀ b, f (bA b) = true) : (l.map bA).all f = true := by
  rw [List.all_map, List.all_eq_true]
  exact fun b _ => h b
theorem half_next (j i : Nat) (h : j < i) : IntKind.wrap .u8 (Int.tdiv ((128 / 2 ^ (j - i / 8 * 8) : Nat) : Int) 2) = ((128 / 2 ^ (j + 1 - i / 8 * 8) : Nat) : Int) ∨ j < i / 8 * 8 := by
  by_cases hj : j < i / 8 * 8
  · exact .inr hj
  · left
    rw [show j + 1 - i / 8 * 8 = (j - i / 8 * 8) + 1 by omega, Nat.pow_succ, ← Nat.div_div_eq_div_mul]
    have h128 : 128 / 2 ^ (j - i / 8 * 8) ≤ 128 := Nat.div_le_self _ _
    generalize 128 / 2 ^ (j - i / 8 * 8) = q at *
    rw [show Int.tdiv ((q : Nat) : Int) 2 = ((q / 2 : Nat) : Int) from rfl, IntKind.wrap_u8]
    omega
theorem div8 (i : Nat) (h : i ≤ 1000000) : IntKind.wrap .i64 (Int.tdiv (i : Int) 8) = ((i / 8 : Nat) : Int) := by
  rw [show Int.tdiv (i : Int) 8 = ((i / 8 : Nat) : Int) from rfl, IntKind.wrap_i64]; omega
theorem div8m (i : Nat) (h : i ≤ 1000000) : IntKind.wrap .i64 (((i / 8 : Nat) : Int) * 8) = ((i / 8 * 8 : Nat) : Int) := by
  rw [IntKind.wrap_i64]; omega
theorem t_div (t : Nat) (h : t < 65536) : IntKind.wrap .u16 (Int.tdiv (t : Int) 32768) = ((t / 32768 : Nat) : Int) := by
  rw [show Int.tdiv (t : Int) 32768 = ((t / 32768 : Nat) : Int) from rfl, IntKind.wrap_u16]; omega
theorem t_dbl (t : Nat) : IntKind.wrap .u16 ((t : Int) * 2) = ((t * 2 % 65536 : Nat) : Int) := by rw [IntKind.wrap_u16]; omega
theorem add_at (a k : Nat) (h : a ≤ 100000) (hk : k ≤ 16) : IntKind.wrap .i64 ((a : Int) + (k : Int)) = ((a + k : Nat) : Int) := by rw [IntKind.wrap_i64]; omega
theorem mul8 (n : Nat) (h : n ≤ 100000) : IntKind.wrap .i64 (8 * (n : Int)) = ((8 * n : Nat) : Int) := by rw [IntKind.wrap_i64]; omega
/-- A bit is turned in the row. -/
theorem put_bit (l : List UInt8) (z i : Nat) (h : i < 8 * l.length) : splice (rowL l z) (i / 8) [.v (.int .u8 (bits .xor .u8 (exInt ((rowL l z).getD (i / 8) .dead)) ((128 / 2 ^ (i % 8) : Nat) : Int)))] = rowL (flipB l i) z := by
  have hk : i / 8 < l.length := by omega
  have h128 : 128 / 2 ^ (i % 8) < 256 := Nat.lt_of_le_of_lt (Nat.div_le_self _ _) (by decide)
  have e1 : exInt ((rowL l z).getD (i / 8) .dead) = (((l.getD (i / 8) 0).toNat : Nat) : Int) := by
    rw [List.getD_eq_getElem?_getD, rowL_get l z _ hk]; rfl
  have e2 : bits .xor .u8 (((l.getD (i / 8) 0).toNat : Nat) : Int) ((128 / 2 ^ (i % 8) : Nat) : Int) = (((l.getD (i / 8) 0 ^^^ UInt8.ofNat (128 / 2 ^ (i % 8))).toNat : Nat) : Int) := by
    rw [UInt8.toNat_xor, UInt8.toNat_ofNat_of_lt' (by show 128 / 2 ^ (i % 8) < 256; exact h128)]
    exact u8_xor_nat _ _ (UInt8.toNat_lt _) h128
  rw [e1, e2]
  exact rowL_set l z (i / 8) hk _
theorem tr_skip {ro : Nat → Option (List Value)} {act : List AV} {H : AH} {R : Exit → List AV → AH → Prop} (is : List Nat) (hcd : H.cd) (h : R .normal (keepI 0 is act) (AE.tidy H)) : Tr Try.prog ro .skip act H R :=
  Tr.of_code (mu := fun _ => false) (d := 5) (known_none ro) (is := is) (X := some (H.cd ∧ R .normal (keepI 0 is act) (AE.tidy H))) rfl ⟨hcd, h⟩
def stA (a w n cap k : Nat) : List AV := tuA a (w : Nat) n cap k .dead .dead .dead .dead
theorem tr_flip (a w n cap k i : Nat) (q : AV) (l : List UInt8) (z : Nat) (hn : n = l.length) (hi : i < 8 * n) (hi6 : i ≤ 1000000) :
    Tr Try.prog nro (sub (bodyOf 17) [1, 1, 0, 1, 0, 0, 1, 0, 0, 1, 0, 1, 0]) (tuA a (w : Nat) n cap k (.v (.int .i64 i)) .dead .dead q) (tuH (rowL l z)) fun e x h => e = .normal ∧ x = stA a w n cap k ∧ h = tuH (rowL (flipB l i) z) := by
  refine Tr.of_flat (Tr.keepL [1, 2, 7, 8, 9] rfl ?_)
  refine Trl.split 2 (Trl.of_code (known_none nro) (ne_nil (by kernel_rfl)) (tu_set a w k i n cap (rowL l z) _) ⟨trivial, ?_⟩)
  show Trl _ _ ((flatten (sub (bodyOf 17) [1, 1, 0, 1, 0, 0, 1, 0, 0, 1, 0, 1, 0])).drop 2) _ _ _
  rw [fl_tu5, div8 _ hi6, div8m _ hi6]
  let J : Nat → List AV → AH → Prop := fun m act H => ∃ j o : Nat, i / 8 * 8 ≤ j ∧ j ≤ i ∧ m = i - j ∧ act = tuA a w n cap k (.v (.int .i64 (i : Nat))) (.v (.int .u8 (o : Nat))) (.v (.int .i64 (j : Nat))) .dead ∧ o = 128 / 2 ^ (j - i / 8 * 8) ∧ H = tuH (rowL l z)
  refine Tr.block (Tr.loop J ?_ (m := i - i / 8 * 8) ⟨i / 8 * 8, 128, Nat.le_refl _, by omega, rfl, rfl, by rw [Nat.sub_self], rfl⟩)
  rintro m act H ⟨j, o, hj1, hj2, rfl, rfl, ho, rfl⟩
  have body := fun R => tu_in a w k i o j n cap (rowL l z) R
  rw [add_one j (by omega)] at body
  refine Tr.of_code (known_none nro) (body _) (holds_bif (fun h9 => ⟨trivial, ?_⟩) (fun h9 => ⟨trivial, ?_⟩))
  · have h9 := of_decide_eq_true h9
    rcases half_next j i (by omega) with hh | hh
    · rw [ho, hh]
      exact ⟨i - (j + 1), by omega, j + 1, _, by omega, by omega, rfl, rfl, rfl, rfl⟩
    · omega
  · have h9 := of_decide_eq_false h9
    obtain rfl : j = i := by omega
    have ho : o = 128 / 2 ^ (j % 8) := by rw [ho]; congr 2; omega
    subst ho
    show Trl _ _ ((flatten (sub (bodyOf 17) [1, 1, 0, 1, 0, 0, 1, 0, 0, 1, 0, 1, 0])).drop 3) _ _ _
    refine Tr.keepL [1, 2, 7, 8, 9, 10] rfl ?_
    have post := fun R => tu_put a w k j (128 / 2 ^ (j % 8) : Nat) n cap (rowL l z) R
    have hk8 : j / 8 < l.length := by omega
    rw [div8 j hi6, Int.toNat_natCast, Nat.mul_one, Nat.zero_add, Nat.add_zero, put_bit l z j (by omega)] at post
    refine Trl.of_code (known_none nro) (ne_nil (by kernel_rfl)) (post _) ⟨?_, rfl, rfl, rfl⟩
    have c1 : decide ((0 : Int) ≤ ((j / 8 : Nat) : Int) ∧ ((j / 8 : Nat) : Int) < ((n : Nat) : Int)) = true := decide_eq_true ⟨Int.natCast_nonneg _, by omega⟩
    have c2 : decide (j / 8 + 1 ≤ (rowL l z).length) = true := decide_eq_true (by rw [rowL_len]; omega)
    have c3 : ((rowL l z).drop (j / 8)).take 1 = [.v (.int .u8 (exInt ((rowL l z).getD (j / 8) .dead)))] := by
      have e3 : (rowL l z).getD (j / 8) .dead = bA (l.getD (j / 8) 0) := by rw [List.getD_eq_getElem?_getD, rowL_get l z _ hk8]; rfl
      rw [rowL_take1 l z _ hk8, e3]; rfl
    with_reducible exact cdb_iff.2 ⟨cdb_iff.2 ⟨cds_of (cdb_iff.2 ⟨trivial, c1⟩) c3, c1⟩, c2⟩
def nextL (l : List UInt8) (a w n k : Nat) : List UInt8 := if w / 32768 = 1 ∧ a + k < 8 * n then flipB l (a + k) else l
theorem tr_body (a w n cap k : Nat) (l : List UInt8) (z : Nat) (hn : n = l.length) (ha : a ≤ 100000) (hk : k ≤ 16) (hs : n ≤ 100000) (hwl : w < 65536) :
    Tr Try.prog nro (sub (bodyOf 17) [1, 1, 0, 1, 0, 0, 1, 0, 0]) (stA a w n cap k) (tuH (rowL l z)) fun e x h => e = .normal ∧ x = stA a (w * 2 % 65536) n cap k ∧ h = tuH (rowL (nextL l a w n k) z) := by
  have fin : ∀ l', l' = nextL l a w n k → Trl Try.prog nro ((flatten (sub (bodyOf 17) [1, 1, 0, 1, 0, 0, 1, 0, 0])).drop 3) (stA a w n cap k) (tuH (rowL l' z)) fun e x h => e = .normal ∧ x = stA a (w * 2 % 65536) n cap k ∧ h = tuH (rowL (nextL l a w n k) z) := by
    rintro l' rfl
    have dbl := fun R => tu_dbl a w k n cap (rowL (nextL l a w n k) z) R
    rw [t_dbl] at dbl
    exact Trl.of_code (known_none nro) (ne_nil (by kernel_rfl)) (dbl _) ⟨trivial, rfl, rfl, rfl⟩
  have test := fun R => tu_test a w k n cap (rowL l z) R
  rw [t_div w hwl, add_at a k ha hk, mul8 n hs] at test
  refine Tr.of_flat (Trl.split 2 (Trl.of_code (known_none nro) (ne_nil (by kernel_rfl)) (test _) (holds_bif (fun h1 => holds_bif (fun h2 => ⟨trivial, ?_⟩) (fun h2 => ?_)) (fun h1 => ⟨trivial, ?_⟩))))
  · have h1 : w / 32768 = 1 := by have := eq_of_beq h1; omega
    show Trl _ _ ((flatten (sub (bodyOf 17) [1, 1, 0, 1, 0, 0, 1, 0, 0])).drop 2) _ _ _
    rw [fl_tu4]
    refine Tr.cond (b := decide (((a + k : Nat) : Int) < ((8 * n : Nat) : Int))) rfl (fun h3 => ?_) (fun h3 => ?_)
    · have h3 := of_decide_eq_true h3
      refine Tr.mono (tr_flip a w n cap k (a + k) _ l z hn (by omega) (by omega)) ?_
      rintro e x h ⟨rfl, rfl, rfl⟩
      exact fin _ (if_pos ⟨h1, by omega⟩).symm
    · have h3 := of_decide_eq_false h3
      exact tr_skip [1, 2, 7, 8] trivial (fin _ (if_neg (by omega)).symm)
  · have h2 := of_decide_eq_false h2; omega
  · have h1 : ¬ w / 32768 = 1 := fun e => by rw [e] at h1; simp at h1
    show Trl _ _ ((flatten (sub (bodyOf 17) [1, 1, 0, 1, 0, 0, 1, 0, 0])).drop 2) _ _ _
    rw [fl_tu4]
    refine Tr.cond (b := false) rfl (fun h3 => nomatch h3) (fun _ => ?_)
    exact tr_skip [1, 2, 7, 8] trivial (fin _ (if_neg (fun h => h1 h.1)).symm)
theorem one_bA (b : UInt8) : one (bA b) = true := rfl
theorem fs_turn (s : ByteArray) (a t : Nat) (hs : s.size ≤ 100000) (ha : a ≤ 100000) (ht : t < 65536) : Fs Try.prog nro 17 [.v (.string s), .v (.int .i64 a), .v (.int .u16 t)] (hp [] []) fun r _ => r = .v (.string (turnS s a t)) := by
  refine Fs.of_body (has_fn (by kernel_rfl)) ?_
  rw [sl_tu, re_tu]
  refine Tr.of_flat (Trl.split 1 (Trl.of_code (known_none nro) (ne_nil (by kernel_rfl)) (tu_pre s a t _) ⟨trivial, ?_⟩))
  show Trl _ _ ((flatten (bodyOf 17)).drop 1) _ _ _
  rw [fl_tu1]
  refine Tr.mono (tr_conv cv_tu (e := 5) (s := s) (by kernel_rfl) (by kernel_rfl) (by kernel_rfl) rfl (by simp) (by simp)) ?_
  rintro e act h ⟨rfl, cap, hcap, rfl, rfl⟩
  show Trl _ _ ((flatten (bodyOf 17)).drop 2) _ _ _
  refine Tr.keepL [1, 2, 7] rfl ?_
  rw [rowA_eq]
  obtain ⟨z, hz⟩ : ∃ z, z = cap - s.size := ⟨_, rfl⟩
  rw [← hz]
  show Trl _ _ ((flatten (bodyOf 17)).drop 2) ([.dead, .v (.int .i64 a), .v (.int .u16 t)] ++ List.replicate 4 .dead ++ [.sl 0 0 s.size cap] ++ List.replicate 52 .dead) (tuH (rowL (bytsOf s) z)) _
  refine Trl.split 1 (Trl.of_code (known_none nro) (ne_nil (by kernel_rfl)) (tu_two a t s.size cap (rowL (bytsOf s) z) _) ⟨trivial, ?_⟩)
  show Trl _ _ (((flatten (bodyOf 17)).drop 2).drop 1) _ _ _
  rw [fl_tu2]
  have hw0 : t = tw t 0 := by unfold tw; rw [Nat.pow_zero, Nat.mul_one, Nat.mod_eq_of_lt ht]
  have hlen : (bytsOf s).length = s.size := len_byts s
  let I : Nat → List AV → AH → Prop := fun m act H => ∃ k w, k ≤ 16 ∧ m = 16 - k ∧ w = tw t k ∧ act = stA a w s.size cap k ∧ H = tuH (rowL (turnL (bytsOf s) a t k) z)
  refine Tr.block (Tr.loop I ?_ (m := 16) ⟨0, t, Nat.zero_le _, rfl, hw0, rfl, rfl⟩)
  rintro m act H ⟨k, w, hk, rfl, hw, rfl, rfl⟩
  have hll : s.size = (turnL (bytsOf s) a t k).length := by rw [turnL_len, hlen]
  have hwl : w < 65536 := by rw [hw]; exact tw_lt t k
  have hnext : nextL (turnL (bytsOf s) a t k) a w s.size k = turnL (bytsOf s) a t (k + 1) := by
    unfold nextL
    show _ = (if _ then _ else _ : List UInt8)
    rw [hlen, hw]
    have : (tb t k = true ∧ a + k < 8 * s.size) ↔ (tw t k / 32768 = 1 ∧ a + k < 8 * s.size) := by unfold tb; rw [decide_eq_true_eq]
    simp only [this]
  refine Tr.of_flat (Trl.split 2 (Trl.of_code (known_none nro) (ne_nil (by kernel_rfl)) (tu_head a w k s.size cap (rowL (turnL (bytsOf s) a t k) z) _) (holds_bif (fun h8 => ⟨trivial, ?_⟩) (fun h8 => ⟨trivial, ?_⟩))))
  · have h8 := of_decide_eq_true h8
    show Trl _ _ ((flatten (sub (bodyOf 17) [1, 1, 0, 1, 0, 0])).drop 2) _ _ _
    rw [fl_tu3]
    refine Tr.block (Tr.mono (tr_body a w s.size cap k _ z hll ha (by omega) hs hwl) ?_)
    rintro e x h ⟨rfl, rfl, rfl⟩
    rw [hnext]
    have nxt := fun R => tu_next a (w * 2 % 65536 : Nat) k s.size cap (rowL (turnL (bytsOf s) a t (k + 1)) z) R
    rw [add_one k (by omega)] at nxt
    show Trl _ _ ((flatten (sub (bodyOf 17) [1, 1, 0, 1, 0, 0])).drop 3) _ _ _
    refine Trl.of_code (known_none nro) (ne_nil (by kernel_rfl)) (nxt _) ⟨trivial, ?_⟩
    exact ⟨16 - (k + 1), by omega, k + 1, _, by omega, rfl, by rw [hw]; exact tw_next t k, rfl, rfl⟩
  · have h8 := of_decide_eq_false h8
    obtain rfl : k = 16 := by omega
    show Trl _ _ ((flatten (bodyOf 17)).drop 4) _ _ _
    have htk := rowL_take (turnL (bytsOf s) a t 16) z s.size hll
    have post := fun R => tu_post a w (16 : Nat) s.size cap (rowL (turnL (bytsOf s) a t 16) z) R
    rw [if_pos rfl, Nat.mul_one, htk] at post
    refine Trl.of_code (known_none nro) (ne_nil (by kernel_rfl)) (post _) ⟨?_, .inr rfl, trivial, ?_⟩
    · refine cds_of (cdb_iff.2 ⟨trivial, decide_eq_true ⟨by rw [rowL_len]; omega, ?_, ?_⟩⟩) (bytes_bA _)
      · exact all_bA _ _ fun _ => rfl
      · exact all_bA _ _ fun _ => rfl
    · refine congrArg (fun x => AV.v (.string x)) ?_
      unfold turnS
      rw [back_bA]
def turnP : List Value → Option (Value × Bool) := fun us => match us with
  | [.string s, .int .i64 a, .int .u16 t] => some (.string (turnS s a.toNat t.toNat), decide (s.size ≤ 100000 ∧ 0 ≤ a ∧ a ≤ 100000 ∧ 0 ≤ t ∧ t < 65536))
  | _ => none
theorem turn_ok (ro : Nat → Option (List Value)) : ∀ args H r H', pure? turnP args H = some (r, H') → HSound1 Try.prog ro 17 args H r H' := by
  refine pure_ok (fun us c hs => Fs.ro ?_ ro) (has_fn (by kernel_rfl))
  unfold turnP at hs
  split at hs
  · rename_i s a t
    simp only [Option.some.injEq, Prod.mk.injEq, decide_eq_true_eq] at hs
    obtain ⟨rfl, h0, h1, h2, h3, h4⟩ := hs
    obtain ⟨a, rfl⟩ := Int.eq_ofNat_of_zero_le h1
    obtain ⟨t, rfl⟩ := Int.eq_ofNat_of_zero_le h3
    exact fs_turn s a t h0 (by omega) (by omega)
  · cases hs
end Go.Proofs.Ytbnhhacjoabpaaa.AE
namespace Go.Proofs.Ytbnhhacjoabpaaa
namespace Cr
theorem hi_mod (r j : Nat) (b : Bool) (hj : j + 1 ≤ 15) : (r ^^^ hi b) % 2 ^ (j + 1) = r % 2 ^ (j + 1) := by
  have h0 : hi b % 2 ^ (j + 1) = 0 := by
    cases b
    · exact Nat.zero_mod _
    · have : (32768 : Nat) = 2 ^ (j + 1) * 2 ^ (15 - (j + 1)) := by rw [← Nat.pow_add, show j + 1 + (15 - (j + 1)) = 15 by omega]
      show 32768 % 2 ^ (j + 1) = 0
      rw [this]
      exact Nat.mul_mod_right _ _
  rw [Nat.xor_mod_two_pow, h0, Nat.xor_zero]
theorem odd_step (x j : Nat) (hj : j + 2 ≤ 16) (h : x % 2 ^ (j + 1) ≠ 0) : stp x % 2 ^ (j + 2) ≠ 0 := by
  unfold stp
  split
  · intro e
    have h2 : ((x * 2 % 65536) ^^^ 4129) % 2 = 0 := by
      have := Nat.mod_mod_of_dvd ((x * 2 % 65536) ^^^ 4129) (show 2 ∣ 2 ^ (j + 2) from ⟨2 ^ (j + 1), by rw [Nat.mul_comm, ← Nat.pow_succ]⟩)
      rw [e] at this
      omega
    have h3 : ((x * 2 % 65536) ^^^ 4129) % 2 ^ 1 = 1 := by
      rw [Nat.xor_mod_two_pow]
      have : x * 2 % 65536 % 2 ^ 1 = 0 := by omega
      rw [this]
      rfl
    rw [Nat.pow_one] at h3
    omega
  · have hd : 2 ^ (j + 2) ∣ 65536 := ⟨2 ^ (16 - (j + 2)), by rw [← Nat.pow_add, show j + 2 + (16 - (j + 2)) = 16 by omega]⟩
    rw [Nat.mod_mod_of_dvd _ hd, show (2 : Nat) ^ (j + 2) = 2 * 2 ^ (j + 1) by rw [Nat.mul_comm, ← Nat.pow_succ], Nat.mul_comm x 2, Nat.mul_mod_mul_left]
    omega
theorem odd_go : ∀ (l : List Bool) (r j : Nat), r % 2 ^ (j + 1) ≠ 0 → j + l.length ≤ 15 → reg r l ≠ 0
  | [], r, j, h, _ => by
    show r ≠ 0
    rintro rfl
    exact h (Nat.zero_mod _)
  | b :: l, r, j, h, hl => by
    simp only [List.length_cons] at hl
    exact odd_go l (fd r b) (j + 1) (odd_step _ j (by omega) (by rw [hi_mod r j b (by omega)]; exact h)) (by omega)
theorem all_false (l : List Bool) (h : ∀ i, l.getD i false = false) : l = List.replicate l.length false := by
  rw [List.eq_replicate_iff]
  refine ⟨rfl, fun b hb => ?_⟩
  obtain ⟨i, hi, rfl⟩ := List.mem_iff_getElem.1 hb
  have := h i
  rwa [List.getD_eq_getElem?_getD, List.getElem?_eq_getElem hi] at this
theorem burst : ∀ (D : List Bool) (a : Nat), (∀ i, D.getD i false = true → a ≤ i ∧ i < a + 16) → reg 0 D = 0 → ∀ i, D.getD i false = false
  | [], _, _, _, i => by simp
  | false :: D, a, h, h0, i => by
    have ih := burst D (a - 1) (fun i hi => by have := h (i + 1) (by simpa using hi); omega) h0
    cases i with
    | zero => rfl
    | succ i => simpa using ih i
  | true :: D, a, h, h0, _ => by
    exfalso
    have ha : a = 0 := by have := h 0 rfl; omega
    subst ha
    have hs : D = D.take 15 ++ D.drop 15 := (List.take_append_drop _ _).symm
    have hf := all_false (D.drop 15) (fun i => by
      cases e : (D.drop 15).getD i false with
      | false => rfl
      | true =>
        rw [List.getD_eq_getElem?_getD, List.getElem?_drop, ← List.getD_eq_getElem?_getD] at e
        have := h (15 + i + 1) (by simpa using e)
        omega)
    have h1 : reg 4129 D = 0 := h0
    rw [hs, reg_app, hf] at h1
    exact reg_zeros_ne _ (reg_lt _ (by decide)) (odd_go (D.take 15) 4129 0 (by decide) (by rw [List.length_take]; omega)) h1
def unB (l : List Bool) : Nat := l.foldl (fun n b => 2 * n + b.toNat) 0
theorem unB_bits : ∀ a, a < 256 → unB (bitsB a) = a := by decide +kernel
theorem bitsB_inj : ∀ a, a < 256 → ∀ b, b < 256 → bitsB a = bitsB b → a = b := fun a ha b hb h => by
  rw [← unB_bits a ha, ← unB_bits b hb, h]
theorem bitsL_inj : ∀ (l m : List UInt8), bitsL l = bitsL m → l = m
  | [], [], _ => rfl
  | [], b :: m, h => by have := congrArg List.length h; rw [bitsL_len, bitsL_len] at this; simp at this
  | b :: l, [], h => by have := congrArg List.length h; rw [bitsL_len, bitsL_len] at this; simp at this
  | a :: l, b :: m, h => by
    have h : bitsB a.toNat ++ bitsL l = bitsB b.toNat ++ bitsL m := h
    obtain ⟨h1, h2⟩ := List.append_inj h rfl
    rw [bitsL_inj l m h2, UInt8.toNat_inj.1 (bitsB_inj _ a.toNat_lt _ b.toNat_lt h1)]
theorem unl_same (l m : List Bool) (hl : l.length = m.length) (h : ∀ i, (unl l m).getD i false = false) : l = m := by
  apply List.ext_getElem hl
  intro i h1 h2
  have := h i
  rw [unl_get l m i h1 h2, List.getD_eq_getElem?_getD, List.getD_eq_getElem?_getD, List.getElem?_eq_getElem h1, List.getElem?_eq_getElem h2] at this
  simpa using this
theorem ap_true (D : List Bool) : ∀ k, 0 ≤ (apS D k).1 → D.getD (apS D k).1.toNat false = true ∧ D.getD (apS D k).2.toNat false = true
  | 0, h => absurd h (by show ¬ (0 : Int) ≤ -1; decide)
  | k + 1, h => by
    have ih := ap_true D k
    have e : apS D (k + 1) = apStep (apS D k) k (D.getD k false) := rfl
    rw [e] at h ⊢
    cases hd : D.getD k false with
    | false => rw [hd] at h; exact ih h
    | true =>
      unfold apStep
      rw [if_pos rfl]
      show D.getD (if _ then _ else _ : Int).toNat false = true ∧ D.getD ((k : Int)).toNat false = true
      refine ⟨?_, by rw [Int.toNat_natCast]; exact hd⟩
      split
      · rw [Int.toNat_natCast]; exact hd
      · exact (ih (by omega)).1
theorem ap_none (D : List Bool) : ∀ k, (apS D k).1 < 0 → ∀ j, j < k → D.getD j false = false
  | 0, _, j, hj => by omega
  | k + 1, h, j, hj => by
    have e : apS D (k + 1) = apStep (apS D k) k (D.getD k false) := rfl
    rw [e] at h
    cases hd : D.getD k false with
    | false =>
      rw [hd] at h
      by_cases hjk : j = k
      · rw [hjk]; exact hd
      · exact ap_none D k h j (by omega)
    | true =>
      exfalso
      rw [hd] at h
      unfold apStep at h
      rw [if_pos rfl] at h
      have h : (if (apS D k).1 < 0 then (k : Int) else (apS D k).1) < 0 := h
      split at h <;> omega
end Cr
end Go.Proofs.Ytbnhhacjoabpaaa
namespace Go.Proofs.Ytbnhhacjoabpaaa.AE
open Go.RowKit Cr Oc
noncomputable def prU : FuncId → Option (List AV → AH → Ans) := fun g => match g with
  | 9 => some (pure? moreP)
  | 11 => some (pure? sealP)
  | 12 => some (pure? openP)
  | 14 => some (pure? apP)
  | 17 => some (pure? turnP)
  | 6 => some (pure? awakeS)
  | _ => none
theorem knownU : Known nro prU := by
  intro g p h
  unfold prU at h
  split at h
  · cases h; exact more_ok _
  · cases h; exact seal_ok _
  · cases h; exact open_ok _
  · cases h; exact apart_ok _
  · cases h; exact turn_ok _
  · cases h; exact awake_ok awake03 (has_fn (by kernel_rfl))
  · cases h
theorem t_burst (a : ByteArray) (k t : Int) (Φ : AV → Prop) : callK nro (fun _ => false) prU 5 5 [.v (.string a), .v (.int .u16 k), .v (.int .u16 t)] (hp [] []) (fun r h => some (h.cd ∧ Φ r)) =
    (bif (decide ((300 : Int) < ((ByteArray.size a) : Int))) then (some (True ∧ (Φ (AV.v (Value.bool true))))) else (bif ((((Cr.bytL (65535 : Nat) (bytsOf a)) : Int) == ((Cr.bytL (65535 : Nat) (bytsOf (turnS a (Int.toNat (IntKind.wrap IntKind.i64 k)) (Int.toNat t)))) : Int)) == ((ByteArray.toList a) == (ByteArray.toList (turnS a (Int.toNat (IntKind.wrap IntKind.i64 k)) (Int.toNat t))))) then (bif (((openE (turnS (sealS a) (Int.toNat (IntKind.wrap IntKind.i64 k)) (Int.toNat t))) == (0 : Int)) == ((ByteArray.toList (sealS a)) == (ByteArray.toList (turnS (sealS a) (Int.toNat (IntKind.wrap IntKind.i64 k)) (Int.toNat t))))) then (bif (apB (sealS a) (turnS (sealS a) (Int.toNat (IntKind.wrap IntKind.i64 k)) (Int.toNat t))) then (bif (decide ((apN (sealS a) (turnS (sealS a) (Int.toNat (IntKind.wrap IntKind.i64 k)) (Int.toNat t))) ≤ (16 : Int))) then (bif (((apN (sealS a) (turnS (sealS a) (Int.toNat (IntKind.wrap IntKind.i64 k)) (Int.toNat t))) == (0 : Int)) == ((ByteArray.toList (sealS a)) == (ByteArray.toList (turnS (sealS a) (Int.toNat (IntKind.wrap IntKind.i64 k)) (Int.toNat t))))) then (some ((cdb (cdb (cdb (cdb (cdb (cdb (cdb True (decide (((ByteArray.size a) ≤ (100000 : Nat)) ∧ (((0 : Int) ≤ (IntKind.wrap IntKind.i64 k)) ∧ (((IntKind.wrap IntKind.i64 k) ≤ (100000 : Int)) ∧ (((0 : Int) ≤ t) ∧ (t < (65536 : Int)))))))) (decide ((ByteArray.size a) ≤ (100000 : Nat)))) (decide (((ByteArray.size (sealS a)) ≤ (100000 : Nat)) ∧ (((0 : Int) ≤ (IntKind.wrap IntKind.i64 k)) ∧ (((IntKind.wrap IntKind.i64 k) ≤ (100000 : Int)) ∧ (((0 : Int) ≤ t) ∧ (t < (65536 : Int)))))))) (decide (((ByteArray.size (sealS a)) ≤ (100000 : Nat)) ∧ ((ByteArray.size (turnS (sealS a) (Int.toNat (IntKind.wrap IntKind.i64 k)) (Int.toNat t))) ≤ (100000 : Nat))))) (decide ((ByteArray.size (turnS (sealS a) (Int.toNat (IntKind.wrap IntKind.i64 k)) (Int.toNat t))) ≤ (100000 : Nat)))) (decide ((ByteArray.size a) ≤ (100000 : Nat)))) (decide ((ByteArray.size (turnS a (Int.toNat (IntKind.wrap IntKind.i64 k)) (Int.toNat t))) ≤ (100000 : Nat)))) ∧ (Φ (AV.v (Value.bool true))))) else (some ((cdb (cdb (cdb (cdb (cdb (cdb (cdb True (decide (((ByteArray.size a) ≤ (100000 : Nat)) ∧ (((0 : Int) ≤ (IntKind.wrap IntKind.i64 k)) ∧ (((IntKind.wrap IntKind.i64 k) ≤ (100000 : Int)) ∧ (((0 : Int) ≤ t) ∧ (t < (65536 : Int)))))))) (decide ((ByteArray.size a) ≤ (100000 : Nat)))) (decide (((ByteArray.size (sealS a)) ≤ (100000 : Nat)) ∧ (((0 : Int) ≤ (IntKind.wrap IntKind.i64 k)) ∧ (((IntKind.wrap IntKind.i64 k) ≤ (100000 : Int)) ∧ (((0 : Int) ≤ t) ∧ (t < (65536 : Int)))))))) (decide (((ByteArray.size (sealS a)) ≤ (100000 : Nat)) ∧ ((ByteArray.size (turnS (sealS a) (Int.toNat (IntKind.wrap IntKind.i64 k)) (Int.toNat t))) ≤ (100000 : Nat))))) (decide ((ByteArray.size (turnS (sealS a) (Int.toNat (IntKind.wrap IntKind.i64 k)) (Int.toNat t))) ≤ (100000 : Nat)))) (decide ((ByteArray.size a) ≤ (100000 : Nat)))) (decide ((ByteArray.size (turnS a (Int.toNat (IntKind.wrap IntKind.i64 k)) (Int.toNat t))) ≤ (100000 : Nat)))) ∧ (Φ (AV.v (Value.bool false)))))) else (some ((cdb (cdb (cdb (cdb (cdb (cdb (cdb True (decide (((ByteArray.size a) ≤ (100000 : Nat)) ∧ (((0 : Int) ≤ (IntKind.wrap IntKind.i64 k)) ∧ (((IntKind.wrap IntKind.i64 k) ≤ (100000 : Int)) ∧ (((0 : Int) ≤ t) ∧ (t < (65536 : Int)))))))) (decide ((ByteArray.size a) ≤ (100000 : Nat)))) (decide (((ByteArray.size (sealS a)) ≤ (100000 : Nat)) ∧ (((0 : Int) ≤ (IntKind.wrap IntKind.i64 k)) ∧ (((IntKind.wrap IntKind.i64 k) ≤ (100000 : Int)) ∧ (((0 : Int) ≤ t) ∧ (t < (65536 : Int)))))))) (decide (((ByteArray.size (sealS a)) ≤ (100000 : Nat)) ∧ ((ByteArray.size (turnS (sealS a) (Int.toNat (IntKind.wrap IntKind.i64 k)) (Int.toNat t))) ≤ (100000 : Nat))))) (decide ((ByteArray.size (turnS (sealS a) (Int.toNat (IntKind.wrap IntKind.i64 k)) (Int.toNat t))) ≤ (100000 : Nat)))) (decide ((ByteArray.size a) ≤ (100000 : Nat)))) (decide ((ByteArray.size (turnS a (Int.toNat (IntKind.wrap IntKind.i64 k)) (Int.toNat t))) ≤ (100000 : Nat)))) ∧ (Φ (AV.v (Value.bool false)))))) else (some ((cdb (cdb (cdb (cdb (cdb (cdb (cdb True (decide (((ByteArray.size a) ≤ (100000 : Nat)) ∧ (((0 : Int) ≤ (IntKind.wrap IntKind.i64 k)) ∧ (((IntKind.wrap IntKind.i64 k) ≤ (100000 : Int)) ∧ (((0 : Int) ≤ t) ∧ (t < (65536 : Int)))))))) (decide ((ByteArray.size a) ≤ (100000 : Nat)))) (decide (((ByteArray.size (sealS a)) ≤ (100000 : Nat)) ∧ (((0 : Int) ≤ (IntKind.wrap IntKind.i64 k)) ∧ (((IntKind.wrap IntKind.i64 k) ≤ (100000 : Int)) ∧ (((0 : Int) ≤ t) ∧ (t < (65536 : Int)))))))) (decide (((ByteArray.size (sealS a)) ≤ (100000 : Nat)) ∧ ((ByteArray.size (turnS (sealS a) (Int.toNat (IntKind.wrap IntKind.i64 k)) (Int.toNat t))) ≤ (100000 : Nat))))) (decide ((ByteArray.size (turnS (sealS a) (Int.toNat (IntKind.wrap IntKind.i64 k)) (Int.toNat t))) ≤ (100000 : Nat)))) (decide ((ByteArray.size a) ≤ (100000 : Nat)))) (decide ((ByteArray.size (turnS a (Int.toNat (IntKind.wrap IntKind.i64 k)) (Int.toNat t))) ≤ (100000 : Nat)))) ∧ (Φ (AV.v (Value.bool false)))))) else (some ((cdb (cdb (cdb (cdb (cdb (cdb (cdb True (decide (((ByteArray.size a) ≤ (100000 : Nat)) ∧ (((0 : Int) ≤ (IntKind.wrap IntKind.i64 k)) ∧ (((IntKind.wrap IntKind.i64 k) ≤ (100000 : Int)) ∧ (((0 : Int) ≤ t) ∧ (t < (65536 : Int)))))))) (decide ((ByteArray.size a) ≤ (100000 : Nat)))) (decide (((ByteArray.size (sealS a)) ≤ (100000 : Nat)) ∧ (((0 : Int) ≤ (IntKind.wrap IntKind.i64 k)) ∧ (((IntKind.wrap IntKind.i64 k) ≤ (100000 : Int)) ∧ (((0 : Int) ≤ t) ∧ (t < (65536 : Int)))))))) (decide (((ByteArray.size (sealS a)) ≤ (100000 : Nat)) ∧ ((ByteArray.size (turnS (sealS a) (Int.toNat (IntKind.wrap IntKind.i64 k)) (Int.toNat t))) ≤ (100000 : Nat))))) (decide ((ByteArray.size (turnS (sealS a) (Int.toNat (IntKind.wrap IntKind.i64 k)) (Int.toNat t))) ≤ (100000 : Nat)))) (decide ((ByteArray.size a) ≤ (100000 : Nat)))) (decide ((ByteArray.size (turnS a (Int.toNat (IntKind.wrap IntKind.i64 k)) (Int.toNat t))) ≤ (100000 : Nat)))) ∧ (Φ (AV.v (Value.bool false)))))) else (some ((cdb (cdb (cdb (cdb (cdb (cdb (cdb True (decide (((ByteArray.size a) ≤ (100000 : Nat)) ∧ (((0 : Int) ≤ (IntKind.wrap IntKind.i64 k)) ∧ (((IntKind.wrap IntKind.i64 k) ≤ (100000 : Int)) ∧ (((0 : Int) ≤ t) ∧ (t < (65536 : Int)))))))) (decide ((ByteArray.size a) ≤ (100000 : Nat)))) (decide (((ByteArray.size (sealS a)) ≤ (100000 : Nat)) ∧ (((0 : Int) ≤ (IntKind.wrap IntKind.i64 k)) ∧ (((IntKind.wrap IntKind.i64 k) ≤ (100000 : Int)) ∧ (((0 : Int) ≤ t) ∧ (t < (65536 : Int)))))))) (decide (((ByteArray.size (sealS a)) ≤ (100000 : Nat)) ∧ ((ByteArray.size (turnS (sealS a) (Int.toNat (IntKind.wrap IntKind.i64 k)) (Int.toNat t))) ≤ (100000 : Nat))))) (decide ((ByteArray.size (turnS (sealS a) (Int.toNat (IntKind.wrap IntKind.i64 k)) (Int.toNat t))) ≤ (100000 : Nat)))) (decide ((ByteArray.size a) ≤ (100000 : Nat)))) (decide ((ByteArray.size (turnS a (Int.toNat (IntKind.wrap IntKind.i64 k)) (Int.toNat t))) ≤ (100000 : Nat)))) ∧ (Φ (AV.v (Value.bool false))))))) := by kernel_rfl
end Go.Proofs.Ytbnhhacjoabpaaa.AE
namespace Go.Proofs.Ytbnhhacjoabpaaa.AE
open Go.RowKit Cr Oc
theorem byts_same {a b : ByteArray} (h : bytsOf a = bytsOf b) : a = b := by
  apply ByteArray.ext
  exact Array.toList_inj.1 h
theorem byts_turn (s : ByteArray) (k t : Nat) : bytsOf (turnS s k t) = turnL (bytsOf s) k t 16 := rfl
theorem turn_size (s : ByteArray) (k t : Nat) : (turnS s k t).size = s.size := by
  rw [← len_byts, byts_turn, turnL_len, len_byts]
theorem turn_far (s : ByteArray) (k t : Nat) (j : Nat) (h : (apD s (turnS s k t)).getD j false = true) : k ≤ j ∧ j < k + 16 := by
  unfold apD at h
  by_cases hj : j < 8 * s.size
  · rw [unl_get _ _ j (by rw [bits_txt]; exact hj) (by rw [bits_txt, turn_size]; exact hj), byts_turn, turnL_bit _ _ _ j (by rw [len_byts]; exact hj)] at h
    generalize (bitsL (bytsOf s)).getD j false = b at h
    by_cases hp : k ≤ j ∧ j < k + 16 ∧ tb t (j - k) = true
    · exact ⟨hp.1, hp.2.1⟩
    · rw [decide_eq_false hp] at h
      simp at h
  · rw [List.getD_eq_getElem?_getD, List.getElem?_eq_none (by unfold unl; rw [List.length_zipWith, bits_txt]; omega)] at h
    cases h
theorem turn_none (s : ByteArray) (k t : Nat) (h : ∀ i, (apD s (turnS s k t)).getD i false = false) : s = turnS s k t := by
  unfold apD at h
  exact byts_same (bitsL_inj _ _ (unl_same _ _ (by rw [bits_txt, bits_txt, turn_size]) h))
/-- A change within 16 bits in a row is told by the sum. -/
theorem turn_told (s : ByteArray) (k t : Nat) : bytL 65535 (bytsOf s) = bytL 65535 (bytsOf (turnS s k t)) ↔ s = turnS s k t := by
  constructor
  · intro h
    rw [bytL_reg (by decide), bytL_reg (by decide)] at h
    have hx := reg_xor (a := 65535) (b := 65535) (bitsL (bytsOf s)) (bitsL (bytsOf (turnS s k t))) (by rw [bits_txt, bits_txt, turn_size]) (by decide) (by decide)
    rw [h, Nat.xor_self, Nat.xor_self] at hx
    exact turn_none s k t (burst (apD s (turnS s k t)) k (turn_far s k t) hx.symm)
  · intro h; rw [← h]
theorem turn_apart (s : ByteArray) (k t : Nat) : apB s (turnS s k t) = true ∧ apN s (turnS s k t) ≤ 16 ∧ (apN s (turnS s k t) = 0 ↔ s = turnS s k t) := by
  have hsz : s.size = (turnS s k t).size := (turn_size s k t).symm
  refine ⟨decide_eq_true hsz, ?_⟩
  rw [apN_eq hsz]
  have rng := ap_rng (apD s (turnS s k t)) (8 * s.size)
  have tr := ap_true (apD s (turnS s k t)) (8 * s.size)
  have no := ap_none (apD s (turnS s k t)) (8 * s.size)
  have far := turn_far s k t
  have hself : s = turnS s k t → (apS (apD s (turnS s k t)) (8 * s.size)).1 < 0 := fun h => by
    by_cases h0 : 0 ≤ (apS (apD s (turnS s k t)) (8 * s.size)).1
    · exfalso
      have h1 := (tr h0).1
      rw [← h] at h1
      unfold apD at h1
      generalize (apS _ _).1.toNat = j at h1
      by_cases hj : j < 8 * s.size
      · rw [unl_get _ _ j (by rw [bits_txt]; exact hj) (by rw [bits_txt]; exact hj)] at h1
        simp at h1
      · rw [List.getD_eq_getElem?_getD, List.getElem?_eq_none (by unfold unl; rw [List.length_zipWith, bits_txt]; omega)] at h1
        cases h1
    · omega
  have hnone : (apS (apD s (turnS s k t)) (8 * s.size)).1 < 0 → s = turnS s k t := fun h0 => by
    refine turn_none s k t fun i => ?_
    by_cases hi : i < 8 * s.size
    · exact no h0 i hi
    · unfold apD
      rw [List.getD_eq_getElem?_getD, List.getElem?_eq_none (by unfold unl; rw [List.length_zipWith, bits_txt]; omega)]
      rfl
  generalize apS (apD s (turnS s k t)) (8 * s.size) = p at rng tr hself hnone
  rcases rng with ⟨r1, r2⟩ | ⟨r1, r2, r3⟩
  · rw [r1, r2]
    exact ⟨by decide, fun _ => hnone (by rw [r1]; decide), fun _ => by decide⟩
  · obtain ⟨t1, t2⟩ := tr r1
    have f1 := far _ t1
    have f2 := far _ t2
    refine ⟨by omega, fun h => by omega, fun h => ?_⟩
    have := hself h
    omega
end Go.Proofs.Ytbnhhacjoabpaaa.AE
namespace Go.Proofs.Ytbnhhacjoabpaaa
open Go.RowKit AE Cr Oc
theorem lst_iff (a b : ByteArray) : (a.toList == b.toList) = decide (a = b) := by
  rw [Bool.eq_iff_iff, beq_iff_eq, decide_eq_true_eq, ByteArray.toList_eq, ByteArray.toList_eq]
  exact ⟨fun h => byts_inj h, fun h => by rw [h]⟩
theorem open_told (a : ByteArray) (k t : Nat) : openE (turnS (sealS a) k t) = 0 ↔ sealS a = turnS (sealS a) k t := by
  constructor
  · intro h
    have hsz : (turnS (sealS a) k t).size = a.size + 2 := by rw [turn_size, seal_size]
    have hl : ¬ (turnS (sealS a) k t).size < 2 := by omega
    unfold openE at h
    rw [if_neg hl] at h
    have ho : opens (turnS (sealS a) k t) = true := by
      cases ho : opens (turnS (sealS a) k t) with
      | true => rfl
      | false => rw [ho] at h; cases h
    unfold opens at ho
    have hb := eq_of_beq ho
    have h1 := sum_seal (bodyB (turnS (sealS a) k t))
    rw [hb] at h1
    exact (turn_told (sealS a) k t).1 (by rw [h1, sum_seal])
  · intro h
    rw [← h]
    exact (open_seal a).2
theorem eqs {p q : Prop} [Decidable p] [Decidable q] (h : p ↔ q) {P : Prop} (e : (decide p == decide q) = false) : P := by
  have h2 : decide p = decide q := decide_eq_decide.2 h
  rw [h2] at e
  simp at e
theorem u16_rng {k : Int} (h : (Lit.int .u16 k).wf = true) : 0 ≤ k ∧ k < 65536 := by
  simp [Lit.wf, IntKind.min, IntKind.max, IntKind.signed, IntKind.bits] at h
  omega
theorem w_CrcBursts (w : World) (a : ByteArray) (_ : a.size ≤ maxLen) (k : Int) (hk : (Lit.int .u16 k).wf = true) (t : Int) (ht : (Lit.int .u16 t).wf = true) :
    Calls Try.prog 5 #[.string a, .int .u16 k, .int .u16 t] w fun e w' => e = .returned (.bool true) ∧ Below w.heap.size w w' := by
  refine law_true (ro := nro) (args := [.v (.string a), .v (.int .u16 k), .v (.int .u16 t)]) ?_ w _ (ro_none _ _) (.cons (.v _) (.cons (.v _) (.cons (.v _) .nil)))
  have hk2 : 0 ≤ k ∧ k < 65536 := u16_rng hk
  have ht2 : 0 ≤ t ∧ t < 65536 := u16_rng ht
  obtain ⟨k, rfl⟩ := Int.eq_ofNat_of_zero_le hk2.1
  obtain ⟨t, rfl⟩ := Int.eq_ofNat_of_zero_le ht2.1
  have tr := t_burst a k t fun r => r = .v (.bool true)
  have ew : IntKind.wrap .i64 (k : Int) = (k : Int) := by rw [IntKind.wrap_i64]; omega
  rw [ew, Int.toNat_natCast, Int.toNat_natCast, lst_iff, lst_iff] at tr
  refine Fs.of_call knownU tr (holds_bif (fun _ => ⟨trivial, rfl⟩) fun h1 => ?_)
  have h1 := of_decide_eq_false h1
  obtain ⟨a1, a2, a3⟩ := turn_apart (sealS a) k t
  have t1 := turn_told a k t
  have t2 := open_told a k t
  have i1 : (((bytL 65535 (bytsOf a) : Nat) : Int) == ((bytL 65535 (bytsOf (turnS a k t)) : Nat) : Int)) = decide (bytL 65535 (bytsOf a) = bytL 65535 (bytsOf (turnS a k t))) := by
    rw [Bool.eq_iff_iff, beq_iff_eq, decide_eq_true_eq]; omega
  have i2 : (openE (turnS (sealS a) k t) == 0) = decide (openE (turnS (sealS a) k t) = 0) := by rw [Bool.eq_iff_iff, beq_iff_eq, decide_eq_true_eq]
  have i3 : (apN (sealS a) (turnS (sealS a) k t) == 0) = decide (apN (sealS a) (turnS (sealS a) k t) = 0) := by rw [Bool.eq_iff_iff, beq_iff_eq, decide_eq_true_eq]
  rw [i1, i2, i3, a1]
  refine holds_bif (fun _ => holds_bif (fun _ => holds_bif (fun _ => holds_bif (fun _ => holds_bif (fun _ => ⟨?_, rfl⟩) (eqs a3)) fun h => absurd a2 (of_decide_eq_false h)) fun h => nomatch h) (eqs t2)) (eqs t1)
  have ha : a.size ≤ 100000 := by omega
  have hs : (sealS a).size ≤ 100000 := by rw [seal_size]; omega
  have hx : (turnS a k t).size ≤ 100000 := by rw [turn_size]; exact ha
  have hy : (turnS (sealS a) k t).size ≤ 100000 := by rw [turn_size]; exact hs
  repeat' first
    | with_reducible exact trivial
    | with_reducible refine cdb_iff.2 ⟨?_, ?_⟩
  all_goals (refine decide_eq_true ?_; first | with_reducible exact ha | with_reducible exact hx | with_reducible exact hy | exact ⟨ha, by omega, by omega, by omega, by omega⟩ | exact ⟨hs, by omega, by omega, by omega, by omega⟩ | exact ⟨hs, hy⟩)
end Go.Proofs.Ytbnhhacjoabpaaa
