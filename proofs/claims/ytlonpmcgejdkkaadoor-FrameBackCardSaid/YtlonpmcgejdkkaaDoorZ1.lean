
/-
  Layer 23: a frame is the bytes that its body makes.
-/
import Derived.RowKit3
import Derived.Test.YtlonpmcgejdkkaaDoorAETr
import Derived.Test.YtlonpmcgejdkkaaDoorOctetPlain
import Derived.Test.YtlonpmcgejdkkaaDoorAEOct
namespace Go.Proofs.YtlonpmcgejdkkaaDoor
set_option maxRecDepth 100000
namespace Cr
/-- The register's step, without a bit. -/
def stp (n : Nat) : Nat := if n / 32768 = 1 then (n * 2 % 65536) ^^^ 4129 else n * 2 % 65536
def hi (b : Bool) : Nat := if b then 32768 else 0
/-- A bit is fed. -/
def fd (n : Nat) (b : Bool) : Nat := stp (n ^^^ hi b)
def stpV (v : BitVec 16) : BitVec 16 := if v.msb then (v <<< 1) ^^^ 4129#16 else v <<< 1
theorem stpV_xor (a b : BitVec 16) : stpV (a ^^^ b) = stpV a ^^^ stpV b := by
  unfold stpV
  rw [BitVec.msb_xor, BitVec.shiftLeft_xor_distrib]
  generalize a <<< 1 = x
  generalize b <<< 1 = y
  cases a.msb <;> cases b.msb <;> simp
  · rw [BitVec.xor_assoc]
  · rw [BitVec.xor_assoc, BitVec.xor_assoc, BitVec.xor_comm y]
  · rw [BitVec.xor_assoc, ← BitVec.xor_assoc 4129#16, BitVec.xor_comm 4129#16, BitVec.xor_assoc y, BitVec.xor_self, BitVec.xor_zero]
theorem hi_lt (b : Bool) : hi b < 65536 := by cases b <;> decide
theorem xor_lt {a b : Nat} (ha : a < 65536) (hb : b < 65536) : a ^^^ b < 65536 := Nat.xor_lt_two_pow (n := 16) ha hb
theorem stp_lt (n : Nat) : stp n < 65536 := by
  unfold stp
  have h : n * 2 % 65536 < 65536 := Nat.mod_lt _ (by decide)
  split
  · exact xor_lt h (by decide)
  · exact h
theorem stp_V (n : Nat) (h : n < 65536) : stp n = (stpV (BitVec.ofNat 16 n)).toNat := by
  have hm : (BitVec.ofNat 16 n).msb = decide (n / 32768 = 1) := by
    rw [BitVec.msb_eq_decide, BitVec.toNat_ofNat]
    apply decide_eq_decide.2
    rw [Nat.mod_eq_of_lt (by simpa using h)]
    simp
    omega
  have hs : (BitVec.ofNat 16 n <<< 1).toNat = n * 2 % 65536 := by
    rw [BitVec.toNat_shiftLeft, BitVec.toNat_ofNat, Nat.shiftLeft_eq]
    simp
  unfold stp stpV
  rw [hm]
  by_cases hh : n / 32768 = 1
  · simp only [hh, decide_true, if_true]
    rw [BitVec.toNat_xor, hs]; rfl
  · simp only [hh, decide_false, if_false, Bool.false_eq_true]
    exact hs.symm
theorem ofNat_xor (a b : Nat) (ha : a < 65536) (hb : b < 65536) : BitVec.ofNat 16 (a ^^^ b) = BitVec.ofNat 16 a ^^^ BitVec.ofNat 16 b := by
  apply BitVec.eq_of_toNat_eq
  rw [BitVec.toNat_xor, BitVec.toNat_ofNat, BitVec.toNat_ofNat, BitVec.toNat_ofNat, Nat.mod_eq_of_lt (xor_lt ha hb), Nat.mod_eq_of_lt ha, Nat.mod_eq_of_lt hb]
theorem stp_xor {a b : Nat} (ha : a < 65536) (hb : b < 65536) : stp (a ^^^ b) = stp a ^^^ stp b := by
  rw [stp_V _ (xor_lt ha hb), stp_V a ha, stp_V b hb, ofNat_xor a b ha hb, stpV_xor, BitVec.toNat_xor]
theorem fd_lt (n : Nat) (b : Bool) : fd n b < 65536 := stp_lt _
theorem fd_xor {a b : Nat} (x y : Bool) (ha : a < 65536) (hb : b < 65536) : fd (a ^^^ b) (x != y) = fd a x ^^^ fd b y := by
  unfold fd
  rw [← stp_xor (xor_lt ha (hi_lt x)) (xor_lt hb (hi_lt y))]
  congr 1
  have : hi (x != y) = hi x ^^^ hi y := by cases x <;> cases y <;> decide
  rw [this, Nat.xor_assoc, Nat.xor_assoc, ← Nat.xor_assoc b, Nat.xor_comm b, Nat.xor_assoc]
/-- The document's step: the highest bit is compared with the bit that comes. -/
theorem fd_ref (n : Nat) (h : n < 65536) (b : Bool) : fd n b = if n / 32768 = (if b then 1 else 0) then n * 2 % 65536 else (n * 2 % 65536) ^^^ 4129 := by
  cases b
  · show stp (n ^^^ 0) = _
    rw [Nat.xor_zero]
    unfold stp
    have : n / 32768 = 0 ∨ n / 32768 = 1 := by omega
    rcases this with h | h <;> simp [h]
  · show stp (n ^^^ 32768) = _
    rw [stp_xor h (by decide)]
    have h8 : stp 32768 = 4129 := by decide
    rw [h8]
    unfold stp
    have : n / 32768 = 0 ∨ n / 32768 = 1 := by omega
    rcases this with h | h
    · simp [h]
    · simp [h, Nat.xor_assoc]
/-- A row of bits is fed. -/
def reg (n : Nat) (l : List Bool) : Nat := l.foldl fd n
theorem reg_lt {n : Nat} (l : List Bool) (h : n < 65536) : reg n l < 65536 := by
  induction l generalizing n with
  | nil => exact h
  | cons b l ih => exact ih (fd_lt n b)
theorem reg_app (n : Nat) (l m : List Bool) : reg n (l ++ m) = reg (reg n l) m := List.foldl_append
def bitN (b i : Nat) : Bool := decide (b / 2 ^ (7 - i) % 2 = 1)
def bitsB (b : Nat) : List Bool := [bitN b 0, bitN b 1, bitN b 2, bitN b 3, bitN b 4, bitN b 5, bitN b 6, bitN b 7]
def stpN (n : Nat) : Nat → Nat
  | 0 => n
  | k + 1 => stp (stpN n k)
theorem stpN_lt {n : Nat} (h : n < 65536) (k : Nat) : stpN n k < 65536 := by
  cases k with
  | zero => exact h
  | succ k => exact stp_lt _
/-- A byte is fed at once. -/
def byt (n b : Nat) : Nat := stpN (n ^^^ (b * 256)) 8
def T (k b : Nat) : Nat := b * 256 * 2 ^ k % 65536
theorem T_next : ∀ k, k < 8 → ∀ b, b < 256 → T k b = hi (bitN b k) ^^^ (T k b % 32768) ∧ stp (T k b % 32768) = T (k + 1) b := by decide +kernel
theorem byt_step {r : Nat} (k b : Nat) (hk : k < 8) (hb : b < 256) (hr : r < 65536) : stp (r ^^^ T k b) = fd r (bitN b k) ^^^ T (k + 1) b := by
  obtain ⟨h1, h2⟩ := T_next k hk b hb
  have h3 : T k b % 32768 < 65536 := by omega
  unfold fd
  rw [← h2, ← stp_xor (xor_lt hr (hi_lt _)) h3, Nat.xor_assoc, ← h1]
theorem byt_reg {n b : Nat} (hn : n < 65536) (hb : b < 256) : byt n b = reg n (bitsB b) := by
  have h0 : n ^^^ (b * 256) = n ^^^ T 0 b := by unfold T; rw [Nat.pow_zero, Nat.mul_one, Nat.mod_eq_of_lt (by omega)]
  have h8 : T 8 b = 0 := by unfold T; rw [Nat.mul_assoc]; exact Nat.mul_mod_left b 65536
  unfold byt
  rw [h0]
  show stp (stp (stp (stp (stp (stp (stp (stp (n ^^^ T 0 b)))))))) = fd (fd (fd (fd (fd (fd (fd (fd n _) _) _) _) _) _) _) _
  rw [byt_step 0 b (by decide) hb hn, byt_step 1 b (by decide) hb (fd_lt _ _), byt_step 2 b (by decide) hb (fd_lt _ _), byt_step 3 b (by decide) hb (fd_lt _ _), byt_step 4 b (by decide) hb (fd_lt _ _), byt_step 5 b (by decide) hb (fd_lt _ _), byt_step 6 b (by decide) hb (fd_lt _ _), byt_step 7 b (by decide) hb (fd_lt _ _), h8, Nat.xor_zero]
/-- A text's bits, and its register. -/
def bitsL (l : List UInt8) : List Bool := l.flatMap fun b => bitsB b.toNat
def bytL (n : Nat) (l : List UInt8) : Nat := l.foldl (fun n b => byt n b.toNat) n
theorem bytL_reg {n : Nat} (hn : n < 65536) (l : List UInt8) : bytL n l = reg n (bitsL l) := by
  induction l generalizing n with
  | nil => rfl
  | cons b l ih =>
    show bytL (byt n b.toNat) l = reg n (bitsB b.toNat ++ bitsL l)
    rw [reg_app, ← byt_reg hn b.toNat_lt, ih (by rw [byt_reg hn b.toNat_lt]; exact reg_lt _ hn)]
theorem bytL_lt {n : Nat} (hn : n < 65536) (l : List UInt8) : bytL n l < 65536 := by rw [bytL_reg hn]; exact reg_lt _ hn
theorem bytL_app (n : Nat) (l m : List UInt8) : bytL n (l ++ m) = bytL (bytL n l) m := List.foldl_append
/-- Rows of bits of one length, compared. -/
theorem reg_xor {a b : Nat} (l m : List Bool) (hl : l.length = m.length) (ha : a < 65536) (hb : b < 65536) : reg a l ^^^ reg b m = reg (a ^^^ b) (List.zipWith (· != ·) l m) := by
  induction l generalizing a b m with
  | nil => cases m with
    | nil => rfl
    | cons y m => simp at hl
  | cons x l ih => cases m with
    | nil => simp at hl
    | cons y m =>
      show reg (fd a x) l ^^^ reg (fd b y) m = reg (fd (a ^^^ b) (x != y)) (List.zipWith _ l m)
      rw [ih m (by simpa using hl) (fd_lt _ _) (fd_lt _ _), fd_xor x y ha hb]
theorem xor_nil {a b : Nat} (h : a ^^^ b = 0) : a = b := by
  have h2 : a ^^^ b ^^^ b = b := by rw [h, Nat.zero_xor]
  rwa [Nat.xor_assoc, Nat.xor_self, Nat.xor_zero] at h2
theorem stp_zero : stp 0 = 0 := by decide
/-- The step is never undone to nothing. -/
theorem stp_ne {n : Nat} (h : n < 65536) (h0 : n ≠ 0) : stp n ≠ 0 := by
  unfold stp
  split
  · intro he
    have h2 : n * 2 % 65536 = 4129 := xor_nil he
    omega
  · omega
theorem reg_zeros (k : Nat) : reg 0 (List.replicate k false) = 0 := by
  induction k with
  | zero => rfl
  | succ k ih => exact ih
theorem reg_zeros_ne {n : Nat} (k : Nat) (h : n < 65536) (h0 : n ≠ 0) : reg n (List.replicate k false) ≠ 0 := by
  induction k generalizing n with
  | zero => exact h0
  | succ k ih =>
    refine ih (n := fd n false) (fd_lt _ _) ?_
    show stp (n ^^^ 0) ≠ 0
    rw [Nat.xor_zero]
    exact stp_ne h h0
end Cr
end Go.Proofs.YtlonpmcgejdkkaaDoor
namespace Go.Proofs.YtlonpmcgejdkkaaDoor.AE.H23
set_option maxRecDepth 100000
open Go.RowKit
/-- A function that is handed the run's one box. -/
def box? (spec : TypeId → List AV → Value → Option (Value × Value × Bool)) (args : List AV) (H : AH) : Ans := match H.blks, H.tips with
  | [(t, [.v x])], [] => match decide (H.mb = 0) with
    | true => match spec t args x with
      | some c => some (.v c.1, { H with blks := [(t, [.v c.2.1])], cd := cdb H.cd c.2.2 })
      | none => none
    | false => none
  | _, _ => none
theorem box_ok {ro : Nat → Option (List Value)} {g : FuncId} {spec : TypeId → List AV → Value → Option (Value × Value × Bool)} (hf : ∃ fn, Tryd.prog.funcs[g]? = some fn ∧ fn.body.isSome = true)
    (h : ∀ t args x c x', spec t args x = some (c, x', true) → Fs Tryd.prog ro g args (hp [(t, [.v x])] []) fun r h => r = .v c ∧ h.blks = [(t, [.v x'])] ∧ h.tips = []) :
    ∀ args H r H', box? spec args H = some (r, H') → HSound1 Tryd.prog ro g args H r H' := by
  intro args H r H' hp'
  unfold box? at hp'
  split at hp'
  · rename_i t x hb ht
    split at hp'
    · rename_i hmb
      have hmb := of_decide_eq_true hmb
      split at hp'
      · rename_i cc hs
        obtain ⟨c, x', q⟩ := cc
        cases hp'
        refine ⟨⟨fun x => (cdb_iff.1 x).1, rfl, rfl, rfl, by simp [hb], Nat.le_refl _, fun i hi _ => absurd hi (by omega), fun _ _ _ => rfl⟩, fun hcd G W cargs hI hR hA => ⟨hf, ?_⟩⟩
        have hq : q = true := (cdb_iff.1 hcd).2
        subst hq
        refine ((h _ _ _ _ _ hs) G W cargs (hI.same hb.symm ht.symm) hR hA).2.mono ?_
        rintro e W' ⟨c1, G', r1, H1, rfl, ⟨rfl, h2, h3⟩, e1, e2, e3⟩
        exact ⟨c1, G', rfl, e1, e2.same h2.symm (by rw [h3]; exact ht), e3⟩
      · cases hp'
    · cases hp'
  · cases hp'
theorem f_pre (b n : Int) (R : Exit → List AV → AH → Prop) : codeL nro (fun _ => false) (fun _ => none) 5 ((flatten (bodyOf 44)).take 2) ([.v (.int .u8 b), .ptr 0 0] ++ List.replicate 18 (.v undef)) (hp [(104, [.v (.int .u16 n)])] []) (kp [0, 1, 9] R) =
    (some (True ∧ (R Exit.normal [(AV.v (Value.int IntKind.u8 b)), (AV.ptr (0 : Nat) (0 : Nat)), AV.dead, AV.dead, AV.dead, AV.dead, AV.dead, AV.dead, AV.dead, (AV.v (Value.int IntKind.i64 (0 : Int))), AV.dead, AV.dead, AV.dead, AV.dead, AV.dead, AV.dead, AV.dead, AV.dead, AV.dead, AV.dead] (AH.mk [((104 : Nat), [(AV.v (Value.int IntKind.u16 (IntKind.wrap IntKind.u16 (((@BitVec.toFin (IntKind.bits IntKind.u16) ((BitVec.ofInt (IntKind.bits IntKind.u16) n) ^^^ (BitVec.ofInt (IntKind.bits IntKind.u16) (IntKind.wrap IntKind.u16 ((IntKind.wrap IntKind.u16 b) * ((2 : Int) ^ (@Min.min Nat instMinNat (Int.toNat (8 : Int)) (IntKind.bits IntKind.u16))))))))).1 : Int))))])] (@List.nil Nat) (0 : Nat) (0 : Nat) true (@List.nil (Prod Nat Bool)) True)))) := by kernel_rfl
theorem f_body (b n i : Int) (R : Exit → List AV → AH → Prop) : code nro (fun _ => false) (fun _ => none) 5 (sub (bodyOf 44) [1, 1, 0, 0]) ([.v (.int .u8 b), .ptr 0 0] ++ List.replicate 7 .dead ++ .v (.int .i64 i) :: List.replicate 10 .dead) (hp [(104, [.v (.int .u16 n)])] []) (kp [0, 1, 9] R) =
    (bif (decide (i < (8 : Int))) then (bif ((Int.fdiv n (32768 : Int)) == (1 : Int)) then (some (True ∧ (R Exit.normal [(AV.v (Value.int IntKind.u8 b)), (AV.ptr (0 : Nat) (0 : Nat)), AV.dead, AV.dead, AV.dead, AV.dead, AV.dead, AV.dead, AV.dead, (AV.v (Value.int IntKind.i64 (IntKind.wrap IntKind.i64 (i + (1 : Int))))), AV.dead, AV.dead, AV.dead, AV.dead, AV.dead, AV.dead, AV.dead, AV.dead, AV.dead, AV.dead] (AH.mk [((104 : Nat), [(AV.v (Value.int IntKind.u16 (IntKind.wrap IntKind.u16 (((@BitVec.toFin (IntKind.bits IntKind.u16) ((BitVec.ofInt (IntKind.bits IntKind.u16) (IntKind.wrap IntKind.u16 (n * ((2 : Int) ^ (@Min.min Nat instMinNat (Int.toNat (1 : Int)) (IntKind.bits IntKind.u16)))))) ^^^ (BitVec.ofInt (IntKind.bits IntKind.u16) (4129 : Int))))).1 : Int))))])] (@List.nil Nat) (0 : Nat) (0 : Nat) true (@List.nil (Prod Nat Bool)) True)))) else (some (True ∧ (R Exit.normal [(AV.v (Value.int IntKind.u8 b)), (AV.ptr (0 : Nat) (0 : Nat)), AV.dead, AV.dead, AV.dead, AV.dead, AV.dead, AV.dead, AV.dead, (AV.v (Value.int IntKind.i64 (IntKind.wrap IntKind.i64 (i + (1 : Int))))), AV.dead, AV.dead, AV.dead, AV.dead, AV.dead, AV.dead, AV.dead, AV.dead, AV.dead, AV.dead] (AH.mk [((104 : Nat), [(AV.v (Value.int IntKind.u16 (IntKind.wrap IntKind.u16 (n * (2 : Int)))))])] (@List.nil Nat) (0 : Nat) (0 : Nat) true (@List.nil (Prod Nat Bool)) True))))) else (some (True ∧ (R (Exit.exit (0 : Nat)) [(AV.v (Value.int IntKind.u8 b)), (AV.ptr (0 : Nat) (0 : Nat)), AV.dead, AV.dead, AV.dead, AV.dead, AV.dead, AV.dead, AV.dead, (AV.v (Value.int IntKind.i64 i)), AV.dead, AV.dead, AV.dead, AV.dead, AV.dead, AV.dead, AV.dead, AV.dead, AV.dead, AV.dead] (AH.mk [((104 : Nat), [(AV.v (Value.int IntKind.u16 n))])] (@List.nil Nat) (0 : Nat) (0 : Nat) true (@List.nil (Prod Nat Bool)) True))))) := by kernel_rfl
end Go.Proofs.YtlonpmcgejdkkaaDoor.AE.H23
namespace Go.Proofs.YtlonpmcgejdkkaaDoor.AE.H23
set_option maxRecDepth 100000
open Go.RowKit Cr
theorem ne_nil {α : Type} {l : List α} (h : l.isEmpty = false) : l ≠ [] := by cases l <;> simp_all
theorem add_one (k : Nat) (h : k ≤ 1000000) : IntKind.wrap .i64 ((k : Int) + 1) = ((k + 1 : Nat) : Int) := by
  rw [IntKind.wrap_i64]; omega
theorem dbl16 (n : Nat) : IntKind.wrap .u16 ((n : Int) * 2) = ((n * 2 % 65536 : Nat) : Int) := by
  rw [IntKind.wrap_u16]; omega
theorem sl_feed : slotsOf 44 = 20 := by kernel_rfl
theorem re_feed : resultsOf 44 = [] := by kernel_rfl
theorem fl_feed : (flatten (bodyOf 44)).drop 2 = [.block 0 (.loop (sub (bodyOf 44) [1, 1, 0, 0]))] := by kernel_rfl
def unit : Value := .tuple #[]
def bx (n : Nat) : AH := hp [(104, [.v (.int .u16 n)])] []
def feedA (b k : Nat) : List AV := [.v (.int .u8 b), .ptr 0 0] ++ List.replicate 7 .dead ++ .v (.int .i64 k) :: List.replicate 10 .dead
theorem shl8 (n b : Nat) (hn : n < 65536) (hb : b < 256) : bits .xor .u16 (n : Int) (IntKind.wrap .u16 (IntKind.wrap .u16 (b : Int) * 256)) = ((n ^^^ (b * 256) : Nat) : Int) := by
  have e : IntKind.wrap .u16 (IntKind.wrap .u16 (b : Int) * 256) = ((b * 256 : Nat) : Int) := by
    rw [IntKind.wrap_u16, IntKind.wrap_u16]; omega
  rw [e]
  exact u16_xor_nat n (b * 256) hn (by omega)
theorem fs_feed (n b : Nat) (hn : n < 65536) (hb : b < 256) :
    Fs Tryd.prog nro 44 [.v (.int .u8 b), .ptr 0 0] (bx n) fun r h => r = .v unit ∧ h.blks = [(104, [.v (.int .u16 (byt n b : Nat))])] ∧ h.tips = [] := by
  refine Fs.of_body (has_fn (by kernel_rfl)) ?_
  rw [sl_feed, re_feed]
  refine Tr.of_flat (Trl.split 2 (Trl.of_code (known_none nro) (ne_nil (by kernel_rfl)) (f_pre b n _) ⟨trivial, ?_⟩))
  show Trl _ _ ((flatten (bodyOf 44)).drop 2) _ _ _
  rw [fl_feed]
  have hx : n ^^^ (b * 256) < 65536 := xor_lt hn (by omega)
  let I : Nat → List AV → AH → Prop := fun m act H => ∃ k v, k ≤ 8 ∧ m = 8 - k ∧ act = feedA b k ∧ v = ((stpN (n ^^^ (b * 256)) k : Nat) : Int) ∧ H = hp [(104, [.v (.int .u16 v)])] []
  refine Tr.block (Tr.loop I ?_ (m := 8) ⟨0, _, Nat.zero_le _, rfl, rfl, ?_, rfl⟩)
  · rintro m act H ⟨k, v, hk, rfl, rfl, rfl, rfl⟩
    have hlt := stpN_lt hx k
    have hf : Int.fdiv ((stpN (n ^^^ (b * 256)) k : Nat) : Int) 32768 = ((stpN (n ^^^ (b * 256)) k / 32768 : Nat) : Int) := Int.fdiv_eq_ediv_of_nonneg _ (by decide)
    refine Tr.of_code (known_none nro) (f_body b _ k _) (holds_bif (fun h8 => holds_bif (fun hd => ?_) (fun hd => ?_)) (fun h8 => ?_))
    · have h8 := of_decide_eq_true h8
      have hd : stpN (n ^^^ (b * 256)) k / 32768 = 1 := by rw [hf] at hd; have := eq_of_beq hd; omega
      refine ⟨trivial, 8 - (k + 1), by omega, k + 1, _, by omega, rfl, ?_, ?_, rfl⟩
      · rw [add_one k (by omega)]; rfl
      · show bits .xor .u16 (IntKind.wrap .u16 ((stpN (n ^^^ (b * 256)) k : Nat) * 2)) 4129 = _
        rw [dbl16]
        refine (u16_xor_nat _ 4129 (Nat.mod_lt _ (by decide)) (by decide)).trans ?_
        show _ = ((stp _ : Nat) : Int)
        unfold stp
        rw [if_pos hd]
    · have h8 := of_decide_eq_true h8
      have hd : ¬ stpN (n ^^^ (b * 256)) k / 32768 = 1 := by
        rw [hf] at hd
        have := ne_of_beq_false hd
        omega
      refine ⟨trivial, 8 - (k + 1), by omega, k + 1, _, by omega, rfl, ?_, ?_, rfl⟩
      · rw [add_one k (by omega)]; rfl
      · rw [dbl16]
        show _ = ((stp _ : Nat) : Int)
        unfold stp
        rw [if_neg hd]
    · have h8 := of_decide_eq_false h8
      obtain rfl : k = 8 := by omega
      exact ⟨trivial, .inl rfl, trivial, rfl, rfl, rfl⟩
  · exact shl8 n b hn hb
end Go.Proofs.YtlonpmcgejdkkaaDoor.AE.H23
namespace Go.Proofs.YtlonpmcgejdkkaaDoor.AE.H23
set_option maxRecDepth 100000
open Go.RowKit Cr
def feedP (t : TypeId) (args : List AV) (x : Value) : Option (Value × Value × Bool) := match args, x with
  | [.v (.int .u8 b), .ptr 0 0], .int .u16 n => match decide (t = 104) with
    | true => some (unit, .int .u16 (byt n.toNat b.toNat : Nat), decide (0 ≤ n ∧ n < 65536 ∧ 0 ≤ b ∧ b < 256))
    | false => none
  | _, _ => none
theorem Fs.ro {g : FuncId} {args : List AV} {H : AH} {Φ : AV → AH → Prop} (h : Fs Tryd.prog nro g args H Φ) (ro : Nat → Option (List Value)) : Fs Tryd.prog ro g args H Φ :=
  fun G W cargs hI _ hA => h G W cargs hI (ro_none _ _) hA
theorem feed_ok (ro : Nat → Option (List Value)) : ∀ args H r H', box? feedP args H = some (r, H') → HSound1 Tryd.prog ro 44 args H r H' := by
  refine box_ok (has_fn (by kernel_rfl)) fun t args x c x' hs => Fs.ro ?_ ro
  unfold feedP at hs
  split at hs
  · rename_i b n
    split at hs
    · rename_i ht
      have ht := of_decide_eq_true ht
      simp only [Option.some.injEq, Prod.mk.injEq, decide_eq_true_eq] at hs
      obtain ⟨rfl, rfl, h1, h2, h3, h4⟩ := hs
      obtain ⟨n, rfl⟩ := Int.eq_ofNat_of_zero_le h1
      obtain ⟨b, rfl⟩ := Int.eq_ofNat_of_zero_le h3
      subst ht
      exact fs_feed n b (by omega) (by omega)
    · cases hs
  · cases hs
noncomputable def prF : FuncId → Option (List AV → AH → Ans) := fun g => match g with
  | 44 => some (box? feedP)
  | _ => none
theorem knownF (ro : Nat → Option (List Value)) : Known ro prF := by
  intro g p h
  unfold prF at h
  split at h
  · cases h; exact feed_ok _
  · cases h
def feeder : AV := .fn (.func 44) [] [.ptr 0 0]
theorem reg_run (n : Int) (Φ : AV → AH → Prop) : callK nro (fun _ => false) (fun _ => none) 5 42 [.v (.int .i64 n)] (hp [] []) (fun r h => some (h.cd ∧ Φ r h)) =
    (some (True ∧ (Φ (AV.tuple [(AV.fn (Go.Fn.func (44 : Nat)) (@List.nil AV) [(AV.ptr (List.length (@List.nil (Prod Go.TypeId (List AV)))) (0 : Nat))]), (AV.fn (Go.Fn.func (45 : Nat)) (@List.nil AV) [(AV.ptr (List.length (@List.nil (Prod Go.TypeId (List AV)))) (0 : Nat))])]) (AH.mk [((104 : Nat), [(AV.v (Value.int IntKind.u16 (IntKind.wrap IntKind.u16 n)))])] (@List.nil Nat) (0 : Nat) (0 : Nat) true (@List.nil (Prod Nat Bool)) True)))) := by kernel_rfl
theorem a_pre (s : ByteArray) (n : Int) (R : Exit → List AV → AH → Prop) : codeL nro (fun _ => false) prF 5 ((flatten (bodyOf 43)).take 1) ([.v (.string s), .fn (.func 44) [] [.ptr 0 0]] ++ List.replicate 14 (.v undef)) (hp [(104, [.v (.int .u16 n)])] []) (kp [0, 1, 6, 7] R) =
    (some (True ∧ (R Exit.normal [(AV.v (Value.string s)), (AV.fn (Go.Fn.func (44 : Nat)) (@List.nil AV) [(AV.ptr (0 : Nat) (0 : Nat))]), AV.dead, AV.dead, AV.dead, AV.dead, (AV.v (Value.int IntKind.i64 ((ByteArray.size s) : Int))), (AV.v (Value.int IntKind.i64 (0 : Int))), AV.dead, AV.dead, AV.dead, AV.dead, AV.dead, AV.dead, AV.dead, AV.dead] (AH.mk [((104 : Nat), [(AV.v (Value.int IntKind.u16 n))])] (@List.nil Nat) (0 : Nat) (0 : Nat) true (@List.nil (Prod Nat Bool)) True)))) := by kernel_rfl
theorem a_body (s : ByteArray) (n l i : Int) (R : Exit → List AV → AH → Prop) : code nro (fun _ => false) prF 5 (sub (bodyOf 43) [1, 0, 0]) ([.v (.string s), .fn (.func 44) [] [.ptr 0 0]] ++ List.replicate 4 .dead ++ [.v (.int .i64 l), .v (.int .i64 i)] ++ List.replicate 8 .dead) (hp [(104, [.v (.int .u16 n)])] []) (kp [0, 1, 6, 7] R) =
    (bif (decide (i < l)) then (some ((cdb (cdb True (decide (((0 : Int) ≤ i) ∧ ((Int.toNat i) < (ByteArray.size s))))) (decide (((0 : Int) ≤ n) ∧ ((n < (65536 : Int)) ∧ (((0 : Int) ≤ ((UInt8.toNat (Array.getD (s).1 (Int.toNat i) (0 : UInt8))) : Int)) ∧ (((UInt8.toNat (Array.getD (s).1 (Int.toNat i) (0 : UInt8))) : Int) < (256 : Int))))))) ∧ (R Exit.normal [(AV.v (Value.string s)), (AV.fn (Go.Fn.func (44 : Nat)) (@List.nil AV) [(AV.ptr (0 : Nat) (0 : Nat))]), AV.dead, AV.dead, AV.dead, AV.dead, (AV.v (Value.int IntKind.i64 l)), (AV.v (Value.int IntKind.i64 (IntKind.wrap IntKind.i64 (i + (1 : Int))))), AV.dead, AV.dead, AV.dead, AV.dead, AV.dead, AV.dead, AV.dead, AV.dead] (AH.mk [((104 : Nat), [(AV.v (Value.int IntKind.u16 ((Cr.byt (Int.toNat n) (Int.toNat ((UInt8.toNat (Array.getD (s).1 (Int.toNat i) (0 : UInt8))) : Int))) : Int)))])] (@List.nil Nat) (0 : Nat) (0 : Nat) true (@List.nil (Prod Nat Bool)) True)))) else (some (True ∧ (R (Exit.exit (0 : Nat)) [(AV.v (Value.string s)), (AV.fn (Go.Fn.func (44 : Nat)) (@List.nil AV) [(AV.ptr (0 : Nat) (0 : Nat))]), AV.dead, AV.dead, AV.dead, AV.dead, (AV.v (Value.int IntKind.i64 l)), (AV.v (Value.int IntKind.i64 i)), AV.dead, AV.dead, AV.dead, AV.dead, AV.dead, AV.dead, AV.dead, AV.dead] (AH.mk [((104 : Nat), [(AV.v (Value.int IntKind.u16 n))])] (@List.nil Nat) (0 : Nat) (0 : Nat) true (@List.nil (Prod Nat Bool)) True))))) := by kernel_rfl
end Go.Proofs.YtlonpmcgejdkkaaDoor.AE.H23
namespace Go.Proofs.YtlonpmcgejdkkaaDoor.AE.H23
set_option maxRecDepth 100000
open Go.RowKit Cr
def bytsOf (s : ByteArray) : List UInt8 := s.data.toList
theorem sl_all : slotsOf 43 = 16 := by kernel_rfl
theorem re_all : resultsOf 43 = [] := by kernel_rfl
theorem fl_all : (flatten (bodyOf 43)).drop 1 = [.block 0 (.loop (sub (bodyOf 43) [1, 0, 0]))] := by kernel_rfl
def allA (s : ByteArray) (k : Nat) : List AV := [.v (.string s), .fn (.func 44) [] [.ptr 0 0]] ++ List.replicate 4 .dead ++ [.v (.int .i64 (s.size : Nat)), .v (.int .i64 k)] ++ List.replicate 8 .dead
theorem len_byts (s : ByteArray) : (bytsOf s).length = s.size := by unfold bytsOf; rw [Array.length_toList]; rfl
theorem getD_byts (s : ByteArray) (k : Nat) (h : k < s.size) : Array.getD s.data k 0 = (bytsOf s)[k]'(by rw [len_byts]; exact h) := by
  have h2 : k < s.data.size := h
  unfold bytsOf
  simp only [Array.getD, h2, dif_pos]
  rfl
theorem fs_all (s : ByteArray) (n : Nat) (hn : n < 65536) (hs : s.size ≤ 100000) :
    Fs Tryd.prog nro 43 [.v (.string s), .fn (.func 44) [] [.ptr 0 0]] (bx n) fun r h => r = .v unit ∧ h.blks = [(104, [.v (.int .u16 (bytL n (bytsOf s) : Nat))])] ∧ h.tips = [] := by
  refine Fs.of_body (has_fn (by kernel_rfl)) ?_
  rw [sl_all, re_all]
  refine Tr.of_flat (Trl.split 1 (Trl.of_code (knownF nro) (ne_nil (by kernel_rfl)) (a_pre s n _) ⟨trivial, ?_⟩))
  show Trl _ _ ((flatten (bodyOf 43)).drop 1) _ _ _
  rw [fl_all]
  let I : Nat → List AV → AH → Prop := fun m act H => ∃ k v, k ≤ s.size ∧ m = s.size - k ∧ act = allA s k ∧ v = ((bytL n ((bytsOf s).take k) : Nat) : Int) ∧ H = hp [(104, [.v (.int .u16 v)])] []
  refine Tr.block (Tr.loop I ?_ (m := s.size) ⟨0, _, Nat.zero_le _, rfl, rfl, rfl, rfl⟩)
  rintro m act H ⟨k, v, hk, rfl, rfl, rfl, rfl⟩
  have hlt := bytL_lt hn ((bytsOf s).take k)
  refine Tr.of_code (knownF nro) (a_body s _ _ k _) (holds_bif (fun h8 => ?_) (fun h8 => ?_))
  · have h8 := of_decide_eq_true h8
    have h8 : k < s.size := by omega
    have hg := getD_byts s k h8
    have hb := ((bytsOf s)[k]'(by rw [len_byts]; exact h8)).toNat_lt
    refine ⟨?_, s.size - (k + 1), by omega, k + 1, _, by omega, rfl, ?_, ?_, rfl⟩
    · with_reducible refine cdb_iff.2 ⟨cdb_iff.2 ⟨trivial, ?_⟩, ?_⟩
      · exact decide_eq_true ⟨Int.natCast_nonneg k, h8⟩
      · have hb' : (UInt8.toNat (Array.getD s.data k 0) : Int) < 256 := by rw [hg]; omega
        have h0 : (0 : Int) ≤ (bytL n ((bytsOf s).take k) : Nat) := Int.natCast_nonneg _
        have h1 : ((bytL n ((bytsOf s).take k) : Nat) : Int) < 65536 := by omega
        exact decide_eq_true ⟨h0, h1, Int.natCast_nonneg _, hb'⟩
    · rw [add_one k (by omega)]; rfl
    · show ((byt (bytL n ((bytsOf s).take k)) (UInt8.toNat (Array.getD s.data k 0)) : Nat) : Int) = _
      rw [hg, List.take_succ_eq_append_getElem (by rw [len_byts]; exact h8), bytL_app]
      rfl
  · have h8 := of_decide_eq_false h8
    obtain rfl : k = s.size := by omega
    refine ⟨trivial, .inl rfl, trivial, rfl, ?_, rfl⟩
    rw [← len_byts, List.take_length]
    rfl
def allP (t : TypeId) (args : List AV) (x : Value) : Option (Value × Value × Bool) := match args, x with
  | [.v (.string s), .fn (.func f) [] [.ptr 0 0]], .int .u16 n => match decide (f = 44) && decide (t = 104) with
    | true => some (unit, .int .u16 (bytL n.toNat (bytsOf s) : Nat), decide (0 ≤ n ∧ n < 65536 ∧ s.size ≤ 100000))
    | false => none
  | _, _ => none
theorem all_ok (ro : Nat → Option (List Value)) : ∀ args H r H', box? allP args H = some (r, H') → HSound1 Tryd.prog ro 43 args H r H' := by
  refine box_ok (has_fn (by kernel_rfl)) fun t args x c x' hs => Fs.ro ?_ ro
  unfold allP at hs
  split at hs
  · rename_i s f n
    split at hs
    · rename_i ht
      simp only [Bool.and_eq_true, decide_eq_true_eq] at ht
      obtain ⟨hf, ht⟩ := ht
      simp only [Option.some.injEq, Prod.mk.injEq, decide_eq_true_eq] at hs
      obtain ⟨rfl, rfl, h1, h2, h3⟩ := hs
      obtain ⟨n, rfl⟩ := Int.eq_ofNat_of_zero_le h1
      subst ht hf
      exact fs_all s n (by omega) h3
    · cases hs
  · cases hs
noncomputable def prM : FuncId → Option (List AV → AH → Ans) := fun g => match g with
  | 43 => some (box? allP)
  | _ => none
theorem knownM (ro : Nat → Option (List Value)) : Known ro prM := by
  intro g p h
  unfold prM at h
  split at h
  · cases h; exact all_ok _
  · cases h
theorem more_run (n : Int) (s : ByteArray) (Φ : AV → AH → Prop) : callK nro (fun _ => false) prM 5 41 [.v (.int .i64 n), .v (.string s)] (hp [] []) (fun r h => some (h.cd ∧ Φ r (tidy h))) =
    (some ((cdb True (decide (((0 : Int) ≤ (IntKind.wrap IntKind.u16 n)) ∧ (((IntKind.wrap IntKind.u16 n) < (65536 : Int)) ∧ ((ByteArray.size s) ≤ (100000 : Nat)))))) ∧ (Φ (AV.v (Value.int IntKind.i64 (IntKind.wrap IntKind.i64 ((Cr.bytL (Int.toNat (IntKind.wrap IntKind.u16 n)) (H23.bytsOf s)) : Int)))) (AH.mk [((104 : Nat), [(AV.v (Value.int IntKind.u16 ((Cr.bytL (Int.toNat (IntKind.wrap IntKind.u16 n)) (H23.bytsOf s)) : Int)))])] (@List.nil Nat) (0 : Nat) (0 : Nat) true (@List.nil (Prod Nat Bool)) True)))) := by kernel_rfl
end Go.Proofs.YtlonpmcgejdkkaaDoor.AE.H23
namespace Go.Proofs.YtlonpmcgejdkkaaDoor.AE.H23
set_option maxRecDepth 100000
open Go.RowKit Cr
def w16 (n : Int) : Nat := (n % 65536).toNat
theorem w16_lt (n : Int) : w16 n < 65536 := by unfold w16; omega
theorem wrap16 (n : Int) : IntKind.wrap .u16 n = (w16 n : Nat) := by rw [IntKind.wrap_u16]; unfold w16; omega
theorem wrap64 (n : Nat) (h : n < 9223372036854775808) : IntKind.wrap .i64 (n : Int) = (n : Nat) := by rw [IntKind.wrap_i64]; omega
def moreV (n : Int) (s : ByteArray) : Value := .int .i64 (bytL (w16 n) (bytsOf s) : Nat)
theorem fs_more (n : Int) (s : ByteArray) (hs : s.size ≤ 100000) : Fs Tryd.prog nro 41 [.v (.int .i64 n), .v (.string s)] (hp [] []) fun r _ => r = .v (moreV n s) := by
  refine Fs.of_call (knownM nro) (more_run n s (fun r _ => r = .v (moreV n s))) ⟨?_, ?_⟩
  · with_reducible refine cdb_iff.2 ⟨trivial, decide_eq_true ⟨?_, ?_, hs⟩⟩
    · rw [wrap16]; exact Int.natCast_nonneg _
    · rw [wrap16]; have := w16_lt n; omega
  · rw [wrap16, Int.toNat_natCast, wrap64 _ (Nat.lt_trans (bytL_lt (w16_lt n) _) (by decide))]
    rfl
def moreP : List Value → Option (Value × Bool) := fun us => match us with
  | [.int .i64 n, .string s] => some (moreV n s, decide (s.size ≤ 100000))
  | _ => none
theorem more_ok (ro : Nat → Option (List Value)) : ∀ args H r H', pure? moreP args H = some (r, H') → HSound1 Tryd.prog ro 41 args H r H' := by
  refine pure_ok (fun us c hs => Fs.ro ?_ ro) (has_fn (by kernel_rfl))
  unfold moreP at hs
  split at hs
  · rename_i n s
    simp only [Option.some.injEq, Prod.mk.injEq, decide_eq_true_eq] at hs
    obtain ⟨rfl, h⟩ := hs
    exact fs_more n s h
  · cases hs
def bitA (c k : Nat) : List AV := List.replicate 5 .dead ++ [.v (.int .i64 c), .v (.int .i64 k)] ++ List.replicate 21 .dead
def bitV (s : ByteArray) (i : Nat) : Nat := (bitN (Array.getD s.data (i / 8) 0).toNat (i % 8)).toNat
theorem tdiv_nat (i c : Nat) : Int.tdiv (i : Int) (c : Int) = ((i / c : Nat) : Int) := Int.tdiv_eq_ediv_of_nonneg (Int.natCast_nonneg i)
theorem bit_end (c : Nat) (h : c < 256) : IntKind.wrap .i64 ((c : Int) - IntKind.wrap .i64 (IntKind.wrap .i64 (Int.tdiv (c : Int) 2) * 2)) = ((c % 2 : Nat) : Int) := by
  rw [show Int.tdiv (c : Int) 2 = ((c / 2 : Nat) : Int) from tdiv_nat c 2, wrap64 (c / 2) (by omega), IntKind.wrap_i64, IntKind.wrap_i64]
  omega
theorem bit_val {s : ByteArray} {i B c : Nat} (hB : B = (Array.getD s.data (i / 8) 0).toNat) (hc : c = B / 2 ^ (7 - i % 8)) : c % 2 = bitV s i := by
  unfold bitV bitN
  rw [← hB, ← hc]
  have : c % 2 = 0 ∨ c % 2 = 1 := by omega
  rcases this with h | h <;> simp [h]
end Go.Proofs.YtlonpmcgejdkkaaDoor.AE.H23
namespace Go.Proofs.YtlonpmcgejdkkaaDoor.AE.H23
set_option maxRecDepth 100000
open Go.RowKit Cr
theorem bits_get : ∀ (l : List UInt8) (i : Nat), i < 8 * l.length → (bitsL l)[i]? = some (bitN (l.getD (i / 8) 0).toNat (i % 8))
  | [], i, h => by simp at h
  | b :: l, i, h => by
    have hl : 8 * (b :: l).length = 8 * l.length + 8 := by simp; omega
    rw [hl] at h
    show (bitsB b.toNat ++ bitsL l)[i]? = _
    have h8 : (bitsB b.toNat).length = 8 := rfl
    by_cases hi : i < 8
    · rw [List.getElem?_append_left (by rw [h8]; exact hi), Nat.div_eq_of_lt hi, Nat.mod_eq_of_lt hi]
      have : i = 0 ∨ i = 1 ∨ i = 2 ∨ i = 3 ∨ i = 4 ∨ i = 5 ∨ i = 6 ∨ i = 7 := by omega
      rcases this with h | h | h | h | h | h | h | h <;> subst h <;> rfl
    · rw [List.getElem?_append_right (by rw [h8]; omega), h8, bits_get l (i - 8) (by omega), show i / 8 = (i - 8) / 8 + 1 by omega, show (i - 8) % 8 = i % 8 by omega]
      rfl
theorem bits_len : ∀ l : List UInt8, (bitsL l).length = 8 * l.length
  | [] => rfl
  | b :: l => by
    show (bitsB b.toNat ++ bitsL l).length = _
    rw [List.length_append, bits_len l, List.length_cons]
    show 8 + 8 * l.length = _
    omega
theorem bitV_get (s : ByteArray) (i : Nat) (h : i < 8 * s.size) : ∃ b, (bitsL (bytsOf s))[i]? = some b ∧ bitV s i = b.toNat := by
  refine ⟨_, bits_get (bytsOf s) i (by rw [len_byts]; exact h), ?_⟩
  unfold bitV
  rw [getD_byts s (i / 8) (by omega), List.getD_eq_getElem?_getD, List.getElem?_eq_getElem (by rw [len_byts]; omega)]
  rfl
def bitP : List Value → Option (Value × Bool) := fun us => match us with
  | [.string s, .int .i64 i] => some (.int .i64 (bitV s i.toNat : Nat), decide (0 ≤ i ∧ i < 8 * (s.size : Int) ∧ s.size ≤ 100000))
  | _ => none
noncomputable def prB : FuncId → Option (List AV → AH → Ans) := fun g => match g with
  | _ => none
theorem knownB (ro : Nat → Option (List Value)) : Known ro prB := by
  intro g p h
  unfold prB at h
  split at h
  · cases h
end Go.Proofs.YtlonpmcgejdkkaaDoor.AE.H23
namespace Go.Proofs.YtlonpmcgejdkkaaDoor.AE.H23
set_option maxRecDepth 100000
open Go.RowKit Cr
theorem i64_xor_small (a b : Nat) (ha : a < 65536) (hb : b < 65536) : bits .xor .i64 (a : Int) (b : Int) = ((a ^^^ b : Nat) : Int) := by
  have hx : a ^^^ b < 65536 := xor_lt ha hb
  have h1 : (BitVec.ofInt 64 (a : Int)).toNat = a := by rw [BitVec.toNat_ofInt]; omega
  have h2 : (BitVec.ofInt 64 (b : Int)).toNat = b := by rw [BitVec.toNat_ofInt]; omega
  show IntKind.i64.wrap ((BitVec.ofInt 64 (a : Int) ^^^ BitVec.ofInt 64 (b : Int)).toNat : Int) = _
  rw [BitVec.toNat_xor, h1, h2, IntKind.wrap_i64]
  omega
theorem i64_and16 (n : Int) : bits .and .i64 n 65535 = (w16 n : Nat) := by
  have h127 : (BitVec.ofInt 64 65535).toNat = 2 ^ 16 - 1 := by decide
  have key : (BitVec.ofInt 64 n &&& BitVec.ofInt 64 65535).toNat = (n % ((2 ^ 64 : Nat) : Int)).toNat % 2 ^ 16 := by
    rw [BitVec.toNat_and, BitVec.toNat_ofInt, h127, Nat.and_two_pow_sub_one_eq_mod]
  show IntKind.i64.wrap ((BitVec.ofInt 64 n &&& BitVec.ofInt 64 65535).toNat : Nat) = _
  rw [key, IntKind.wrap_i64]
  unfold w16
  omega
def rmA (s : ByteArray) (n k : Nat) : List AV := [.v (.int .i64 n), .v (.string s)] ++ List.replicate 3 .dead ++ .v (.int .i64 k) :: List.replicate 26 .dead
theorem reg_next {n k : Nat} {l : List Bool} {b : Bool} (h : l[k]? = some b) : reg n (l.take (k + 1)) = fd (reg n (l.take k)) b := by
  rw [List.take_add_one, h, reg_app]; rfl
theorem bits_txt (s : ByteArray) : (bitsL (bytsOf s)).length = 8 * s.size := by rw [bits_len, len_byts]
theorem dblI (r : Nat) (h : r < 65536) : IntKind.wrap .i64 ((r : Int) * 2) = ((r * 2 : Nat) : Int) := by rw [IntKind.wrap_i64]; omega
theorem subI (r : Nat) (h : r < 65536) (h2 : (65535 : Int) < ((r * 2 : Nat) : Int)) : IntKind.wrap .i64 (((r * 2 : Nat) : Int) - 65536) = ((r * 2 % 65536 : Nat) : Int) := by rw [IntKind.wrap_i64]; omega
theorem divI (r : Nat) (h : r < 65536) : IntKind.wrap .i64 (Int.tdiv (r : Int) 32768) = ((r / 32768 : Nat) : Int) := by
  rw [show Int.tdiv (r : Int) 32768 = ((r / 32768 : Nat) : Int) from tdiv_nat r 32768]; exact wrap64 _ (by omega)
end Go.Proofs.YtlonpmcgejdkkaaDoor.AE.H23
namespace Go.Proofs.YtlonpmcgejdkkaaDoor
set_option maxRecDepth 100000
namespace Cr
open Oc
theorem top_cut : ∀ a, a < 256 → ∀ b, b < 256 → (a * 256 + b) ^^^ (a * 256) = b := by decide +kernel
theorem stp_small (n : Nat) (h : n < 32768) : stp n = n * 2 := by
  unfold stp
  rw [if_neg (by omega), Nat.mod_eq_of_lt (by omega)]
theorem stpN_small (n : Nat) (h : n < 256) : stpN n 8 = n * 256 := by
  show stp (stp (stp (stp (stp (stp (stp (stp n))))))) = _
  rw [stp_small n (by omega), stp_small (n * 2) (by omega), stp_small (n * 2 * 2) (by omega), stp_small (n * 2 * 2 * 2) (by omega), stp_small (n * 2 * 2 * 2 * 2) (by omega), stp_small (n * 2 * 2 * 2 * 2 * 2) (by omega), stp_small (n * 2 * 2 * 2 * 2 * 2 * 2) (by omega), stp_small (n * 2 * 2 * 2 * 2 * 2 * 2 * 2) (by omega)]
  omega
theorem byt_hi (n : Nat) (h : n < 65536) : byt n (n / 256) = (n % 256) * 256 := by
  have e : n ^^^ (n / 256 * 256) = n % 256 := by
    have := top_cut (n / 256) (by omega) (n % 256) (by omega)
    rwa [show n / 256 * 256 + n % 256 = n by omega] at this
  unfold byt
  rw [e, stpN_small _ (by omega)]
theorem byt_lo (m : Nat) : byt (m * 256) m = 0 := by
  unfold byt
  rw [Nat.xor_self]
  decide
theorem be2 (n : Nat) : be 2 n = [UInt8.ofNat (n / 256), UInt8.ofNat n] := rfl
theorem seal_zero (n : Nat) (h : n < 65536) : bytL n (be 2 n) = 0 := by
  rw [be2]
  show byt (byt n (UInt8.ofNat (n / 256)).toNat) (UInt8.ofNat n).toNat = 0
  rw [UInt8.toNat_ofNat_of_lt' (by show n / 256 < 256; omega), byt_hi n h, show (UInt8.ofNat n).toNat = n % 256 from UInt8.toNat_ofNat', byt_lo]
theorem num_two (x y : UInt8) : num [x, y] = 256 * x.toNat + y.toNat := by
  show 256 * (256 * 0 + x.toNat) + y.toNat = _
  omega
theorem be_num (x y : UInt8) : be 2 (num [x, y]) = [x, y] := by
  rw [num_two, be2]
  have hx := x.toNat_lt
  have hy := y.toNat_lt
  congr 1
  · apply UInt8.toNat_inj.1
    rw [UInt8.toNat_ofNat_of_lt' (by show _ < 256; omega)]
    omega
  · congr 1
    apply UInt8.toNat_inj.1
    rw [show (UInt8.ofNat (256 * x.toNat + y.toNat)).toNat = (256 * x.toNat + y.toNat) % 256 from UInt8.toNat_ofNat']
    omega
theorem num_be2 (n : Nat) (h : n < 65536) : num (be 2 n) = n := by
  rw [be2, num_two, UInt8.toNat_ofNat_of_lt' (by show n / 256 < 256; omega), show (UInt8.ofNat n).toNat = n % 256 from UInt8.toNat_ofNat']
  omega
theorem be_iff (l : List UInt8) (n : Nat) (hl : l.length = 2) (h : n < 65536) : be 2 n = l ↔ n = num l := by
  obtain ⟨x, y, rfl⟩ : ∃ x y, l = [x, y] := by
    match l, hl with
    | [x, y], _ => exact ⟨x, y, rfl⟩
  constructor
  · intro e; rw [← e, num_be2 n h]
  · intro e; rw [e, be_num]
end Cr
end Go.Proofs.YtlonpmcgejdkkaaDoor
namespace Go.Proofs.YtlonpmcgejdkkaaDoor.AE.H23
set_option maxRecDepth 100000
open Go.RowKit Cr Oc
noncomputable def prK : FuncId → Option (List AV → AH → Ans) := fun g => match g with
  | 41 => some (pure? moreP)
  | 30 => some (pure? putP)
  | _ => none
theorem knownK (ro : Nat → Option (List Value)) : Known ro prK := by
  intro g p h
  unfold prK at h
  split at h
  · cases h; exact more_ok _
  · cases h; exact put_ok _
  · cases h
theorem t_seal (s : ByteArray) (Φ : AV → Prop) : callK nro (fun _ => false) prK 5 19 [.v (.string s)] (hp [] []) (fun r h => some (h.cd ∧ Φ r)) =
    (some ((cdb (cdb True (decide ((ByteArray.size s) ≤ (100000 : Nat)))) (decide ((ByteArray.size s) ≤ (70368744177664 : Nat)))) ∧ (Φ (AV.v (Value.string (putS s ((Cr.bytL (65535 : Nat) (H23.bytsOf s)) : Int) (2 : Int))))))) := by kernel_rfl
end Go.Proofs.YtlonpmcgejdkkaaDoor.AE.H23
namespace Go.Proofs.YtlonpmcgejdkkaaDoor.AE.H23
set_option maxRecDepth 100000
open Go.RowKit Cr Oc
def sumS (s : ByteArray) : Nat := bytL 65535 (bytsOf s)
theorem sumS_lt (s : ByteArray) : sumS s < 65536 := bytL_lt (by decide) _
def sealS (s : ByteArray) : ByteArray := ⟨(bytsOf s ++ be 2 (sumS s)).toArray⟩
theorem fits2 (n : Nat) (h : n < 65536) : fits (n : Int) 2 = true := by
  simp only [fits, Bool.and_eq_true, decide_eq_true_eq]
  refine ⟨⟨⟨?_, ?_⟩, ?_⟩, ?_⟩ <;> first | decide | omega | (show (n : Int) < (256 : Int) ^ 2; omega)
theorem put_seal (s : ByteArray) : putS s ((sumS s : Nat) : Int) 2 = sealS s := by
  unfold putS
  rw [if_pos (fits2 _ (sumS_lt s))]
  rfl
theorem num_seal (s : ByteArray) : s ++ numStr ((sumS s : Nat) : Int) 2 = sealS s := by
  unfold numStr
  rw [if_neg (by omega)]
  apply ByteArray.ext
  rw [ByteArray.data_append]
  apply Array.toList_inj.1
  rw [Array.toList_append]
  rfl
theorem seal_size (s : ByteArray) : (sealS s).size = s.size + 2 := by
  show (bytsOf s ++ be 2 (sumS s)).toArray.size = _
  rw [List.size_toArray, List.length_append, len_byts]
  rfl
def sealP : List Value → Option (Value × Bool) := fun us => match us with
  | [.string s] => some (.string (sealS s), decide (s.size ≤ 100000))
  | _ => none
theorem fs_seal (s : ByteArray) (hs : s.size ≤ 100000) : Fs Tryd.prog nro 19 [.v (.string s)] (hp [] []) fun r _ => r = .v (.string (sealS s)) := by
  refine Fs.of_call (knownK nro) (t_seal s fun r => r = .v (.string (sealS s))) ⟨?_, ?_⟩
  · with_reducible refine cdb_iff.2 ⟨cdb_iff.2 ⟨trivial, decide_eq_true hs⟩, decide_eq_true ?_⟩
    omega
  · exact congrArg (fun z => AV.v (.string z)) (put_seal s)
theorem seal_ok (ro : Nat → Option (List Value)) : ∀ args H r H', pure? sealP args H = some (r, H') → HSound1 Tryd.prog ro 19 args H r H' := by
  refine pure_ok (fun us c hs => Fs.ro ?_ ro) (has_fn (by kernel_rfl))
  unfold sealP at hs
  split at hs
  · rename_i s
    simp only [Option.some.injEq, Prod.mk.injEq, decide_eq_true_eq] at hs
    obtain ⟨rfl, h⟩ := hs
    exact fs_seal s h
  · cases hs
noncomputable def prL : FuncId → Option (List AV → AH → Ans) := fun g => match g with
  | 19 => some (pure? sealP)
  | _ => none
theorem knownL (ro : Nat → Option (List Value)) : Known ro prL := by
  intro g p h
  unfold prL at h
  split at h
  · cases h; exact seal_ok _
  · cases h
theorem t_open (s : ByteArray) (Φ : AV → Prop) : callK nro (fun _ => false) prL 5 34 [.v (.string s)] (hp [] []) (fun r h => some (h.cd ∧ Φ r)) =
    (bif (decide (((ByteArray.size s) : Int) < (2 : Int))) then (some (True ∧ (Φ (AV.v (Value.tuple #[(Value.string (ByteArray.mk (Array.mk (@List.nil UInt8)))), (Value.int IntKind.i64 (3 : Int))]))))) else (bif (!((ByteArray.toList (H23.sealS (ByteArray.extract s (0 : Nat) (Int.toNat (IntKind.wrap IntKind.i64 (((ByteArray.size s) : Int) - (2 : Int))))))) == (ByteArray.toList s))) then (some ((cdb (cdb True (decide (((0 : Int) ≤ (0 : Int)) ∧ (((0 : Int) ≤ (IntKind.wrap IntKind.i64 (((ByteArray.size s) : Int) - (2 : Int)))) ∧ ((IntKind.wrap IntKind.i64 (((ByteArray.size s) : Int) - (2 : Int))) ≤ ((ByteArray.size s) : Int)))))) (decide ((ByteArray.size (ByteArray.extract s (0 : Nat) (Int.toNat (IntKind.wrap IntKind.i64 (((ByteArray.size s) : Int) - (2 : Int)))))) ≤ (100000 : Nat)))) ∧ (Φ (AV.v (Value.tuple #[(Value.string (ByteArray.mk (Array.mk (@List.nil UInt8)))), (Value.int IntKind.i64 (4 : Int))]))))) else (some ((cdb (cdb True (decide (((0 : Int) ≤ (0 : Int)) ∧ (((0 : Int) ≤ (IntKind.wrap IntKind.i64 (((ByteArray.size s) : Int) - (2 : Int)))) ∧ ((IntKind.wrap IntKind.i64 (((ByteArray.size s) : Int) - (2 : Int))) ≤ ((ByteArray.size s) : Int)))))) (decide ((ByteArray.size (ByteArray.extract s (0 : Nat) (Int.toNat (IntKind.wrap IntKind.i64 (((ByteArray.size s) : Int) - (2 : Int)))))) ≤ (100000 : Nat)))) ∧ (Φ (AV.v (Value.tuple #[(Value.string (ByteArray.extract s (0 : Nat) (Int.toNat (IntKind.wrap IntKind.i64 (((ByteArray.size s) : Int) - (2 : Int)))))), (Value.int IntKind.i64 (0 : Int))]))))))) := by kernel_rfl
end Go.Proofs.YtlonpmcgejdkkaaDoor.AE.H23
namespace Go.Proofs.YtlonpmcgejdkkaaDoor.AE.H23
set_option maxRecDepth 100000
open Go.RowKit Cr Oc
def bodyB (s : ByteArray) : ByteArray := s.extract 0 (s.size - 2)
def tailB (s : ByteArray) : ByteArray := s.extract (s.size - 2) s.size
def opens (s : ByteArray) : Bool := bytsOf (sealS (bodyB s)) == bytsOf s
def openV (s : ByteArray) : Value := if s.size < 2 then .tuple #[.string ⟨#[]⟩, .int .i64 3] else if opens s then .tuple #[.string (bodyB s), .int .i64 0] else .tuple #[.string ⟨#[]⟩, .int .i64 4]
theorem hw2 (s : ByteArray) (h2 : 2 ≤ s.size) (hs : s.size ≤ 100000) : IntKind.wrap .i64 ((s.size : Int) - 2) = ((s.size - 2 : Nat) : Int) := by rw [IntKind.wrap_i64]; omega
theorem body_size (s : ByteArray) : (bodyB s).size ≤ s.size := by unfold bodyB; rw [ByteArray.size_extract]; omega
theorem split_b (s : ByteArray) (h2 : 2 ≤ s.size) : bytsOf s = bytsOf (bodyB s) ++ bytsOf (tailB s) := by
  have h : bytsOf s = (bytsOf s).take (s.size - 2) ++ (bytsOf s).drop (s.size - 2) := (List.take_append_drop _ _).symm
  have e1 : bytsOf (bodyB s) = (bytsOf s).take (s.size - 2) := by
    unfold bodyB bytsOf
    rw [ByteArray.data_extract, Array.toList_extract]
    show ((bytsOf s).drop 0).take (s.size - 2 - 0) = _
    simp
    rfl
  have e2 : bytsOf (tailB s) = (bytsOf s).drop (s.size - 2) := by
    unfold tailB
    rw [show bytsOf (s.extract (s.size - 2) s.size) = (s.data.extract (s.size - 2) s.size).toList by unfold bytsOf; rw [ByteArray.data_extract], Array.toList_extract]
    show ((bytsOf s).drop (s.size - 2)).take (s.size - (s.size - 2)) = _
    rw [List.take_of_length_le (by rw [List.length_drop, len_byts]; omega)]
  rw [e1, e2]; exact h
theorem tail_len (s : ByteArray) (h2 : 2 ≤ s.size) : (bytsOf (tailB s)).length = 2 := by
  rw [len_byts]; unfold tailB; rw [ByteArray.size_extract]; omega
theorem opens_iff (s : ByteArray) (h2 : 2 ≤ s.size) : opens s = decide (sumS (bodyB s) = num (bytsOf (tailB s))) := by
  rw [Bool.eq_iff_iff, decide_eq_true_eq]
  unfold opens
  rw [beq_iff_eq, split_b s h2]
  show bytsOf (bodyB s) ++ be 2 (sumS (bodyB s)) = _ ↔ _
  rw [List.append_cancel_left_eq]
  exact be_iff _ _ (tail_len s h2) (sumS_lt _)
theorem fs_open (s : ByteArray) (hs : s.size ≤ 100000) : Fs Tryd.prog nro 34 [.v (.string s)] (hp [] []) fun r _ => r = .v (openV s) := by
  by_cases h2 : s.size < 2
  · refine Fs.of_call (knownL nro) (t_open s fun r => r = .v (openV s)) (holds_bif (fun _ => ⟨trivial, ?_⟩) fun h => ?_)
    · unfold openV; rw [if_pos h2]
    · have := of_decide_eq_false h; omega
  · have t := t_open s fun r => r = .v (openV s)
    rw [hw2 s (by omega) hs, Int.toNat_natCast] at t
    have hb := body_size s
    refine Fs.of_call (knownL nro) t (holds_bif (fun h => ?_) fun _ => holds_bif (fun h => ?_) fun h => ?_)
    · have := of_decide_eq_true h; omega
    · have ho : opens s = false := by
        rw [ByteArray.toList_eq, ByteArray.toList_eq] at h
        simpa [opens, bytsOf, bodyB] using h
      refine ⟨?_, ?_⟩
      · with_reducible refine cdb_iff.2 ⟨cdb_iff.2 ⟨trivial, decide_eq_true ⟨?_, ?_, ?_⟩⟩, decide_eq_true ?_⟩ <;> first | omega | exact Nat.le_trans hb hs
      · unfold openV; rw [if_neg h2, ho]; rfl
    · have ho : opens s = true := by
        rw [ByteArray.toList_eq, ByteArray.toList_eq] at h
        simpa [opens, bytsOf, bodyB] using h
      refine ⟨?_, ?_⟩
      · with_reducible refine cdb_iff.2 ⟨cdb_iff.2 ⟨trivial, decide_eq_true ⟨?_, ?_, ?_⟩⟩, decide_eq_true ?_⟩ <;> first | omega | exact Nat.le_trans hb hs
      · unfold openV; rw [if_neg h2, ho]; rfl
def openS (s : ByteArray) : ByteArray := if s.size < 2 then ⟨#[]⟩ else if opens s then bodyB s else ⟨#[]⟩
def openE (s : ByteArray) : Int := if s.size < 2 then 3 else if opens s then 0 else 4
theorem openV_eq (s : ByteArray) : openV s = .tuple #[.string (openS s), .int .i64 (openE s)] := by
  unfold openV openS openE
  by_cases h : s.size < 2
  · rw [if_pos h, if_pos h, if_pos h]
  · rw [if_neg h, if_neg h, if_neg h]
    cases opens s <;> rfl
def openP : List Value → Option (Value × Bool) := fun us => match us with
  | [.string s] => some (.tuple #[.string (openS s), .int .i64 (openE s)], decide (s.size ≤ 100000))
  | _ => none
theorem open_ok (ro : Nat → Option (List Value)) : ∀ args H r H', pure? openP args H = some (r, H') → HSound1 Tryd.prog ro 34 args H r H' := by
  refine pure_ok (fun us c hs => Fs.ro ?_ ro) (has_fn (by kernel_rfl))
  unfold openP at hs
  split at hs
  · rename_i s
    simp only [Option.some.injEq, Prod.mk.injEq, decide_eq_true_eq] at hs
    obtain ⟨rfl, h⟩ := hs
    rw [← openV_eq]
    exact fs_open s h
  · cases hs
end Go.Proofs.YtlonpmcgejdkkaaDoor.AE.H23
namespace Go.Proofs.YtlonpmcgejdkkaaDoor.AE.H23
set_option maxRecDepth 100000
open Go.RowKit Cr Oc
noncomputable def prH : FuncId → Option (List AV → AH → Ans) := fun g => match g with
  | 19 => some (pure? sealP)
  | 34 => some (pure? openP)
  | _ => none
theorem knownH (ro : Nat → Option (List Value)) : Known ro prH := by
  intro g p h
  unfold prH at h
  split at h
  · cases h; exact seal_ok _
  · cases h; exact open_ok _
  · cases h
theorem t_put (k : Int) (s : ByteArray) (Φ : AV → Prop) : callK nro (fun _ => false) prH 5 13 [.v (.int .i64 k), .v (.string s)] (hp [] []) (fun r h => some (h.cd ∧ Φ r)) =
    (bif (decide ((1 : Int) ≤ k)) then (bif (!(decide (k ≤ (3 : Int)))) then (some (True ∧ (Φ (AV.v (Value.tuple #[(Value.string (ByteArray.mk (Array.mk (@List.nil UInt8)))), (Value.int IntKind.i64 (5 : Int))]))))) else (bif (decide ((200 : Int) < ((ByteArray.size s) : Int))) then (some (True ∧ (Φ (AV.v (Value.tuple #[(Value.string (ByteArray.mk (Array.mk (@List.nil UInt8)))), (Value.int IntKind.i64 (9 : Int))]))))) else (some ((cdb (cdb True (decide (((ByteArray.size (ByteArray.mk #[(UInt8.ofNat (183 : Nat)), (UInt8.ofNat (1 : Nat)), (UInt8.ofNat (Int.toNat (exInt (AV.v (Value.int IntKind.u8 (IntKind.wrap IntKind.u8 k)))))), (UInt8.ofNat (Int.toNat (Int.ofNat ((ByteArray.size s) % (256 : Nat)))))])) + (ByteArray.size s)) ≤ (9223372036854775807 : Nat)))) (decide ((ByteArray.size ((ByteArray.mk #[(UInt8.ofNat (183 : Nat)), (UInt8.ofNat (1 : Nat)), (UInt8.ofNat (Int.toNat (exInt (AV.v (Value.int IntKind.u8 (IntKind.wrap IntKind.u8 k)))))), (UInt8.ofNat (Int.toNat (Int.ofNat ((ByteArray.size s) % (256 : Nat)))))]) ++ s)) ≤ (100000 : Nat)))) ∧ (Φ (AV.v (Value.tuple #[(Value.string (H23.sealS ((ByteArray.mk #[(UInt8.ofNat (183 : Nat)), (UInt8.ofNat (1 : Nat)), (UInt8.ofNat (Int.toNat (exInt (AV.v (Value.int IntKind.u8 (IntKind.wrap IntKind.u8 k)))))), (UInt8.ofNat (Int.toNat (Int.ofNat ((ByteArray.size s) % (256 : Nat)))))]) ++ s))), (Value.int IntKind.i64 (0 : Int))]))))))) else (some (True ∧ (Φ (AV.v (Value.tuple #[(Value.string (ByteArray.mk (Array.mk (@List.nil UInt8)))), (Value.int IntKind.i64 (5 : Int))])))))) := by kernel_rfl
end Go.Proofs.YtlonpmcgejdkkaaDoor.AE.H23
namespace Go.Proofs.YtlonpmcgejdkkaaDoor.AE.H23
set_option maxRecDepth 100000
open Go.RowKit Cr Oc
theorem h_pre (s : ByteArray) (R : Exit → List AV → AH → Prop) : codeL nro (fun _ => false) prH 5 ((flatten (bodyOf 20)).take 4) ([.v (.string s)] ++ List.replicate 53 (.v undef)) (hp [] []) (kp [0, 6, 7, 8, 16, 17] R) =
    (some (True ∧ (R Exit.normal [(AV.v (Value.string s)), AV.dead, AV.dead, AV.dead, AV.dead, AV.dead, (AV.ptr (List.length (@List.nil (Prod Go.TypeId (List AV)))) (0 : Nat)), (AV.ptr (List.length [((3 : Nat), [(AV.v (Value.int IntKind.i64 (0 : Int)))])]) (0 : Nat)), (AV.fn (Go.Fn.func (32 : Nat)) (@List.nil AV) [(AV.ptr (List.length (@List.nil (Prod Go.TypeId (List AV)))) (0 : Nat)), (AV.ptr (List.length [((3 : Nat), [(AV.v (Value.int IntKind.i64 (0 : Int)))])]) (0 : Nat))]), AV.dead, AV.dead, AV.dead, AV.dead, AV.dead, AV.dead, AV.dead, (AV.v (Value.int IntKind.i64 (if (((ByteArray.size s) : Int) < (4 : Int)) then ((ByteArray.size s) : Int) else (4 : Int)))), (AV.v (Value.int IntKind.i64 (0 : Int))), AV.dead, AV.dead, AV.dead, AV.dead, AV.dead, AV.dead, AV.dead, AV.dead, AV.dead, AV.dead, AV.dead, AV.dead, AV.dead, AV.dead, AV.dead, AV.dead, AV.dead, AV.dead, AV.dead, AV.dead, AV.dead, AV.dead, AV.dead, AV.dead, AV.dead, AV.dead, AV.dead, AV.dead, AV.dead, AV.dead, AV.dead, AV.dead, AV.dead, AV.dead, AV.dead, AV.dead] (AH.mk [((3 : Nat), [(AV.v (Value.int IntKind.i64 (0 : Int)))]), ((3 : Nat), [(AV.v (Value.int IntKind.i64 (0 : Int)))])] (@List.nil Nat) (0 : Nat) (0 : Nat) true (@List.nil (Prod Nat Bool)) True)))) := by kernel_rfl
theorem h_go0 (s : ByteArray) (R : Exit → List AV → AH → Prop) : codeL nro (fun _ => false) prH 5 ((flatten (bodyOf 20)).drop 4) ([.v (.string s)] ++ List.replicate 5 .dead ++ [.ptr 0 0, .ptr 1 0, .fn (.func 32) [] [.ptr 0 0, .ptr 1 0]] ++ List.replicate 7 .dead ++ [.v (.int .i64 0), .v (.int .i64 0)] ++ List.replicate 36 .dead) (hp [(3, [.v (.int .i64 0)]), (3, [.v (.int .i64 0)])] []) (kp [2, 3, 4, 5] R) =
    (bif (decide (((ByteArray.size s) : Int) < (4 : Int))) then (some (True ∧ (R Exit.ret [AV.dead, AV.dead, (AV.v (Value.int IntKind.i64 (0 : Int))), (AV.v (Value.string (ByteArray.mk (Array.mk (@List.nil UInt8))))), (AV.v (Value.int IntKind.i64 (0 : Int))), (AV.v (Value.int IntKind.i64 (3 : Int))), AV.dead, AV.dead, AV.dead, AV.dead, AV.dead, AV.dead, AV.dead, AV.dead, AV.dead, AV.dead, AV.dead, AV.dead, AV.dead, AV.dead, AV.dead, AV.dead, AV.dead, AV.dead, AV.dead, AV.dead, AV.dead, AV.dead, AV.dead, AV.dead, AV.dead, AV.dead, AV.dead, AV.dead, AV.dead, AV.dead, AV.dead, AV.dead, AV.dead, AV.dead, AV.dead, AV.dead, AV.dead, AV.dead, AV.dead, AV.dead, AV.dead, AV.dead, AV.dead, AV.dead, AV.dead, AV.dead, AV.dead, AV.dead] (AH.mk [((3 : Nat), [(AV.v (Value.int IntKind.i64 (0 : Int)))]), ((3 : Nat), [(AV.v (Value.int IntKind.i64 (0 : Int)))])] (@List.nil Nat) (0 : Nat) (0 : Nat) true (@List.nil (Prod Nat Bool)) True)))) else (bif ((H23.openE (ByteArray.extract s (0 : Nat) (0 : Nat))) != (0 : Int)) then (some ((cdb True (decide ((ByteArray.size (ByteArray.extract s (0 : Nat) (0 : Nat))) ≤ (100000 : Nat)))) ∧ (R Exit.ret [AV.dead, AV.dead, (AV.v (Value.int IntKind.i64 (0 : Int))), (AV.v (Value.string (ByteArray.mk (Array.mk (@List.nil UInt8))))), (AV.v (Value.int IntKind.i64 (0 : Int))), (AV.v (Value.int IntKind.i64 (H23.openE (ByteArray.extract s (0 : Nat) (0 : Nat))))), AV.dead, AV.dead, AV.dead, AV.dead, AV.dead, AV.dead, AV.dead, AV.dead, AV.dead, AV.dead, AV.dead, AV.dead, AV.dead, AV.dead, AV.dead, AV.dead, AV.dead, AV.dead, AV.dead, AV.dead, AV.dead, AV.dead, AV.dead, AV.dead, AV.dead, AV.dead, AV.dead, AV.dead, AV.dead, AV.dead, AV.dead, AV.dead, AV.dead, AV.dead, AV.dead, AV.dead, AV.dead, AV.dead, AV.dead, AV.dead, AV.dead, AV.dead, AV.dead, AV.dead, AV.dead, AV.dead, AV.dead, AV.dead] (AH.mk [((3 : Nat), [(AV.v (Value.int IntKind.i64 (0 : Int)))]), ((3 : Nat), [(AV.v (Value.int IntKind.i64 (0 : Int)))])] (@List.nil Nat) (0 : Nat) (0 : Nat) true (@List.nil (Prod Nat Bool)) True)))) else (some ((cdb (cdb True (decide ((ByteArray.size (ByteArray.extract s (0 : Nat) (0 : Nat))) ≤ (100000 : Nat)))) (decide (((0 : Int) ≤ (4 : Int)) ∧ (((4 : Int) ≤ ((ByteArray.size (H23.openS (ByteArray.extract s (0 : Nat) (0 : Nat)))) : Int)) ∧ (((ByteArray.size (H23.openS (ByteArray.extract s (0 : Nat) (0 : Nat)))) : Int) ≤ ((ByteArray.size (H23.openS (ByteArray.extract s (0 : Nat) (0 : Nat)))) : Int)))))) ∧ (R Exit.ret [AV.dead, AV.dead, (AV.v (Value.int IntKind.i64 (0 : Int))), (AV.v (Value.string (ByteArray.extract (H23.openS (ByteArray.extract s (0 : Nat) (0 : Nat))) (4 : Nat) (Int.toNat ((ByteArray.size (H23.openS (ByteArray.extract s (0 : Nat) (0 : Nat)))) : Int))))), (AV.v (Value.int IntKind.i64 (0 : Int))), (AV.v (Value.int IntKind.i64 (0 : Int))), AV.dead, AV.dead, AV.dead, AV.dead, AV.dead, AV.dead, AV.dead, AV.dead, AV.dead, AV.dead, AV.dead, AV.dead, AV.dead, AV.dead, AV.dead, AV.dead, AV.dead, AV.dead, AV.dead, AV.dead, AV.dead, AV.dead, AV.dead, AV.dead, AV.dead, AV.dead, AV.dead, AV.dead, AV.dead, AV.dead, AV.dead, AV.dead, AV.dead, AV.dead, AV.dead, AV.dead, AV.dead, AV.dead, AV.dead, AV.dead, AV.dead, AV.dead, AV.dead, AV.dead, AV.dead, AV.dead, AV.dead, AV.dead] (AH.mk [((3 : Nat), [(AV.v (Value.int IntKind.i64 (0 : Int)))]), ((3 : Nat), [(AV.v (Value.int IntKind.i64 (0 : Int)))])] (@List.nil Nat) (0 : Nat) (0 : Nat) true (@List.nil (Prod Nat Bool)) True)))))) := by kernel_rfl
theorem h_go1 (s : ByteArray) (R : Exit → List AV → AH → Prop) : codeL nro (fun _ => false) prH 5 ((flatten (bodyOf 20)).drop 4) ([.v (.string s)] ++ List.replicate 5 .dead ++ [.ptr 0 0, .ptr 1 0, .fn (.func 32) [] [.ptr 0 0, .ptr 1 0]] ++ List.replicate 7 .dead ++ [.v (.int .i64 1), .v (.int .i64 0)] ++ List.replicate 36 .dead) (hp [(3, [.v (.int .i64 0)]), (3, [.v (.int .i64 0)])] []) (kp [2, 3, 4, 5] R) =
    (bif ((IntKind.wrap IntKind.i64 ((UInt8.toNat (Array.getD (s).1 (0 : Nat) (0 : UInt8))) : Int)) != (183 : Int)) then (bif ((IntKind.wrap IntKind.i64 ((UInt8.toNat (Array.getD (s).1 (0 : Nat) (0 : UInt8))) : Int)) != (183 : Int)) then (some ((cdb True (decide (((0 : Int) ≤ (0 : Int)) ∧ ((0 : Nat) < (ByteArray.size s))))) ∧ (R Exit.ret [AV.dead, AV.dead, (AV.v (Value.int IntKind.i64 (0 : Int))), (AV.v (Value.string (ByteArray.mk (Array.mk (@List.nil UInt8))))), (AV.v (Value.int IntKind.i64 (0 : Int))), (AV.v (Value.int IntKind.i64 (2 : Int))), AV.dead, AV.dead, AV.dead, AV.dead, AV.dead, AV.dead, AV.dead, AV.dead, AV.dead, AV.dead, AV.dead, AV.dead, AV.dead, AV.dead, AV.dead, AV.dead, AV.dead, AV.dead, AV.dead, AV.dead, AV.dead, AV.dead, AV.dead, AV.dead, AV.dead, AV.dead, AV.dead, AV.dead, AV.dead, AV.dead, AV.dead, AV.dead, AV.dead, AV.dead, AV.dead, AV.dead, AV.dead, AV.dead, AV.dead, AV.dead, AV.dead, AV.dead, AV.dead, AV.dead, AV.dead, AV.dead, AV.dead, AV.dead] (AH.mk [((3 : Nat), [(AV.v (Value.int IntKind.i64 (0 : Int)))]), ((3 : Nat), [(AV.v (Value.int IntKind.i64 (0 : Int)))])] (@List.nil Nat) (0 : Nat) (0 : Nat) true (@List.nil (Prod Nat Bool)) True)))) else (bif (decide (((ByteArray.size s) : Int) < (4 : Int))) then (some ((cdb True (decide (((0 : Int) ≤ (0 : Int)) ∧ ((0 : Nat) < (ByteArray.size s))))) ∧ (R Exit.ret [AV.dead, AV.dead, (AV.v (Value.int IntKind.i64 (0 : Int))), (AV.v (Value.string (ByteArray.mk (Array.mk (@List.nil UInt8))))), (AV.v (Value.int IntKind.i64 (0 : Int))), (AV.v (Value.int IntKind.i64 (3 : Int))), AV.dead, AV.dead, AV.dead, AV.dead, AV.dead, AV.dead, AV.dead, AV.dead, AV.dead, AV.dead, AV.dead, AV.dead, AV.dead, AV.dead, AV.dead, AV.dead, AV.dead, AV.dead, AV.dead, AV.dead, AV.dead, AV.dead, AV.dead, AV.dead, AV.dead, AV.dead, AV.dead, AV.dead, AV.dead, AV.dead, AV.dead, AV.dead, AV.dead, AV.dead, AV.dead, AV.dead, AV.dead, AV.dead, AV.dead, AV.dead, AV.dead, AV.dead, AV.dead, AV.dead, AV.dead, AV.dead, AV.dead, AV.dead] (AH.mk [((3 : Nat), [(AV.v (Value.int IntKind.i64 (0 : Int)))]), ((3 : Nat), [(AV.v (Value.int IntKind.i64 (0 : Int)))])] (@List.nil Nat) (0 : Nat) (0 : Nat) true (@List.nil (Prod Nat Bool)) True)))) else (bif ((H23.openE (ByteArray.extract s (0 : Nat) (0 : Nat))) != (0 : Int)) then (some ((cdb (cdb True (decide (((0 : Int) ≤ (0 : Int)) ∧ ((0 : Nat) < (ByteArray.size s))))) (decide ((ByteArray.size (ByteArray.extract s (0 : Nat) (0 : Nat))) ≤ (100000 : Nat)))) ∧ (R Exit.ret [AV.dead, AV.dead, (AV.v (Value.int IntKind.i64 (0 : Int))), (AV.v (Value.string (ByteArray.mk (Array.mk (@List.nil UInt8))))), (AV.v (Value.int IntKind.i64 (0 : Int))), (AV.v (Value.int IntKind.i64 (H23.openE (ByteArray.extract s (0 : Nat) (0 : Nat))))), AV.dead, AV.dead, AV.dead, AV.dead, AV.dead, AV.dead, AV.dead, AV.dead, AV.dead, AV.dead, AV.dead, AV.dead, AV.dead, AV.dead, AV.dead, AV.dead, AV.dead, AV.dead, AV.dead, AV.dead, AV.dead, AV.dead, AV.dead, AV.dead, AV.dead, AV.dead, AV.dead, AV.dead, AV.dead, AV.dead, AV.dead, AV.dead, AV.dead, AV.dead, AV.dead, AV.dead, AV.dead, AV.dead, AV.dead, AV.dead, AV.dead, AV.dead, AV.dead, AV.dead, AV.dead, AV.dead, AV.dead, AV.dead] (AH.mk [((3 : Nat), [(AV.v (Value.int IntKind.i64 (0 : Int)))]), ((3 : Nat), [(AV.v (Value.int IntKind.i64 (0 : Int)))])] (@List.nil Nat) (0 : Nat) (0 : Nat) true (@List.nil (Prod Nat Bool)) True)))) else (some ((cdb (cdb (cdb True (decide (((0 : Int) ≤ (0 : Int)) ∧ ((0 : Nat) < (ByteArray.size s))))) (decide ((ByteArray.size (ByteArray.extract s (0 : Nat) (0 : Nat))) ≤ (100000 : Nat)))) (decide (((0 : Int) ≤ (4 : Int)) ∧ (((4 : Int) ≤ ((ByteArray.size (H23.openS (ByteArray.extract s (0 : Nat) (0 : Nat)))) : Int)) ∧ (((ByteArray.size (H23.openS (ByteArray.extract s (0 : Nat) (0 : Nat)))) : Int) ≤ ((ByteArray.size (H23.openS (ByteArray.extract s (0 : Nat) (0 : Nat)))) : Int)))))) ∧ (R Exit.ret [AV.dead, AV.dead, (AV.v (Value.int IntKind.i64 (0 : Int))), (AV.v (Value.string (ByteArray.extract (H23.openS (ByteArray.extract s (0 : Nat) (0 : Nat))) (4 : Nat) (Int.toNat ((ByteArray.size (H23.openS (ByteArray.extract s (0 : Nat) (0 : Nat)))) : Int))))), (AV.v (Value.int IntKind.i64 (0 : Int))), (AV.v (Value.int IntKind.i64 (0 : Int))), AV.dead, AV.dead, AV.dead, AV.dead, AV.dead, AV.dead, AV.dead, AV.dead, AV.dead, AV.dead, AV.dead, AV.dead, AV.dead, AV.dead, AV.dead, AV.dead, AV.dead, AV.dead, AV.dead, AV.dead, AV.dead, AV.dead, AV.dead, AV.dead, AV.dead, AV.dead, AV.dead, AV.dead, AV.dead, AV.dead, AV.dead, AV.dead, AV.dead, AV.dead, AV.dead, AV.dead, AV.dead, AV.dead, AV.dead, AV.dead, AV.dead, AV.dead, AV.dead, AV.dead, AV.dead, AV.dead, AV.dead, AV.dead] (AH.mk [((3 : Nat), [(AV.v (Value.int IntKind.i64 (0 : Int)))]), ((3 : Nat), [(AV.v (Value.int IntKind.i64 (0 : Int)))])] (@List.nil Nat) (0 : Nat) (0 : Nat) true (@List.nil (Prod Nat Bool)) True))))))) else (bif (decide (((ByteArray.size s) : Int) < (4 : Int))) then (some ((cdb True (decide (((0 : Int) ≤ (0 : Int)) ∧ ((0 : Nat) < (ByteArray.size s))))) ∧ (R Exit.ret [AV.dead, AV.dead, (AV.v (Value.int IntKind.i64 (0 : Int))), (AV.v (Value.string (ByteArray.mk (Array.mk (@List.nil UInt8))))), (AV.v (Value.int IntKind.i64 (0 : Int))), (AV.v (Value.int IntKind.i64 (3 : Int))), AV.dead, AV.dead, AV.dead, AV.dead, AV.dead, AV.dead, AV.dead, AV.dead, AV.dead, AV.dead, AV.dead, AV.dead, AV.dead, AV.dead, AV.dead, AV.dead, AV.dead, AV.dead, AV.dead, AV.dead, AV.dead, AV.dead, AV.dead, AV.dead, AV.dead, AV.dead, AV.dead, AV.dead, AV.dead, AV.dead, AV.dead, AV.dead, AV.dead, AV.dead, AV.dead, AV.dead, AV.dead, AV.dead, AV.dead, AV.dead, AV.dead, AV.dead, AV.dead, AV.dead, AV.dead, AV.dead, AV.dead, AV.dead] (AH.mk [((3 : Nat), [(AV.v (Value.int IntKind.i64 (0 : Int)))]), ((3 : Nat), [(AV.v (Value.int IntKind.i64 (0 : Int)))])] (@List.nil Nat) (0 : Nat) (0 : Nat) true (@List.nil (Prod Nat Bool)) True)))) else (bif ((H23.openE (ByteArray.extract s (0 : Nat) (0 : Nat))) != (0 : Int)) then (some ((cdb (cdb True (decide (((0 : Int) ≤ (0 : Int)) ∧ ((0 : Nat) < (ByteArray.size s))))) (decide ((ByteArray.size (ByteArray.extract s (0 : Nat) (0 : Nat))) ≤ (100000 : Nat)))) ∧ (R Exit.ret [AV.dead, AV.dead, (AV.v (Value.int IntKind.i64 (0 : Int))), (AV.v (Value.string (ByteArray.mk (Array.mk (@List.nil UInt8))))), (AV.v (Value.int IntKind.i64 (0 : Int))), (AV.v (Value.int IntKind.i64 (H23.openE (ByteArray.extract s (0 : Nat) (0 : Nat))))), AV.dead, AV.dead, AV.dead, AV.dead, AV.dead, AV.dead, AV.dead, AV.dead, AV.dead, AV.dead, AV.dead, AV.dead, AV.dead, AV.dead, AV.dead, AV.dead, AV.dead, AV.dead, AV.dead, AV.dead, AV.dead, AV.dead, AV.dead, AV.dead, AV.dead, AV.dead, AV.dead, AV.dead, AV.dead, AV.dead, AV.dead, AV.dead, AV.dead, AV.dead, AV.dead, AV.dead, AV.dead, AV.dead, AV.dead, AV.dead, AV.dead, AV.dead, AV.dead, AV.dead, AV.dead, AV.dead, AV.dead, AV.dead] (AH.mk [((3 : Nat), [(AV.v (Value.int IntKind.i64 (0 : Int)))]), ((3 : Nat), [(AV.v (Value.int IntKind.i64 (0 : Int)))])] (@List.nil Nat) (0 : Nat) (0 : Nat) true (@List.nil (Prod Nat Bool)) True)))) else (some ((cdb (cdb (cdb True (decide (((0 : Int) ≤ (0 : Int)) ∧ ((0 : Nat) < (ByteArray.size s))))) (decide ((ByteArray.size (ByteArray.extract s (0 : Nat) (0 : Nat))) ≤ (100000 : Nat)))) (decide (((0 : Int) ≤ (4 : Int)) ∧ (((4 : Int) ≤ ((ByteArray.size (H23.openS (ByteArray.extract s (0 : Nat) (0 : Nat)))) : Int)) ∧ (((ByteArray.size (H23.openS (ByteArray.extract s (0 : Nat) (0 : Nat)))) : Int) ≤ ((ByteArray.size (H23.openS (ByteArray.extract s (0 : Nat) (0 : Nat)))) : Int)))))) ∧ (R Exit.ret [AV.dead, AV.dead, (AV.v (Value.int IntKind.i64 (0 : Int))), (AV.v (Value.string (ByteArray.extract (H23.openS (ByteArray.extract s (0 : Nat) (0 : Nat))) (4 : Nat) (Int.toNat ((ByteArray.size (H23.openS (ByteArray.extract s (0 : Nat) (0 : Nat)))) : Int))))), (AV.v (Value.int IntKind.i64 (0 : Int))), (AV.v (Value.int IntKind.i64 (0 : Int))), AV.dead, AV.dead, AV.dead, AV.dead, AV.dead, AV.dead, AV.dead, AV.dead, AV.dead, AV.dead, AV.dead, AV.dead, AV.dead, AV.dead, AV.dead, AV.dead, AV.dead, AV.dead, AV.dead, AV.dead, AV.dead, AV.dead, AV.dead, AV.dead, AV.dead, AV.dead, AV.dead, AV.dead, AV.dead, AV.dead, AV.dead, AV.dead, AV.dead, AV.dead, AV.dead, AV.dead, AV.dead, AV.dead, AV.dead, AV.dead, AV.dead, AV.dead, AV.dead, AV.dead, AV.dead, AV.dead, AV.dead, AV.dead] (AH.mk [((3 : Nat), [(AV.v (Value.int IntKind.i64 (0 : Int)))]), ((3 : Nat), [(AV.v (Value.int IntKind.i64 (0 : Int)))])] (@List.nil Nat) (0 : Nat) (0 : Nat) true (@List.nil (Prod Nat Bool)) True))))))) := by kernel_rfl
theorem h_go2 (s : ByteArray) (R : Exit → List AV → AH → Prop) : codeL nro (fun _ => false) prH 5 ((flatten (bodyOf 20)).drop 4) ([.v (.string s)] ++ List.replicate 5 .dead ++ [.ptr 0 0, .ptr 1 0, .fn (.func 32) [] [.ptr 0 0, .ptr 1 0]] ++ List.replicate 7 .dead ++ [.v (.int .i64 2), .v (.int .i64 0)] ++ List.replicate 36 .dead) (hp [(3, [.v (.int .i64 0)]), (3, [.v (.int .i64 0)])] []) (kp [2, 3, 4, 5] R) =
    (bif ((IntKind.wrap IntKind.i64 ((UInt8.toNat (Array.getD (s).1 (0 : Nat) (0 : UInt8))) : Int)) != (183 : Int)) then (bif ((IntKind.wrap IntKind.i64 ((UInt8.toNat (Array.getD (s).1 (0 : Nat) (0 : UInt8))) : Int)) != (183 : Int)) then (some ((cdb True (decide (((0 : Int) ≤ (0 : Int)) ∧ ((0 : Nat) < (ByteArray.size s))))) ∧ (R Exit.ret [AV.dead, AV.dead, (AV.v (Value.int IntKind.i64 (0 : Int))), (AV.v (Value.string (ByteArray.mk (Array.mk (@List.nil UInt8))))), (AV.v (Value.int IntKind.i64 (0 : Int))), (AV.v (Value.int IntKind.i64 (2 : Int))), AV.dead, AV.dead, AV.dead, AV.dead, AV.dead, AV.dead, AV.dead, AV.dead, AV.dead, AV.dead, AV.dead, AV.dead, AV.dead, AV.dead, AV.dead, AV.dead, AV.dead, AV.dead, AV.dead, AV.dead, AV.dead, AV.dead, AV.dead, AV.dead, AV.dead, AV.dead, AV.dead, AV.dead, AV.dead, AV.dead, AV.dead, AV.dead, AV.dead, AV.dead, AV.dead, AV.dead, AV.dead, AV.dead, AV.dead, AV.dead, AV.dead, AV.dead, AV.dead, AV.dead, AV.dead, AV.dead, AV.dead, AV.dead] (AH.mk [((3 : Nat), [(AV.v (Value.int IntKind.i64 (0 : Int)))]), ((3 : Nat), [(AV.v (Value.int IntKind.i64 (0 : Int)))])] (@List.nil Nat) (0 : Nat) (0 : Nat) true (@List.nil (Prod Nat Bool)) True)))) else (bif ((IntKind.wrap IntKind.i64 ((UInt8.toNat (Array.getD (s).1 (1 : Nat) (0 : UInt8))) : Int)) != (1 : Int)) then (some ((cdb (cdb True (decide (((0 : Int) ≤ (0 : Int)) ∧ ((0 : Nat) < (ByteArray.size s))))) (decide (((0 : Int) ≤ (1 : Int)) ∧ ((1 : Nat) < (ByteArray.size s))))) ∧ (R Exit.ret [AV.dead, AV.dead, (AV.v (Value.int IntKind.i64 (0 : Int))), (AV.v (Value.string (ByteArray.mk (Array.mk (@List.nil UInt8))))), (AV.v (Value.int IntKind.i64 (0 : Int))), (AV.v (Value.int IntKind.i64 (2 : Int))), AV.dead, AV.dead, AV.dead, AV.dead, AV.dead, AV.dead, AV.dead, AV.dead, AV.dead, AV.dead, AV.dead, AV.dead, AV.dead, AV.dead, AV.dead, AV.dead, AV.dead, AV.dead, AV.dead, AV.dead, AV.dead, AV.dead, AV.dead, AV.dead, AV.dead, AV.dead, AV.dead, AV.dead, AV.dead, AV.dead, AV.dead, AV.dead, AV.dead, AV.dead, AV.dead, AV.dead, AV.dead, AV.dead, AV.dead, AV.dead, AV.dead, AV.dead, AV.dead, AV.dead, AV.dead, AV.dead, AV.dead, AV.dead] (AH.mk [((3 : Nat), [(AV.v (Value.int IntKind.i64 (0 : Int)))]), ((3 : Nat), [(AV.v (Value.int IntKind.i64 (0 : Int)))])] (@List.nil Nat) (0 : Nat) (0 : Nat) true (@List.nil (Prod Nat Bool)) True)))) else (bif (decide (((ByteArray.size s) : Int) < (4 : Int))) then (some ((cdb (cdb True (decide (((0 : Int) ≤ (0 : Int)) ∧ ((0 : Nat) < (ByteArray.size s))))) (decide (((0 : Int) ≤ (1 : Int)) ∧ ((1 : Nat) < (ByteArray.size s))))) ∧ (R Exit.ret [AV.dead, AV.dead, (AV.v (Value.int IntKind.i64 (0 : Int))), (AV.v (Value.string (ByteArray.mk (Array.mk (@List.nil UInt8))))), (AV.v (Value.int IntKind.i64 (0 : Int))), (AV.v (Value.int IntKind.i64 (3 : Int))), AV.dead, AV.dead, AV.dead, AV.dead, AV.dead, AV.dead, AV.dead, AV.dead, AV.dead, AV.dead, AV.dead, AV.dead, AV.dead, AV.dead, AV.dead, AV.dead, AV.dead, AV.dead, AV.dead, AV.dead, AV.dead, AV.dead, AV.dead, AV.dead, AV.dead, AV.dead, AV.dead, AV.dead, AV.dead, AV.dead, AV.dead, AV.dead, AV.dead, AV.dead, AV.dead, AV.dead, AV.dead, AV.dead, AV.dead, AV.dead, AV.dead, AV.dead, AV.dead, AV.dead, AV.dead, AV.dead, AV.dead, AV.dead] (AH.mk [((3 : Nat), [(AV.v (Value.int IntKind.i64 (0 : Int)))]), ((3 : Nat), [(AV.v (Value.int IntKind.i64 (0 : Int)))])] (@List.nil Nat) (0 : Nat) (0 : Nat) true (@List.nil (Prod Nat Bool)) True)))) else (bif ((H23.openE (ByteArray.extract s (0 : Nat) (0 : Nat))) != (0 : Int)) then (some ((cdb (cdb (cdb True (decide (((0 : Int) ≤ (0 : Int)) ∧ ((0 : Nat) < (ByteArray.size s))))) (decide (((0 : Int) ≤ (1 : Int)) ∧ ((1 : Nat) < (ByteArray.size s))))) (decide ((ByteArray.size (ByteArray.extract s (0 : Nat) (0 : Nat))) ≤ (100000 : Nat)))) ∧ (R Exit.ret [AV.dead, AV.dead, (AV.v (Value.int IntKind.i64 (0 : Int))), (AV.v (Value.string (ByteArray.mk (Array.mk (@List.nil UInt8))))), (AV.v (Value.int IntKind.i64 (0 : Int))), (AV.v (Value.int IntKind.i64 (H23.openE (ByteArray.extract s (0 : Nat) (0 : Nat))))), AV.dead, AV.dead, AV.dead, AV.dead, AV.dead, AV.dead, AV.dead, AV.dead, AV.dead, AV.dead, AV.dead, AV.dead, AV.dead, AV.dead, AV.dead, AV.dead, AV.dead, AV.dead, AV.dead, AV.dead, AV.dead, AV.dead, AV.dead, AV.dead, AV.dead, AV.dead, AV.dead, AV.dead, AV.dead, AV.dead, AV.dead, AV.dead, AV.dead, AV.dead, AV.dead, AV.dead, AV.dead, AV.dead, AV.dead, AV.dead, AV.dead, AV.dead, AV.dead, AV.dead, AV.dead, AV.dead, AV.dead, AV.dead] (AH.mk [((3 : Nat), [(AV.v (Value.int IntKind.i64 (0 : Int)))]), ((3 : Nat), [(AV.v (Value.int IntKind.i64 (0 : Int)))])] (@List.nil Nat) (0 : Nat) (0 : Nat) true (@List.nil (Prod Nat Bool)) True)))) else (some ((cdb (cdb (cdb (cdb True (decide (((0 : Int) ≤ (0 : Int)) ∧ ((0 : Nat) < (ByteArray.size s))))) (decide (((0 : Int) ≤ (1 : Int)) ∧ ((1 : Nat) < (ByteArray.size s))))) (decide ((ByteArray.size (ByteArray.extract s (0 : Nat) (0 : Nat))) ≤ (100000 : Nat)))) (decide (((0 : Int) ≤ (4 : Int)) ∧ (((4 : Int) ≤ ((ByteArray.size (H23.openS (ByteArray.extract s (0 : Nat) (0 : Nat)))) : Int)) ∧ (((ByteArray.size (H23.openS (ByteArray.extract s (0 : Nat) (0 : Nat)))) : Int) ≤ ((ByteArray.size (H23.openS (ByteArray.extract s (0 : Nat) (0 : Nat)))) : Int)))))) ∧ (R Exit.ret [AV.dead, AV.dead, (AV.v (Value.int IntKind.i64 (0 : Int))), (AV.v (Value.string (ByteArray.extract (H23.openS (ByteArray.extract s (0 : Nat) (0 : Nat))) (4 : Nat) (Int.toNat ((ByteArray.size (H23.openS (ByteArray.extract s (0 : Nat) (0 : Nat)))) : Int))))), (AV.v (Value.int IntKind.i64 (0 : Int))), (AV.v (Value.int IntKind.i64 (0 : Int))), AV.dead, AV.dead, AV.dead, AV.dead, AV.dead, AV.dead, AV.dead, AV.dead, AV.dead, AV.dead, AV.dead, AV.dead, AV.dead, AV.dead, AV.dead, AV.dead, AV.dead, AV.dead, AV.dead, AV.dead, AV.dead, AV.dead, AV.dead, AV.dead, AV.dead, AV.dead, AV.dead, AV.dead, AV.dead, AV.dead, AV.dead, AV.dead, AV.dead, AV.dead, AV.dead, AV.dead, AV.dead, AV.dead, AV.dead, AV.dead, AV.dead, AV.dead, AV.dead, AV.dead, AV.dead, AV.dead, AV.dead, AV.dead] (AH.mk [((3 : Nat), [(AV.v (Value.int IntKind.i64 (0 : Int)))]), ((3 : Nat), [(AV.v (Value.int IntKind.i64 (0 : Int)))])] (@List.nil Nat) (0 : Nat) (0 : Nat) true (@List.nil (Prod Nat Bool)) True)))))))) else (bif ((IntKind.wrap IntKind.i64 ((UInt8.toNat (Array.getD (s).1 (1 : Nat) (0 : UInt8))) : Int)) != (1 : Int)) then (some ((cdb (cdb True (decide (((0 : Int) ≤ (0 : Int)) ∧ ((0 : Nat) < (ByteArray.size s))))) (decide (((0 : Int) ≤ (1 : Int)) ∧ ((1 : Nat) < (ByteArray.size s))))) ∧ (R Exit.ret [AV.dead, AV.dead, (AV.v (Value.int IntKind.i64 (0 : Int))), (AV.v (Value.string (ByteArray.mk (Array.mk (@List.nil UInt8))))), (AV.v (Value.int IntKind.i64 (0 : Int))), (AV.v (Value.int IntKind.i64 (2 : Int))), AV.dead, AV.dead, AV.dead, AV.dead, AV.dead, AV.dead, AV.dead, AV.dead, AV.dead, AV.dead, AV.dead, AV.dead, AV.dead, AV.dead, AV.dead, AV.dead, AV.dead, AV.dead, AV.dead, AV.dead, AV.dead, AV.dead, AV.dead, AV.dead, AV.dead, AV.dead, AV.dead, AV.dead, AV.dead, AV.dead, AV.dead, AV.dead, AV.dead, AV.dead, AV.dead, AV.dead, AV.dead, AV.dead, AV.dead, AV.dead, AV.dead, AV.dead, AV.dead, AV.dead, AV.dead, AV.dead, AV.dead, AV.dead] (AH.mk [((3 : Nat), [(AV.v (Value.int IntKind.i64 (0 : Int)))]), ((3 : Nat), [(AV.v (Value.int IntKind.i64 (0 : Int)))])] (@List.nil Nat) (0 : Nat) (0 : Nat) true (@List.nil (Prod Nat Bool)) True)))) else (bif (decide (((ByteArray.size s) : Int) < (4 : Int))) then (some ((cdb (cdb True (decide (((0 : Int) ≤ (0 : Int)) ∧ ((0 : Nat) < (ByteArray.size s))))) (decide (((0 : Int) ≤ (1 : Int)) ∧ ((1 : Nat) < (ByteArray.size s))))) ∧ (R Exit.ret [AV.dead, AV.dead, (AV.v (Value.int IntKind.i64 (0 : Int))), (AV.v (Value.string (ByteArray.mk (Array.mk (@List.nil UInt8))))), (AV.v (Value.int IntKind.i64 (0 : Int))), (AV.v (Value.int IntKind.i64 (3 : Int))), AV.dead, AV.dead, AV.dead, AV.dead, AV.dead, AV.dead, AV.dead, AV.dead, AV.dead, AV.dead, AV.dead, AV.dead, AV.dead, AV.dead, AV.dead, AV.dead, AV.dead, AV.dead, AV.dead, AV.dead, AV.dead, AV.dead, AV.dead, AV.dead, AV.dead, AV.dead, AV.dead, AV.dead, AV.dead, AV.dead, AV.dead, AV.dead, AV.dead, AV.dead, AV.dead, AV.dead, AV.dead, AV.dead, AV.dead, AV.dead, AV.dead, AV.dead, AV.dead, AV.dead, AV.dead, AV.dead, AV.dead, AV.dead] (AH.mk [((3 : Nat), [(AV.v (Value.int IntKind.i64 (0 : Int)))]), ((3 : Nat), [(AV.v (Value.int IntKind.i64 (0 : Int)))])] (@List.nil Nat) (0 : Nat) (0 : Nat) true (@List.nil (Prod Nat Bool)) True)))) else (bif ((H23.openE (ByteArray.extract s (0 : Nat) (0 : Nat))) != (0 : Int)) then (some ((cdb (cdb (cdb True (decide (((0 : Int) ≤ (0 : Int)) ∧ ((0 : Nat) < (ByteArray.size s))))) (decide (((0 : Int) ≤ (1 : Int)) ∧ ((1 : Nat) < (ByteArray.size s))))) (decide ((ByteArray.size (ByteArray.extract s (0 : Nat) (0 : Nat))) ≤ (100000 : Nat)))) ∧ (R Exit.ret [AV.dead, AV.dead, (AV.v (Value.int IntKind.i64 (0 : Int))), (AV.v (Value.string (ByteArray.mk (Array.mk (@List.nil UInt8))))), (AV.v (Value.int IntKind.i64 (0 : Int))), (AV.v (Value.int IntKind.i64 (H23.openE (ByteArray.extract s (0 : Nat) (0 : Nat))))), AV.dead, AV.dead, AV.dead, AV.dead, AV.dead, AV.dead, AV.dead, AV.dead, AV.dead, AV.dead, AV.dead, AV.dead, AV.dead, AV.dead, AV.dead, AV.dead, AV.dead, AV.dead, AV.dead, AV.dead, AV.dead, AV.dead, AV.dead, AV.dead, AV.dead, AV.dead, AV.dead, AV.dead, AV.dead, AV.dead, AV.dead, AV.dead, AV.dead, AV.dead, AV.dead, AV.dead, AV.dead, AV.dead, AV.dead, AV.dead, AV.dead, AV.dead, AV.dead, AV.dead, AV.dead, AV.dead, AV.dead, AV.dead] (AH.mk [((3 : Nat), [(AV.v (Value.int IntKind.i64 (0 : Int)))]), ((3 : Nat), [(AV.v (Value.int IntKind.i64 (0 : Int)))])] (@List.nil Nat) (0 : Nat) (0 : Nat) true (@List.nil (Prod Nat Bool)) True)))) else (some ((cdb (cdb (cdb (cdb True (decide (((0 : Int) ≤ (0 : Int)) ∧ ((0 : Nat) < (ByteArray.size s))))) (decide (((0 : Int) ≤ (1 : Int)) ∧ ((1 : Nat) < (ByteArray.size s))))) (decide ((ByteArray.size (ByteArray.extract s (0 : Nat) (0 : Nat))) ≤ (100000 : Nat)))) (decide (((0 : Int) ≤ (4 : Int)) ∧ (((4 : Int) ≤ ((ByteArray.size (H23.openS (ByteArray.extract s (0 : Nat) (0 : Nat)))) : Int)) ∧ (((ByteArray.size (H23.openS (ByteArray.extract s (0 : Nat) (0 : Nat)))) : Int) ≤ ((ByteArray.size (H23.openS (ByteArray.extract s (0 : Nat) (0 : Nat)))) : Int)))))) ∧ (R Exit.ret [AV.dead, AV.dead, (AV.v (Value.int IntKind.i64 (0 : Int))), (AV.v (Value.string (ByteArray.extract (H23.openS (ByteArray.extract s (0 : Nat) (0 : Nat))) (4 : Nat) (Int.toNat ((ByteArray.size (H23.openS (ByteArray.extract s (0 : Nat) (0 : Nat)))) : Int))))), (AV.v (Value.int IntKind.i64 (0 : Int))), (AV.v (Value.int IntKind.i64 (0 : Int))), AV.dead, AV.dead, AV.dead, AV.dead, AV.dead, AV.dead, AV.dead, AV.dead, AV.dead, AV.dead, AV.dead, AV.dead, AV.dead, AV.dead, AV.dead, AV.dead, AV.dead, AV.dead, AV.dead, AV.dead, AV.dead, AV.dead, AV.dead, AV.dead, AV.dead, AV.dead, AV.dead, AV.dead, AV.dead, AV.dead, AV.dead, AV.dead, AV.dead, AV.dead, AV.dead, AV.dead, AV.dead, AV.dead, AV.dead, AV.dead, AV.dead, AV.dead, AV.dead, AV.dead, AV.dead, AV.dead, AV.dead, AV.dead] (AH.mk [((3 : Nat), [(AV.v (Value.int IntKind.i64 (0 : Int)))]), ((3 : Nat), [(AV.v (Value.int IntKind.i64 (0 : Int)))])] (@List.nil Nat) (0 : Nat) (0 : Nat) true (@List.nil (Prod Nat Bool)) True)))))))) := by kernel_rfl
theorem h_go3 (s : ByteArray) (R : Exit → List AV → AH → Prop) : codeL nro (fun _ => false) prH 5 ((flatten (bodyOf 20)).drop 4) ([.v (.string s)] ++ List.replicate 5 .dead ++ [.ptr 0 0, .ptr 1 0, .fn (.func 32) [] [.ptr 0 0, .ptr 1 0]] ++ List.replicate 7 .dead ++ [.v (.int .i64 3), .v (.int .i64 0)] ++ List.replicate 36 .dead) (hp [(3, [.v (.int .i64 0)]), (3, [.v (.int .i64 0)])] []) (kp [2, 3, 4, 5] R) =
    (bif ((IntKind.wrap IntKind.i64 ((UInt8.toNat (Array.getD (s).1 (0 : Nat) (0 : UInt8))) : Int)) != (183 : Int)) then (bif ((IntKind.wrap IntKind.i64 ((UInt8.toNat (Array.getD (s).1 (0 : Nat) (0 : UInt8))) : Int)) != (183 : Int)) then (some ((cdb True (decide (((0 : Int) ≤ (0 : Int)) ∧ ((0 : Nat) < (ByteArray.size s))))) ∧ (R Exit.ret [AV.dead, AV.dead, (AV.v (Value.int IntKind.i64 (0 : Int))), (AV.v (Value.string (ByteArray.mk (Array.mk (@List.nil UInt8))))), (AV.v (Value.int IntKind.i64 (0 : Int))), (AV.v (Value.int IntKind.i64 (2 : Int))), AV.dead, AV.dead, AV.dead, AV.dead, AV.dead, AV.dead, AV.dead, AV.dead, AV.dead, AV.dead, AV.dead, AV.dead, AV.dead, AV.dead, AV.dead, AV.dead, AV.dead, AV.dead, AV.dead, AV.dead, AV.dead, AV.dead, AV.dead, AV.dead, AV.dead, AV.dead, AV.dead, AV.dead, AV.dead, AV.dead, AV.dead, AV.dead, AV.dead, AV.dead, AV.dead, AV.dead, AV.dead, AV.dead, AV.dead, AV.dead, AV.dead, AV.dead, AV.dead, AV.dead, AV.dead, AV.dead, AV.dead, AV.dead] (AH.mk [((3 : Nat), [(AV.v (Value.int IntKind.i64 (0 : Int)))]), ((3 : Nat), [(AV.v (Value.int IntKind.i64 (0 : Int)))])] (@List.nil Nat) (0 : Nat) (0 : Nat) true (@List.nil (Prod Nat Bool)) True)))) else (bif ((IntKind.wrap IntKind.i64 ((UInt8.toNat (Array.getD (s).1 (1 : Nat) (0 : UInt8))) : Int)) != (1 : Int)) then (some ((cdb (cdb True (decide (((0 : Int) ≤ (0 : Int)) ∧ ((0 : Nat) < (ByteArray.size s))))) (decide (((0 : Int) ≤ (1 : Int)) ∧ ((1 : Nat) < (ByteArray.size s))))) ∧ (R Exit.ret [AV.dead, AV.dead, (AV.v (Value.int IntKind.i64 (0 : Int))), (AV.v (Value.string (ByteArray.mk (Array.mk (@List.nil UInt8))))), (AV.v (Value.int IntKind.i64 (0 : Int))), (AV.v (Value.int IntKind.i64 (2 : Int))), AV.dead, AV.dead, AV.dead, AV.dead, AV.dead, AV.dead, AV.dead, AV.dead, AV.dead, AV.dead, AV.dead, AV.dead, AV.dead, AV.dead, AV.dead, AV.dead, AV.dead, AV.dead, AV.dead, AV.dead, AV.dead, AV.dead, AV.dead, AV.dead, AV.dead, AV.dead, AV.dead, AV.dead, AV.dead, AV.dead, AV.dead, AV.dead, AV.dead, AV.dead, AV.dead, AV.dead, AV.dead, AV.dead, AV.dead, AV.dead, AV.dead, AV.dead, AV.dead, AV.dead, AV.dead, AV.dead, AV.dead, AV.dead] (AH.mk [((3 : Nat), [(AV.v (Value.int IntKind.i64 (0 : Int)))]), ((3 : Nat), [(AV.v (Value.int IntKind.i64 (0 : Int)))])] (@List.nil Nat) (0 : Nat) (0 : Nat) true (@List.nil (Prod Nat Bool)) True)))) else (bif (decide ((1 : Int) ≤ (IntKind.wrap IntKind.i64 ((UInt8.toNat (Array.getD (s).1 (2 : Nat) (0 : UInt8))) : Int)))) then (bif (!(decide ((IntKind.wrap IntKind.i64 ((UInt8.toNat (Array.getD (s).1 (2 : Nat) (0 : UInt8))) : Int)) ≤ (3 : Int)))) then (some ((cdb (cdb (cdb True (decide (((0 : Int) ≤ (0 : Int)) ∧ ((0 : Nat) < (ByteArray.size s))))) (decide (((0 : Int) ≤ (1 : Int)) ∧ ((1 : Nat) < (ByteArray.size s))))) (decide (((0 : Int) ≤ (2 : Int)) ∧ ((2 : Nat) < (ByteArray.size s))))) ∧ (R Exit.ret [AV.dead, AV.dead, (AV.v (Value.int IntKind.i64 (0 : Int))), (AV.v (Value.string (ByteArray.mk (Array.mk (@List.nil UInt8))))), (AV.v (Value.int IntKind.i64 (0 : Int))), (AV.v (Value.int IntKind.i64 (5 : Int))), AV.dead, AV.dead, AV.dead, AV.dead, AV.dead, AV.dead, AV.dead, AV.dead, AV.dead, AV.dead, AV.dead, AV.dead, AV.dead, AV.dead, AV.dead, AV.dead, AV.dead, AV.dead, AV.dead, AV.dead, AV.dead, AV.dead, AV.dead, AV.dead, AV.dead, AV.dead, AV.dead, AV.dead, AV.dead, AV.dead, AV.dead, AV.dead, AV.dead, AV.dead, AV.dead, AV.dead, AV.dead, AV.dead, AV.dead, AV.dead, AV.dead, AV.dead, AV.dead, AV.dead, AV.dead, AV.dead, AV.dead, AV.dead] (AH.mk [((3 : Nat), [(AV.v (Value.int IntKind.i64 (0 : Int)))]), ((3 : Nat), [(AV.v (Value.int IntKind.i64 (0 : Int)))])] (@List.nil Nat) (0 : Nat) (0 : Nat) true (@List.nil (Prod Nat Bool)) True)))) else (bif (decide (((ByteArray.size s) : Int) < (4 : Int))) then (some ((cdb (cdb (cdb True (decide (((0 : Int) ≤ (0 : Int)) ∧ ((0 : Nat) < (ByteArray.size s))))) (decide (((0 : Int) ≤ (1 : Int)) ∧ ((1 : Nat) < (ByteArray.size s))))) (decide (((0 : Int) ≤ (2 : Int)) ∧ ((2 : Nat) < (ByteArray.size s))))) ∧ (R Exit.ret [AV.dead, AV.dead, (AV.v (Value.int IntKind.i64 (0 : Int))), (AV.v (Value.string (ByteArray.mk (Array.mk (@List.nil UInt8))))), (AV.v (Value.int IntKind.i64 (0 : Int))), (AV.v (Value.int IntKind.i64 (3 : Int))), AV.dead, AV.dead, AV.dead, AV.dead, AV.dead, AV.dead, AV.dead, AV.dead, AV.dead, AV.dead, AV.dead, AV.dead, AV.dead, AV.dead, AV.dead, AV.dead, AV.dead, AV.dead, AV.dead, AV.dead, AV.dead, AV.dead, AV.dead, AV.dead, AV.dead, AV.dead, AV.dead, AV.dead, AV.dead, AV.dead, AV.dead, AV.dead, AV.dead, AV.dead, AV.dead, AV.dead, AV.dead, AV.dead, AV.dead, AV.dead, AV.dead, AV.dead, AV.dead, AV.dead, AV.dead, AV.dead, AV.dead, AV.dead] (AH.mk [((3 : Nat), [(AV.v (Value.int IntKind.i64 (IntKind.wrap IntKind.i64 ((UInt8.toNat (Array.getD (s).1 (2 : Nat) (0 : UInt8))) : Int))))]), ((3 : Nat), [(AV.v (Value.int IntKind.i64 (0 : Int)))])] (@List.nil Nat) (0 : Nat) (0 : Nat) true (@List.nil (Prod Nat Bool)) True)))) else (bif ((H23.openE (ByteArray.extract s (0 : Nat) (0 : Nat))) != (0 : Int)) then (some ((cdb (cdb (cdb (cdb True (decide (((0 : Int) ≤ (0 : Int)) ∧ ((0 : Nat) < (ByteArray.size s))))) (decide (((0 : Int) ≤ (1 : Int)) ∧ ((1 : Nat) < (ByteArray.size s))))) (decide (((0 : Int) ≤ (2 : Int)) ∧ ((2 : Nat) < (ByteArray.size s))))) (decide ((ByteArray.size (ByteArray.extract s (0 : Nat) (0 : Nat))) ≤ (100000 : Nat)))) ∧ (R Exit.ret [AV.dead, AV.dead, (AV.v (Value.int IntKind.i64 (0 : Int))), (AV.v (Value.string (ByteArray.mk (Array.mk (@List.nil UInt8))))), (AV.v (Value.int IntKind.i64 (0 : Int))), (AV.v (Value.int IntKind.i64 (H23.openE (ByteArray.extract s (0 : Nat) (0 : Nat))))), AV.dead, AV.dead, AV.dead, AV.dead, AV.dead, AV.dead, AV.dead, AV.dead, AV.dead, AV.dead, AV.dead, AV.dead, AV.dead, AV.dead, AV.dead, AV.dead, AV.dead, AV.dead, AV.dead, AV.dead, AV.dead, AV.dead, AV.dead, AV.dead, AV.dead, AV.dead, AV.dead, AV.dead, AV.dead, AV.dead, AV.dead, AV.dead, AV.dead, AV.dead, AV.dead, AV.dead, AV.dead, AV.dead, AV.dead, AV.dead, AV.dead, AV.dead, AV.dead, AV.dead, AV.dead, AV.dead, AV.dead, AV.dead] (AH.mk [((3 : Nat), [(AV.v (Value.int IntKind.i64 (IntKind.wrap IntKind.i64 ((UInt8.toNat (Array.getD (s).1 (2 : Nat) (0 : UInt8))) : Int))))]), ((3 : Nat), [(AV.v (Value.int IntKind.i64 (0 : Int)))])] (@List.nil Nat) (0 : Nat) (0 : Nat) true (@List.nil (Prod Nat Bool)) True)))) else (some ((cdb (cdb (cdb (cdb (cdb True (decide (((0 : Int) ≤ (0 : Int)) ∧ ((0 : Nat) < (ByteArray.size s))))) (decide (((0 : Int) ≤ (1 : Int)) ∧ ((1 : Nat) < (ByteArray.size s))))) (decide (((0 : Int) ≤ (2 : Int)) ∧ ((2 : Nat) < (ByteArray.size s))))) (decide ((ByteArray.size (ByteArray.extract s (0 : Nat) (0 : Nat))) ≤ (100000 : Nat)))) (decide (((0 : Int) ≤ (4 : Int)) ∧ (((4 : Int) ≤ ((ByteArray.size (H23.openS (ByteArray.extract s (0 : Nat) (0 : Nat)))) : Int)) ∧ (((ByteArray.size (H23.openS (ByteArray.extract s (0 : Nat) (0 : Nat)))) : Int) ≤ ((ByteArray.size (H23.openS (ByteArray.extract s (0 : Nat) (0 : Nat)))) : Int)))))) ∧ (R Exit.ret [AV.dead, AV.dead, (AV.v (Value.int IntKind.i64 (IntKind.wrap IntKind.i64 ((UInt8.toNat (Array.getD (s).1 (2 : Nat) (0 : UInt8))) : Int)))), (AV.v (Value.string (ByteArray.extract (H23.openS (ByteArray.extract s (0 : Nat) (0 : Nat))) (4 : Nat) (Int.toNat ((ByteArray.size (H23.openS (ByteArray.extract s (0 : Nat) (0 : Nat)))) : Int))))), (AV.v (Value.int IntKind.i64 (0 : Int))), (AV.v (Value.int IntKind.i64 (0 : Int))), AV.dead, AV.dead, AV.dead, AV.dead, AV.dead, AV.dead, AV.dead, AV.dead, AV.dead, AV.dead, AV.dead, AV.dead, AV.dead, AV.dead, AV.dead, AV.dead, AV.dead, AV.dead, AV.dead, AV.dead, AV.dead, AV.dead, AV.dead, AV.dead, AV.dead, AV.dead, AV.dead, AV.dead, AV.dead, AV.dead, AV.dead, AV.dead, AV.dead, AV.dead, AV.dead, AV.dead, AV.dead, AV.dead, AV.dead, AV.dead, AV.dead, AV.dead, AV.dead, AV.dead, AV.dead, AV.dead, AV.dead, AV.dead] (AH.mk [((3 : Nat), [(AV.v (Value.int IntKind.i64 (IntKind.wrap IntKind.i64 ((UInt8.toNat (Array.getD (s).1 (2 : Nat) (0 : UInt8))) : Int))))]), ((3 : Nat), [(AV.v (Value.int IntKind.i64 (0 : Int)))])] (@List.nil Nat) (0 : Nat) (0 : Nat) true (@List.nil (Prod Nat Bool)) True))))))) else (some ((cdb (cdb (cdb True (decide (((0 : Int) ≤ (0 : Int)) ∧ ((0 : Nat) < (ByteArray.size s))))) (decide (((0 : Int) ≤ (1 : Int)) ∧ ((1 : Nat) < (ByteArray.size s))))) (decide (((0 : Int) ≤ (2 : Int)) ∧ ((2 : Nat) < (ByteArray.size s))))) ∧ (R Exit.ret [AV.dead, AV.dead, (AV.v (Value.int IntKind.i64 (0 : Int))), (AV.v (Value.string (ByteArray.mk (Array.mk (@List.nil UInt8))))), (AV.v (Value.int IntKind.i64 (0 : Int))), (AV.v (Value.int IntKind.i64 (5 : Int))), AV.dead, AV.dead, AV.dead, AV.dead, AV.dead, AV.dead, AV.dead, AV.dead, AV.dead, AV.dead, AV.dead, AV.dead, AV.dead, AV.dead, AV.dead, AV.dead, AV.dead, AV.dead, AV.dead, AV.dead, AV.dead, AV.dead, AV.dead, AV.dead, AV.dead, AV.dead, AV.dead, AV.dead, AV.dead, AV.dead, AV.dead, AV.dead, AV.dead, AV.dead, AV.dead, AV.dead, AV.dead, AV.dead, AV.dead, AV.dead, AV.dead, AV.dead, AV.dead, AV.dead, AV.dead, AV.dead, AV.dead, AV.dead] (AH.mk [((3 : Nat), [(AV.v (Value.int IntKind.i64 (0 : Int)))]), ((3 : Nat), [(AV.v (Value.int IntKind.i64 (0 : Int)))])] (@List.nil Nat) (0 : Nat) (0 : Nat) true (@List.nil (Prod Nat Bool)) True))))))) else (bif ((IntKind.wrap IntKind.i64 ((UInt8.toNat (Array.getD (s).1 (1 : Nat) (0 : UInt8))) : Int)) != (1 : Int)) then (some ((cdb (cdb True (decide (((0 : Int) ≤ (0 : Int)) ∧ ((0 : Nat) < (ByteArray.size s))))) (decide (((0 : Int) ≤ (1 : Int)) ∧ ((1 : Nat) < (ByteArray.size s))))) ∧ (R Exit.ret [AV.dead, AV.dead, (AV.v (Value.int IntKind.i64 (0 : Int))), (AV.v (Value.string (ByteArray.mk (Array.mk (@List.nil UInt8))))), (AV.v (Value.int IntKind.i64 (0 : Int))), (AV.v (Value.int IntKind.i64 (2 : Int))), AV.dead, AV.dead, AV.dead, AV.dead, AV.dead, AV.dead, AV.dead, AV.dead, AV.dead, AV.dead, AV.dead, AV.dead, AV.dead, AV.dead, AV.dead, AV.dead, AV.dead, AV.dead, AV.dead, AV.dead, AV.dead, AV.dead, AV.dead, AV.dead, AV.dead, AV.dead, AV.dead, AV.dead, AV.dead, AV.dead, AV.dead, AV.dead, AV.dead, AV.dead, AV.dead, AV.dead, AV.dead, AV.dead, AV.dead, AV.dead, AV.dead, AV.dead, AV.dead, AV.dead, AV.dead, AV.dead, AV.dead, AV.dead] (AH.mk [((3 : Nat), [(AV.v (Value.int IntKind.i64 (0 : Int)))]), ((3 : Nat), [(AV.v (Value.int IntKind.i64 (0 : Int)))])] (@List.nil Nat) (0 : Nat) (0 : Nat) true (@List.nil (Prod Nat Bool)) True)))) else (bif (decide ((1 : Int) ≤ (IntKind.wrap IntKind.i64 ((UInt8.toNat (Array.getD (s).1 (2 : Nat) (0 : UInt8))) : Int)))) then (bif (!(decide ((IntKind.wrap IntKind.i64 ((UInt8.toNat (Array.getD (s).1 (2 : Nat) (0 : UInt8))) : Int)) ≤ (3 : Int)))) then (some ((cdb (cdb (cdb True (decide (((0 : Int) ≤ (0 : Int)) ∧ ((0 : Nat) < (ByteArray.size s))))) (decide (((0 : Int) ≤ (1 : Int)) ∧ ((1 : Nat) < (ByteArray.size s))))) (decide (((0 : Int) ≤ (2 : Int)) ∧ ((2 : Nat) < (ByteArray.size s))))) ∧ (R Exit.ret [AV.dead, AV.dead, (AV.v (Value.int IntKind.i64 (0 : Int))), (AV.v (Value.string (ByteArray.mk (Array.mk (@List.nil UInt8))))), (AV.v (Value.int IntKind.i64 (0 : Int))), (AV.v (Value.int IntKind.i64 (5 : Int))), AV.dead, AV.dead, AV.dead, AV.dead, AV.dead, AV.dead, AV.dead, AV.dead, AV.dead, AV.dead, AV.dead, AV.dead, AV.dead, AV.dead, AV.dead, AV.dead, AV.dead, AV.dead, AV.dead, AV.dead, AV.dead, AV.dead, AV.dead, AV.dead, AV.dead, AV.dead, AV.dead, AV.dead, AV.dead, AV.dead, AV.dead, AV.dead, AV.dead, AV.dead, AV.dead, AV.dead, AV.dead, AV.dead, AV.dead, AV.dead, AV.dead, AV.dead, AV.dead, AV.dead, AV.dead, AV.dead, AV.dead, AV.dead] (AH.mk [((3 : Nat), [(AV.v (Value.int IntKind.i64 (0 : Int)))]), ((3 : Nat), [(AV.v (Value.int IntKind.i64 (0 : Int)))])] (@List.nil Nat) (0 : Nat) (0 : Nat) true (@List.nil (Prod Nat Bool)) True)))) else (bif (decide (((ByteArray.size s) : Int) < (4 : Int))) then (some ((cdb (cdb (cdb True (decide (((0 : Int) ≤ (0 : Int)) ∧ ((0 : Nat) < (ByteArray.size s))))) (decide (((0 : Int) ≤ (1 : Int)) ∧ ((1 : Nat) < (ByteArray.size s))))) (decide (((0 : Int) ≤ (2 : Int)) ∧ ((2 : Nat) < (ByteArray.size s))))) ∧ (R Exit.ret [AV.dead, AV.dead, (AV.v (Value.int IntKind.i64 (0 : Int))), (AV.v (Value.string (ByteArray.mk (Array.mk (@List.nil UInt8))))), (AV.v (Value.int IntKind.i64 (0 : Int))), (AV.v (Value.int IntKind.i64 (3 : Int))), AV.dead, AV.dead, AV.dead, AV.dead, AV.dead, AV.dead, AV.dead, AV.dead, AV.dead, AV.dead, AV.dead, AV.dead, AV.dead, AV.dead, AV.dead, AV.dead, AV.dead, AV.dead, AV.dead, AV.dead, AV.dead, AV.dead, AV.dead, AV.dead, AV.dead, AV.dead, AV.dead, AV.dead, AV.dead, AV.dead, AV.dead, AV.dead, AV.dead, AV.dead, AV.dead, AV.dead, AV.dead, AV.dead, AV.dead, AV.dead, AV.dead, AV.dead, AV.dead, AV.dead, AV.dead, AV.dead, AV.dead, AV.dead] (AH.mk [((3 : Nat), [(AV.v (Value.int IntKind.i64 (IntKind.wrap IntKind.i64 ((UInt8.toNat (Array.getD (s).1 (2 : Nat) (0 : UInt8))) : Int))))]), ((3 : Nat), [(AV.v (Value.int IntKind.i64 (0 : Int)))])] (@List.nil Nat) (0 : Nat) (0 : Nat) true (@List.nil (Prod Nat Bool)) True)))) else (bif ((H23.openE (ByteArray.extract s (0 : Nat) (0 : Nat))) != (0 : Int)) then (some ((cdb (cdb (cdb (cdb True (decide (((0 : Int) ≤ (0 : Int)) ∧ ((0 : Nat) < (ByteArray.size s))))) (decide (((0 : Int) ≤ (1 : Int)) ∧ ((1 : Nat) < (ByteArray.size s))))) (decide (((0 : Int) ≤ (2 : Int)) ∧ ((2 : Nat) < (ByteArray.size s))))) (decide ((ByteArray.size (ByteArray.extract s (0 : Nat) (0 : Nat))) ≤ (100000 : Nat)))) ∧ (R Exit.ret [AV.dead, AV.dead, (AV.v (Value.int IntKind.i64 (0 : Int))), (AV.v (Value.string (ByteArray.mk (Array.mk (@List.nil UInt8))))), (AV.v (Value.int IntKind.i64 (0 : Int))), (AV.v (Value.int IntKind.i64 (H23.openE (ByteArray.extract s (0 : Nat) (0 : Nat))))), AV.dead, AV.dead, AV.dead, AV.dead, AV.dead, AV.dead, AV.dead, AV.dead, AV.dead, AV.dead, AV.dead, AV.dead, AV.dead, AV.dead, AV.dead, AV.dead, AV.dead, AV.dead, AV.dead, AV.dead, AV.dead, AV.dead, AV.dead, AV.dead, AV.dead, AV.dead, AV.dead, AV.dead, AV.dead, AV.dead, AV.dead, AV.dead, AV.dead, AV.dead, AV.dead, AV.dead, AV.dead, AV.dead, AV.dead, AV.dead, AV.dead, AV.dead, AV.dead, AV.dead, AV.dead, AV.dead, AV.dead, AV.dead] (AH.mk [((3 : Nat), [(AV.v (Value.int IntKind.i64 (IntKind.wrap IntKind.i64 ((UInt8.toNat (Array.getD (s).1 (2 : Nat) (0 : UInt8))) : Int))))]), ((3 : Nat), [(AV.v (Value.int IntKind.i64 (0 : Int)))])] (@List.nil Nat) (0 : Nat) (0 : Nat) true (@List.nil (Prod Nat Bool)) True)))) else (some ((cdb (cdb (cdb (cdb (cdb True (decide (((0 : Int) ≤ (0 : Int)) ∧ ((0 : Nat) < (ByteArray.size s))))) (decide (((0 : Int) ≤ (1 : Int)) ∧ ((1 : Nat) < (ByteArray.size s))))) (decide (((0 : Int) ≤ (2 : Int)) ∧ ((2 : Nat) < (ByteArray.size s))))) (decide ((ByteArray.size (ByteArray.extract s (0 : Nat) (0 : Nat))) ≤ (100000 : Nat)))) (decide (((0 : Int) ≤ (4 : Int)) ∧ (((4 : Int) ≤ ((ByteArray.size (H23.openS (ByteArray.extract s (0 : Nat) (0 : Nat)))) : Int)) ∧ (((ByteArray.size (H23.openS (ByteArray.extract s (0 : Nat) (0 : Nat)))) : Int) ≤ ((ByteArray.size (H23.openS (ByteArray.extract s (0 : Nat) (0 : Nat)))) : Int)))))) ∧ (R Exit.ret [AV.dead, AV.dead, (AV.v (Value.int IntKind.i64 (IntKind.wrap IntKind.i64 ((UInt8.toNat (Array.getD (s).1 (2 : Nat) (0 : UInt8))) : Int)))), (AV.v (Value.string (ByteArray.extract (H23.openS (ByteArray.extract s (0 : Nat) (0 : Nat))) (4 : Nat) (Int.toNat ((ByteArray.size (H23.openS (ByteArray.extract s (0 : Nat) (0 : Nat)))) : Int))))), (AV.v (Value.int IntKind.i64 (0 : Int))), (AV.v (Value.int IntKind.i64 (0 : Int))), AV.dead, AV.dead, AV.dead, AV.dead, AV.dead, AV.dead, AV.dead, AV.dead, AV.dead, AV.dead, AV.dead, AV.dead, AV.dead, AV.dead, AV.dead, AV.dead, AV.dead, AV.dead, AV.dead, AV.dead, AV.dead, AV.dead, AV.dead, AV.dead, AV.dead, AV.dead, AV.dead, AV.dead, AV.dead, AV.dead, AV.dead, AV.dead, AV.dead, AV.dead, AV.dead, AV.dead, AV.dead, AV.dead, AV.dead, AV.dead, AV.dead, AV.dead, AV.dead, AV.dead, AV.dead, AV.dead, AV.dead, AV.dead] (AH.mk [((3 : Nat), [(AV.v (Value.int IntKind.i64 (IntKind.wrap IntKind.i64 ((UInt8.toNat (Array.getD (s).1 (2 : Nat) (0 : UInt8))) : Int))))]), ((3 : Nat), [(AV.v (Value.int IntKind.i64 (0 : Int)))])] (@List.nil Nat) (0 : Nat) (0 : Nat) true (@List.nil (Prod Nat Bool)) True))))))) else (some ((cdb (cdb (cdb True (decide (((0 : Int) ≤ (0 : Int)) ∧ ((0 : Nat) < (ByteArray.size s))))) (decide (((0 : Int) ≤ (1 : Int)) ∧ ((1 : Nat) < (ByteArray.size s))))) (decide (((0 : Int) ≤ (2 : Int)) ∧ ((2 : Nat) < (ByteArray.size s))))) ∧ (R Exit.ret [AV.dead, AV.dead, (AV.v (Value.int IntKind.i64 (0 : Int))), (AV.v (Value.string (ByteArray.mk (Array.mk (@List.nil UInt8))))), (AV.v (Value.int IntKind.i64 (0 : Int))), (AV.v (Value.int IntKind.i64 (5 : Int))), AV.dead, AV.dead, AV.dead, AV.dead, AV.dead, AV.dead, AV.dead, AV.dead, AV.dead, AV.dead, AV.dead, AV.dead, AV.dead, AV.dead, AV.dead, AV.dead, AV.dead, AV.dead, AV.dead, AV.dead, AV.dead, AV.dead, AV.dead, AV.dead, AV.dead, AV.dead, AV.dead, AV.dead, AV.dead, AV.dead, AV.dead, AV.dead, AV.dead, AV.dead, AV.dead, AV.dead, AV.dead, AV.dead, AV.dead, AV.dead, AV.dead, AV.dead, AV.dead, AV.dead, AV.dead, AV.dead, AV.dead, AV.dead] (AH.mk [((3 : Nat), [(AV.v (Value.int IntKind.i64 (0 : Int)))]), ((3 : Nat), [(AV.v (Value.int IntKind.i64 (0 : Int)))])] (@List.nil Nat) (0 : Nat) (0 : Nat) true (@List.nil (Prod Nat Bool)) True))))))) := by kernel_rfl
theorem h_go4 (s : ByteArray) (R : Exit → List AV → AH → Prop) : codeL nro (fun _ => false) prH 5 ((flatten (bodyOf 20)).drop 4) ([.v (.string s)] ++ List.replicate 5 .dead ++ [.ptr 0 0, .ptr 1 0, .fn (.func 32) [] [.ptr 0 0, .ptr 1 0]] ++ List.replicate 7 .dead ++ [.v (.int .i64 4), .v (.int .i64 0)] ++ List.replicate 36 .dead) (hp [(3, [.v (.int .i64 0)]), (3, [.v (.int .i64 0)])] []) (kp [2, 3, 4, 5] R) =
    (bif ((IntKind.wrap IntKind.i64 ((UInt8.toNat (Array.getD (s).1 (0 : Nat) (0 : UInt8))) : Int)) != (183 : Int)) then (bif ((IntKind.wrap IntKind.i64 ((UInt8.toNat (Array.getD (s).1 (0 : Nat) (0 : UInt8))) : Int)) != (183 : Int)) then (some ((cdb True (decide (((0 : Int) ≤ (0 : Int)) ∧ ((0 : Nat) < (ByteArray.size s))))) ∧ (R Exit.ret [AV.dead, AV.dead, (AV.v (Value.int IntKind.i64 (0 : Int))), (AV.v (Value.string (ByteArray.mk (Array.mk (@List.nil UInt8))))), (AV.v (Value.int IntKind.i64 (0 : Int))), (AV.v (Value.int IntKind.i64 (2 : Int))), AV.dead, AV.dead, AV.dead, AV.dead, AV.dead, AV.dead, AV.dead, AV.dead, AV.dead, AV.dead, AV.dead, AV.dead, AV.dead, AV.dead, AV.dead, AV.dead, AV.dead, AV.dead, AV.dead, AV.dead, AV.dead, AV.dead, AV.dead, AV.dead, AV.dead, AV.dead, AV.dead, AV.dead, AV.dead, AV.dead, AV.dead, AV.dead, AV.dead, AV.dead, AV.dead, AV.dead, AV.dead, AV.dead, AV.dead, AV.dead, AV.dead, AV.dead, AV.dead, AV.dead, AV.dead, AV.dead, AV.dead, AV.dead] (AH.mk [((3 : Nat), [(AV.v (Value.int IntKind.i64 (0 : Int)))]), ((3 : Nat), [(AV.v (Value.int IntKind.i64 (0 : Int)))])] (@List.nil Nat) (0 : Nat) (0 : Nat) true (@List.nil (Prod Nat Bool)) True)))) else (bif ((IntKind.wrap IntKind.i64 ((UInt8.toNat (Array.getD (s).1 (1 : Nat) (0 : UInt8))) : Int)) != (1 : Int)) then (some ((cdb (cdb True (decide (((0 : Int) ≤ (0 : Int)) ∧ ((0 : Nat) < (ByteArray.size s))))) (decide (((0 : Int) ≤ (1 : Int)) ∧ ((1 : Nat) < (ByteArray.size s))))) ∧ (R Exit.ret [AV.dead, AV.dead, (AV.v (Value.int IntKind.i64 (0 : Int))), (AV.v (Value.string (ByteArray.mk (Array.mk (@List.nil UInt8))))), (AV.v (Value.int IntKind.i64 (0 : Int))), (AV.v (Value.int IntKind.i64 (2 : Int))), AV.dead, AV.dead, AV.dead, AV.dead, AV.dead, AV.dead, AV.dead, AV.dead, AV.dead, AV.dead, AV.dead, AV.dead, AV.dead, AV.dead, AV.dead, AV.dead, AV.dead, AV.dead, AV.dead, AV.dead, AV.dead, AV.dead, AV.dead, AV.dead, AV.dead, AV.dead, AV.dead, AV.dead, AV.dead, AV.dead, AV.dead, AV.dead, AV.dead, AV.dead, AV.dead, AV.dead, AV.dead, AV.dead, AV.dead, AV.dead, AV.dead, AV.dead, AV.dead, AV.dead, AV.dead, AV.dead, AV.dead, AV.dead] (AH.mk [((3 : Nat), [(AV.v (Value.int IntKind.i64 (0 : Int)))]), ((3 : Nat), [(AV.v (Value.int IntKind.i64 (0 : Int)))])] (@List.nil Nat) (0 : Nat) (0 : Nat) true (@List.nil (Prod Nat Bool)) True)))) else (bif (decide ((1 : Int) ≤ (IntKind.wrap IntKind.i64 ((UInt8.toNat (Array.getD (s).1 (2 : Nat) (0 : UInt8))) : Int)))) then (bif (!(decide ((IntKind.wrap IntKind.i64 ((UInt8.toNat (Array.getD (s).1 (2 : Nat) (0 : UInt8))) : Int)) ≤ (3 : Int)))) then (some ((cdb (cdb (cdb True (decide (((0 : Int) ≤ (0 : Int)) ∧ ((0 : Nat) < (ByteArray.size s))))) (decide (((0 : Int) ≤ (1 : Int)) ∧ ((1 : Nat) < (ByteArray.size s))))) (decide (((0 : Int) ≤ (2 : Int)) ∧ ((2 : Nat) < (ByteArray.size s))))) ∧ (R Exit.ret [AV.dead, AV.dead, (AV.v (Value.int IntKind.i64 (0 : Int))), (AV.v (Value.string (ByteArray.mk (Array.mk (@List.nil UInt8))))), (AV.v (Value.int IntKind.i64 (0 : Int))), (AV.v (Value.int IntKind.i64 (5 : Int))), AV.dead, AV.dead, AV.dead, AV.dead, AV.dead, AV.dead, AV.dead, AV.dead, AV.dead, AV.dead, AV.dead, AV.dead, AV.dead, AV.dead, AV.dead, AV.dead, AV.dead, AV.dead, AV.dead, AV.dead, AV.dead, AV.dead, AV.dead, AV.dead, AV.dead, AV.dead, AV.dead, AV.dead, AV.dead, AV.dead, AV.dead, AV.dead, AV.dead, AV.dead, AV.dead, AV.dead, AV.dead, AV.dead, AV.dead, AV.dead, AV.dead, AV.dead, AV.dead, AV.dead, AV.dead, AV.dead, AV.dead, AV.dead] (AH.mk [((3 : Nat), [(AV.v (Value.int IntKind.i64 (0 : Int)))]), ((3 : Nat), [(AV.v (Value.int IntKind.i64 (0 : Int)))])] (@List.nil Nat) (0 : Nat) (0 : Nat) true (@List.nil (Prod Nat Bool)) True)))) else (bif (decide ((200 : Int) < (IntKind.wrap IntKind.i64 ((UInt8.toNat (Array.getD (s).1 (3 : Nat) (0 : UInt8))) : Int)))) then (some ((cdb (cdb (cdb (cdb True (decide (((0 : Int) ≤ (0 : Int)) ∧ ((0 : Nat) < (ByteArray.size s))))) (decide (((0 : Int) ≤ (1 : Int)) ∧ ((1 : Nat) < (ByteArray.size s))))) (decide (((0 : Int) ≤ (2 : Int)) ∧ ((2 : Nat) < (ByteArray.size s))))) (decide (((0 : Int) ≤ (3 : Int)) ∧ ((3 : Nat) < (ByteArray.size s))))) ∧ (R Exit.ret [AV.dead, AV.dead, (AV.v (Value.int IntKind.i64 (0 : Int))), (AV.v (Value.string (ByteArray.mk (Array.mk (@List.nil UInt8))))), (AV.v (Value.int IntKind.i64 (0 : Int))), (AV.v (Value.int IntKind.i64 (9 : Int))), AV.dead, AV.dead, AV.dead, AV.dead, AV.dead, AV.dead, AV.dead, AV.dead, AV.dead, AV.dead, AV.dead, AV.dead, AV.dead, AV.dead, AV.dead, AV.dead, AV.dead, AV.dead, AV.dead, AV.dead, AV.dead, AV.dead, AV.dead, AV.dead, AV.dead, AV.dead, AV.dead, AV.dead, AV.dead, AV.dead, AV.dead, AV.dead, AV.dead, AV.dead, AV.dead, AV.dead, AV.dead, AV.dead, AV.dead, AV.dead, AV.dead, AV.dead, AV.dead, AV.dead, AV.dead, AV.dead, AV.dead, AV.dead] (AH.mk [((3 : Nat), [(AV.v (Value.int IntKind.i64 (IntKind.wrap IntKind.i64 ((UInt8.toNat (Array.getD (s).1 (2 : Nat) (0 : UInt8))) : Int))))]), ((3 : Nat), [(AV.v (Value.int IntKind.i64 (0 : Int)))])] (@List.nil Nat) (0 : Nat) (0 : Nat) true (@List.nil (Prod Nat Bool)) True)))) else (bif (decide ((IntKind.wrap IntKind.i64 ((UInt8.toNat (Array.getD (s).1 (3 : Nat) (0 : UInt8))) : Int)) < (0 : Int))) then (bif (decide (((ByteArray.size s) : Int) < (4 : Int))) then (some ((cdb (cdb (cdb (cdb True (decide (((0 : Int) ≤ (0 : Int)) ∧ ((0 : Nat) < (ByteArray.size s))))) (decide (((0 : Int) ≤ (1 : Int)) ∧ ((1 : Nat) < (ByteArray.size s))))) (decide (((0 : Int) ≤ (2 : Int)) ∧ ((2 : Nat) < (ByteArray.size s))))) (decide (((0 : Int) ≤ (3 : Int)) ∧ ((3 : Nat) < (ByteArray.size s))))) ∧ (R Exit.ret [AV.dead, AV.dead, (AV.v (Value.int IntKind.i64 (0 : Int))), (AV.v (Value.string (ByteArray.mk (Array.mk (@List.nil UInt8))))), (AV.v (Value.int IntKind.i64 (0 : Int))), (AV.v (Value.int IntKind.i64 (3 : Int))), AV.dead, AV.dead, AV.dead, AV.dead, AV.dead, AV.dead, AV.dead, AV.dead, AV.dead, AV.dead, AV.dead, AV.dead, AV.dead, AV.dead, AV.dead, AV.dead, AV.dead, AV.dead, AV.dead, AV.dead, AV.dead, AV.dead, AV.dead, AV.dead, AV.dead, AV.dead, AV.dead, AV.dead, AV.dead, AV.dead, AV.dead, AV.dead, AV.dead, AV.dead, AV.dead, AV.dead, AV.dead, AV.dead, AV.dead, AV.dead, AV.dead, AV.dead, AV.dead, AV.dead, AV.dead, AV.dead, AV.dead, AV.dead] (AH.mk [((3 : Nat), [(AV.v (Value.int IntKind.i64 (IntKind.wrap IntKind.i64 ((UInt8.toNat (Array.getD (s).1 (2 : Nat) (0 : UInt8))) : Int))))]), ((3 : Nat), [(AV.v (Value.int IntKind.i64 (0 : Int)))])] (@List.nil Nat) (0 : Nat) (0 : Nat) true (@List.nil (Prod Nat Bool)) True)))) else (bif ((H23.openE (ByteArray.extract s (0 : Nat) (0 : Nat))) != (0 : Int)) then (some ((cdb (cdb (cdb (cdb (cdb True (decide (((0 : Int) ≤ (0 : Int)) ∧ ((0 : Nat) < (ByteArray.size s))))) (decide (((0 : Int) ≤ (1 : Int)) ∧ ((1 : Nat) < (ByteArray.size s))))) (decide (((0 : Int) ≤ (2 : Int)) ∧ ((2 : Nat) < (ByteArray.size s))))) (decide (((0 : Int) ≤ (3 : Int)) ∧ ((3 : Nat) < (ByteArray.size s))))) (decide ((ByteArray.size (ByteArray.extract s (0 : Nat) (0 : Nat))) ≤ (100000 : Nat)))) ∧ (R Exit.ret [AV.dead, AV.dead, (AV.v (Value.int IntKind.i64 (0 : Int))), (AV.v (Value.string (ByteArray.mk (Array.mk (@List.nil UInt8))))), (AV.v (Value.int IntKind.i64 (0 : Int))), (AV.v (Value.int IntKind.i64 (H23.openE (ByteArray.extract s (0 : Nat) (0 : Nat))))), AV.dead, AV.dead, AV.dead, AV.dead, AV.dead, AV.dead, AV.dead, AV.dead, AV.dead, AV.dead, AV.dead, AV.dead, AV.dead, AV.dead, AV.dead, AV.dead, AV.dead, AV.dead, AV.dead, AV.dead, AV.dead, AV.dead, AV.dead, AV.dead, AV.dead, AV.dead, AV.dead, AV.dead, AV.dead, AV.dead, AV.dead, AV.dead, AV.dead, AV.dead, AV.dead, AV.dead, AV.dead, AV.dead, AV.dead, AV.dead, AV.dead, AV.dead, AV.dead, AV.dead, AV.dead, AV.dead, AV.dead, AV.dead] (AH.mk [((3 : Nat), [(AV.v (Value.int IntKind.i64 (IntKind.wrap IntKind.i64 ((UInt8.toNat (Array.getD (s).1 (2 : Nat) (0 : UInt8))) : Int))))]), ((3 : Nat), [(AV.v (Value.int IntKind.i64 (0 : Int)))])] (@List.nil Nat) (0 : Nat) (0 : Nat) true (@List.nil (Prod Nat Bool)) True)))) else (some ((cdb (cdb (cdb (cdb (cdb (cdb True (decide (((0 : Int) ≤ (0 : Int)) ∧ ((0 : Nat) < (ByteArray.size s))))) (decide (((0 : Int) ≤ (1 : Int)) ∧ ((1 : Nat) < (ByteArray.size s))))) (decide (((0 : Int) ≤ (2 : Int)) ∧ ((2 : Nat) < (ByteArray.size s))))) (decide (((0 : Int) ≤ (3 : Int)) ∧ ((3 : Nat) < (ByteArray.size s))))) (decide ((ByteArray.size (ByteArray.extract s (0 : Nat) (0 : Nat))) ≤ (100000 : Nat)))) (decide (((0 : Int) ≤ (4 : Int)) ∧ (((4 : Int) ≤ ((ByteArray.size (H23.openS (ByteArray.extract s (0 : Nat) (0 : Nat)))) : Int)) ∧ (((ByteArray.size (H23.openS (ByteArray.extract s (0 : Nat) (0 : Nat)))) : Int) ≤ ((ByteArray.size (H23.openS (ByteArray.extract s (0 : Nat) (0 : Nat)))) : Int)))))) ∧ (R Exit.ret [AV.dead, AV.dead, (AV.v (Value.int IntKind.i64 (IntKind.wrap IntKind.i64 ((UInt8.toNat (Array.getD (s).1 (2 : Nat) (0 : UInt8))) : Int)))), (AV.v (Value.string (ByteArray.extract (H23.openS (ByteArray.extract s (0 : Nat) (0 : Nat))) (4 : Nat) (Int.toNat ((ByteArray.size (H23.openS (ByteArray.extract s (0 : Nat) (0 : Nat)))) : Int))))), (AV.v (Value.int IntKind.i64 (0 : Int))), (AV.v (Value.int IntKind.i64 (0 : Int))), AV.dead, AV.dead, AV.dead, AV.dead, AV.dead, AV.dead, AV.dead, AV.dead, AV.dead, AV.dead, AV.dead, AV.dead, AV.dead, AV.dead, AV.dead, AV.dead, AV.dead, AV.dead, AV.dead, AV.dead, AV.dead, AV.dead, AV.dead, AV.dead, AV.dead, AV.dead, AV.dead, AV.dead, AV.dead, AV.dead, AV.dead, AV.dead, AV.dead, AV.dead, AV.dead, AV.dead, AV.dead, AV.dead, AV.dead, AV.dead, AV.dead, AV.dead, AV.dead, AV.dead, AV.dead, AV.dead, AV.dead, AV.dead] (AH.mk [((3 : Nat), [(AV.v (Value.int IntKind.i64 (IntKind.wrap IntKind.i64 ((UInt8.toNat (Array.getD (s).1 (2 : Nat) (0 : UInt8))) : Int))))]), ((3 : Nat), [(AV.v (Value.int IntKind.i64 (0 : Int)))])] (@List.nil Nat) (0 : Nat) (0 : Nat) true (@List.nil (Prod Nat Bool)) True)))))) else (bif (decide ((200 : Int) < (IntKind.wrap IntKind.i64 ((UInt8.toNat (Array.getD (s).1 (3 : Nat) (0 : UInt8))) : Int)))) then (bif (decide (((ByteArray.size s) : Int) < (4 : Int))) then (some ((cdb (cdb (cdb (cdb True (decide (((0 : Int) ≤ (0 : Int)) ∧ ((0 : Nat) < (ByteArray.size s))))) (decide (((0 : Int) ≤ (1 : Int)) ∧ ((1 : Nat) < (ByteArray.size s))))) (decide (((0 : Int) ≤ (2 : Int)) ∧ ((2 : Nat) < (ByteArray.size s))))) (decide (((0 : Int) ≤ (3 : Int)) ∧ ((3 : Nat) < (ByteArray.size s))))) ∧ (R Exit.ret [AV.dead, AV.dead, (AV.v (Value.int IntKind.i64 (0 : Int))), (AV.v (Value.string (ByteArray.mk (Array.mk (@List.nil UInt8))))), (AV.v (Value.int IntKind.i64 (0 : Int))), (AV.v (Value.int IntKind.i64 (3 : Int))), AV.dead, AV.dead, AV.dead, AV.dead, AV.dead, AV.dead, AV.dead, AV.dead, AV.dead, AV.dead, AV.dead, AV.dead, AV.dead, AV.dead, AV.dead, AV.dead, AV.dead, AV.dead, AV.dead, AV.dead, AV.dead, AV.dead, AV.dead, AV.dead, AV.dead, AV.dead, AV.dead, AV.dead, AV.dead, AV.dead, AV.dead, AV.dead, AV.dead, AV.dead, AV.dead, AV.dead, AV.dead, AV.dead, AV.dead, AV.dead, AV.dead, AV.dead, AV.dead, AV.dead, AV.dead, AV.dead, AV.dead, AV.dead] (AH.mk [((3 : Nat), [(AV.v (Value.int IntKind.i64 (IntKind.wrap IntKind.i64 ((UInt8.toNat (Array.getD (s).1 (2 : Nat) (0 : UInt8))) : Int))))]), ((3 : Nat), [(AV.v (Value.int IntKind.i64 (0 : Int)))])] (@List.nil Nat) (0 : Nat) (0 : Nat) true (@List.nil (Prod Nat Bool)) True)))) else (bif ((H23.openE (ByteArray.extract s (0 : Nat) (0 : Nat))) != (0 : Int)) then (some ((cdb (cdb (cdb (cdb (cdb True (decide (((0 : Int) ≤ (0 : Int)) ∧ ((0 : Nat) < (ByteArray.size s))))) (decide (((0 : Int) ≤ (1 : Int)) ∧ ((1 : Nat) < (ByteArray.size s))))) (decide (((0 : Int) ≤ (2 : Int)) ∧ ((2 : Nat) < (ByteArray.size s))))) (decide (((0 : Int) ≤ (3 : Int)) ∧ ((3 : Nat) < (ByteArray.size s))))) (decide ((ByteArray.size (ByteArray.extract s (0 : Nat) (0 : Nat))) ≤ (100000 : Nat)))) ∧ (R Exit.ret [AV.dead, AV.dead, (AV.v (Value.int IntKind.i64 (0 : Int))), (AV.v (Value.string (ByteArray.mk (Array.mk (@List.nil UInt8))))), (AV.v (Value.int IntKind.i64 (0 : Int))), (AV.v (Value.int IntKind.i64 (H23.openE (ByteArray.extract s (0 : Nat) (0 : Nat))))), AV.dead, AV.dead, AV.dead, AV.dead, AV.dead, AV.dead, AV.dead, AV.dead, AV.dead, AV.dead, AV.dead, AV.dead, AV.dead, AV.dead, AV.dead, AV.dead, AV.dead, AV.dead, AV.dead, AV.dead, AV.dead, AV.dead, AV.dead, AV.dead, AV.dead, AV.dead, AV.dead, AV.dead, AV.dead, AV.dead, AV.dead, AV.dead, AV.dead, AV.dead, AV.dead, AV.dead, AV.dead, AV.dead, AV.dead, AV.dead, AV.dead, AV.dead, AV.dead, AV.dead, AV.dead, AV.dead, AV.dead, AV.dead] (AH.mk [((3 : Nat), [(AV.v (Value.int IntKind.i64 (IntKind.wrap IntKind.i64 ((UInt8.toNat (Array.getD (s).1 (2 : Nat) (0 : UInt8))) : Int))))]), ((3 : Nat), [(AV.v (Value.int IntKind.i64 (0 : Int)))])] (@List.nil Nat) (0 : Nat) (0 : Nat) true (@List.nil (Prod Nat Bool)) True)))) else (some ((cdb (cdb (cdb (cdb (cdb (cdb True (decide (((0 : Int) ≤ (0 : Int)) ∧ ((0 : Nat) < (ByteArray.size s))))) (decide (((0 : Int) ≤ (1 : Int)) ∧ ((1 : Nat) < (ByteArray.size s))))) (decide (((0 : Int) ≤ (2 : Int)) ∧ ((2 : Nat) < (ByteArray.size s))))) (decide (((0 : Int) ≤ (3 : Int)) ∧ ((3 : Nat) < (ByteArray.size s))))) (decide ((ByteArray.size (ByteArray.extract s (0 : Nat) (0 : Nat))) ≤ (100000 : Nat)))) (decide (((0 : Int) ≤ (4 : Int)) ∧ (((4 : Int) ≤ ((ByteArray.size (H23.openS (ByteArray.extract s (0 : Nat) (0 : Nat)))) : Int)) ∧ (((ByteArray.size (H23.openS (ByteArray.extract s (0 : Nat) (0 : Nat)))) : Int) ≤ ((ByteArray.size (H23.openS (ByteArray.extract s (0 : Nat) (0 : Nat)))) : Int)))))) ∧ (R Exit.ret [AV.dead, AV.dead, (AV.v (Value.int IntKind.i64 (IntKind.wrap IntKind.i64 ((UInt8.toNat (Array.getD (s).1 (2 : Nat) (0 : UInt8))) : Int)))), (AV.v (Value.string (ByteArray.extract (H23.openS (ByteArray.extract s (0 : Nat) (0 : Nat))) (4 : Nat) (Int.toNat ((ByteArray.size (H23.openS (ByteArray.extract s (0 : Nat) (0 : Nat)))) : Int))))), (AV.v (Value.int IntKind.i64 (0 : Int))), (AV.v (Value.int IntKind.i64 (0 : Int))), AV.dead, AV.dead, AV.dead, AV.dead, AV.dead, AV.dead, AV.dead, AV.dead, AV.dead, AV.dead, AV.dead, AV.dead, AV.dead, AV.dead, AV.dead, AV.dead, AV.dead, AV.dead, AV.dead, AV.dead, AV.dead, AV.dead, AV.dead, AV.dead, AV.dead, AV.dead, AV.dead, AV.dead, AV.dead, AV.dead, AV.dead, AV.dead, AV.dead, AV.dead, AV.dead, AV.dead, AV.dead, AV.dead, AV.dead, AV.dead, AV.dead, AV.dead, AV.dead, AV.dead, AV.dead, AV.dead, AV.dead, AV.dead] (AH.mk [((3 : Nat), [(AV.v (Value.int IntKind.i64 (IntKind.wrap IntKind.i64 ((UInt8.toNat (Array.getD (s).1 (2 : Nat) (0 : UInt8))) : Int))))]), ((3 : Nat), [(AV.v (Value.int IntKind.i64 (0 : Int)))])] (@List.nil Nat) (0 : Nat) (0 : Nat) true (@List.nil (Prod Nat Bool)) True)))))) else (bif (decide (((ByteArray.size s) : Int) < (4 : Int))) then (some ((cdb (cdb (cdb (cdb True (decide (((0 : Int) ≤ (0 : Int)) ∧ ((0 : Nat) < (ByteArray.size s))))) (decide (((0 : Int) ≤ (1 : Int)) ∧ ((1 : Nat) < (ByteArray.size s))))) (decide (((0 : Int) ≤ (2 : Int)) ∧ ((2 : Nat) < (ByteArray.size s))))) (decide (((0 : Int) ≤ (3 : Int)) ∧ ((3 : Nat) < (ByteArray.size s))))) ∧ (R Exit.ret [AV.dead, AV.dead, (AV.v (Value.int IntKind.i64 (0 : Int))), (AV.v (Value.string (ByteArray.mk (Array.mk (@List.nil UInt8))))), (AV.v (Value.int IntKind.i64 (0 : Int))), (AV.v (Value.int IntKind.i64 (3 : Int))), AV.dead, AV.dead, AV.dead, AV.dead, AV.dead, AV.dead, AV.dead, AV.dead, AV.dead, AV.dead, AV.dead, AV.dead, AV.dead, AV.dead, AV.dead, AV.dead, AV.dead, AV.dead, AV.dead, AV.dead, AV.dead, AV.dead, AV.dead, AV.dead, AV.dead, AV.dead, AV.dead, AV.dead, AV.dead, AV.dead, AV.dead, AV.dead, AV.dead, AV.dead, AV.dead, AV.dead, AV.dead, AV.dead, AV.dead, AV.dead, AV.dead, AV.dead, AV.dead, AV.dead, AV.dead, AV.dead, AV.dead, AV.dead] (AH.mk [((3 : Nat), [(AV.v (Value.int IntKind.i64 (IntKind.wrap IntKind.i64 ((UInt8.toNat (Array.getD (s).1 (2 : Nat) (0 : UInt8))) : Int))))]), ((3 : Nat), [(AV.v (Value.int IntKind.i64 (IntKind.wrap IntKind.i64 ((IntKind.wrap IntKind.i64 ((4 : Int) + (IntKind.wrap IntKind.i64 ((UInt8.toNat (Array.getD (s).1 (3 : Nat) (0 : UInt8))) : Int)))) + (2 : Int)))))])] (@List.nil Nat) (0 : Nat) (0 : Nat) true (@List.nil (Prod Nat Bool)) True)))) else (bif (decide (((ByteArray.size s) : Int) < (IntKind.wrap IntKind.i64 ((IntKind.wrap IntKind.i64 ((4 : Int) + (IntKind.wrap IntKind.i64 ((UInt8.toNat (Array.getD (s).1 (3 : Nat) (0 : UInt8))) : Int)))) + (2 : Int))))) then (some ((cdb (cdb (cdb (cdb True (decide (((0 : Int) ≤ (0 : Int)) ∧ ((0 : Nat) < (ByteArray.size s))))) (decide (((0 : Int) ≤ (1 : Int)) ∧ ((1 : Nat) < (ByteArray.size s))))) (decide (((0 : Int) ≤ (2 : Int)) ∧ ((2 : Nat) < (ByteArray.size s))))) (decide (((0 : Int) ≤ (3 : Int)) ∧ ((3 : Nat) < (ByteArray.size s))))) ∧ (R Exit.ret [AV.dead, AV.dead, (AV.v (Value.int IntKind.i64 (0 : Int))), (AV.v (Value.string (ByteArray.mk (Array.mk (@List.nil UInt8))))), (AV.v (Value.int IntKind.i64 (0 : Int))), (AV.v (Value.int IntKind.i64 (3 : Int))), AV.dead, AV.dead, AV.dead, AV.dead, AV.dead, AV.dead, AV.dead, AV.dead, AV.dead, AV.dead, AV.dead, AV.dead, AV.dead, AV.dead, AV.dead, AV.dead, AV.dead, AV.dead, AV.dead, AV.dead, AV.dead, AV.dead, AV.dead, AV.dead, AV.dead, AV.dead, AV.dead, AV.dead, AV.dead, AV.dead, AV.dead, AV.dead, AV.dead, AV.dead, AV.dead, AV.dead, AV.dead, AV.dead, AV.dead, AV.dead, AV.dead, AV.dead, AV.dead, AV.dead, AV.dead, AV.dead, AV.dead, AV.dead] (AH.mk [((3 : Nat), [(AV.v (Value.int IntKind.i64 (IntKind.wrap IntKind.i64 ((UInt8.toNat (Array.getD (s).1 (2 : Nat) (0 : UInt8))) : Int))))]), ((3 : Nat), [(AV.v (Value.int IntKind.i64 (IntKind.wrap IntKind.i64 ((IntKind.wrap IntKind.i64 ((4 : Int) + (IntKind.wrap IntKind.i64 ((UInt8.toNat (Array.getD (s).1 (3 : Nat) (0 : UInt8))) : Int)))) + (2 : Int)))))])] (@List.nil Nat) (0 : Nat) (0 : Nat) true (@List.nil (Prod Nat Bool)) True)))) else (bif ((H23.openE (ByteArray.extract s (0 : Nat) (Int.toNat (IntKind.wrap IntKind.i64 ((IntKind.wrap IntKind.i64 ((4 : Int) + (IntKind.wrap IntKind.i64 ((UInt8.toNat (Array.getD (s).1 (3 : Nat) (0 : UInt8))) : Int)))) + (2 : Int)))))) != (0 : Int)) then (some ((cdb (cdb (cdb (cdb (cdb (cdb True (decide (((0 : Int) ≤ (0 : Int)) ∧ ((0 : Nat) < (ByteArray.size s))))) (decide (((0 : Int) ≤ (1 : Int)) ∧ ((1 : Nat) < (ByteArray.size s))))) (decide (((0 : Int) ≤ (2 : Int)) ∧ ((2 : Nat) < (ByteArray.size s))))) (decide (((0 : Int) ≤ (3 : Int)) ∧ ((3 : Nat) < (ByteArray.size s))))) (decide (((0 : Int) ≤ (0 : Int)) ∧ (((0 : Int) ≤ (IntKind.wrap IntKind.i64 ((IntKind.wrap IntKind.i64 ((4 : Int) + (IntKind.wrap IntKind.i64 ((UInt8.toNat (Array.getD (s).1 (3 : Nat) (0 : UInt8))) : Int)))) + (2 : Int)))) ∧ ((IntKind.wrap IntKind.i64 ((IntKind.wrap IntKind.i64 ((4 : Int) + (IntKind.wrap IntKind.i64 ((UInt8.toNat (Array.getD (s).1 (3 : Nat) (0 : UInt8))) : Int)))) + (2 : Int))) ≤ ((ByteArray.size s) : Int)))))) (decide ((ByteArray.size (ByteArray.extract s (0 : Nat) (Int.toNat (IntKind.wrap IntKind.i64 ((IntKind.wrap IntKind.i64 ((4 : Int) + (IntKind.wrap IntKind.i64 ((UInt8.toNat (Array.getD (s).1 (3 : Nat) (0 : UInt8))) : Int)))) + (2 : Int)))))) ≤ (100000 : Nat)))) ∧ (R Exit.ret [AV.dead, AV.dead, (AV.v (Value.int IntKind.i64 (0 : Int))), (AV.v (Value.string (ByteArray.mk (Array.mk (@List.nil UInt8))))), (AV.v (Value.int IntKind.i64 (0 : Int))), (AV.v (Value.int IntKind.i64 (H23.openE (ByteArray.extract s (0 : Nat) (Int.toNat (IntKind.wrap IntKind.i64 ((IntKind.wrap IntKind.i64 ((4 : Int) + (IntKind.wrap IntKind.i64 ((UInt8.toNat (Array.getD (s).1 (3 : Nat) (0 : UInt8))) : Int)))) + (2 : Int)))))))), AV.dead, AV.dead, AV.dead, AV.dead, AV.dead, AV.dead, AV.dead, AV.dead, AV.dead, AV.dead, AV.dead, AV.dead, AV.dead, AV.dead, AV.dead, AV.dead, AV.dead, AV.dead, AV.dead, AV.dead, AV.dead, AV.dead, AV.dead, AV.dead, AV.dead, AV.dead, AV.dead, AV.dead, AV.dead, AV.dead, AV.dead, AV.dead, AV.dead, AV.dead, AV.dead, AV.dead, AV.dead, AV.dead, AV.dead, AV.dead, AV.dead, AV.dead, AV.dead, AV.dead, AV.dead, AV.dead, AV.dead, AV.dead] (AH.mk [((3 : Nat), [(AV.v (Value.int IntKind.i64 (IntKind.wrap IntKind.i64 ((UInt8.toNat (Array.getD (s).1 (2 : Nat) (0 : UInt8))) : Int))))]), ((3 : Nat), [(AV.v (Value.int IntKind.i64 (IntKind.wrap IntKind.i64 ((IntKind.wrap IntKind.i64 ((4 : Int) + (IntKind.wrap IntKind.i64 ((UInt8.toNat (Array.getD (s).1 (3 : Nat) (0 : UInt8))) : Int)))) + (2 : Int)))))])] (@List.nil Nat) (0 : Nat) (0 : Nat) true (@List.nil (Prod Nat Bool)) True)))) else (some ((cdb (cdb (cdb (cdb (cdb (cdb (cdb True (decide (((0 : Int) ≤ (0 : Int)) ∧ ((0 : Nat) < (ByteArray.size s))))) (decide (((0 : Int) ≤ (1 : Int)) ∧ ((1 : Nat) < (ByteArray.size s))))) (decide (((0 : Int) ≤ (2 : Int)) ∧ ((2 : Nat) < (ByteArray.size s))))) (decide (((0 : Int) ≤ (3 : Int)) ∧ ((3 : Nat) < (ByteArray.size s))))) (decide (((0 : Int) ≤ (0 : Int)) ∧ (((0 : Int) ≤ (IntKind.wrap IntKind.i64 ((IntKind.wrap IntKind.i64 ((4 : Int) + (IntKind.wrap IntKind.i64 ((UInt8.toNat (Array.getD (s).1 (3 : Nat) (0 : UInt8))) : Int)))) + (2 : Int)))) ∧ ((IntKind.wrap IntKind.i64 ((IntKind.wrap IntKind.i64 ((4 : Int) + (IntKind.wrap IntKind.i64 ((UInt8.toNat (Array.getD (s).1 (3 : Nat) (0 : UInt8))) : Int)))) + (2 : Int))) ≤ ((ByteArray.size s) : Int)))))) (decide ((ByteArray.size (ByteArray.extract s (0 : Nat) (Int.toNat (IntKind.wrap IntKind.i64 ((IntKind.wrap IntKind.i64 ((4 : Int) + (IntKind.wrap IntKind.i64 ((UInt8.toNat (Array.getD (s).1 (3 : Nat) (0 : UInt8))) : Int)))) + (2 : Int)))))) ≤ (100000 : Nat)))) (decide (((0 : Int) ≤ (4 : Int)) ∧ (((4 : Int) ≤ ((ByteArray.size (H23.openS (ByteArray.extract s (0 : Nat) (Int.toNat (IntKind.wrap IntKind.i64 ((IntKind.wrap IntKind.i64 ((4 : Int) + (IntKind.wrap IntKind.i64 ((UInt8.toNat (Array.getD (s).1 (3 : Nat) (0 : UInt8))) : Int)))) + (2 : Int))))))) : Int)) ∧ (((ByteArray.size (H23.openS (ByteArray.extract s (0 : Nat) (Int.toNat (IntKind.wrap IntKind.i64 ((IntKind.wrap IntKind.i64 ((4 : Int) + (IntKind.wrap IntKind.i64 ((UInt8.toNat (Array.getD (s).1 (3 : Nat) (0 : UInt8))) : Int)))) + (2 : Int))))))) : Int) ≤ ((ByteArray.size (H23.openS (ByteArray.extract s (0 : Nat) (Int.toNat (IntKind.wrap IntKind.i64 ((IntKind.wrap IntKind.i64 ((4 : Int) + (IntKind.wrap IntKind.i64 ((UInt8.toNat (Array.getD (s).1 (3 : Nat) (0 : UInt8))) : Int)))) + (2 : Int))))))) : Int)))))) ∧ (R Exit.ret [AV.dead, AV.dead, (AV.v (Value.int IntKind.i64 (IntKind.wrap IntKind.i64 ((UInt8.toNat (Array.getD (s).1 (2 : Nat) (0 : UInt8))) : Int)))), (AV.v (Value.string (ByteArray.extract (H23.openS (ByteArray.extract s (0 : Nat) (Int.toNat (IntKind.wrap IntKind.i64 ((IntKind.wrap IntKind.i64 ((4 : Int) + (IntKind.wrap IntKind.i64 ((UInt8.toNat (Array.getD (s).1 (3 : Nat) (0 : UInt8))) : Int)))) + (2 : Int)))))) (4 : Nat) (Int.toNat ((ByteArray.size (H23.openS (ByteArray.extract s (0 : Nat) (Int.toNat (IntKind.wrap IntKind.i64 ((IntKind.wrap IntKind.i64 ((4 : Int) + (IntKind.wrap IntKind.i64 ((UInt8.toNat (Array.getD (s).1 (3 : Nat) (0 : UInt8))) : Int)))) + (2 : Int))))))) : Int))))), (AV.v (Value.int IntKind.i64 (IntKind.wrap IntKind.i64 ((IntKind.wrap IntKind.i64 ((4 : Int) + (IntKind.wrap IntKind.i64 ((UInt8.toNat (Array.getD (s).1 (3 : Nat) (0 : UInt8))) : Int)))) + (2 : Int))))), (AV.v (Value.int IntKind.i64 (0 : Int))), AV.dead, AV.dead, AV.dead, AV.dead, AV.dead, AV.dead, AV.dead, AV.dead, AV.dead, AV.dead, AV.dead, AV.dead, AV.dead, AV.dead, AV.dead, AV.dead, AV.dead, AV.dead, AV.dead, AV.dead, AV.dead, AV.dead, AV.dead, AV.dead, AV.dead, AV.dead, AV.dead, AV.dead, AV.dead, AV.dead, AV.dead, AV.dead, AV.dead, AV.dead, AV.dead, AV.dead, AV.dead, AV.dead, AV.dead, AV.dead, AV.dead, AV.dead, AV.dead, AV.dead, AV.dead, AV.dead, AV.dead, AV.dead] (AH.mk [((3 : Nat), [(AV.v (Value.int IntKind.i64 (IntKind.wrap IntKind.i64 ((UInt8.toNat (Array.getD (s).1 (2 : Nat) (0 : UInt8))) : Int))))]), ((3 : Nat), [(AV.v (Value.int IntKind.i64 (IntKind.wrap IntKind.i64 ((IntKind.wrap IntKind.i64 ((4 : Int) + (IntKind.wrap IntKind.i64 ((UInt8.toNat (Array.getD (s).1 (3 : Nat) (0 : UInt8))) : Int)))) + (2 : Int)))))])] (@List.nil Nat) (0 : Nat) (0 : Nat) true (@List.nil (Prod Nat Bool)) True))))))))))) else (some ((cdb (cdb (cdb True (decide (((0 : Int) ≤ (0 : Int)) ∧ ((0 : Nat) < (ByteArray.size s))))) (decide (((0 : Int) ≤ (1 : Int)) ∧ ((1 : Nat) < (ByteArray.size s))))) (decide (((0 : Int) ≤ (2 : Int)) ∧ ((2 : Nat) < (ByteArray.size s))))) ∧ (R Exit.ret [AV.dead, AV.dead, (AV.v (Value.int IntKind.i64 (0 : Int))), (AV.v (Value.string (ByteArray.mk (Array.mk (@List.nil UInt8))))), (AV.v (Value.int IntKind.i64 (0 : Int))), (AV.v (Value.int IntKind.i64 (5 : Int))), AV.dead, AV.dead, AV.dead, AV.dead, AV.dead, AV.dead, AV.dead, AV.dead, AV.dead, AV.dead, AV.dead, AV.dead, AV.dead, AV.dead, AV.dead, AV.dead, AV.dead, AV.dead, AV.dead, AV.dead, AV.dead, AV.dead, AV.dead, AV.dead, AV.dead, AV.dead, AV.dead, AV.dead, AV.dead, AV.dead, AV.dead, AV.dead, AV.dead, AV.dead, AV.dead, AV.dead, AV.dead, AV.dead, AV.dead, AV.dead, AV.dead, AV.dead, AV.dead, AV.dead, AV.dead, AV.dead, AV.dead, AV.dead] (AH.mk [((3 : Nat), [(AV.v (Value.int IntKind.i64 (0 : Int)))]), ((3 : Nat), [(AV.v (Value.int IntKind.i64 (0 : Int)))])] (@List.nil Nat) (0 : Nat) (0 : Nat) true (@List.nil (Prod Nat Bool)) True))))))) else (bif ((IntKind.wrap IntKind.i64 ((UInt8.toNat (Array.getD (s).1 (1 : Nat) (0 : UInt8))) : Int)) != (1 : Int)) then (some ((cdb (cdb True (decide (((0 : Int) ≤ (0 : Int)) ∧ ((0 : Nat) < (ByteArray.size s))))) (decide (((0 : Int) ≤ (1 : Int)) ∧ ((1 : Nat) < (ByteArray.size s))))) ∧ (R Exit.ret [AV.dead, AV.dead, (AV.v (Value.int IntKind.i64 (0 : Int))), (AV.v (Value.string (ByteArray.mk (Array.mk (@List.nil UInt8))))), (AV.v (Value.int IntKind.i64 (0 : Int))), (AV.v (Value.int IntKind.i64 (2 : Int))), AV.dead, AV.dead, AV.dead, AV.dead, AV.dead, AV.dead, AV.dead, AV.dead, AV.dead, AV.dead, AV.dead, AV.dead, AV.dead, AV.dead, AV.dead, AV.dead, AV.dead, AV.dead, AV.dead, AV.dead, AV.dead, AV.dead, AV.dead, AV.dead, AV.dead, AV.dead, AV.dead, AV.dead, AV.dead, AV.dead, AV.dead, AV.dead, AV.dead, AV.dead, AV.dead, AV.dead, AV.dead, AV.dead, AV.dead, AV.dead, AV.dead, AV.dead, AV.dead, AV.dead, AV.dead, AV.dead, AV.dead, AV.dead] (AH.mk [((3 : Nat), [(AV.v (Value.int IntKind.i64 (0 : Int)))]), ((3 : Nat), [(AV.v (Value.int IntKind.i64 (0 : Int)))])] (@List.nil Nat) (0 : Nat) (0 : Nat) true (@List.nil (Prod Nat Bool)) True)))) else (bif (decide ((1 : Int) ≤ (IntKind.wrap IntKind.i64 ((UInt8.toNat (Array.getD (s).1 (2 : Nat) (0 : UInt8))) : Int)))) then (bif (!(decide ((IntKind.wrap IntKind.i64 ((UInt8.toNat (Array.getD (s).1 (2 : Nat) (0 : UInt8))) : Int)) ≤ (3 : Int)))) then (some ((cdb (cdb (cdb True (decide (((0 : Int) ≤ (0 : Int)) ∧ ((0 : Nat) < (ByteArray.size s))))) (decide (((0 : Int) ≤ (1 : Int)) ∧ ((1 : Nat) < (ByteArray.size s))))) (decide (((0 : Int) ≤ (2 : Int)) ∧ ((2 : Nat) < (ByteArray.size s))))) ∧ (R Exit.ret [AV.dead, AV.dead, (AV.v (Value.int IntKind.i64 (0 : Int))), (AV.v (Value.string (ByteArray.mk (Array.mk (@List.nil UInt8))))), (AV.v (Value.int IntKind.i64 (0 : Int))), (AV.v (Value.int IntKind.i64 (5 : Int))), AV.dead, AV.dead, AV.dead, AV.dead, AV.dead, AV.dead, AV.dead, AV.dead, AV.dead, AV.dead, AV.dead, AV.dead, AV.dead, AV.dead, AV.dead, AV.dead, AV.dead, AV.dead, AV.dead, AV.dead, AV.dead, AV.dead, AV.dead, AV.dead, AV.dead, AV.dead, AV.dead, AV.dead, AV.dead, AV.dead, AV.dead, AV.dead, AV.dead, AV.dead, AV.dead, AV.dead, AV.dead, AV.dead, AV.dead, AV.dead, AV.dead, AV.dead, AV.dead, AV.dead, AV.dead, AV.dead, AV.dead, AV.dead] (AH.mk [((3 : Nat), [(AV.v (Value.int IntKind.i64 (0 : Int)))]), ((3 : Nat), [(AV.v (Value.int IntKind.i64 (0 : Int)))])] (@List.nil Nat) (0 : Nat) (0 : Nat) true (@List.nil (Prod Nat Bool)) True)))) else (bif (decide ((200 : Int) < (IntKind.wrap IntKind.i64 ((UInt8.toNat (Array.getD (s).1 (3 : Nat) (0 : UInt8))) : Int)))) then (some ((cdb (cdb (cdb (cdb True (decide (((0 : Int) ≤ (0 : Int)) ∧ ((0 : Nat) < (ByteArray.size s))))) (decide (((0 : Int) ≤ (1 : Int)) ∧ ((1 : Nat) < (ByteArray.size s))))) (decide (((0 : Int) ≤ (2 : Int)) ∧ ((2 : Nat) < (ByteArray.size s))))) (decide (((0 : Int) ≤ (3 : Int)) ∧ ((3 : Nat) < (ByteArray.size s))))) ∧ (R Exit.ret [AV.dead, AV.dead, (AV.v (Value.int IntKind.i64 (0 : Int))), (AV.v (Value.string (ByteArray.mk (Array.mk (@List.nil UInt8))))), (AV.v (Value.int IntKind.i64 (0 : Int))), (AV.v (Value.int IntKind.i64 (9 : Int))), AV.dead, AV.dead, AV.dead, AV.dead, AV.dead, AV.dead, AV.dead, AV.dead, AV.dead, AV.dead, AV.dead, AV.dead, AV.dead, AV.dead, AV.dead, AV.dead, AV.dead, AV.dead, AV.dead, AV.dead, AV.dead, AV.dead, AV.dead, AV.dead, AV.dead, AV.dead, AV.dead, AV.dead, AV.dead, AV.dead, AV.dead, AV.dead, AV.dead, AV.dead, AV.dead, AV.dead, AV.dead, AV.dead, AV.dead, AV.dead, AV.dead, AV.dead, AV.dead, AV.dead, AV.dead, AV.dead, AV.dead, AV.dead] (AH.mk [((3 : Nat), [(AV.v (Value.int IntKind.i64 (IntKind.wrap IntKind.i64 ((UInt8.toNat (Array.getD (s).1 (2 : Nat) (0 : UInt8))) : Int))))]), ((3 : Nat), [(AV.v (Value.int IntKind.i64 (0 : Int)))])] (@List.nil Nat) (0 : Nat) (0 : Nat) true (@List.nil (Prod Nat Bool)) True)))) else (bif (decide ((IntKind.wrap IntKind.i64 ((UInt8.toNat (Array.getD (s).1 (3 : Nat) (0 : UInt8))) : Int)) < (0 : Int))) then (bif (decide (((ByteArray.size s) : Int) < (4 : Int))) then (some ((cdb (cdb (cdb (cdb True (decide (((0 : Int) ≤ (0 : Int)) ∧ ((0 : Nat) < (ByteArray.size s))))) (decide (((0 : Int) ≤ (1 : Int)) ∧ ((1 : Nat) < (ByteArray.size s))))) (decide (((0 : Int) ≤ (2 : Int)) ∧ ((2 : Nat) < (ByteArray.size s))))) (decide (((0 : Int) ≤ (3 : Int)) ∧ ((3 : Nat) < (ByteArray.size s))))) ∧ (R Exit.ret [AV.dead, AV.dead, (AV.v (Value.int IntKind.i64 (0 : Int))), (AV.v (Value.string (ByteArray.mk (Array.mk (@List.nil UInt8))))), (AV.v (Value.int IntKind.i64 (0 : Int))), (AV.v (Value.int IntKind.i64 (3 : Int))), AV.dead, AV.dead, AV.dead, AV.dead, AV.dead, AV.dead, AV.dead, AV.dead, AV.dead, AV.dead, AV.dead, AV.dead, AV.dead, AV.dead, AV.dead, AV.dead, AV.dead, AV.dead, AV.dead, AV.dead, AV.dead, AV.dead, AV.dead, AV.dead, AV.dead, AV.dead, AV.dead, AV.dead, AV.dead, AV.dead, AV.dead, AV.dead, AV.dead, AV.dead, AV.dead, AV.dead, AV.dead, AV.dead, AV.dead, AV.dead, AV.dead, AV.dead, AV.dead, AV.dead, AV.dead, AV.dead, AV.dead, AV.dead] (AH.mk [((3 : Nat), [(AV.v (Value.int IntKind.i64 (IntKind.wrap IntKind.i64 ((UInt8.toNat (Array.getD (s).1 (2 : Nat) (0 : UInt8))) : Int))))]), ((3 : Nat), [(AV.v (Value.int IntKind.i64 (0 : Int)))])] (@List.nil Nat) (0 : Nat) (0 : Nat) true (@List.nil (Prod Nat Bool)) True)))) else (bif ((H23.openE (ByteArray.extract s (0 : Nat) (0 : Nat))) != (0 : Int)) then (some ((cdb (cdb (cdb (cdb (cdb True (decide (((0 : Int) ≤ (0 : Int)) ∧ ((0 : Nat) < (ByteArray.size s))))) (decide (((0 : Int) ≤ (1 : Int)) ∧ ((1 : Nat) < (ByteArray.size s))))) (decide (((0 : Int) ≤ (2 : Int)) ∧ ((2 : Nat) < (ByteArray.size s))))) (decide (((0 : Int) ≤ (3 : Int)) ∧ ((3 : Nat) < (ByteArray.size s))))) (decide ((ByteArray.size (ByteArray.extract s (0 : Nat) (0 : Nat))) ≤ (100000 : Nat)))) ∧ (R Exit.ret [AV.dead, AV.dead, (AV.v (Value.int IntKind.i64 (0 : Int))), (AV.v (Value.string (ByteArray.mk (Array.mk (@List.nil UInt8))))), (AV.v (Value.int IntKind.i64 (0 : Int))), (AV.v (Value.int IntKind.i64 (H23.openE (ByteArray.extract s (0 : Nat) (0 : Nat))))), AV.dead, AV.dead, AV.dead, AV.dead, AV.dead, AV.dead, AV.dead, AV.dead, AV.dead, AV.dead, AV.dead, AV.dead, AV.dead, AV.dead, AV.dead, AV.dead, AV.dead, AV.dead, AV.dead, AV.dead, AV.dead, AV.dead, AV.dead, AV.dead, AV.dead, AV.dead, AV.dead, AV.dead, AV.dead, AV.dead, AV.dead, AV.dead, AV.dead, AV.dead, AV.dead, AV.dead, AV.dead, AV.dead, AV.dead, AV.dead, AV.dead, AV.dead, AV.dead, AV.dead, AV.dead, AV.dead, AV.dead, AV.dead] (AH.mk [((3 : Nat), [(AV.v (Value.int IntKind.i64 (IntKind.wrap IntKind.i64 ((UInt8.toNat (Array.getD (s).1 (2 : Nat) (0 : UInt8))) : Int))))]), ((3 : Nat), [(AV.v (Value.int IntKind.i64 (0 : Int)))])] (@List.nil Nat) (0 : Nat) (0 : Nat) true (@List.nil (Prod Nat Bool)) True)))) else (some ((cdb (cdb (cdb (cdb (cdb (cdb True (decide (((0 : Int) ≤ (0 : Int)) ∧ ((0 : Nat) < (ByteArray.size s))))) (decide (((0 : Int) ≤ (1 : Int)) ∧ ((1 : Nat) < (ByteArray.size s))))) (decide (((0 : Int) ≤ (2 : Int)) ∧ ((2 : Nat) < (ByteArray.size s))))) (decide (((0 : Int) ≤ (3 : Int)) ∧ ((3 : Nat) < (ByteArray.size s))))) (decide ((ByteArray.size (ByteArray.extract s (0 : Nat) (0 : Nat))) ≤ (100000 : Nat)))) (decide (((0 : Int) ≤ (4 : Int)) ∧ (((4 : Int) ≤ ((ByteArray.size (H23.openS (ByteArray.extract s (0 : Nat) (0 : Nat)))) : Int)) ∧ (((ByteArray.size (H23.openS (ByteArray.extract s (0 : Nat) (0 : Nat)))) : Int) ≤ ((ByteArray.size (H23.openS (ByteArray.extract s (0 : Nat) (0 : Nat)))) : Int)))))) ∧ (R Exit.ret [AV.dead, AV.dead, (AV.v (Value.int IntKind.i64 (IntKind.wrap IntKind.i64 ((UInt8.toNat (Array.getD (s).1 (2 : Nat) (0 : UInt8))) : Int)))), (AV.v (Value.string (ByteArray.extract (H23.openS (ByteArray.extract s (0 : Nat) (0 : Nat))) (4 : Nat) (Int.toNat ((ByteArray.size (H23.openS (ByteArray.extract s (0 : Nat) (0 : Nat)))) : Int))))), (AV.v (Value.int IntKind.i64 (0 : Int))), (AV.v (Value.int IntKind.i64 (0 : Int))), AV.dead, AV.dead, AV.dead, AV.dead, AV.dead, AV.dead, AV.dead, AV.dead, AV.dead, AV.dead, AV.dead, AV.dead, AV.dead, AV.dead, AV.dead, AV.dead, AV.dead, AV.dead, AV.dead, AV.dead, AV.dead, AV.dead, AV.dead, AV.dead, AV.dead, AV.dead, AV.dead, AV.dead, AV.dead, AV.dead, AV.dead, AV.dead, AV.dead, AV.dead, AV.dead, AV.dead, AV.dead, AV.dead, AV.dead, AV.dead, AV.dead, AV.dead, AV.dead, AV.dead, AV.dead, AV.dead, AV.dead, AV.dead] (AH.mk [((3 : Nat), [(AV.v (Value.int IntKind.i64 (IntKind.wrap IntKind.i64 ((UInt8.toNat (Array.getD (s).1 (2 : Nat) (0 : UInt8))) : Int))))]), ((3 : Nat), [(AV.v (Value.int IntKind.i64 (0 : Int)))])] (@List.nil Nat) (0 : Nat) (0 : Nat) true (@List.nil (Prod Nat Bool)) True)))))) else (bif (decide ((200 : Int) < (IntKind.wrap IntKind.i64 ((UInt8.toNat (Array.getD (s).1 (3 : Nat) (0 : UInt8))) : Int)))) then (bif (decide (((ByteArray.size s) : Int) < (4 : Int))) then (some ((cdb (cdb (cdb (cdb True (decide (((0 : Int) ≤ (0 : Int)) ∧ ((0 : Nat) < (ByteArray.size s))))) (decide (((0 : Int) ≤ (1 : Int)) ∧ ((1 : Nat) < (ByteArray.size s))))) (decide (((0 : Int) ≤ (2 : Int)) ∧ ((2 : Nat) < (ByteArray.size s))))) (decide (((0 : Int) ≤ (3 : Int)) ∧ ((3 : Nat) < (ByteArray.size s))))) ∧ (R Exit.ret [AV.dead, AV.dead, (AV.v (Value.int IntKind.i64 (0 : Int))), (AV.v (Value.string (ByteArray.mk (Array.mk (@List.nil UInt8))))), (AV.v (Value.int IntKind.i64 (0 : Int))), (AV.v (Value.int IntKind.i64 (3 : Int))), AV.dead, AV.dead, AV.dead, AV.dead, AV.dead, AV.dead, AV.dead, AV.dead, AV.dead, AV.dead, AV.dead, AV.dead, AV.dead, AV.dead, AV.dead, AV.dead, AV.dead, AV.dead, AV.dead, AV.dead, AV.dead, AV.dead, AV.dead, AV.dead, AV.dead, AV.dead, AV.dead, AV.dead, AV.dead, AV.dead, AV.dead, AV.dead, AV.dead, AV.dead, AV.dead, AV.dead, AV.dead, AV.dead, AV.dead, AV.dead, AV.dead, AV.dead, AV.dead, AV.dead, AV.dead, AV.dead, AV.dead, AV.dead] (AH.mk [((3 : Nat), [(AV.v (Value.int IntKind.i64 (IntKind.wrap IntKind.i64 ((UInt8.toNat (Array.getD (s).1 (2 : Nat) (0 : UInt8))) : Int))))]), ((3 : Nat), [(AV.v (Value.int IntKind.i64 (0 : Int)))])] (@List.nil Nat) (0 : Nat) (0 : Nat) true (@List.nil (Prod Nat Bool)) True)))) else (bif ((H23.openE (ByteArray.extract s (0 : Nat) (0 : Nat))) != (0 : Int)) then (some ((cdb (cdb (cdb (cdb (cdb True (decide (((0 : Int) ≤ (0 : Int)) ∧ ((0 : Nat) < (ByteArray.size s))))) (decide (((0 : Int) ≤ (1 : Int)) ∧ ((1 : Nat) < (ByteArray.size s))))) (decide (((0 : Int) ≤ (2 : Int)) ∧ ((2 : Nat) < (ByteArray.size s))))) (decide (((0 : Int) ≤ (3 : Int)) ∧ ((3 : Nat) < (ByteArray.size s))))) (decide ((ByteArray.size (ByteArray.extract s (0 : Nat) (0 : Nat))) ≤ (100000 : Nat)))) ∧ (R Exit.ret [AV.dead, AV.dead, (AV.v (Value.int IntKind.i64 (0 : Int))), (AV.v (Value.string (ByteArray.mk (Array.mk (@List.nil UInt8))))), (AV.v (Value.int IntKind.i64 (0 : Int))), (AV.v (Value.int IntKind.i64 (H23.openE (ByteArray.extract s (0 : Nat) (0 : Nat))))), AV.dead, AV.dead, AV.dead, AV.dead, AV.dead, AV.dead, AV.dead, AV.dead, AV.dead, AV.dead, AV.dead, AV.dead, AV.dead, AV.dead, AV.dead, AV.dead, AV.dead, AV.dead, AV.dead, AV.dead, AV.dead, AV.dead, AV.dead, AV.dead, AV.dead, AV.dead, AV.dead, AV.dead, AV.dead, AV.dead, AV.dead, AV.dead, AV.dead, AV.dead, AV.dead, AV.dead, AV.dead, AV.dead, AV.dead, AV.dead, AV.dead, AV.dead, AV.dead, AV.dead, AV.dead, AV.dead, AV.dead, AV.dead] (AH.mk [((3 : Nat), [(AV.v (Value.int IntKind.i64 (IntKind.wrap IntKind.i64 ((UInt8.toNat (Array.getD (s).1 (2 : Nat) (0 : UInt8))) : Int))))]), ((3 : Nat), [(AV.v (Value.int IntKind.i64 (0 : Int)))])] (@List.nil Nat) (0 : Nat) (0 : Nat) true (@List.nil (Prod Nat Bool)) True)))) else (some ((cdb (cdb (cdb (cdb (cdb (cdb True (decide (((0 : Int) ≤ (0 : Int)) ∧ ((0 : Nat) < (ByteArray.size s))))) (decide (((0 : Int) ≤ (1 : Int)) ∧ ((1 : Nat) < (ByteArray.size s))))) (decide (((0 : Int) ≤ (2 : Int)) ∧ ((2 : Nat) < (ByteArray.size s))))) (decide (((0 : Int) ≤ (3 : Int)) ∧ ((3 : Nat) < (ByteArray.size s))))) (decide ((ByteArray.size (ByteArray.extract s (0 : Nat) (0 : Nat))) ≤ (100000 : Nat)))) (decide (((0 : Int) ≤ (4 : Int)) ∧ (((4 : Int) ≤ ((ByteArray.size (H23.openS (ByteArray.extract s (0 : Nat) (0 : Nat)))) : Int)) ∧ (((ByteArray.size (H23.openS (ByteArray.extract s (0 : Nat) (0 : Nat)))) : Int) ≤ ((ByteArray.size (H23.openS (ByteArray.extract s (0 : Nat) (0 : Nat)))) : Int)))))) ∧ (R Exit.ret [AV.dead, AV.dead, (AV.v (Value.int IntKind.i64 (IntKind.wrap IntKind.i64 ((UInt8.toNat (Array.getD (s).1 (2 : Nat) (0 : UInt8))) : Int)))), (AV.v (Value.string (ByteArray.extract (H23.openS (ByteArray.extract s (0 : Nat) (0 : Nat))) (4 : Nat) (Int.toNat ((ByteArray.size (H23.openS (ByteArray.extract s (0 : Nat) (0 : Nat)))) : Int))))), (AV.v (Value.int IntKind.i64 (0 : Int))), (AV.v (Value.int IntKind.i64 (0 : Int))), AV.dead, AV.dead, AV.dead, AV.dead, AV.dead, AV.dead, AV.dead, AV.dead, AV.dead, AV.dead, AV.dead, AV.dead, AV.dead, AV.dead, AV.dead, AV.dead, AV.dead, AV.dead, AV.dead, AV.dead, AV.dead, AV.dead, AV.dead, AV.dead, AV.dead, AV.dead, AV.dead, AV.dead, AV.dead, AV.dead, AV.dead, AV.dead, AV.dead, AV.dead, AV.dead, AV.dead, AV.dead, AV.dead, AV.dead, AV.dead, AV.dead, AV.dead, AV.dead, AV.dead, AV.dead, AV.dead, AV.dead, AV.dead] (AH.mk [((3 : Nat), [(AV.v (Value.int IntKind.i64 (IntKind.wrap IntKind.i64 ((UInt8.toNat (Array.getD (s).1 (2 : Nat) (0 : UInt8))) : Int))))]), ((3 : Nat), [(AV.v (Value.int IntKind.i64 (0 : Int)))])] (@List.nil Nat) (0 : Nat) (0 : Nat) true (@List.nil (Prod Nat Bool)) True)))))) else (bif (decide (((ByteArray.size s) : Int) < (4 : Int))) then (some ((cdb (cdb (cdb (cdb True (decide (((0 : Int) ≤ (0 : Int)) ∧ ((0 : Nat) < (ByteArray.size s))))) (decide (((0 : Int) ≤ (1 : Int)) ∧ ((1 : Nat) < (ByteArray.size s))))) (decide (((0 : Int) ≤ (2 : Int)) ∧ ((2 : Nat) < (ByteArray.size s))))) (decide (((0 : Int) ≤ (3 : Int)) ∧ ((3 : Nat) < (ByteArray.size s))))) ∧ (R Exit.ret [AV.dead, AV.dead, (AV.v (Value.int IntKind.i64 (0 : Int))), (AV.v (Value.string (ByteArray.mk (Array.mk (@List.nil UInt8))))), (AV.v (Value.int IntKind.i64 (0 : Int))), (AV.v (Value.int IntKind.i64 (3 : Int))), AV.dead, AV.dead, AV.dead, AV.dead, AV.dead, AV.dead, AV.dead, AV.dead, AV.dead, AV.dead, AV.dead, AV.dead, AV.dead, AV.dead, AV.dead, AV.dead, AV.dead, AV.dead, AV.dead, AV.dead, AV.dead, AV.dead, AV.dead, AV.dead, AV.dead, AV.dead, AV.dead, AV.dead, AV.dead, AV.dead, AV.dead, AV.dead, AV.dead, AV.dead, AV.dead, AV.dead, AV.dead, AV.dead, AV.dead, AV.dead, AV.dead, AV.dead, AV.dead, AV.dead, AV.dead, AV.dead, AV.dead, AV.dead] (AH.mk [((3 : Nat), [(AV.v (Value.int IntKind.i64 (IntKind.wrap IntKind.i64 ((UInt8.toNat (Array.getD (s).1 (2 : Nat) (0 : UInt8))) : Int))))]), ((3 : Nat), [(AV.v (Value.int IntKind.i64 (IntKind.wrap IntKind.i64 ((IntKind.wrap IntKind.i64 ((4 : Int) + (IntKind.wrap IntKind.i64 ((UInt8.toNat (Array.getD (s).1 (3 : Nat) (0 : UInt8))) : Int)))) + (2 : Int)))))])] (@List.nil Nat) (0 : Nat) (0 : Nat) true (@List.nil (Prod Nat Bool)) True)))) else (bif (decide (((ByteArray.size s) : Int) < (IntKind.wrap IntKind.i64 ((IntKind.wrap IntKind.i64 ((4 : Int) + (IntKind.wrap IntKind.i64 ((UInt8.toNat (Array.getD (s).1 (3 : Nat) (0 : UInt8))) : Int)))) + (2 : Int))))) then (some ((cdb (cdb (cdb (cdb True (decide (((0 : Int) ≤ (0 : Int)) ∧ ((0 : Nat) < (ByteArray.size s))))) (decide (((0 : Int) ≤ (1 : Int)) ∧ ((1 : Nat) < (ByteArray.size s))))) (decide (((0 : Int) ≤ (2 : Int)) ∧ ((2 : Nat) < (ByteArray.size s))))) (decide (((0 : Int) ≤ (3 : Int)) ∧ ((3 : Nat) < (ByteArray.size s))))) ∧ (R Exit.ret [AV.dead, AV.dead, (AV.v (Value.int IntKind.i64 (0 : Int))), (AV.v (Value.string (ByteArray.mk (Array.mk (@List.nil UInt8))))), (AV.v (Value.int IntKind.i64 (0 : Int))), (AV.v (Value.int IntKind.i64 (3 : Int))), AV.dead, AV.dead, AV.dead, AV.dead, AV.dead, AV.dead, AV.dead, AV.dead, AV.dead, AV.dead, AV.dead, AV.dead, AV.dead, AV.dead, AV.dead, AV.dead, AV.dead, AV.dead, AV.dead, AV.dead, AV.dead, AV.dead, AV.dead, AV.dead, AV.dead, AV.dead, AV.dead, AV.dead, AV.dead, AV.dead, AV.dead, AV.dead, AV.dead, AV.dead, AV.dead, AV.dead, AV.dead, AV.dead, AV.dead, AV.dead, AV.dead, AV.dead, AV.dead, AV.dead, AV.dead, AV.dead, AV.dead, AV.dead] (AH.mk [((3 : Nat), [(AV.v (Value.int IntKind.i64 (IntKind.wrap IntKind.i64 ((UInt8.toNat (Array.getD (s).1 (2 : Nat) (0 : UInt8))) : Int))))]), ((3 : Nat), [(AV.v (Value.int IntKind.i64 (IntKind.wrap IntKind.i64 ((IntKind.wrap IntKind.i64 ((4 : Int) + (IntKind.wrap IntKind.i64 ((UInt8.toNat (Array.getD (s).1 (3 : Nat) (0 : UInt8))) : Int)))) + (2 : Int)))))])] (@List.nil Nat) (0 : Nat) (0 : Nat) true (@List.nil (Prod Nat Bool)) True)))) else (bif ((H23.openE (ByteArray.extract s (0 : Nat) (Int.toNat (IntKind.wrap IntKind.i64 ((IntKind.wrap IntKind.i64 ((4 : Int) + (IntKind.wrap IntKind.i64 ((UInt8.toNat (Array.getD (s).1 (3 : Nat) (0 : UInt8))) : Int)))) + (2 : Int)))))) != (0 : Int)) then (some ((cdb (cdb (cdb (cdb (cdb (cdb True (decide (((0 : Int) ≤ (0 : Int)) ∧ ((0 : Nat) < (ByteArray.size s))))) (decide (((0 : Int) ≤ (1 : Int)) ∧ ((1 : Nat) < (ByteArray.size s))))) (decide (((0 : Int) ≤ (2 : Int)) ∧ ((2 : Nat) < (ByteArray.size s))))) (decide (((0 : Int) ≤ (3 : Int)) ∧ ((3 : Nat) < (ByteArray.size s))))) (decide (((0 : Int) ≤ (0 : Int)) ∧ (((0 : Int) ≤ (IntKind.wrap IntKind.i64 ((IntKind.wrap IntKind.i64 ((4 : Int) + (IntKind.wrap IntKind.i64 ((UInt8.toNat (Array.getD (s).1 (3 : Nat) (0 : UInt8))) : Int)))) + (2 : Int)))) ∧ ((IntKind.wrap IntKind.i64 ((IntKind.wrap IntKind.i64 ((4 : Int) + (IntKind.wrap IntKind.i64 ((UInt8.toNat (Array.getD (s).1 (3 : Nat) (0 : UInt8))) : Int)))) + (2 : Int))) ≤ ((ByteArray.size s) : Int)))))) (decide ((ByteArray.size (ByteArray.extract s (0 : Nat) (Int.toNat (IntKind.wrap IntKind.i64 ((IntKind.wrap IntKind.i64 ((4 : Int) + (IntKind.wrap IntKind.i64 ((UInt8.toNat (Array.getD (s).1 (3 : Nat) (0 : UInt8))) : Int)))) + (2 : Int)))))) ≤ (100000 : Nat)))) ∧ (R Exit.ret [AV.dead, AV.dead, (AV.v (Value.int IntKind.i64 (0 : Int))), (AV.v (Value.string (ByteArray.mk (Array.mk (@List.nil UInt8))))), (AV.v (Value.int IntKind.i64 (0 : Int))), (AV.v (Value.int IntKind.i64 (H23.openE (ByteArray.extract s (0 : Nat) (Int.toNat (IntKind.wrap IntKind.i64 ((IntKind.wrap IntKind.i64 ((4 : Int) + (IntKind.wrap IntKind.i64 ((UInt8.toNat (Array.getD (s).1 (3 : Nat) (0 : UInt8))) : Int)))) + (2 : Int)))))))), AV.dead, AV.dead, AV.dead, AV.dead, AV.dead, AV.dead, AV.dead, AV.dead, AV.dead, AV.dead, AV.dead, AV.dead, AV.dead, AV.dead, AV.dead, AV.dead, AV.dead, AV.dead, AV.dead, AV.dead, AV.dead, AV.dead, AV.dead, AV.dead, AV.dead, AV.dead, AV.dead, AV.dead, AV.dead, AV.dead, AV.dead, AV.dead, AV.dead, AV.dead, AV.dead, AV.dead, AV.dead, AV.dead, AV.dead, AV.dead, AV.dead, AV.dead, AV.dead, AV.dead, AV.dead, AV.dead, AV.dead, AV.dead] (AH.mk [((3 : Nat), [(AV.v (Value.int IntKind.i64 (IntKind.wrap IntKind.i64 ((UInt8.toNat (Array.getD (s).1 (2 : Nat) (0 : UInt8))) : Int))))]), ((3 : Nat), [(AV.v (Value.int IntKind.i64 (IntKind.wrap IntKind.i64 ((IntKind.wrap IntKind.i64 ((4 : Int) + (IntKind.wrap IntKind.i64 ((UInt8.toNat (Array.getD (s).1 (3 : Nat) (0 : UInt8))) : Int)))) + (2 : Int)))))])] (@List.nil Nat) (0 : Nat) (0 : Nat) true (@List.nil (Prod Nat Bool)) True)))) else (some ((cdb (cdb (cdb (cdb (cdb (cdb (cdb True (decide (((0 : Int) ≤ (0 : Int)) ∧ ((0 : Nat) < (ByteArray.size s))))) (decide (((0 : Int) ≤ (1 : Int)) ∧ ((1 : Nat) < (ByteArray.size s))))) (decide (((0 : Int) ≤ (2 : Int)) ∧ ((2 : Nat) < (ByteArray.size s))))) (decide (((0 : Int) ≤ (3 : Int)) ∧ ((3 : Nat) < (ByteArray.size s))))) (decide (((0 : Int) ≤ (0 : Int)) ∧ (((0 : Int) ≤ (IntKind.wrap IntKind.i64 ((IntKind.wrap IntKind.i64 ((4 : Int) + (IntKind.wrap IntKind.i64 ((UInt8.toNat (Array.getD (s).1 (3 : Nat) (0 : UInt8))) : Int)))) + (2 : Int)))) ∧ ((IntKind.wrap IntKind.i64 ((IntKind.wrap IntKind.i64 ((4 : Int) + (IntKind.wrap IntKind.i64 ((UInt8.toNat (Array.getD (s).1 (3 : Nat) (0 : UInt8))) : Int)))) + (2 : Int))) ≤ ((ByteArray.size s) : Int)))))) (decide ((ByteArray.size (ByteArray.extract s (0 : Nat) (Int.toNat (IntKind.wrap IntKind.i64 ((IntKind.wrap IntKind.i64 ((4 : Int) + (IntKind.wrap IntKind.i64 ((UInt8.toNat (Array.getD (s).1 (3 : Nat) (0 : UInt8))) : Int)))) + (2 : Int)))))) ≤ (100000 : Nat)))) (decide (((0 : Int) ≤ (4 : Int)) ∧ (((4 : Int) ≤ ((ByteArray.size (H23.openS (ByteArray.extract s (0 : Nat) (Int.toNat (IntKind.wrap IntKind.i64 ((IntKind.wrap IntKind.i64 ((4 : Int) + (IntKind.wrap IntKind.i64 ((UInt8.toNat (Array.getD (s).1 (3 : Nat) (0 : UInt8))) : Int)))) + (2 : Int))))))) : Int)) ∧ (((ByteArray.size (H23.openS (ByteArray.extract s (0 : Nat) (Int.toNat (IntKind.wrap IntKind.i64 ((IntKind.wrap IntKind.i64 ((4 : Int) + (IntKind.wrap IntKind.i64 ((UInt8.toNat (Array.getD (s).1 (3 : Nat) (0 : UInt8))) : Int)))) + (2 : Int))))))) : Int) ≤ ((ByteArray.size (H23.openS (ByteArray.extract s (0 : Nat) (Int.toNat (IntKind.wrap IntKind.i64 ((IntKind.wrap IntKind.i64 ((4 : Int) + (IntKind.wrap IntKind.i64 ((UInt8.toNat (Array.getD (s).1 (3 : Nat) (0 : UInt8))) : Int)))) + (2 : Int))))))) : Int)))))) ∧ (R Exit.ret [AV.dead, AV.dead, (AV.v (Value.int IntKind.i64 (IntKind.wrap IntKind.i64 ((UInt8.toNat (Array.getD (s).1 (2 : Nat) (0 : UInt8))) : Int)))), (AV.v (Value.string (ByteArray.extract (H23.openS (ByteArray.extract s (0 : Nat) (Int.toNat (IntKind.wrap IntKind.i64 ((IntKind.wrap IntKind.i64 ((4 : Int) + (IntKind.wrap IntKind.i64 ((UInt8.toNat (Array.getD (s).1 (3 : Nat) (0 : UInt8))) : Int)))) + (2 : Int)))))) (4 : Nat) (Int.toNat ((ByteArray.size (H23.openS (ByteArray.extract s (0 : Nat) (Int.toNat (IntKind.wrap IntKind.i64 ((IntKind.wrap IntKind.i64 ((4 : Int) + (IntKind.wrap IntKind.i64 ((UInt8.toNat (Array.getD (s).1 (3 : Nat) (0 : UInt8))) : Int)))) + (2 : Int))))))) : Int))))), (AV.v (Value.int IntKind.i64 (IntKind.wrap IntKind.i64 ((IntKind.wrap IntKind.i64 ((4 : Int) + (IntKind.wrap IntKind.i64 ((UInt8.toNat (Array.getD (s).1 (3 : Nat) (0 : UInt8))) : Int)))) + (2 : Int))))), (AV.v (Value.int IntKind.i64 (0 : Int))), AV.dead, AV.dead, AV.dead, AV.dead, AV.dead, AV.dead, AV.dead, AV.dead, AV.dead, AV.dead, AV.dead, AV.dead, AV.dead, AV.dead, AV.dead, AV.dead, AV.dead, AV.dead, AV.dead, AV.dead, AV.dead, AV.dead, AV.dead, AV.dead, AV.dead, AV.dead, AV.dead, AV.dead, AV.dead, AV.dead, AV.dead, AV.dead, AV.dead, AV.dead, AV.dead, AV.dead, AV.dead, AV.dead, AV.dead, AV.dead, AV.dead, AV.dead, AV.dead, AV.dead, AV.dead, AV.dead, AV.dead, AV.dead] (AH.mk [((3 : Nat), [(AV.v (Value.int IntKind.i64 (IntKind.wrap IntKind.i64 ((UInt8.toNat (Array.getD (s).1 (2 : Nat) (0 : UInt8))) : Int))))]), ((3 : Nat), [(AV.v (Value.int IntKind.i64 (IntKind.wrap IntKind.i64 ((IntKind.wrap IntKind.i64 ((4 : Int) + (IntKind.wrap IntKind.i64 ((UInt8.toNat (Array.getD (s).1 (3 : Nat) (0 : UInt8))) : Int)))) + (2 : Int)))))])] (@List.nil Nat) (0 : Nat) (0 : Nat) true (@List.nil (Prod Nat Bool)) True))))))))))) else (some ((cdb (cdb (cdb True (decide (((0 : Int) ≤ (0 : Int)) ∧ ((0 : Nat) < (ByteArray.size s))))) (decide (((0 : Int) ≤ (1 : Int)) ∧ ((1 : Nat) < (ByteArray.size s))))) (decide (((0 : Int) ≤ (2 : Int)) ∧ ((2 : Nat) < (ByteArray.size s))))) ∧ (R Exit.ret [AV.dead, AV.dead, (AV.v (Value.int IntKind.i64 (0 : Int))), (AV.v (Value.string (ByteArray.mk (Array.mk (@List.nil UInt8))))), (AV.v (Value.int IntKind.i64 (0 : Int))), (AV.v (Value.int IntKind.i64 (5 : Int))), AV.dead, AV.dead, AV.dead, AV.dead, AV.dead, AV.dead, AV.dead, AV.dead, AV.dead, AV.dead, AV.dead, AV.dead, AV.dead, AV.dead, AV.dead, AV.dead, AV.dead, AV.dead, AV.dead, AV.dead, AV.dead, AV.dead, AV.dead, AV.dead, AV.dead, AV.dead, AV.dead, AV.dead, AV.dead, AV.dead, AV.dead, AV.dead, AV.dead, AV.dead, AV.dead, AV.dead, AV.dead, AV.dead, AV.dead, AV.dead, AV.dead, AV.dead, AV.dead, AV.dead, AV.dead, AV.dead, AV.dead, AV.dead] (AH.mk [((3 : Nat), [(AV.v (Value.int IntKind.i64 (0 : Int)))]), ((3 : Nat), [(AV.v (Value.int IntKind.i64 (0 : Int)))])] (@List.nil Nat) (0 : Nat) (0 : Nat) true (@List.nil (Prod Nat Bool)) True))))))) := by kernel_rfl
end Go.Proofs.YtlonpmcgejdkkaaDoor.AE.H23
namespace Go.Proofs.YtlonpmcgejdkkaaDoor.AE.H23
set_option maxRecDepth 100000
open Go.RowKit Cr Oc
def er (e : Int) : Value := .tuple #[.int .i64 0, .string ⟨#[]⟩, .int .i64 0, .int .i64 e]
def fv (s : ByteArray) (n b0 b1 b2 b3 : Nat) : Value :=
  if (0 < n ∧ b0 ≠ 183) ∨ (1 < n ∧ b1 ≠ 1) then er 2
  else if 2 < n ∧ (b2 < 1 ∨ 3 < b2) then er 5
  else if 3 < n ∧ 200 < b3 then er 9
  else if n < 4 ∨ n < 6 + b3 then er 3
  else if openE (s.extract 0 (6 + b3)) ≠ 0 then er 4
  else .tuple #[.int .i64 (b2 : Nat), .string (s.extract 4 (4 + b3)), .int .i64 (6 + b3 : Nat), .int .i64 0]
def bt (s : ByteArray) (k : Nat) : Nat := (s.data.getD k 0).toNat
theorem bt_lt (s : ByteArray) (k : Nat) : bt s k < 256 := UInt8.toNat_lt _
def firstV (s : ByteArray) : Value := fv s s.size (bt s 0) (bt s 1) (bt s 2) (bt s 3)
theorem wr0 (b : Nat) (h : b < 256) : IntKind.wrap .i64 (b : Int) = (b : Int) := by rw [IntKind.wrap_i64]; omega
theorem wr6 (b : Nat) (h : b < 256) : IntKind.wrap .i64 (6 + (b : Int)) = ((6 + b : Nat) : Int) := by rw [IntKind.wrap_i64]; omega
theorem wr4 (b : Nat) (h : b < 256) : IntKind.wrap .i64 (((6 + b : Nat) : Int) - 2) = ((4 + b : Nat) : Int) := by rw [IntKind.wrap_i64]; omega
theorem wr46 (b : Nat) (h : b < 256) : IntKind.wrap .i64 (IntKind.wrap .i64 (4 + (b : Int)) + 2) = ((6 + b : Nat) : Int) := by rw [IntKind.wrap_i64, IntKind.wrap_i64]; omega
theorem ext_le (s : ByteArray) (i j : Nat) : (s.extract i j).size ≤ s.size := by rw [ByteArray.size_extract]; omega
theorem cut2 (s : ByteArray) (n : Nat) (h2 : 2 ≤ n) : (s.extract 0 n).extract 0 (n - 2) = s.extract 0 (n - 2) := by
  rw [ByteArray.extract_extract, show min (0 + (n - 2)) n = n - 2 by omega, Nat.add_zero]
theorem openS_cut (s : ByteArray) (n : Nat) (h2 : 2 ≤ n) (hn : n ≤ s.size) (h : openE (s.extract 0 n) = 0) : openS (s.extract 0 n) = s.extract 0 (n - 2) := by
  have hz : (s.extract 0 n).size = n := by rw [ByteArray.size_extract]; omega
  have hl : ¬ (s.extract 0 n).size < 2 := by omega
  unfold openE at h
  rw [if_neg hl] at h
  unfold openS
  rw [if_neg hl]
  split at h
  · rename_i ho
    rw [if_pos ho]
    unfold bodyB
    rw [hz]
    exact cut2 s n h2
  · cases h
theorem openE_cut (s : ByteArray) (n : Nat) (h2 : 2 ≤ n) (hn : n ≤ s.size) : openE (s.extract 0 n) = 0 ∨ openE (s.extract 0 n) = 4 := by
  have hz : (s.extract 0 n).size = n := by rw [ByteArray.size_extract]; omega
  have hl : ¬ (s.extract 0 n).size < 2 := by omega
  unfold openE
  rw [if_neg hl]
  split
  · exact .inl rfl
  · exact .inr rfl
end Go.Proofs.YtlonpmcgejdkkaaDoor.AE.H23
namespace Go.Proofs.YtlonpmcgejdkkaaDoor.AE.H23
set_option maxRecDepth 100000
open Go.RowKit Cr Oc
theorem sl_first : slotsOf 20 = 54 := by kernel_rfl
theorem re_first : resultsOf 20 = [.tmp 2, .tmp 3, .tmp 4, .tmp 5] := by kernel_rfl
theorem cut4 (s : ByteArray) (b : Nat) : (s.extract 0 (4 + b)).extract 4 (4 + b) = s.extract 4 (4 + b) := by
  rw [ByteArray.extract_extract, show min (0 + (4 + b)) (4 + b) = 4 + b by omega, Nat.zero_add]
theorem cut_size (s : ByteArray) (b : Nat) (h : 6 + b ≤ s.size) : (s.extract 0 (4 + b)).size = 4 + b := by rw [ByteArray.size_extract]; omega
theorem fs_first (s : ByteArray) (hs : s.size ≤ 100000) : Fs Tryd.prog nro 20 [.v (.string s)] (hp [] []) fun r _ => r = .v (firstV s) := by
  refine Fs.of_body (has_fn (by kernel_rfl)) ?_
  rw [sl_first, re_first]
  refine Tr.of_flat (Trl.split 4 (Trl.of_code (knownH nro) (ne_nil (by kernel_rfl)) (h_pre s _) ⟨trivial, ?_⟩))
  show Trl _ _ ((flatten (bodyOf 20)).drop 4) _ _ _
  have h2 := bt_lt s 2
  have h3 := bt_lt s 3
  have h0 := bt_lt s 0
  have h1 := bt_lt s 1
  have hE := openE_cut s (6 + bt s 3) (by omega)
  have hS := openS_cut s (6 + bt s 3) (by omega)
  have hx := ext_le s 0 (6 + bt s 3)
  have hz := cut_size s (bt s 3)
  have h4 := cut4 s (bt s 3)
  rw [show 6 + bt s 3 - 2 = 4 + bt s 3 by omega] at hS
  have key : ∀ v : Value, fv s s.size (bt s 0) (bt s 1) (bt s 2) (bt s 3) = v → v = firstV s := fun v h => h.symm
  unfold bt at *
  rcases (by omega : s.size = 0 ∨ s.size = 1 ∨ s.size = 2 ∨ s.size = 3 ∨ 4 ≤ s.size) with hn | hn | hn | hn | hn
  · rw [show (if ((s.size : Nat) : Int) < 4 then ((s.size : Nat) : Int) else 4) = 0 by rw [hn]; rfl]
    refine Trl.of_code (knownH nro) (ne_nil (by kernel_rfl)) (h_go0 s _) ?_
    generalize (s.data.getD 0 0).toNat = b0 at *
    generalize (s.data.getD 1 0).toNat = b1 at *
    generalize (s.data.getD 2 0).toNat = b2 at *
    generalize (s.data.getD 3 0).toNat = b3 at *
    try rw [wr0 b0 h0]
    try rw [wr0 b1 h1]
    try rw [wr0 b2 h2]
    try rw [wr0 b3 h3]
    try rw [wr46 b3 h3]
    try rw [Int.toNat_natCast (6 + b3)]
    generalize hoe : openE (s.extract 0 (6 + b3)) = oe at *
    generalize hos : openS (s.extract 0 (6 + b3)) = os at *
    repeat' (with_reducible refine holds_bif ?_ ?_ <;> intro h <;> simp only [decide_eq_true_eq, decide_eq_false_iff_not, bne_iff_ne, ne_eq, bne_eq_false_iff_eq, Bool.not_eq_true', Bool.not_eq_false'] at h)
    all_goals first
      | (exfalso; omega)
      | (refine ⟨?_, .inr rfl, trivial, congrArg AV.v (key _ ?_)⟩
         · repeat' first
             | with_reducible exact trivial
             | with_reducible refine cdb_iff.2 ⟨?_, ?_⟩
           all_goals (refine decide_eq_true ?_; first | omega | exact Nat.le_trans hx hs | (rw [hS (by omega) (by omega)]; have := hz (by omega); omega))
         · unfold fv
           rw [hoe]
           repeat' split
           all_goals first
             | rfl
             | (exfalso; omega)
             | (rcases hE (by omega) with e4 | e4 <;> first | (exfalso; omega) | (rw [e4]; rfl))
             | (rw [Int.toNat_natCast, hS (by omega) (by omega), hz (by omega), h4]))
  · rw [show (if ((s.size : Nat) : Int) < 4 then ((s.size : Nat) : Int) else 4) = 1 by rw [hn]; rfl]
    refine Trl.of_code (knownH nro) (ne_nil (by kernel_rfl)) (h_go1 s _) ?_
    generalize (s.data.getD 0 0).toNat = b0 at *
    generalize (s.data.getD 1 0).toNat = b1 at *
    generalize (s.data.getD 2 0).toNat = b2 at *
    generalize (s.data.getD 3 0).toNat = b3 at *
    try rw [wr0 b0 h0]
    try rw [wr0 b1 h1]
    try rw [wr0 b2 h2]
    try rw [wr0 b3 h3]
    try rw [wr46 b3 h3]
    try rw [Int.toNat_natCast (6 + b3)]
    generalize hoe : openE (s.extract 0 (6 + b3)) = oe at *
    generalize hos : openS (s.extract 0 (6 + b3)) = os at *
    repeat' (with_reducible refine holds_bif ?_ ?_ <;> intro h <;> simp only [decide_eq_true_eq, decide_eq_false_iff_not, bne_iff_ne, ne_eq, bne_eq_false_iff_eq, Bool.not_eq_true', Bool.not_eq_false'] at h)
    all_goals first
      | (exfalso; omega)
      | (refine ⟨?_, .inr rfl, trivial, congrArg AV.v (key _ ?_)⟩
         · repeat' first
             | with_reducible exact trivial
             | with_reducible refine cdb_iff.2 ⟨?_, ?_⟩
           all_goals (refine decide_eq_true ?_; first | omega | exact Nat.le_trans hx hs | (rw [hS (by omega) (by omega)]; have := hz (by omega); omega))
         · unfold fv
           rw [hoe]
           repeat' split
           all_goals first
             | rfl
             | (exfalso; omega)
             | (rcases hE (by omega) with e4 | e4 <;> first | (exfalso; omega) | (rw [e4]; rfl))
             | (rw [Int.toNat_natCast, hS (by omega) (by omega), hz (by omega), h4]))
  · rw [show (if ((s.size : Nat) : Int) < 4 then ((s.size : Nat) : Int) else 4) = 2 by rw [hn]; rfl]
    refine Trl.of_code (knownH nro) (ne_nil (by kernel_rfl)) (h_go2 s _) ?_
    generalize (s.data.getD 0 0).toNat = b0 at *
    generalize (s.data.getD 1 0).toNat = b1 at *
    generalize (s.data.getD 2 0).toNat = b2 at *
    generalize (s.data.getD 3 0).toNat = b3 at *
    try rw [wr0 b0 h0]
    try rw [wr0 b1 h1]
    try rw [wr0 b2 h2]
    try rw [wr0 b3 h3]
    try rw [wr46 b3 h3]
    try rw [Int.toNat_natCast (6 + b3)]
    generalize hoe : openE (s.extract 0 (6 + b3)) = oe at *
    generalize hos : openS (s.extract 0 (6 + b3)) = os at *
    repeat' (with_reducible refine holds_bif ?_ ?_ <;> intro h <;> simp only [decide_eq_true_eq, decide_eq_false_iff_not, bne_iff_ne, ne_eq, bne_eq_false_iff_eq, Bool.not_eq_true', Bool.not_eq_false'] at h)
    all_goals first
      | (exfalso; omega)
      | (refine ⟨?_, .inr rfl, trivial, congrArg AV.v (key _ ?_)⟩
         · repeat' first
             | with_reducible exact trivial
             | with_reducible refine cdb_iff.2 ⟨?_, ?_⟩
           all_goals (refine decide_eq_true ?_; first | omega | exact Nat.le_trans hx hs | (rw [hS (by omega) (by omega)]; have := hz (by omega); omega))
         · unfold fv
           rw [hoe]
           repeat' split
           all_goals first
             | rfl
             | (exfalso; omega)
             | (rcases hE (by omega) with e4 | e4 <;> first | (exfalso; omega) | (rw [e4]; rfl))
             | (rw [Int.toNat_natCast, hS (by omega) (by omega), hz (by omega), h4]))
  · rw [show (if ((s.size : Nat) : Int) < 4 then ((s.size : Nat) : Int) else 4) = 3 by rw [hn]; rfl]
    refine Trl.of_code (knownH nro) (ne_nil (by kernel_rfl)) (h_go3 s _) ?_
    generalize (s.data.getD 0 0).toNat = b0 at *
    generalize (s.data.getD 1 0).toNat = b1 at *
    generalize (s.data.getD 2 0).toNat = b2 at *
    generalize (s.data.getD 3 0).toNat = b3 at *
    try rw [wr0 b0 h0]
    try rw [wr0 b1 h1]
    try rw [wr0 b2 h2]
    try rw [wr0 b3 h3]
    try rw [wr46 b3 h3]
    try rw [Int.toNat_natCast (6 + b3)]
    generalize hoe : openE (s.extract 0 (6 + b3)) = oe at *
    generalize hos : openS (s.extract 0 (6 + b3)) = os at *
    repeat' (with_reducible refine holds_bif ?_ ?_ <;> intro h <;> simp only [decide_eq_true_eq, decide_eq_false_iff_not, bne_iff_ne, ne_eq, bne_eq_false_iff_eq, Bool.not_eq_true', Bool.not_eq_false'] at h)
    all_goals first
      | (exfalso; omega)
      | (refine ⟨?_, .inr rfl, trivial, congrArg AV.v (key _ ?_)⟩
         · repeat' first
             | with_reducible exact trivial
             | with_reducible refine cdb_iff.2 ⟨?_, ?_⟩
           all_goals (refine decide_eq_true ?_; first | omega | exact Nat.le_trans hx hs | (rw [hS (by omega) (by omega)]; have := hz (by omega); omega))
         · unfold fv
           rw [hoe]
           repeat' split
           all_goals first
             | rfl
             | (exfalso; omega)
             | (rcases hE (by omega) with e4 | e4 <;> first | (exfalso; omega) | (rw [e4]; rfl))
             | (rw [Int.toNat_natCast, hS (by omega) (by omega), hz (by omega), h4]))
  · rw [show (if ((s.size : Nat) : Int) < 4 then ((s.size : Nat) : Int) else 4) = 4 by rw [if_neg (by omega)]]
    refine Trl.of_code (knownH nro) (ne_nil (by kernel_rfl)) (h_go4 s _) ?_
    generalize (s.data.getD 0 0).toNat = b0 at *
    generalize (s.data.getD 1 0).toNat = b1 at *
    generalize (s.data.getD 2 0).toNat = b2 at *
    generalize (s.data.getD 3 0).toNat = b3 at *
    try rw [wr0 b0 h0]
    try rw [wr0 b1 h1]
    try rw [wr0 b2 h2]
    try rw [wr0 b3 h3]
    try rw [wr46 b3 h3]
    try rw [Int.toNat_natCast (6 + b3)]
    generalize hoe : openE (s.extract 0 (6 + b3)) = oe at *
    generalize hos : openS (s.extract 0 (6 + b3)) = os at *
    repeat' (with_reducible refine holds_bif ?_ ?_ <;> intro h <;> simp only [decide_eq_true_eq, decide_eq_false_iff_not, bne_iff_ne, ne_eq, bne_eq_false_iff_eq, Bool.not_eq_true', Bool.not_eq_false'] at h)
    all_goals first
      | (exfalso; omega)
      | (refine ⟨?_, .inr rfl, trivial, congrArg AV.v (key _ ?_)⟩
         · repeat' first
             | with_reducible exact trivial
             | with_reducible refine cdb_iff.2 ⟨?_, ?_⟩
           all_goals (refine decide_eq_true ?_; first | omega | exact Nat.le_trans hx hs | (rw [hS (by omega) (by omega)]; have := hz (by omega); omega))
         · unfold fv
           rw [hoe]
           repeat' split
           all_goals first
             | rfl
             | (exfalso; omega)
             | (rcases hE (by omega) with e4 | e4 <;> first | (exfalso; omega) | (rw [e4]; rfl))
             | (rw [Int.toNat_natCast, hS (by omega) (by omega), hz (by omega), h4]))
def firstP : List Value → Option (Value × Bool) := fun us => match us with
  | [.string s] => some (firstV s, decide (s.size ≤ 100000))
  | _ => none
theorem first_ok (ro : Nat → Option (List Value)) : ∀ args H r H', pure? firstP args H = some (r, H') → HSound1 Tryd.prog ro 20 args H r H' := by
  refine pure_ok (fun us c hs => Fs.ro ?_ ro) (has_fn (by kernel_rfl))
  unfold firstP at hs
  split at hs
  · rename_i s
    simp only [Option.some.injEq, Prod.mk.injEq, decide_eq_true_eq] at hs
    obtain ⟨rfl, h⟩ := hs
    exact fs_first s h
  · cases hs
end Go.Proofs.YtlonpmcgejdkkaaDoor.AE.H23
namespace Go.Proofs.YtlonpmcgejdkkaaDoor.AE.H23
set_option maxRecDepth 100000
open Go.RowKit Cr Oc
def tI (i : Nat) (v : Value) : Int := match v with
  | .tuple a => match a[i]? with
    | some (.int _ n) => n
    | _ => 0
  | _ => 0
def tS (i : Nat) (v : Value) : ByteArray := match v with
  | .tuple a => match a[i]? with
    | some (.string s) => s
    | _ => ⟨#[]⟩
  | _ => ⟨#[]⟩
def fK (s : ByteArray) : Int := tI 0 (firstV s)
def fB (s : ByteArray) : ByteArray := tS 1 (firstV s)
def fN (s : ByteArray) : Int := tI 2 (firstV s)
def fE (s : ByteArray) : Int := tI 3 (firstV s)
theorem firstV_eq (s : ByteArray) : firstV s = .tuple #[.int .i64 (fK s), .string (fB s), .int .i64 (fN s), .int .i64 (fE s)] := by
  unfold fK fB fN fE firstV fv
  repeat' split
  all_goals rfl
def firstQ : List Value → Option (Value × Bool) := fun us => match us with
  | [.string s] => some (.tuple #[.int .i64 (fK s), .string (fB s), .int .i64 (fN s), .int .i64 (fE s)], decide (s.size ≤ 100000))
  | _ => none
theorem firstQ_eq : firstQ = firstP := by
  funext us
  unfold firstQ firstP
  split
  · rw [← firstV_eq]
  · rename_i h
    first
      | rfl
      | (split
         · exact absurd rfl (h _)
         · rfl)
theorem byts_inj {a b : ByteArray} (h : bytsOf a = bytsOf b) : a = b := by
  apply ByteArray.ext
  exact Array.toList_inj.1 h
theorem byts_seal (a : ByteArray) : bytsOf (sealS a) = bytsOf a ++ be 2 (sumS a) := rfl
theorem seal_body (a : ByteArray) : bodyB (sealS a) = a := by
  have h2 : 2 ≤ (sealS a).size := by rw [seal_size]; omega
  have h := split_b (sealS a) h2
  rw [byts_seal] at h
  refine byts_inj (List.append_inj h ?_).1.symm
  rw [len_byts, len_byts]
  unfold bodyB
  rw [ByteArray.size_extract, seal_size]
  omega
theorem seal_opens (a : ByteArray) : opens (sealS a) = true := by
  unfold opens
  rw [seal_body]
  exact beq_self_eq_true _
theorem openE_seal (a : ByteArray) : openE (sealS a) = 0 := by
  have h2 : ¬ (sealS a).size < 2 := by rw [seal_size]; omega
  unfold openE
  rw [if_neg h2, seal_opens]
  rfl
theorem byts_app (a b : ByteArray) : bytsOf (a ++ b) = bytsOf a ++ bytsOf b := by
  unfold bytsOf
  rw [ByteArray.data_append, Array.toList_append]
theorem byts_cut (s : ByteArray) (i j : Nat) : bytsOf (s.extract i j) = ((bytsOf s).drop i).take (j - i) := by
  unfold bytsOf
  rw [ByteArray.data_extract, Array.toList_extract]
theorem bt_list (s : ByteArray) (k : Nat) : bt s k = ((bytsOf s).getD k 0).toNat := by
  unfold bt bytsOf
  rw [Array.getD_eq_getD_getElem?, List.getD_eq_getElem?_getD, Array.getElem?_toList]
def hdr (k n : Nat) : ByteArray := ⟨#[UInt8.ofNat 183, UInt8.ofNat 1, UInt8.ofNat k, UInt8.ofNat n]⟩
theorem first_put (k : Nat) (b m : ByteArray) (h1 : 1 ≤ k) (h3 : k ≤ 3) (hb : b.size ≤ 200) : firstV (sealS (hdr k b.size ++ b) ++ m) = .tuple #[.int .i64 (k : Nat), .string b, .int .i64 (6 + b.size : Nat), .int .i64 0] := by
  have e : bytsOf (sealS (hdr k b.size ++ b) ++ m) = [UInt8.ofNat 183, UInt8.ofNat 1, UInt8.ofNat k, UInt8.ofNat b.size] ++ bytsOf b ++ be 2 (sumS (hdr k b.size ++ b)) ++ bytsOf m := by
    rw [byts_app, byts_seal, byts_app]; rfl
  have hx : (sealS (hdr k b.size ++ b)).size = 6 + b.size := by
    rw [seal_size, ByteArray.size_append]
    show 4 + b.size + 2 = _
    omega
  have hsz : (sealS (hdr k b.size ++ b) ++ m).size = 6 + b.size + m.size := by rw [ByteArray.size_append, hx]
  have e0 : bt (sealS (hdr k b.size ++ b) ++ m) 0 = 183 := by rw [bt_list, e]; rfl
  have e1 : bt (sealS (hdr k b.size ++ b) ++ m) 1 = 1 := by rw [bt_list, e]; rfl
  have e2 : bt (sealS (hdr k b.size ++ b) ++ m) 2 = k := by
    rw [bt_list, e]
    show (UInt8.ofNat k).toNat = k
    exact UInt8.toNat_ofNat_of_lt' (by show k < 256; omega)
  have e3 : bt (sealS (hdr k b.size ++ b) ++ m) 3 = b.size := by
    rw [bt_list, e]
    show (UInt8.ofNat b.size).toNat = b.size
    exact UInt8.toNat_ofNat_of_lt' (by show b.size < 256; omega)
  have hcut : (sealS (hdr k b.size ++ b) ++ m).extract 0 (6 + b.size) = sealS (hdr k b.size ++ b) := by
    apply byts_inj
    rw [byts_cut, byts_app, List.drop_zero, Nat.sub_zero]
    exact List.take_left' (by rw [len_byts, hx])
  have hbody : (sealS (hdr k b.size ++ b) ++ m).extract 4 (4 + b.size) = b := by
    apply byts_inj
    rw [byts_cut, e]
    rw [List.append_assoc, List.append_assoc, List.drop_left' (by rfl)]
    exact List.take_left' (by rw [len_byts]; omega)
  unfold firstV
  rw [e0, e1, e2, e3, hsz]
  unfold fv
  rw [hcut, openE_seal, hbody, if_neg (by omega), if_neg (by omega), if_neg (by omega), if_neg (by omega), if_neg (by decide)]
theorem put_facts (k : Nat) (b m : ByteArray) (h1 : 1 ≤ k) (h3 : k ≤ 3) (hb : b.size ≤ 200) : fK (sealS (hdr k b.size ++ b) ++ m) = (k : Nat) ∧ fB (sealS (hdr k b.size ++ b) ++ m) = b ∧ fN (sealS (hdr k b.size ++ b) ++ m) = (6 + b.size : Nat) ∧ fE (sealS (hdr k b.size ++ b) ++ m) = 0 := by
  have h := first_put k b m h1 h3 hb
  unfold fK fB fN fE
  rw [h]
  exact ⟨rfl, rfl, rfl, rfl⟩
theorem hdr_eq (k : Nat) (b : ByteArray) (h3 : k ≤ 3) (hb : b.size ≤ 200) : ByteArray.mk #[UInt8.ofNat 183, UInt8.ofNat 1, UInt8.ofNat (Int.toNat (exInt (.v (.int .u8 (IntKind.wrap .u8 (k : Int)))))), UInt8.ofNat (Int.toNat (Int.ofNat (b.size % 256)))] = hdr k b.size := by
  have e1 : Int.toNat (exInt (.v (.int .u8 (IntKind.wrap .u8 (k : Int))))) = k := by
    show Int.toNat (IntKind.wrap .u8 (k : Int)) = k
    rw [IntKind.wrap_u8]; omega
  have e2 : Int.toNat (Int.ofNat (b.size % 256)) = b.size := by
    show b.size % 256 = b.size
    omega
  rw [e1, e2]
  rfl
theorem len6 (n : Nat) (h : n ≤ 300) : IntKind.wrap .i64 (IntKind.wrap .i64 (4 + (n : Int)) + 2) = ((6 + n : Nat) : Int) := by rw [IntKind.wrap_i64, IntKind.wrap_i64]; omega

noncomputable def prT : FuncId → Option (List AV → AH → Ans) := fun g => match g with
  | 20 => some (pure? firstQ)
  | _ => none
theorem knownT : Known nro prT := by
  intro g p h
  unfold prT at h
  split at h
  · cases h; rw [firstQ_eq]; exact first_ok _
  · cases h
theorem t_hget (s : ByteArray) (Φ : AV → Prop) : callK nro (fun _ => false) prT 5 14 [.v (.string s)] (hp [] []) (fun r h => some (h.cd ∧ Φ r)) =
    (bif ((H23.fE s) != (0 : Int)) then (some ((cdb True (decide ((ByteArray.size s) ≤ (100000 : Nat)))) ∧ (Φ (AV.v (Value.tuple #[(Value.int IntKind.i64 (0 : Int)), (Value.string (ByteArray.mk (Array.mk (@List.nil UInt8)))), (Value.int IntKind.i64 (H23.fE s))]))))) else (bif (decide ((H23.fN s) < ((ByteArray.size s) : Int))) then (some ((cdb True (decide ((ByteArray.size s) ≤ (100000 : Nat)))) ∧ (Φ (AV.v (Value.tuple #[(Value.int IntKind.i64 (0 : Int)), (Value.string (ByteArray.mk (Array.mk (@List.nil UInt8)))), (Value.int IntKind.i64 (2 : Int))]))))) else (some ((cdb True (decide ((ByteArray.size s) ≤ (100000 : Nat)))) ∧ (Φ (AV.v (Value.tuple #[(Value.int IntKind.i64 (H23.fK s)), (Value.string (H23.fB s)), (Value.int IntKind.i64 (0 : Int))]))))))) := by kernel_rfl
end Go.Proofs.YtlonpmcgejdkkaaDoor.AE.H23
namespace Go.Proofs.YtlonpmcgejdkkaaDoor.AE.H23
set_option maxRecDepth 100000
open Go.RowKit Cr Oc
/-- A frame of a kind and a body. -/
def hpOk (k : Int) (b : ByteArray) : Prop := 1 ≤ k ∧ k ≤ 3 ∧ b.size ≤ 200
instance (k : Int) (b : ByteArray) : Decidable (hpOk k b) := by unfold hpOk; infer_instance
def hpS (k : Int) (b : ByteArray) : ByteArray := if hpOk k b then sealS (hdr k.toNat b.size ++ b) else ⟨#[]⟩
def hpE (k : Int) (b : ByteArray) : Int := if hpOk k b then 0 else if 1 ≤ k ∧ k ≤ 3 then 9 else 5
def hgE (s : ByteArray) : Int := if fE s ≠ 0 then fE s else if fN s < s.size then 2 else 0
def hgK (s : ByteArray) : Int := if hgE s = 0 then fK s else 0
def hgB (s : ByteArray) : ByteArray := if hgE s = 0 then fB s else ⟨#[]⟩
def hgV (s : ByteArray) : Value := .tuple #[.int .i64 (hgK s), .string (hgB s), .int .i64 (hgE s)]
def hpV (k : Int) (b : ByteArray) : Value := .tuple #[.string (hpS k b), .int .i64 (hpE k b)]
theorem hg_bad {s : ByteArray} {e : Int} (h : hgE s = e) (hne : e ≠ 0) : AV.v (.tuple #[.int .i64 0, .string ⟨#[]⟩, .int .i64 e]) = .v (hgV s) := by
  subst h
  unfold hgV hgK hgB
  rw [if_neg hne, if_neg hne]
theorem hg_good {s : ByteArray} (h : hgE s = 0) : AV.v (.tuple #[.int .i64 (fK s), .string (fB s), .int .i64 0]) = .v (hgV s) := by
  unfold hgV hgK hgB
  rw [if_pos h, if_pos h, h]
theorem fs_hget (s : ByteArray) (hs : s.size ≤ 100000) : Fs Tryd.prog nro 14 [.v (.string s)] (hp [] []) fun r _ => r = .v (hgV s) := by
  refine Fs.of_call knownT (t_hget s _) (holds_bif (fun h => ⟨cdb_iff.2 ⟨trivial, decide_eq_true hs⟩, ?_⟩) fun h => holds_bif (fun h2 => ⟨cdb_iff.2 ⟨trivial, decide_eq_true hs⟩, ?_⟩) fun h2 => ⟨cdb_iff.2 ⟨trivial, decide_eq_true hs⟩, ?_⟩)
  · have h : fE s ≠ 0 := by simpa using h
    exact hg_bad (by unfold hgE; rw [if_pos h]) h
  · have h : ¬ fE s ≠ 0 := by simpa using h
    exact hg_bad (by unfold hgE; rw [if_neg h, if_pos (of_decide_eq_true h2)]) (by decide)
  · have h : ¬ fE s ≠ 0 := by simpa using h
    exact hg_good (by unfold hgE; rw [if_neg h, if_neg (of_decide_eq_false h2)])
theorem hp_kind {k : Int} {b : ByteArray} (h : ¬ (1 ≤ k ∧ k ≤ 3)) : AV.v (.tuple #[.string ⟨#[]⟩, .int .i64 5]) = .v (hpV k b) := by
  have hn : ¬ hpOk k b := fun e => h ⟨e.1, e.2.1⟩
  unfold hpV hpS hpE
  rw [if_neg hn, if_neg hn, if_neg h]
theorem hp_many {k : Int} {b : ByteArray} (h : 1 ≤ k ∧ k ≤ 3) (h2 : ¬ b.size ≤ 200) : AV.v (.tuple #[.string ⟨#[]⟩, .int .i64 9]) = .v (hpV k b) := by
  have hn : ¬ hpOk k b := fun e => h2 e.2.2
  unfold hpV hpS hpE
  rw [if_neg hn, if_neg hn, if_pos h]
theorem hp_good {k : Int} {b : ByteArray} (h : hpOk k b) : AV.v (.tuple #[.string (sealS (hdr k.toNat b.size ++ b)), .int .i64 0]) = .v (hpV k b) := by
  unfold hpV hpS hpE
  rw [if_pos h, if_pos h]
theorem hdr_k {k : Int} {b : ByteArray} (h : hpOk k b) : ByteArray.mk #[UInt8.ofNat 183, UInt8.ofNat 1, UInt8.ofNat (Int.toNat (exInt (.v (.int .u8 (IntKind.wrap .u8 k))))), UInt8.ofNat (Int.toNat (Int.ofNat (b.size % 256)))] = hdr k.toNat b.size := by
  obtain ⟨kn, rfl⟩ := Int.eq_ofNat_of_zero_le (show 0 ≤ k by have := h.1; omega)
  have := h.2.1
  exact hdr_eq kn b (by omega) h.2.2
theorem hq_size {k : Int} {b : ByteArray} : (hdr k.toNat b.size ++ b).size = 4 + b.size := by rw [ByteArray.size_append]; rfl
theorem fs_hput (k : Int) (b : ByteArray) : Fs Tryd.prog nro 13 [.v (.int .i64 k), .v (.string b)] (hp [] []) fun r _ => r = .v (hpV k b) := by
  refine Fs.of_call (knownH nro) (t_put k b _) (holds_bif (fun h1 => holds_bif (fun h2 => ⟨trivial, hp_kind ?_⟩) fun h2 => holds_bif (fun h3 => ⟨trivial, hp_many ?_ ?_⟩) fun h3 => ?_) fun h1 => ⟨trivial, hp_kind ?_⟩)
  · have h2 : ¬ k ≤ 3 := by simpa using h2
    omega
  · have h1 := of_decide_eq_true h1
    have h2 : k ≤ 3 := by simpa using h2
    exact ⟨h1, h2⟩
  · have h3 := of_decide_eq_true h3
    omega
  · have h1 := of_decide_eq_true h1
    have h2 : k ≤ 3 := by simpa using h2
    have h3 := of_decide_eq_false h3
    have hok : hpOk k b := ⟨h1, h2, by omega⟩
    have hq := hq_size (k := k) (b := b)
    rw [hdr_k hok]
    refine ⟨cdb_iff.2 ⟨cdb_iff.2 ⟨trivial, decide_eq_true ?_⟩, decide_eq_true ?_⟩, hp_good hok⟩
    · show 4 + b.size ≤ _
      omega
    · rw [hq]; omega
  · have h1 := of_decide_eq_false h1
    omega
theorem hp_size {k : Int} {b : ByteArray} (h : hpOk k b) : (hpS k b).size = 6 + b.size := by
  unfold hpS
  rw [if_pos h, seal_size, hq_size]; omega
theorem hp_le (k : Int) (b : ByteArray) : (hpS k b).size ≤ 206 := by
  by_cases h : hpOk k b
  · rw [hp_size h]; have := h.2.2; omega
  · unfold hpS; rw [if_neg h]; exact Nat.zero_le _
theorem hg_kind {s : ByteArray} (h : hgE s = 0) : 1 ≤ hgK s ∧ hgK s ≤ 3 := by
  unfold hgK
  rw [if_pos h]
  unfold hgE at h
  split at h
  · rename_i h2; exact absurd h h2
  · rename_i h2
    have h2 : fE s = 0 := Decidable.byContradiction h2
    unfold fK
    unfold fE at h2
    unfold firstV fv at h2 ⊢
    split at h2
    · cases h2
    · split at h2
      · cases h2
      · split at h2
        · cases h2
        · split at h2
          · cases h2
          · split at h2
            · cases h2
            · rename_i a1 a2 a3 a4 a5
              rw [if_neg a1, if_neg a2, if_neg a3, if_neg a4, if_neg a5]
              show 1 ≤ ((bt s 2 : Nat) : Int) ∧ ((bt s 2 : Nat) : Int) ≤ 3
              omega
theorem hg_body (s : ByteArray) : (hgB s).size ≤ 300 := by
  unfold hgB
  split
  · unfold fB firstV fv
    repeat' split
    all_goals first
      | exact Nat.zero_le _
      | (show ByteArray.size (s.extract 4 (4 + bt s 3)) ≤ 300
         rw [ByteArray.size_extract]
         have := bt_lt s 3
         omega)
  · exact Nat.zero_le _
/-- A frame that was put comes back. -/
theorem hg_put {k : Int} {b : ByteArray} (h : hpOk k b) : hgE (hpS k b) = 0 ∧ hgK (hpS k b) = k ∧ hgB (hpS k b) = b := by
  obtain ⟨kn, rfl⟩ := Int.eq_ofNat_of_zero_le (show 0 ≤ k by have := h.1; omega)
  obtain ⟨h1, h2, h3⟩ := h
  have hok : hpOk ((kn : Nat) : Int) b := ⟨h1, h2, h3⟩
  have f := put_facts kn b ⟨#[]⟩ (by omega) (by omega) h3
  have hz := hp_size hok
  have e : hpS ((kn : Nat) : Int) b = sealS (hdr kn b.size ++ b) ++ ⟨#[]⟩ := by
    unfold hpS
    rw [if_pos hok]
    exact byts_inj (by rw [byts_app]; simp [bytsOf])
  rw [← e] at f
  obtain ⟨f1, f2, f3, f4⟩ := f
  have he : hgE (hpS ((kn : Nat) : Int) b) = 0 := by
    unfold hgE
    rw [if_neg (by rw [f4]; decide), if_neg (by rw [f3, hz]; omega)]
  refine ⟨he, ?_, ?_⟩
  · unfold hgK; rw [if_pos he, f1]
  · unfold hgB; rw [if_pos he, f2]
end Go.Proofs.YtlonpmcgejdkkaaDoor.AE.H23
namespace Go.Proofs.YtlonpmcgejdkkaaDoor.AE.H23
set_option maxRecDepth 100000
open Go.RowKit Cr Oc
theorem take4 {l : List UInt8} {b0 b1 b2 b3 : Nat} (hl : 4 ≤ l.length) (h0 : (l.getD 0 0).toNat = b0) (h1 : (l.getD 1 0).toNat = b1) (h2 : (l.getD 2 0).toNat = b2) (h3 : (l.getD 3 0).toNat = b3) : l.take 4 = [UInt8.ofNat b0, UInt8.ofNat b1, UInt8.ofNat b2, UInt8.ofNat b3] := by
  match l, hl with
  | x0 :: x1 :: x2 :: x3 :: r, _ =>
    subst h0 h1 h2 h3
    simp
theorem hp_back {s : ByteArray} (h : hgE s = 0) : hpOk (hgK s) (hgB s) ∧ hpS (hgK s) (hgB s) = s := by
  have hK : hgK s = fK s := if_pos h
  have hB : hgB s = fB s := if_pos h
  rw [hK, hB]
  unfold hgE at h
  split at h
  · rename_i h2; exact absurd h h2
  · rename_i h2
    have h2 : fE s = 0 := Decidable.byContradiction h2
    split at h
    · cases h
    · rename_i h4
      have hv := firstV_eq s
      unfold firstV fv at hv
      split at hv
      · rw [h2] at hv; have := congrArg (tI 3) hv; simp [tI, er] at this
      · split at hv
        · rw [h2] at hv; have := congrArg (tI 3) hv; simp [tI, er] at this
        · split at hv
          · rw [h2] at hv; have := congrArg (tI 3) hv; simp [tI, er] at this
          · split at hv
            · rw [h2] at hv; have := congrArg (tI 3) hv; simp [tI, er] at this
            · split at hv
              · rw [h2] at hv; have := congrArg (tI 3) hv; simp [tI, er] at this
              · rename_i a1 a2 a3 a4 a5
                have eN : fN s = ((6 + bt s 3 : Nat) : Int) := by injection hv with hv; injection hv with hv; injection hv with e1 hv; injection hv with e2 hv; injection hv with e3 hv; injection e3 with _ e3; exact e3.symm
                have eK : fK s = ((bt s 2 : Nat) : Int) := by injection hv with hv; injection hv with hv; injection hv with e1 hv; injection e1 with _ e1; exact e1.symm
                have eB : fB s = s.extract 4 (4 + bt s 3) := by injection hv with hv; injection hv with hv; injection hv with e1 hv; injection hv with e2 hv; injection e2 with e2; exact e2.symm
                rw [eN] at h4
                have hz : s.size = 6 + bt s 3 := by omega
                have hbz : (s.extract 4 (4 + bt s 3)).size = bt s 3 := by rw [ByteArray.size_extract]; omega
                rw [eK, eB]
                have hok : hpOk ((bt s 2 : Nat) : Int) (s.extract 4 (4 + bt s 3)) := ⟨by omega, by omega, by rw [hbz]; omega⟩
                refine ⟨hok, ?_⟩
                have e6 : s.extract 0 (6 + bt s 3) = s := by
                  apply byts_inj
                  rw [byts_cut, List.drop_zero, Nat.sub_zero]
                  exact List.take_of_length_le (by rw [len_byts]; omega)
                have a5 : openE s = 0 := by rw [e6] at a5; exact Decidable.byContradiction a5
                have hop : opens s = true := by
                  unfold openE at a5
                  rw [if_neg (by omega)] at a5
                  split at a5
                  · assumption
                  · cases a5
                unfold opens at hop
                have hop := byts_inj (eq_of_beq hop)
                have hbody : hdr (bt s 2) (bt s 3) ++ s.extract 4 (4 + bt s 3) = bodyB s := by
                  apply byts_inj
                  unfold bodyB
                  rw [byts_app, byts_cut, byts_cut, List.drop_zero, hz]
                  have hl : 4 ≤ (bytsOf s).length := by rw [len_byts]; omega
                  have t4 := take4 (b0 := 183) (b1 := 1) (b2 := bt s 2) (b3 := bt s 3) hl (by rw [← bt_list]; omega) (by rw [← bt_list]; omega) (by rw [← bt_list]) (by rw [← bt_list])
                  show [UInt8.ofNat 183, UInt8.ofNat 1, UInt8.ofNat (bt s 2), UInt8.ofNat (bt s 3)] ++ _ = _
                  rw [← t4, show 6 + bt s 3 - 2 - 0 = 4 + bt s 3 by omega, show 4 + bt s 3 - 4 = bt s 3 by omega]
                  rw [List.take_add]
                unfold hpS
                rw [if_pos hok, hbz, Int.toNat_natCast, hbody]
                exact hop
end Go.Proofs.YtlonpmcgejdkkaaDoor.AE.H23
