/-
  Layer 5: the document's text of a number is the library's.
-/
import Derived.Test.YtjnonfcemicmoaaDoorT05C
namespace Go.Proofs.YtjnonfcemicmoaaDoor.AE
open Go.RowKit
theorem ne_nil {α : Type} {l : List α} (h : l.isEmpty = false) : l ≠ [] := by cases l <;> simp_all
theorem Fs.ro {g : FuncId} {args : List AV} {H : AH} {Φ : AV → AH → Prop} (h : Fs Tryd.prog nro g args H Φ) (ro : Nat → Option (List Value)) : Fs Tryd.prog ro g args H Φ :=
  fun G W cargs hI _ hA => h G W cargs hI (ro_none _ _) hA
theorem tdiv10 (k : Int) : Int.tdiv k 10 = if k < 0 then -((-k) / 10) else k / 10 := by
  split
  · have h : Int.tdiv k 10 = -(Int.tdiv (-k) 10) := by rw [Int.neg_tdiv, Int.neg_neg]
    rw [h, Int.tdiv_eq_ediv_of_nonneg (by omega)]
  · exact Int.tdiv_eq_ediv_of_nonneg (by omega)
def D10 (u : Nat) : List UInt8 := if u = 0 then [] else Lib.decDigits u
theorem D10_step (u : Nat) (h : u ≠ 0) : D10 u = D10 (u / 10) ++ [UInt8.ofNat (48 + u % 10)] := by
  unfold D10
  rw [if_neg h]
  by_cases h10 : u < 10
  · rw [Lib.decDigits, dif_pos h10, if_pos (by omega), Nat.mod_eq_of_lt h10]; rfl
  · rw [Lib.decDigits, dif_neg h10, if_neg (by omega)]
theorem dig : ∀ i, i < 10 → (ByteArray.mk #[48, 49, 50, 51, 52, 53, 54, 55, 56, 57]).extract i (i + 1) = ⟨#[UInt8.ofNat (48 + i)]⟩ := by decide +kernel
theorem sl_rt : slotsOf 12 = 33 := by kernel_rfl
theorem re_rt : resultsOf 12 = [.tmp 2] := by kernel_rfl
theorem fl_rt : (flatten (bodyOf 12)).drop 4 = .block 0 (.loop (sub (bodyOf 12) [1, 1, 1, 0, 0, 0])) :: (flatten (bodyOf 12)).drop 5 := by kernel_rfl
theorem D10_len (u : Nat) : ∀ m, u < 10 ^ m → (D10 u).length ≤ m := by
  induction u using Nat.strongRecOn with
  | _ u ih =>
    intro m hm
    by_cases h : u = 0
    · subst h; exact Nat.zero_le _
    · cases m with
      | zero => exact absurd hm (by simp; omega)
      | succ m =>
        rw [D10_step u h, List.length_append]
        have := ih (u / 10) (by omega) m (by rw [Nat.pow_succ] at hm; omega)
        show (D10 (u / 10)).length + 1 ≤ m + 1
        omega
theorem fs_rtext (n : Int) (h0 : -9223372036854775808 ≤ n) (h1 : n ≤ 9223372036854775807) : Fs Tryd.prog nro 12 [.v (.int .i64 n)] (hp [] []) fun r _ => r = .v (.string ⟨(Lib.itoa n).toArray⟩) := by
  refine Fs.of_body (has_fn (by kernel_rfl)) ?_
  rw [sl_rt, re_rt]
  refine Tr.of_flat (Trl.split 4 (Trl.of_code (known_none nro) (ne_nil (by kernel_rfl)) (x_pre n _) (holds_bif (fun h => ⟨trivial, .inr rfl, trivial, ?_⟩) fun h => ⟨trivial, ?_⟩)))
  · have hn : n = 0 := eq_of_beq h
    subst hn
    exact congrArg (fun x => AV.v (.string x)) (by decide +kernel)
  have hn0 : n ≠ 0 := ne_of_beq_false h
  show Trl _ _ ((flatten (bodyOf 12)).drop 4) _ _ _
  rw [fl_rt]
  refine Tr.keepL [0, 3, 4] rfl ?_
  let I : Nat → List AV → AH → Prop := fun m act H => ∃ k s, m = k.natAbs ∧ act = xA n s k ∧ k.natAbs ≤ n.natAbs ∧ D10 n.natAbs = D10 k.natAbs ++ s.data.toList ∧ H = hp [] []
  refine Tr.block (Tr.loop I ?_ (m := n.natAbs) ⟨n, _, rfl, rfl, Nat.le_refl _, by simp, rfl⟩)
  rintro m act H ⟨k, s, rfl, rfl, hkn, hD, rfl⟩
  have hlen : s.size ≤ 20 := by
    have h2 := D10_len n.natAbs 20 (by have : (10 : Nat) ^ 20 = 100000000000000000000 := by decide
                                       omega)
    rw [hD, List.length_append] at h2
    have h3 : s.data.toList.length = s.size := by rw [Array.length_toList]; rfl
    omega
  have hk0 : -9223372036854775808 ≤ k := by omega
  have hk1 : k ≤ 9223372036854775808 := by omega
  have ht := tdiv10 k
  obtain ⟨q, hq⟩ : ∃ q, q = Int.tdiv k 10 := ⟨_, rfl⟩
  obtain ⟨d, hd⟩ : ∃ d, d = k - q * 10 := ⟨_, rfl⟩
  have f1 : q.natAbs = k.natAbs / 10 ∧ d.natAbs = k.natAbs % 10 ∧ -9 ≤ d ∧ d ≤ 9 := by
    rw [← hq] at ht
    split at ht <;> omega
  have body := fun R => x_in n k s R
  have eA : IntKind.wrap .i64 (Int.tdiv k 10) = q := by rw [← hq, IntKind.wrap_i64]; omega
  have eB : IntKind.wrap .i64 (q * 10) = q * 10 := by rw [IntKind.wrap_i64]; omega
  have eC : IntKind.wrap .i64 (k - q * 10) = d := by rw [← hd, IntKind.wrap_i64]; omega
  have eD : IntKind.wrap .i64 (0 - d) = -d := by rw [IntKind.wrap_i64]; omega
  have eE : IntKind.wrap .i64 (d + 1) = d + 1 := by rw [IntKind.wrap_i64]; omega
  have eF : IntKind.wrap .i64 (-d + 1) = -d + 1 := by rw [IntKind.wrap_i64]; omega
  rw [eA, eB, eC, eD, eE, eF] at body
  clear eA eB eC eD eE eF ht
  have step : ∀ i : Nat, i = d.natAbs → k ≠ 0 → D10 n.natAbs = D10 q.natAbs ++ ((ByteArray.mk #[48, 49, 50, 51, 52, 53, 54, 55, 56, 57]).extract i (i + 1) ++ s).data.toList := by
    rintro i hi hk
    rw [dig i (by omega), hD, D10_step k.natAbs (by omega), ← f1.1, ByteArray.data_append, Array.toList_append, List.append_assoc]
    rw [hi, f1.2.1]
  have sz : ∀ i : Nat, i < 10 → ((ByteArray.mk #[48, 49, 50, 51, 52, 53, 54, 55, 56, 57]).extract i (i + 1)).size = 1 := fun i hi => by rw [dig i hi]; rfl
  refine Tr.of_code (known_none nro) (body _) (holds_bif (fun h9 => holds_bif (fun hd9 => ?_) (fun hd9 => ?_)) (fun h9 => ⟨trivial, ?_⟩))
  · have h9 : k ≠ 0 := by simpa using h9
    have hd9 := of_decide_eq_true hd9
    have e1 : Int.toNat (-d) = d.natAbs := by omega
    have e2 : Int.toNat (-d + 1) = d.natAbs + 1 := by omega
    rw [e1, e2]
    refine ⟨?_, q.natAbs, by omega, q, _, rfl, rfl, by omega, step _ rfl h9, rfl⟩
    have hz := sz d.natAbs (by omega)
    with_reducible refine cdb_iff.2 ⟨cdb_iff.2 ⟨trivial, decide_eq_true ?_⟩, decide_eq_true ?_⟩
    · omega
    · exact Nat.le_trans (Nat.add_le_add_right (Nat.le_of_eq hz) s.size) (by omega)
  · have h9 : k ≠ 0 := by simpa using h9
    have hd9 := of_decide_eq_false hd9
    have e1 : Int.toNat d = d.natAbs := by omega
    have e2 : Int.toNat (d + 1) = d.natAbs + 1 := by omega
    rw [e1, e2]
    refine ⟨?_, q.natAbs, by omega, q, _, rfl, rfl, by omega, step _ rfl h9, rfl⟩
    have hz := sz d.natAbs (by omega)
    with_reducible refine cdb_iff.2 ⟨cdb_iff.2 ⟨trivial, decide_eq_true ?_⟩, decide_eq_true ?_⟩
    · omega
    · exact Nat.le_trans (Nat.add_le_add_right (Nat.le_of_eq hz) s.size) (by omega)
  · have h9 : k = 0 := by simpa using h9
    subst h9
    show Trl _ _ ((flatten (bodyOf 12)).drop 5) _ _ _
    have hs : s.data.toList = Lib.decDigits n.natAbs := by
      have : D10 n.natAbs = Lib.decDigits n.natAbs := if_neg (by omega)
      rw [← this, hD]; rfl
    refine Trl.of_code (known_none nro) (ne_nil (by kernel_rfl)) (x_post n 0 s _) (holds_bif (fun hn => ⟨?_, .inr rfl, trivial, ?_⟩) (fun hn => ⟨trivial, .inr rfl, trivial, ?_⟩))
    · with_reducible exact cdb_iff.2 ⟨trivial, decide_eq_true (by omega)⟩
    · have hn := of_decide_eq_true hn
      refine congrArg (fun x => AV.v (.string x)) ?_
      unfold Lib.itoa
      rw [if_pos hn, ← hs]
      apply ByteArray.ext
      apply Array.toList_inj.1
      rw [ByteArray.data_append, Array.toList_append]
      rfl
    · have hn := of_decide_eq_false hn
      refine congrArg (fun x => AV.v (.string x)) ?_
      unfold Lib.itoa
      rw [if_neg hn, show n.toNat = n.natAbs by omega, ← hs]
def rtextP : List Value → Option (Value × Bool) := fun us => match us with
  | [.int .i64 n] => some (.string ⟨(Lib.itoa n).toArray⟩, decide (-9223372036854775808 ≤ n ∧ n ≤ 9223372036854775807))
  | _ => none
theorem rtext_ok (ro : Nat → Option (List Value)) : ∀ args H r H', pure? rtextP args H = some (r, H') → HSound1 Tryd.prog ro 12 args H r H' := by
  refine pure_ok (fun us c hs => Fs.ro ?_ ro) (has_fn (by kernel_rfl))
  unfold rtextP at hs
  split at hs
  · simp only [Option.some.injEq, Prod.mk.injEq, decide_eq_true_eq] at hs
    obtain ⟨rfl, h0, h1⟩ := hs
    exact fs_rtext _ h0 h1
  · cases hs
end Go.Proofs.YtjnonfcemicmoaaDoor.AE
