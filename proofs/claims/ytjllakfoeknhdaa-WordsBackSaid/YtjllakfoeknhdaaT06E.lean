/-
  Layer 6: the document's lines, words, and what is plain, are the program's.
-/
import Derived.Test.YtjllakfoeknhdaaT06D
namespace Go.Proofs.Ytjllakfoeknhdaa.AE
open Go.RowKit
theorem drop_byte (s : ByteArray) (i : Nat) (h : i < s.size) : s.data.toList.drop i = s.data.getD i 0 :: s.data.toList.drop (i + 1) := by
  have h' : i < s.data.toList.length := by rw [len_data]; exact h
  rw [List.drop_eq_getElem_cons h']
  congr 1
  have h2 : i < s.data.size := h
  simp [Array.getD, h2]
  intro h3; omega
theorem take_byte (s : ByteArray) (i : Nat) (h : i < s.size) : s.data.toList.take (i + 1) = s.data.toList.take i ++ [s.data.getD i 0] := by
  have h' : i < s.data.toList.length := by rw [len_data]; exact h
  have hd := drop_byte s i h
  rw [List.drop_eq_getElem_cons h'] at hd
  rw [take_snoc h', (List.cons.inj hd).1]
theorem nat_eq {c : UInt8} {n : Nat} (hn : n < 256) : ((c.toNat : Int) = n) ↔ c = UInt8.ofNat n := by
  constructor
  · intro h
    exact UInt8.toNat_inj.1 (by rw [UInt8.toNat_ofNat_of_lt' hn]; omega)
  · rintro rfl
    rw [UInt8.toNat_ofNat_of_lt' hn]
theorem ix_ok {s : ByteArray} {i : Nat} (h : i < s.size) : decide ((0 : Int) ≤ (i : Int) ∧ Int.toNat (i : Int) < s.size) = true := decide_eq_true ⟨by omega, by show i < s.size; omega⟩
theorem rl_sl : slotsOf 11 = 36 := by kernel_rfl
theorem rl_re : resultsOf 11 = [.tmp 2] := by kernel_rfl
theorem rl_fl : (flatten (bodyOf 11)).drop 4 = .block 0 (.loop (sub (bodyOf 11) [1, 1, 1, 0, 1, 0, 0])) :: (flatten (bodyOf 11)).drop 5 := by kernel_rfl
theorem fs_rlines (s : ByteArray) (hs : s.size ≤ 100000) : Fs Try.prog nro 11 [.v (.string s)] (hp [] []) fun r _ => clean r = some (.lst 1 ((linesS s).map sv) .no) := by
  refine Fs.of_body (has_fn (by kernel_rfl)) ?_
  rw [rl_sl, rl_re]
  refine Tr.of_flat (Trl.split 4 (Trl.of_code (knownJ _) (ne_nil (by kernel_rfl)) (rl_pre s _) ⟨trivial, ?_⟩))
  show Trl _ _ ((flatten (bodyOf 11)).drop 4) _ _ _
  rw [rl_fl]
  refine Trl.nilTip 3 1 rfl rfl ?_
  let L := s.data.toList
  have hL : L.length = s.size := len_data s
  let I : Nat → List AV → AH → Prop := fun m act H => ∃ (p st : Nat) (os : List (List UInt8)) (ver : Nat), p ≤ s.size ∧ m = s.size - p ∧ st ≤ p ∧ os.length ≤ p ∧ act = rlA s (.lst 1 ((os.map ba).map sv) (.tp 0 ver)) st p ∧ H = hp [] [ver] ∧ lns [] L = os ++ lns ((L.take p).drop st) (L.drop p)
  refine Tr.block (Tr.loop I ?_ (m := s.size) ⟨0, 0, [], 0, Nat.zero_le _, rfl, Nat.le_refl _, Nat.le_refl _, rfl, rfl, by simp⟩)
  rintro m act H ⟨p, st, os, ver, hp, rfl, hst, hos, rfl, rfl, hI⟩
  have body := fun R => rl_in s (os.map ba) ver st p R
  rw [inc64 p (by omega), show s.extract (Int.toNat (st : Int)) (Int.toNat (p : Int)) = ba ((L.take p).drop st) from ext_ba s st p] at body
  refine Tr.of_code (knownJ _) (body _) (holds_bif (fun h1 => ?_) fun h1 => ⟨trivial, ?_⟩)
  · have h1 : p < s.size := by have := of_decide_eq_true h1; omega
    have hd : L.drop p = s.data.getD p 0 :: L.drop (p + 1) := drop_byte s p h1
    rw [hd, lns] at hI
    refine holds_bif (fun h => ⟨?_, ?_⟩) fun h => ⟨by with_reducible exact cdb_iff.2 ⟨trivial, ix_ok h1⟩, ?_⟩
    · with_reducible exact cdb_iff.2 ⟨cdb_iff.2 ⟨cdb_iff.2 ⟨trivial, ix_ok h1⟩, decide_eq_true (by omega)⟩, decide_eq_true (room (by rw [List.length_map]; omega))⟩
    · have h : s.data.getD p 0 = 10 := (nat_eq (n := 10) (by decide)).1 (eq_of_beq h)
      rw [if_pos h] at hI
      have hz : (L.take (p + 1)).drop (p + 1) = [] := List.drop_eq_nil_of_le (by rw [List.length_take]; omega)
      exact ⟨s.size - (p + 1), by omega, p + 1, p + 1, os ++ [(L.take p).drop st], ver + 1, h1, rfl, Nat.le_refl _, by simp; omega, by rw [snoc_sv]; rfl, rfl, by rw [hI, hz, List.append_assoc]; rfl⟩
    · have h : ¬ s.data.getD p 0 = 10 := fun e => by
        have h : ¬ ((s.data.getD p 0).toNat : Int) = 10 := ne_of_beq_false h
        rw [e] at h; exact h rfl
      rw [if_neg h] at hI
      refine ⟨s.size - (p + 1), by omega, p + 1, st, os, ver, h1, rfl, by omega, by omega, rfl, rfl, ?_⟩
      have ht : L.take (p + 1) = L.take p ++ [s.data.getD p 0] := take_byte s p h1
      rw [ht, List.drop_append_of_le_length (by rw [List.length_take]; omega)]
      exact hI
  · have hps : p = s.size := by have := of_decide_eq_false h1; omega
    subst hps
    show Trl _ _ ((flatten (bodyOf 11)).drop 5) _ _ _
    rw [List.drop_of_length_le (show L.length ≤ s.size by omega), List.take_of_length_le (show L.length ≤ s.size by omega)] at hI
    have post := fun R => rl_post s (os.map ba) ver st (s.size : Nat) R
    have hx : s.extract (Int.toNat (st : Int)) (Int.toNat ((s.size : Nat) : Int)) = ba (L.drop st) := by
      have := ext_ba s st s.size
      rw [List.take_of_length_le (by rw [len_data]; exact Nat.le_refl _)] at this
      exact this
    rw [hx] at post
    refine Trl.of_code (knownJ _) (ne_nil (by kernel_rfl)) (post _) (holds_bif (fun h => ⟨?_, .inr rfl, trivial, ?_⟩) fun h => ⟨trivial, .inr rfl, trivial, ?_⟩)
    · with_reducible exact cdb_iff.2 ⟨cdb_iff.2 ⟨trivial, decide_eq_true (by have := of_decide_eq_true h; omega)⟩, decide_eq_true (room (by rw [List.length_map]; omega))⟩
    · have h := of_decide_eq_true h
      have hne : ¬ L.drop st = [] := fun e => by
        have := congrArg List.length e
        rw [List.length_drop] at this
        simp at this; omega
      unfold linesS
      rw [show lns [] s.data.toList = _ from hI, lns, flush, if_neg hne, ← snoc_sv]; rfl
    · have h := of_decide_eq_false h
      have he : L.drop st = [] := List.drop_of_length_le (by omega)
      unfold linesS
      rw [show lns [] s.data.toList = _ from hI, lns, flush, if_pos he, List.append_nil]; rfl
theorem rw_sl : slotsOf 13 = 48 := by kernel_rfl
theorem rw_re : resultsOf 13 = [.tmp 2] := by kernel_rfl
theorem rw_fl : (flatten (bodyOf 13)).drop 4 = .block 0 (.loop (sub (bodyOf 13) [1, 1, 1, 0, 1, 0, 0])) :: (flatten (bodyOf 13)).drop 5 := by kernel_rfl
theorem ba_nil (w : List UInt8) : ((ba w).toList == ([] : List UInt8)) = decide (w = []) := by
  rw [Bool.eq_iff_iff, beq_iff_eq, decide_eq_true_eq, ByteArray.toList_eq, ba_data]
theorem ba_snoc (w : List UInt8) (c : UInt8) : ba w ++ ba [c] = ba (w ++ [c]) := by
  apply ba_ext
  rw [ByteArray.data_append, Array.toList_append, ba_data, ba_data, ba_data]
theorem ba_size (l : List UInt8) : (ba l).size = l.length := by show (List.toArray l).size = _; simp
theorem fs_rwords (s : ByteArray) (hs : s.size ≤ 100000) : Fs Try.prog nro 13 [.v (.string s)] (hp [] []) fun r _ => clean r = some (.lst 1 ((wordsS s).map sv) .no) := by
  refine Fs.of_body (has_fn (by kernel_rfl)) ?_
  rw [rw_sl, rw_re]
  refine Tr.of_flat (Trl.split 4 (Trl.of_code (knownJ _) (ne_nil (by kernel_rfl)) (rw_pre s _) ⟨trivial, ?_⟩))
  show Trl _ _ ((flatten (bodyOf 13)).drop 4) _ _ _
  rw [rw_fl]
  refine Trl.nilTip 3 1 rfl rfl ?_
  let L := s.data.toList
  have hL : L.length = s.size := len_data s
  have fin : ∀ (p : Nat) (os : List (List UInt8)) (ver : Nat) (w : List UInt8), os.length ≤ s.size → wds [] L = os ++ flush w →
      Trl Try.prog nro ((flatten (bodyOf 13)).drop 5) (rwA s (.lst 1 ((os.map ba).map sv) (.tp 0 ver)) (ba w) p) (hp [] [ver]) fun e a h => (e = .normal ∨ e = .ret) ∧ ansOk (fun r _ => clean r = some (.lst 1 ((wordsS s).map sv) .no)) (resOf Try.prog nro [.tmp 2] a h) := by
    intro p os ver w hos hI
    have post := fun R => rw_post s (ba w) (os.map ba) ver p R
    rw [ba_nil] at post
    refine Trl.of_code (knownJ _) (ne_nil (by kernel_rfl)) (post _) (holds_bif (fun h => ⟨?_, .inr rfl, trivial, ?_⟩) fun h => ⟨trivial, .inr rfl, trivial, ?_⟩)
    · with_reducible exact cdb_iff.2 ⟨trivial, decide_eq_true (room (by rw [List.length_map]; omega))⟩
    · have h : ¬ w = [] := by simpa using h
      unfold wordsS
      rw [show wds [] s.data.toList = _ from hI, flush, if_neg h, ← snoc_sv]; rfl
    · have h : w = [] := by simpa using h
      unfold wordsS
      rw [show wds [] s.data.toList = _ from hI, flush, if_pos h, List.append_nil]; rfl
  let I : Nat → List AV → AH → Prop := fun m act H => ∃ (p : Nat) (os : List (List UInt8)) (ver : Nat) (w : List UInt8), p ≤ s.size ∧ m = s.size - p ∧ os.length ≤ p ∧ w.length ≤ p ∧ act = rwA s (.lst 1 ((os.map ba).map sv) (.tp 0 ver)) (ba w) p ∧ H = hp [] [ver] ∧ wds [] L = os ++ wds w (L.drop p)
  refine Tr.block (Tr.loop I ?_ (m := s.size) ⟨0, [], 0, [], Nat.zero_le _, rfl, Nat.le_refl _, Nat.le_refl _, rfl, rfl, by simp⟩)
  rintro m act H ⟨p, os, ver, w, hp, rfl, hos, hwl, rfl, rfl, hI⟩
  have body := fun R => rw_in s (ba w) (os.map ba) ver p R
  rw [inc64 p (by omega), ba_nil] at body
  refine Tr.of_code (knownJ _) (body _) (holds_bif (fun h1 => ?_) fun h1 => ⟨trivial, ?_⟩)
  · have h1 : p < s.size := by have := of_decide_eq_true h1; omega
    have hd : L.drop p = s.data.getD p 0 :: L.drop (p + 1) := drop_byte s p h1
    have hI0 := hI
    rw [hd, wds] at hI
    have c0 := ix_ok h1
    have ne : ∀ n : Nat, n < 256 → (((s.data.getD p 0).toNat : Int) != (n : Int)) = true → ¬ s.data.getD p 0 = UInt8.ofNat n := fun n hn h e => by
      rw [(nat_eq hn).2 e] at h; simp at h
    have eq : ∀ n : Nat, n < 256 → (((s.data.getD p 0).toNat : Int) != (n : Int)) = false → s.data.getD p 0 = UInt8.ofNat n := fun n hn h => (nat_eq hn).1 (by simpa using h)
    have blank : (s.data.getD p 0 = 32 ∨ s.data.getD p 0 = 9) → wds [] L = (os ++ flush w) ++ wds [] (L.drop (p + 1)) := fun e => by
      rw [if_neg (by rcases e with e | e <;> rw [e] <;> decide), if_pos e] at hI
      rw [hI, List.append_assoc]
    have told : (s.data.getD p 0 = 32 ∨ s.data.getD p 0 = 9) → ¬ w = [] → ∃ m', m' < s.size - p ∧ I m' (rwA s (.lst 1 ((os.map ba).map sv ++ [.v (.string (ba w))]) (.tp 0 (ver + 1))) (ba []) ((p + 1 : Nat) : Int)) (AE.hp [] [ver + 1]) := fun e hw => by
      have hI2 := blank e
      rw [flush, if_neg hw] at hI2
      exact ⟨s.size - (p + 1), by omega, p + 1, os ++ [w], ver + 1, [], h1, rfl, by simp; omega, Nat.zero_le _, by rw [snoc_sv], rfl, hI2⟩
    have quiet : (s.data.getD p 0 = 32 ∨ s.data.getD p 0 = 9) → w = [] → ∃ m', m' < s.size - p ∧ I m' (rwA s (.lst 1 ((os.map ba).map sv) (.tp 0 ver)) (ba []) ((p + 1 : Nat) : Int)) (AE.hp [] [ver]) := fun e hw => by
      have hI2 := blank e
      rw [hw, flush, if_pos rfl, List.append_nil] at hI2
      exact ⟨s.size - (p + 1), by omega, p + 1, os, ver, [], h1, rfl, by omega, Nat.zero_le _, rfl, rfl, hI2⟩
    refine holds_bif (fun h35 => holds_bif (fun h32 => holds_bif (fun h9 => ⟨?_, ?_⟩) fun h9 => holds_bif (fun hw => ⟨?_, ?_⟩) fun hw => ⟨?_, ?_⟩) fun h32 => holds_bif (fun hw => ⟨?_, ?_⟩) fun hw => ⟨?_, ?_⟩) fun h35 => ⟨?_, ?_⟩
    · have hz : (s.extract (Int.toNat (p : Int)) (Int.toNat ((p + 1 : Nat) : Int))).size ≤ 1 := by
        rw [ByteArray.size_extract]; show min (p + 1) s.size - p ≤ 1; omega
      have hw := ba_size w
      with_reducible exact cdb_iff.2 ⟨cdb_iff.2 ⟨cdb_iff.2 ⟨cdb_iff.2 ⟨cdb_iff.2 ⟨trivial, c0⟩, c0⟩, c0⟩, decide_eq_true (by omega)⟩, decide_eq_true (by omega)⟩
    · have n35 : ¬ s.data.getD p 0 = 35 := ne 35 (by decide) h35
      have n32 : ¬ s.data.getD p 0 = 32 := ne 32 (by decide) h32
      have n9 : ¬ s.data.getD p 0 = 9 := ne 9 (by decide) h9
      rw [if_neg n35, if_neg (by rintro (e | e); exact n32 e; exact n9 e)] at hI
      have hx : s.extract (Int.toNat (p : Int)) (Int.toNat ((p + 1 : Nat) : Int)) = ba [s.data.getD p 0] := by
        refine (ext_ba s p (p + 1)).trans (congrArg ba ?_)
        rw [take_byte s p h1, List.drop_append_of_le_length (by rw [List.length_take, len_data]; omega), List.drop_eq_nil_of_le (by rw [List.length_take]; omega)]; rfl
      rw [hx, ba_snoc]
      exact ⟨s.size - (p + 1), by omega, p + 1, os, ver, w ++ [s.data.getD p 0], h1, rfl, by omega, by simp; omega, rfl, rfl, hI⟩
    · with_reducible exact cdb_iff.2 ⟨cdb_iff.2 ⟨cdb_iff.2 ⟨cdb_iff.2 ⟨trivial, c0⟩, c0⟩, c0⟩, decide_eq_true (room (by rw [List.length_map]; omega))⟩
    · exact told (.inr (eq 9 (by decide) h9)) (by simpa using hw)
    · with_reducible exact cdb_iff.2 ⟨cdb_iff.2 ⟨cdb_iff.2 ⟨trivial, c0⟩, c0⟩, c0⟩
    · exact quiet (.inr (eq 9 (by decide) h9)) (by simpa using hw)
    · with_reducible exact cdb_iff.2 ⟨cdb_iff.2 ⟨cdb_iff.2 ⟨trivial, c0⟩, c0⟩, decide_eq_true (room (by rw [List.length_map]; omega))⟩
    · exact told (.inl (eq 32 (by decide) h32)) (by simpa using hw)
    · with_reducible exact cdb_iff.2 ⟨cdb_iff.2 ⟨trivial, c0⟩, c0⟩
    · exact quiet (.inl (eq 32 (by decide) h32)) (by simpa using hw)
    · with_reducible exact cdb_iff.2 ⟨trivial, c0⟩
    · have e35 : s.data.getD p 0 = 35 := eq 35 (by decide) h35
      rw [if_pos e35] at hI
      exact fin p os ver w (by omega) hI
  · have hps : p = s.size := by have := of_decide_eq_false h1; omega
    subst hps
    rw [List.drop_of_length_le (show L.length ≤ s.size by omega), wds] at hI
    exact fin _ os ver w hos hI
theorem rp_sl : slotsOf 15 = 20 := by kernel_rfl
theorem rp_re : resultsOf 15 = [.tmp 2] := by kernel_rfl
theorem rp_fl : (flatten (bodyOf 15)).drop 2 = .block 0 (.loop (sub (bodyOf 15) [1, 0, 1, 0, 0])) :: (flatten (bodyOf 15)).drop 3 := by kernel_rfl
theorem fs_rplain (s : ByteArray) (hs : s.size ≤ 100000) : Fs Try.prog nro 15 [.v (.string s)] (hp [] []) fun r _ => r = .v (.bool (plainL s.data.toList)) := by
  refine Fs.of_body (has_fn (by kernel_rfl)) ?_
  rw [rp_sl, rp_re]
  refine Tr.of_flat (Trl.split 2 (Trl.of_code (knownJ _) (ne_nil (by kernel_rfl)) (rp_pre s _) ⟨trivial, ?_⟩))
  show Trl _ _ ((flatten (bodyOf 15)).drop 2) _ _ _
  rw [rp_fl]
  let L := s.data.toList
  have hL : L.length = s.size := len_data s
  let I : Nat → List AV → AH → Prop := fun m act H => ∃ p : Nat, p ≤ s.size ∧ m = s.size - p ∧ act = rpA s p ∧ H = hp [] [] ∧ plainL L = plainL (L.drop p)
  refine Tr.block (Tr.loop I ?_ (m := s.size) ⟨0, Nat.zero_le _, rfl, rfl, rfl, rfl⟩)
  rintro m act H ⟨p, hp, rfl, rfl, rfl, hI⟩
  have body := fun R => rp_in s p R
  rw [inc64 p (by omega)] at body
  refine Tr.of_code (knownJ _) (body _) (holds_bif (fun h1 => ?_) fun h1 => ⟨trivial, ?_⟩)
  · have h1 : p < s.size := by have := of_decide_eq_true h1; omega
    have hd : L.drop p = [s.data.getD p 0] ++ L.drop (p + 1) := drop_byte s p h1
    rw [hd, plain_app] at hI
    have c0 := ix_ok h1
    refine holds_bif (fun h => ⟨by with_reducible exact cdb_iff.2 ⟨trivial, c0⟩, .inr rfl, trivial, ?_⟩) fun h => holds_bif (fun h' => ⟨by with_reducible exact cdb_iff.2 ⟨cdb_iff.2 ⟨trivial, c0⟩, c0⟩, .inr rfl, trivial, ?_⟩) fun h' => ⟨by with_reducible exact cdb_iff.2 ⟨cdb_iff.2 ⟨trivial, c0⟩, c0⟩, s.size - (p + 1), by omega, p + 1, h1, rfl, rfl, rfl, ?_⟩
    · have h : ((s.data.getD p 0).toNat : Int) < 32 := of_decide_eq_true h
      rw [show plainL s.data.toList = _ from hI, plain_bad (List.mem_singleton.2 rfl) (by omega)]; rfl
    · have h' : (126 : Int) < ((s.data.getD p 0).toNat : Int) := of_decide_eq_true h'
      rw [show plainL s.data.toList = _ from hI, plain_bad (List.mem_singleton.2 rfl) (by omega)]; rfl
    · have h : ¬ ((s.data.getD p 0).toNat : Int) < 32 := of_decide_eq_false h
      have h' : ¬ (126 : Int) < ((s.data.getD p 0).toNat : Int) := of_decide_eq_false h'
      have : plainL [s.data.getD p 0] = true := by
        show (decide (32 ≤ (s.data.getD p 0).toNat) && decide ((s.data.getD p 0).toNat ≤ 126) && true) = true
        rw [decide_eq_true (by omega), decide_eq_true (by omega)]; rfl
      rw [this, Bool.true_and] at hI
      exact hI
  · have hps : p = s.size := by have := of_decide_eq_false h1; omega
    subst hps
    rw [List.drop_of_length_le (show L.length ≤ s.size by omega)] at hI
    show Trl _ _ ((flatten (bodyOf 15)).drop 3) _ _ _
    refine Trl.of_code (knownJ _) (ne_nil (by kernel_rfl)) (rp_post s _ _) ⟨trivial, .inr rfl, trivial, ?_⟩
    rw [show plainL s.data.toList = _ from hI]; rfl
end Go.Proofs.Ytjllakfoeknhdaa.AE
