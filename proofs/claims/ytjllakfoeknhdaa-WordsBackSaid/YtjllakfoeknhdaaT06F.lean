/-
  Layer 6: cutting, putting together, finding, and holding against each other.
-/
import Derived.Test.YtjllakfoeknhdaaT06E
namespace Go.Proofs.Ytjllakfoeknhdaa.AE
open Go.RowKit
theorem ib_at {b : UInt8} : ∀ {l : List UInt8} {i : Nat}, b ∉ l.take i → l[i]? = some b → Lib.indexByte l b = i
  | [], i, _, h => by simp at h
  | c :: l, 0, _, h => by
    simp at h
    unfold Lib.indexByte
    rw [if_pos (by simp [h])]; rfl
  | c :: l, i + 1, hn, h => by
    simp only [List.take_succ_cons, List.mem_cons, not_or] at hn
    have ih := ib_at hn.2 (by simpa using h)
    unfold Lib.indexByte
    rw [if_neg (by simp; exact fun e => hn.1 e.symm), ih, if_neg (by simp)]
    omega
theorem ib_no {b : UInt8} : ∀ {l : List UInt8}, b ∉ l → Lib.indexByte l b = -1
  | [], _ => rfl
  | c :: l, hn => by
    simp only [List.mem_cons, not_or] at hn
    unfold Lib.indexByte
    rw [if_neg (by simp; exact fun e => hn.1 e.symm), ib_no hn.2]
    rfl
theorem ib_lt {b : UInt8} : ∀ l : List UInt8, Lib.indexByte l b < l.length ∨ Lib.indexByte l b = -1
  | [] => .inr rfl
  | c :: l => by
    have ih := @ib_lt b l
    unfold Lib.indexByte
    split
    · exact .inl (by rw [List.length_cons]; omega)
    · split
      · exact .inr rfl
      · rename_i h
        have : ¬ Lib.indexByte l b = -1 := fun e => h (by simp [e])
        exact .inl (by rw [List.length_cons]; omega)
def cutI (s : ByteArray) : Int := Lib.indexByte s.data.toList 61
def cutA (s : ByteArray) : ByteArray := if 0 ≤ cutI s then s.extract 0 (cutI s).toNat else ByteArray.empty
def cutB (s : ByteArray) : ByteArray := if 0 ≤ cutI s then s.extract ((cutI s).toNat + 1) s.size else ByteArray.empty
def cutK (s : ByteArray) : Bool := decide (0 ≤ cutI s)
def cutV (s : ByteArray) : Value := .tuple #[.string (cutA s), .string (cutB s), .bool (cutK s)]
theorem cutV_at {s : ByteArray} {i : Nat} (h : cutI s = i) : cutV s = .tuple #[.string (s.extract 0 i), .string (s.extract (i + 1) s.size), .bool true] := by
  unfold cutV cutA cutB cutK
  rw [h, if_pos (Int.natCast_nonneg i), if_pos (Int.natCast_nonneg i), decide_eq_true (Int.natCast_nonneg i)]; rfl
theorem cutV_no {s : ByteArray} (h : cutI s = -1) : cutV s = .tuple #[.string ByteArray.empty, .string ByteArray.empty, .bool false] := by
  unfold cutV cutA cutB cutK
  rw [h]; rfl
theorem fs_cut (s : ByteArray) (hs : s.size ≤ 100000) : Fs Try.prog nro 7 [.v (.string s)] (hp [] []) fun r _ => r = .v (cutV s) := by
  have hlen := len_data s
  refine Fs.of_call (knownJ _) (c_cut s fun r => r = .v (cutV s)) (holds_bif (fun h => ⟨?_, ?_⟩) fun h0 => holds_bif (fun h => ?_) fun h => ⟨trivial, ?_⟩)
  · have h : ([61] : List UInt8) == s.toList := h
    rw [ByteArray.toList_eq] at h
    have hz : 1 = s.data.toList.length := congrArg List.length (eq_of_beq h)
    with_reducible exact cdb_iff.2 ⟨trivial, decide_eq_true (by omega)⟩
  · have h : ([61] : List UInt8) == s.toList := h
    rw [ByteArray.toList_eq] at h
    have hd := (eq_of_beq h).symm
    rw [cutV_at (i := 0) (by unfold cutI; rw [hd]; rfl)]; rfl
  · have h : (0 : Int) ≤ cutI s := of_decide_eq_true h
    obtain ⟨i, hi⟩ := Int.eq_ofNat_of_zero_le h
    have hlt : i < s.size := by
      have hi' : Lib.indexByte s.data.toList 61 = i := hi
      rcases @ib_lt 61 s.data.toList with hl | hl
      · rw [hi', hlen] at hl; omega
      · rw [hi'] at hl; omega
    have hI : Lib.indexByte s.data.toList (UInt8.ofNat 61) = (i : Nat) := hi
    rw [hI]
    have hw : IntKind.wrap .i64 ((i : Int) + 1) = ((i + 1 : Nat) : Int) := inc64 i (by omega)
    rw [hw, cutV_at hi]
    exact ⟨by with_reducible exact cdb_iff.2 ⟨cdb_iff.2 ⟨trivial, decide_eq_true (by omega)⟩, decide_eq_true (by omega)⟩, rfl⟩
  · have h : ¬ (0 : Int) ≤ cutI s := of_decide_eq_false h
    have hi : cutI s = -1 := by
      have : -1 ≤ cutI s := Lib.indexByte_ge _ _
      omega
    rw [cutV_no hi]; rfl
theorem rc_sl : slotsOf 8 = 23 := by kernel_rfl
theorem rc_re : resultsOf 8 = [.tmp 2, .tmp 3, .tmp 4] := by kernel_rfl
theorem rc_fl : (flatten (bodyOf 8)).drop 2 = .block 0 (.loop (sub (bodyOf 8) [1, 0, 1, 0, 0])) :: (flatten (bodyOf 8)).drop 3 := by kernel_rfl
theorem fs_rcut (s : ByteArray) (hs : s.size ≤ 100000) : Fs Try.prog nro 8 [.v (.string s)] (hp [] []) fun r _ => r = .v (cutV s) := by
  refine Fs.of_body (has_fn (by kernel_rfl)) ?_
  rw [rc_sl, rc_re]
  refine Tr.of_flat (Trl.split 2 (Trl.of_code (knownJ _) (ne_nil (by kernel_rfl)) (rc_pre s _) ⟨trivial, ?_⟩))
  show Trl _ _ ((flatten (bodyOf 8)).drop 2) _ _ _
  rw [rc_fl]
  let L := s.data.toList
  have hL : L.length = s.size := len_data s
  let I : Nat → List AV → AH → Prop := fun m act H => ∃ p : Nat, p ≤ s.size ∧ m = s.size - p ∧ act = rcA s p ∧ H = hp [] [] ∧ (61 : UInt8) ∉ L.take p
  refine Tr.block (Tr.loop I ?_ (m := s.size) ⟨0, Nat.zero_le _, rfl, rfl, rfl, by simp⟩)
  rintro m act H ⟨p, hp, rfl, rfl, rfl, hI⟩
  have body := fun R => rc_in s p R
  rw [inc64 p (by omega)] at body
  refine Tr.of_code (knownJ _) (body _) (holds_bif (fun h1 => ?_) fun h1 => ⟨trivial, ?_⟩)
  · have h1 : p < s.size := by have := of_decide_eq_true h1; omega
    have c0 := ix_ok h1
    have ht : L.take (p + 1) = L.take p ++ [s.data.getD p 0] := take_byte s p h1
    refine holds_bif (fun h => ⟨?_, .inr rfl, trivial, ?_⟩) fun h => ⟨by with_reducible exact cdb_iff.2 ⟨trivial, c0⟩, s.size - (p + 1), by omega, p + 1, h1, rfl, rfl, rfl, ?_⟩
    · with_reducible exact cdb_iff.2 ⟨cdb_iff.2 ⟨cdb_iff.2 ⟨trivial, c0⟩, decide_eq_true (by omega)⟩, decide_eq_true (by omega)⟩
    · have h : s.data.getD p 0 = 61 := (nat_eq (n := 61) (by decide)).1 (eq_of_beq h)
      have hat : L[p]? = some 61 := by
        have hd : L.drop p = s.data.getD p 0 :: L.drop (p + 1) := drop_byte s p h1
        have : (L.drop p)[0]? = some 61 := by rw [hd, h]; rfl
        rwa [List.getElem?_drop, Nat.add_zero] at this
      rw [cutV_at (i := p) (ib_at hI hat)]; rfl
    · rw [ht]
      intro hm
      rcases List.mem_append.1 hm with hm | hm
      · exact hI hm
      · have hm := List.mem_singleton.1 hm
        have h : ¬ ((s.data.getD p 0).toNat : Int) = 61 := ne_of_beq_false h
        rw [← hm] at h; exact h rfl
  · have hps : p = s.size := by have := of_decide_eq_false h1; omega
    subst hps
    rw [List.take_of_length_le (show L.length ≤ s.size by omega)] at hI
    show Trl _ _ ((flatten (bodyOf 8)).drop 3) _ _ _
    refine Trl.of_code (knownJ _) (ne_nil (by kernel_rfl)) (rc_post s _ _) ⟨trivial, .inr rfl, trivial, ?_⟩
    rw [cutV_no (ib_no hI)]; rfl
/-! Putting together. -/
def blank : ByteArray := ⟨#[32]⟩
theorem inter_snoc (sep x : List UInt8) : ∀ (l : List (List UInt8)), l ≠ [] → ((l ++ [x]).intersperse sep).flatten = (l.intersperse sep).flatten ++ sep ++ x
  | [], h => absurd rfl h
  | [y], _ => by simp
  | y :: z :: l, _ => by
    have ih := inter_snoc sep x (z :: l) (by simp)
    have e : ((y :: z :: l) ++ [x]).intersperse sep = y :: sep :: ((z :: l) ++ [x]).intersperse sep := by cases l <;> rfl
    rw [e, show (y :: z :: l).intersperse sep = y :: sep :: (z :: l).intersperse sep from rfl]
    simp only [List.flatten_cons, ih, List.append_assoc]
theorem joinB_one (x sep : ByteArray) : joinB [x] sep = x := by
  apply ba_ext
  show (List.toArray _).toList = _
  simp [Lib.join]
theorem joinB_snoc (l : List ByteArray) (x sep : ByteArray) (h : l ≠ []) : joinB (l ++ [x]) sep = joinB l sep ++ sep ++ x := by
  apply ba_ext
  rw [ByteArray.data_append, ByteArray.data_append, Array.toList_append, Array.toList_append]
  have := inter_snoc sep.data.toList x.data.toList (l.map (·.data.toList)) (by simp [h])
  show (List.toArray _).toList = (List.toArray _).toList ++ _ ++ _
  rw [List.map_append]
  exact this
theorem joinB_size {N : Nat} (l : List ByteArray) (h : ∀ x ∈ l, x.size ≤ N) : (joinB l blank).size ≤ (N + 1) * l.length := by
  have key : ∀ k, k ≤ l.length → (joinB (l.take k) blank).size ≤ (N + 1) * k := by
    intro k
    induction k with
    | zero => intro _; exact Nat.le_refl _
    | succ k ih =>
      intro hk
      have hk' : k < l.length := hk
      rw [take_snoc hk']
      have hz := h _ (List.getElem_mem hk')
      by_cases h0 : k = 0
      · subst h0
        rw [List.take_zero, List.nil_append, joinB_one]; omega
      · rw [joinB_snoc _ _ _ (by
          intro e
          have := congrArg List.length e
          simp only [List.length_take, List.length_nil] at this
          omega), ByteArray.size_append, ByteArray.size_append]
        have := ih (by omega)
        have e1 : (N + 1) * (k + 1) = (N + 1) * k + (N + 1) := Nat.mul_succ _ _
        show _ + 1 + _ ≤ _
        omega
  have := key l.length (Nat.le_refl _)
  rwa [List.take_length] at this
theorem fs_join (l : List ByteArray) (hl : l.length ≤ 1000) (h : ∀ x ∈ l, x.size ≤ 100000) : Fs Try.prog nro 19 [.lst 1 (l.map sv) .no] (hp [] []) fun r _ => r = .v (.string (joinB l blank)) := by
  have hz := joinB_size l h
  have hm : (100000 + 1) * l.length ≤ 100001 * 1000 := Nat.mul_le_mul_left _ hl
  have hj : joinP [.lst 1 (l.map sv) .no, .v (.string blank)] = some (joinB l blank, true) := by
    unfold joinP
    simp only [strs_map]
    rw [decide_eq_true]
    omega
  refine Fs.of_call (knownJ _) (c_join l fun r => r = .v (.string (joinB l blank))) ⟨?_, ?_⟩
  · refine cdb_iff.2 ⟨trivial, ?_⟩
    show joinOk [.lst 1 (l.map sv) .no, .v (.string blank)] = true
    unfold joinOk
    rw [hj]
  · show joinV [.lst 1 (l.map sv) .no, .v (.string blank)] = _
    unfold joinV
    rw [hj]
theorem rj_sl : slotsOf 20 = 22 := by kernel_rfl
theorem rj_re : resultsOf 20 = [.tmp 2] := by kernel_rfl
theorem rj_fl : (flatten (bodyOf 20)).drop 3 = .block 0 (.loop (sub (bodyOf 20) [1, 1, 0, 1, 0, 0])) :: (flatten (bodyOf 20)).drop 4 := by kernel_rfl
theorem sv_len (l : List ByteArray) : (((l.map sv).length : Nat) : Int) = (l.length : Nat) := by rw [List.length_map]
theorem fs_rjoin (l : List ByteArray) (hl : l.length ≤ 1000) (h : ∀ x ∈ l, x.size ≤ 100000) : Fs Try.prog nro 20 [.lst 1 (l.map sv) .no] (hp [] []) fun r _ => r = .v (.string (joinB l blank)) := by
  refine Fs.of_body (has_fn (by kernel_rfl)) ?_
  rw [rj_sl, rj_re]
  refine Tr.of_flat (Trl.split 3 (Trl.of_code (knownJ _) (ne_nil (by kernel_rfl)) (rj_pre l _) ⟨trivial, ?_⟩))
  show Trl _ _ ((flatten (bodyOf 20)).drop 3) _ _ _
  rw [rj_fl]
  let I : Nat → List AV → AH → Prop := fun m act H => ∃ i : Nat, i ≤ l.length ∧ m = l.length - i ∧ act = rjA l (joinB (l.take i) blank) i ∧ H = hp [] []
  refine Tr.block (Tr.loop I ?_ (m := l.length) ⟨0, Nat.zero_le _, rfl, rfl, rfl⟩)
  rintro m' act H ⟨i, hi, rfl, rfl, rfl⟩
  have body := fun R => rj_in l (joinB (l.take i) blank) i R
  rw [sv_len, inc64 i (by omega)] at body
  have hsz : (joinB (l.take i) blank).size ≤ 100001 * 1000 := by
    have h1 := joinB_size (l.take i) (fun x hx => h x (List.mem_of_mem_take hx))
    have h2 : (100000 + 1) * (l.take i).length ≤ 100001 * 1000 := Nat.mul_le_mul_left _ (by rw [List.length_take]; omega)
    omega
  refine Tr.of_code (knownJ _) (body _) (holds_bif (fun h1 => ?_) fun h1 => ⟨trivial, ?_⟩)
  · have h1 : i < l.length := by have := of_decide_eq_true h1; omega
    have hx := h _ (List.getElem_mem h1)
    have hg : (l.map sv)[Int.toNat (i : Int)]? = some (.v (.string l[i])) := sv_get h1
    rw [sv_ex h1]
    refine holds_bif (fun h2 => ⟨?_, l.length - (i + 1), by omega, i + 1, h1, rfl, ?_, rfl⟩) (fun h2 => ⟨?_, l.length - (i + 1), by omega, i + 1, h1, rfl, ?_, rfl⟩)
    · with_reducible refine cdb_iff.2 ⟨cds_of (cdb_iff.2 ⟨trivial, decide_eq_true (by omega)⟩) ⟨Int.natCast_nonneg i, hg⟩, decide_eq_true ?_⟩
      rw [ByteArray.size_append]
      show (joinB _ _).size + 1 + l[i].size ≤ _
      omega
    · have h2 : 0 < i := by have := of_decide_eq_true h2; omega
      rw [take_snoc h1, joinB_snoc _ _ _ (by
        intro e
        have := congrArg List.length e
        simp only [List.length_take, List.length_nil] at this
        omega)]
      rfl
    · with_reducible refine cdb_iff.2 ⟨cds_of trivial ⟨Int.natCast_nonneg i, hg⟩, decide_eq_true ?_⟩
      omega
    · have h2 : i = 0 := by have := of_decide_eq_false h2; omega
      subst h2
      rw [take_snoc h1, List.take_zero, List.nil_append, joinB_one]
      refine congrArg (fun z => rjA l z ((0 + 1 : Nat) : Int)) ?_
      apply ba_ext
      rw [ByteArray.data_append, Array.toList_append]
      rfl
  · have h1 : i = l.length := by have := of_decide_eq_false h1; omega
    subst h1
    rw [List.take_length]
    show Trl _ _ ((flatten (bodyOf 20)).drop 4) _ _ _
    exact Trl.of_code (knownJ _) (ne_nil (by kernel_rfl)) (rj_post l _ _ _) ⟨trivial, .inr rfl, trivial, rfl⟩
end Go.Proofs.Ytjllakfoeknhdaa.AE
