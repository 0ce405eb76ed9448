/-
  Layer 5: the document's number of a text is the program's: the walk.
-/
import Derived.Test.YtjnonfcemicmoaaDoorT05G
namespace Go.Proofs.YtjnonfcemicmoaaDoor.AE
open Go.RowKit De
theorem arr_getD (s : ByteArray) (i : Nat) : s.data.getD i 0 = s.data.toList.getD i 0 := by
  rw [Array.getD_eq_getD_getElem?, List.getD_eq_getElem?_getD, Array.getElem?_toList]
theorem size_list (s : ByteArray) : s.data.toList.length = s.size := by rw [Array.length_toList]; rfl
theorem good_drop {s : ByteArray} {f : Nat} (hf : (f = 1 ∧ s.data.toList.head? = some 45) ∨ (f = 0 ∧ ¬ s.data.toList.head? = some 45)) {v : Int} (hv : inR v) (h : s.data.toList = Lib.itoa v) :
    ∃ u, u ≤ 9223372036854775808 ∧ s.data.toList.drop f = Lib.decDigits u ∧ v = (if f = 0 then (u : Int) else -(u : Int)) ∧ (f = 0 → u ≤ 9223372036854775807) := by
  obtain ⟨g1, g2⟩ := good_by hv h
  rcases hf with ⟨rfl, hh⟩ | ⟨rfl, hh⟩
  · obtain ⟨u, u1, u2, u3⟩ := g1 hh
    exact ⟨u, u1, by rw [u2]; rfl, u3, fun h => by omega⟩
  · obtain ⟨u, u1, u2, u3⟩ := g2 hh
    exact ⟨u, by omega, u2, u3, fun _ => u1⟩
theorem add_one (k : Nat) (h : k ≤ 1000000) : IntKind.wrap .i64 ((k : Int) + 1) = ((k + 1 : Nat) : Int) := by
  rw [IntKind.wrap_i64]; omega
theorem sl_rp : slotsOf 8 = 60 := by kernel_rfl
theorem re_rp : resultsOf 8 = [.tmp 2, .tmp 3] := by kernel_rfl
theorem fl_rp : (flatten (bodyOf 8)).drop 8 = .block 0 (.loop (sub (bodyOf 8) [1, 1, 1, 1, 1, 0, 1, 0, 0])) :: (flatten (bodyOf 8)).drop 9 := by kernel_rfl
abbrev parQ (s : ByteArray) : Exit → List AV → AH → Prop := fun e a h => (e = .normal ∨ e = .ret) ∧ ansOk (fun r _ => r = .v (.tuple #[.int .i64 (dpX s), .int .i64 (dpY s)])) (resOf Tryd.prog nro [.tmp 2, .tmp 3] a h)
theorem beq_lists (l : List UInt8) (s : ByteArray) : ((⟨l.toArray⟩ : ByteArray).toList == s.toList) = decide (s.data.toList = l) := by
  rw [Bool.eq_iff_iff, beq_iff_eq, decide_eq_true_eq, ByteArray.toList_eq, ByteArray.toList_eq]
  exact ⟨fun h => h.symm, fun h => h.symm⟩
theorem wrap_rng (n : Int) : inR (IntKind.wrap .i64 n) := by
  unfold inR
  rw [IntKind.wrap_i64]
  omega
theorem tr_ploop (s : ByteArray) (hs : s.size ≤ 100000) (f : Nat) (hf : (f = 1 ∧ s.data.toList.head? = some 45) ∨ (f = 0 ∧ ¬ s.data.toList.head? = some 45)) (hfs : f ≤ s.size) :
    Trl Tryd.prog nro ((flatten (bodyOf 8)).drop 8) (pA s f 0 f) (hp [] []) (parQ s) := by
  rw [fl_rp]
  have hlen := size_list s
  have bad : ∀ i, f ≤ i → i < s.size → ¬ (48 ≤ (s.data.toList.getD i 0).toNat ∧ (s.data.toList.getD i 0).toNat ≤ 57) → dpX s = 0 ∧ dpY s = 2 := fun i h1 h2 h3 => dp_bad fun v hv hg => by
    obtain ⟨u, _, u2, _, _⟩ := good_drop hf hv hg
    refine h3 (digits_rng u _ ?_)
    rw [← u2]
    have : s.data.toList.getD i 0 = (s.data.toList.drop f)[i - f]'(by rw [List.length_drop]; omega) := by
      rw [List.getElem_drop, List.getD_eq_getElem?_getD, List.getElem?_eq_getElem (by omega), Option.getD_some]
      congr 1
      omega
    rw [this]
    exact List.getElem_mem _
  let I : Nat → List AV → AH → Prop := fun m act H => ∃ (i : Nat) (n : Int), f ≤ i ∧ i ≤ s.size ∧ m = s.size - i ∧ n = nf ((s.data.toList.drop f).take (i - f)) ∧ act = pA s f n i ∧ H = hp [] []
  refine Tr.block (Tr.loop I ?_ (m := s.size - f) ⟨f, 0, Nat.le_refl _, hfs, rfl, by rw [Nat.sub_self]; rfl, rfl, rfl⟩)
  rintro m act H ⟨i, n, h1, h2, rfl, hn, rfl, rfl⟩
  have body := fun R => p_in s f n i R
  rw [add_one i (by omega), Int.toNat_natCast, arr_getD] at body
  obtain ⟨c, hc⟩ : ∃ c, c = s.data.toList.getD i 0 := ⟨_, rfl⟩
  have cd : i < s.size → decide ((0 : Int) ≤ (i : Int) ∧ i < s.size) = true := fun h => decide_eq_true ⟨Int.natCast_nonneg i, h⟩
  rw [← hc] at body
  have badi := bad i h1
  rw [← hc] at badi
  refine Tr.of_code (knownN nro) (body _) (holds_bif (fun h8 => ?_) (fun h8 => ⟨trivial, ?_⟩))
  · have h8 := of_decide_eq_true h8
    have hlt : i < s.size := by omega
    refine holds_bif (fun ha => ⟨?_, ?_⟩) (fun ha => holds_bif (fun hb => ⟨?_, ?_⟩) (fun hb => ⟨?_, ?_⟩))
    · with_reducible exact cdb_iff.2 ⟨trivial, cd hlt⟩
    · have ha := of_decide_eq_true ha
      obtain ⟨x1, x2⟩ := badi hlt (by omega)
      refine ⟨.inr rfl, trivial, ?_⟩
      show AV.v (.tuple #[.int .i64 0, .int .i64 2]) = _
      rw [x1, x2]
    · with_reducible exact cdb_iff.2 ⟨cdb_iff.2 ⟨trivial, cd hlt⟩, cd hlt⟩
    · have hb := of_decide_eq_true hb
      obtain ⟨x1, x2⟩ := badi hlt (by omega)
      refine ⟨.inr rfl, trivial, ?_⟩
      show AV.v (.tuple #[.int .i64 0, .int .i64 2]) = _
      rw [x1, x2]
    · with_reducible exact cdb_iff.2 ⟨cdb_iff.2 ⟨cdb_iff.2 ⟨trivial, cd hlt⟩, cd hlt⟩, cd hlt⟩
    · refine ⟨s.size - (i + 1), by omega, i + 1, _, by omega, by omega, rfl, ?_, rfl, rfl⟩
      have ht : (s.data.toList.drop f).take (i + 1 - f) = (s.data.toList.drop f).take (i - f) ++ [c] := by
        rw [show i + 1 - f = (i - f) + 1 by omega, List.take_add_one, List.getElem?_drop, show f + (i - f) = i by omega, List.getElem?_eq_getElem (by omega), hc, List.getD_eq_getElem?_getD, List.getElem?_eq_getElem (by omega)]
        rfl
      rw [ht]
      show _ = List.foldl nfS 0 _
      rw [List.foldl_append]
      show _ = nfS (nf _) c
      rw [← hn]
      rfl
  · have h8 := of_decide_eq_false h8
    obtain rfl : i = s.size := by omega
    have hall : (s.data.toList.drop f).take (s.size - f) = s.data.toList.drop f := List.take_of_length_le (by rw [List.length_drop]; omega)
    rw [hall] at hn
    show Trl _ _ ((flatten (bodyOf 8)).drop 9) _ _ _
    have post := fun R => p_post s f n s.size R
    rw [beq_lists, beq_lists] at post
    /- what is at last compared -/
    have fin : ∀ N : Int, inR N → (∀ u : Nat, s.data.toList.drop f = Lib.decDigits u → u ≤ 9223372036854775808 → (f = 0 → u ≤ 9223372036854775807) → N = (if f = 0 then (u : Int) else -(u : Int))) → (¬ s.data.toList = Lib.itoa N → dpX s = 0 ∧ dpY s = 2) ∧ (s.data.toList = Lib.itoa N → dpX s = N ∧ dpY s = 0) := fun N hN hu =>
      ⟨fun hne => dp_bad fun v hv hg => by
        obtain ⟨u, u1, u2, u3, u4⟩ := good_drop hf hv hg
        rw [u3, ← hu u u2 u1 u4] at hg
        exact hne hg, fun he => dp_good hN he⟩
    have hnr : inR n := by
      rw [hn]
      have : ∀ (l : List UInt8) (a : Int), inR a → inR (l.foldl nfS a) := by
        intro l
        induction l with
        | nil => intro a h; exact h
        | cons c l ih => intro a _; exact ih _ (wrap_rng _)
      exact this _ 0 (by unfold inR; omega)
    refine Trl.of_code (knownN nro) (ne_nil (by kernel_rfl)) (post _) (holds_bif (fun h0 => ?_) (fun h0 => ?_))
    · have h0 : (f : Int) = 0 := eq_of_beq h0
      have hf0 : f = 0 := by omega
      have hr := wrap_rng (0 - n)
      obtain ⟨x1, x2⟩ := fin (IntKind.wrap .i64 (0 - n)) hr (fun u hu hu1 hu2 => by
        rw [if_pos hf0, hn, hu, nf_digits u hu1, IntKind.wrap_i64]
        have := hu2 hf0
        omega)
      refine holds_bif (fun he => ⟨?_, .inr rfl, trivial, ?_⟩) (fun he => ⟨?_, .inr rfl, trivial, ?_⟩)
      · with_reducible exact cdb_iff.2 ⟨trivial, decide_eq_true hr⟩
      · obtain ⟨y1, y2⟩ := x1 (by simpa using he)
        show AV.v (.tuple #[.int .i64 0, .int .i64 2]) = _
        rw [y1, y2]
      · with_reducible exact cdb_iff.2 ⟨trivial, decide_eq_true hr⟩
      · obtain ⟨y1, y2⟩ := x2 (by simpa using he)
        show AV.v (.tuple #[.int .i64 (IntKind.wrap .i64 (0 - n)), .int .i64 0]) = _
        rw [y1, y2]
    · have h0 : ¬ (f : Int) = 0 := ne_of_beq_false h0
      have hf0 : ¬ f = 0 := by omega
      obtain ⟨x1, x2⟩ := fin n hnr (fun u hu hu1 hu2 => by
        rw [if_neg hf0, hn, hu, nf_digits u hu1])
      refine holds_bif (fun he => ⟨?_, .inr rfl, trivial, ?_⟩) (fun he => ⟨?_, .inr rfl, trivial, ?_⟩)
      · with_reducible exact cdb_iff.2 ⟨trivial, decide_eq_true hnr⟩
      · obtain ⟨y1, y2⟩ := x1 (by simpa using he)
        show AV.v (.tuple #[.int .i64 0, .int .i64 2]) = _
        rw [y1, y2]
      · with_reducible exact cdb_iff.2 ⟨trivial, decide_eq_true hnr⟩
      · obtain ⟨y1, y2⟩ := x2 (by simpa using he)
        show AV.v (.tuple #[.int .i64 n, .int .i64 0]) = _
        rw [y1, y2]
theorem fs_rparse (s : ByteArray) (hs : s.size ≤ 100000) : Fs Tryd.prog nro 8 [.v (.string s)] (hp [] []) fun r _ => r = .v (.tuple #[.int .i64 (dpX s), .int .i64 (dpY s)]) := by
  refine Fs.of_body (has_fn (by kernel_rfl)) ?_
  rw [sl_rp, re_rp]
  have hlen := size_list s
  have hhead : 0 < s.size → (s.data.toList.head? = some 45 ↔ ((s.data.getD 0 0).toNat : Int) = 45) := fun h => by
    rw [arr_getD]
    cases e : s.data.toList with
    | nil => rw [e] at hlen; simp at hlen; omega
    | cons c r =>
      show some c = some 45 ↔ ((c.toNat : Nat) : Int) = 45
      constructor
      · intro h; cases h; rfl
      · intro h; rw [show c = 45 from UInt8.toNat_inj.1 (by show c.toNat = 45; omega)]
  have short : ∀ f, ((f = 1 ∧ s.data.toList.head? = some 45) ∨ (f = 0 ∧ ¬ s.data.toList.head? = some 45)) → (s.size = f ∨ f + 19 < s.size) → dpX s = 0 ∧ dpY s = 2 := fun f hf hh => dp_bad fun v hv hg => by
    obtain ⟨u, u1, u2, _, _⟩ := good_drop hf hv hg
    have l1 := digits_len u u1
    rw [← u2, List.length_drop, hlen] at l1
    omega
  have ret2 : ∀ f, ((f = 1 ∧ s.data.toList.head? = some 45) ∨ (f = 0 ∧ ¬ s.data.toList.head? = some 45)) → (s.size = f ∨ f + 19 < s.size) → AV.v (.tuple #[.int .i64 0, .int .i64 2]) = AV.v (.tuple #[.int .i64 (dpX s), .int .i64 (dpY s)]) := fun f hf hh => by
    obtain ⟨y1, y2⟩ := short f hf hh
    rw [y1, y2]
  have cd : 0 < s.size → decide ((0 : Int) ≤ 0 ∧ 0 < s.size) = true := fun h => decide_eq_true ⟨by decide, h⟩
  refine Tr.of_flat (Trl.split 8 (Trl.of_code (knownN nro) (ne_nil (by kernel_rfl)) (p_pre s _) (holds_bif (fun h1 => holds_bif (fun h2 => ?_) (fun h2 => ?_)) (fun h1 => ?_))))
  · have h1 := of_decide_eq_true h1
    have hp0 : 0 < s.size := by omega
    have hf : (1 = 1 ∧ s.data.toList.head? = some 45) ∨ (1 = 0 ∧ ¬ s.data.toList.head? = some 45) := .inl ⟨rfl, (hhead hp0).2 (eq_of_beq h2)⟩
    refine holds_bif (fun h3 => ⟨by with_reducible exact cdb_iff.2 ⟨trivial, cd hp0⟩, .inr rfl, trivial, ret2 1 hf (.inl (by have := eq_of_beq h3; omega))⟩) (fun h3 => holds_bif (fun h4 => ⟨by with_reducible exact cdb_iff.2 ⟨trivial, cd hp0⟩, .inr rfl, trivial, ret2 1 hf (.inr (by have := of_decide_eq_true h4; omega))⟩) (fun h4 => ⟨by with_reducible exact cdb_iff.2 ⟨trivial, cd hp0⟩, ?_⟩))
    show Trl _ _ ((flatten (bodyOf 8)).drop 8) _ _ _
    exact Tr.keepL [0, 4, 5, 6] rfl (tr_ploop s hs 1 hf hp0)
  · have h1 := of_decide_eq_true h1
    have hp0 : 0 < s.size := by omega
    have hf : (0 = 1 ∧ s.data.toList.head? = some 45) ∨ (0 = 0 ∧ ¬ s.data.toList.head? = some 45) := .inr ⟨rfl, fun h => ne_of_beq_false h2 ((hhead hp0).1 h)⟩
    refine holds_bif (fun h3 => ⟨by with_reducible exact cdb_iff.2 ⟨trivial, cd hp0⟩, .inr rfl, trivial, ret2 0 hf (.inl (by have := eq_of_beq h3; omega))⟩) (fun h3 => holds_bif (fun h4 => ⟨by with_reducible exact cdb_iff.2 ⟨trivial, cd hp0⟩, .inr rfl, trivial, ret2 0 hf (.inr (by have := of_decide_eq_true h4; omega))⟩) (fun h4 => ⟨by with_reducible exact cdb_iff.2 ⟨trivial, cd hp0⟩, ?_⟩))
    show Trl _ _ ((flatten (bodyOf 8)).drop 8) _ _ _
    exact Tr.keepL [0, 4, 5, 6] rfl (tr_ploop s hs 0 hf (Nat.zero_le _))
  · have h1 := of_decide_eq_false h1
    have hz : s.size = 0 := by omega
    have hnil : s.data.toList = [] := List.eq_nil_of_length_eq_zero (by rw [hlen, hz])
    have hf : (0 = 1 ∧ s.data.toList.head? = some 45) ∨ (0 = 0 ∧ ¬ s.data.toList.head? = some 45) := .inr ⟨rfl, by rw [hnil]; simp⟩
    refine holds_bif (fun h3 => ⟨trivial, .inr rfl, trivial, ret2 0 hf (.inl hz)⟩) (fun h3 => ?_)
    exact absurd (ne_of_beq_false h3) (by rw [hz]; simp)
def rparseP : List Value → Option (Value × Bool) := fun us => match us with
  | [.string s] => some (.tuple #[.int .i64 (dpX s), .int .i64 (dpY s)], decide (s.size ≤ 100000))
  | _ => none
theorem rparse_ok (ro : Nat → Option (List Value)) : ∀ args H r H', pure? rparseP args H = some (r, H') → HSound1 Tryd.prog ro 8 args H r H' := by
  refine pure_ok (fun us c hs => Fs.ro ?_ ro) (has_fn (by kernel_rfl))
  unfold rparseP at hs
  split at hs
  · simp only [Option.some.injEq, Prod.mk.injEq, decide_eq_true_eq] at hs
    obtain ⟨rfl, h⟩ := hs
    exact fs_rparse _ h
  · cases hs
end Go.Proofs.YtjnonfcemicmoaaDoor.AE
