/-
  Layer 6: lines and words: the program's loops over runes.
-/
import Derived.Test.YtjllakfoeknhdaaT06B
namespace Go.Proofs.Ytjllakfoeknhdaa.AE
open Go.RowKit
def flush (w : List UInt8) : List (List UInt8) := if w = [] then [] else [w]
def lns : List UInt8 → List UInt8 → List (List UInt8)
  | w, [] => flush w
  | w, c :: l => if c = 10 then w :: lns [] l else lns (w ++ [c]) l
def wds : List UInt8 → List UInt8 → List (List UInt8)
  | w, [] => flush w
  | w, c :: l => if c = 35 then flush w else if c = 32 ∨ c = 9 then flush w ++ wds [] l else wds (w ++ [c]) l
def linesS (s : ByteArray) : List ByteArray := (lns [] s.data.toList).map ba
def wordsS (s : ByteArray) : List ByteArray := (wds [] s.data.toList).map ba
theorem lns_run : ∀ (seg w l : List UInt8), (10 : UInt8) ∉ seg → lns w (seg ++ l) = lns (w ++ seg) l
  | [], w, l, _ => by simp
  | c :: seg, w, l, h => by
    simp only [List.mem_cons, not_or] at h
    show lns w (c :: (seg ++ l)) = _
    rw [lns, if_neg (fun e => h.1 e.symm), lns_run seg _ l h.2, List.append_assoc]; rfl
def plainW (c : UInt8) : Prop := ¬ c = 35 ∧ ¬ c = 32 ∧ ¬ c = 9
theorem wds_run : ∀ (seg w l : List UInt8), (∀ c ∈ seg, plainW c) → wds w (seg ++ l) = wds (w ++ seg) l
  | [], w, l, _ => by simp
  | c :: seg, w, l, h => by
    have hc := h c (List.mem_cons_self ..)
    show wds w (c :: (seg ++ l)) = _
    rw [wds, if_neg hc.1, if_neg (by rintro (e | e); exact hc.2.1 e; exact hc.2.2 e), wds_run seg _ l (fun x hx => h x (List.mem_cons_of_mem _ hx)), List.append_assoc]; rfl
theorem ne_of_nat {c : UInt8} {n : Nat} (h : c.toNat ≠ n) (hn : n < 256) : c ≠ UInt8.ofNat n := fun e => by
  subst e
  exact h (UInt8.toNat_ofNat_of_lt' hn)
theorem seg_cut {L seg : List UInt8} {st p w : Nat} (h : L.drop p = seg ++ L.drop (p + w)) (hw : seg.length = w) (hst : st ≤ p) (hp : p ≤ L.length) : (L.take (p + w)).drop st = (L.take p).drop st ++ seg := by
  have e : L.take (p + w) = L.take p ++ seg := by
    rw [List.take_add, h, List.take_left' hw]
  rw [e, List.drop_append_of_le_length (by rw [List.length_take]; omega)]
theorem room {os : List ByteArray} {x : AV} {ver : Nat} (h : os.length ≤ 1000000) : (((os.map sv).length + [x].length) * 16 ≤ 140737488355328 ∧ (os.map sv).length + [x].length ≤ 9223372036854775807) ∧ ver = ver := by
  simp only [List.length_map, List.length_cons, List.length_nil, and_true]; omega
theorem snoc_sv (os : List (List UInt8)) (x : List UInt8) : (os.map ba).map sv ++ [AV.v (.string (ba x))] = ((os ++ [x]).map ba).map sv := by rw [List.map_append, List.map_append]; rfl
/-! Lines. -/
theorem ln_sl : slotsOf 10 = 35 := by kernel_rfl
theorem ln_re : resultsOf 10 = [.tmp 2] := by kernel_rfl
noncomputable abbrev lnB : Code := sub (bodyOf 10) [1, 1, 1, 0, 1, 0, 0]
theorem ln_b : bodyOf 10 = ((flatten (bodyOf 10)).take 3).foldr .seq (.seq (.seq (sub (bodyOf 10) [1, 1, 1, 0, 0]) (.block 0 (.loop lnB))) (sub (bodyOf 10) [1, 1, 1, 1])) := by kernel_rfl
theorem ln_r1 : RangeAt (sub (bodyOf 10) [1, 1, 1, 0, 0]) 0 7 8 9 := ⟨by kernel_rfl, by kernel_rfl, by kernel_rfl, by kernel_rfl, by kernel_rfl, by kernel_rfl, by kernel_rfl⟩
theorem ln_r2 : NextAt (sub lnB [0]) 8 9 10 := ⟨by kernel_rfl, by kernel_rfl, by kernel_rfl, by kernel_rfl, by kernel_rfl, by kernel_rfl, by kernel_rfl⟩
theorem ln_f : flatten lnB = sub lnB [0] :: (flatten lnB).drop 1 := by kernel_rfl
theorem fs_lines (s : ByteArray) (hs : s.size ≤ 100000) : Fs Try.prog nro 10 [.v (.string s)] (hp [] []) fun r _ => clean r = some (.lst 1 ((linesS s).map sv) .no) := by
  refine Fs.of_body (has_fn (by kernel_rfl)) ?_
  rw [ln_sl, ln_re, ln_b]
  refine Tr.pre (c := _) (act := []) (H := hp [] []) (Trl.of_code (known_none _) (ne_nil (by kernel_rfl)) (ln_pre s _) ⟨trivial, ?_⟩)
  refine Tr.nilTip 3 1 rfl ?_
  refine Tr.seq (Tr.rangeAt (s := s) ln_r1 Try.underlying9 rfl (Nat.lt_of_lt_of_eq (by decide : 7 < 35) rfl) fun B k hB => ?_)
  refine TrI.keep [0, 3, 4, 8] ?_
  have hl := len_data s
  let L := s.data.toList
  have hL : L.length = s.size := hl
  let I : Nat → List AV → AH → Nat → Prop := fun m act H p => p ≤ s.size ∧ m = s.size - p ∧ ∃ (st : Nat) (os : List (List UInt8)) (ver : Nat), st ≤ p ∧ os.length ≤ p ∧ act = lnA s (.lst 1 ((os.map ba).map sv) (.tp 0 ver)) st k .dead .dead ∧ H = hp [] [ver] ∧ lns [] L = os ++ lns ((L.take p).drop st) (L.drop p)
  refine TrI.block (TrI.loop hB I ?_ (m := s.size) ⟨Nat.zero_le _, rfl, 0, [], 0, Nat.le_refl _, Nat.le_refl _, rfl, rfl, by simp⟩)
  rintro m act H p ⟨hp, rfl, st, os, ver, hst, hos, rfl, rfl, hI⟩
  refine TrI.round hB ln_f ln_r2 rfl (Nat.lt_of_lt_of_eq (by decide : 9 < 35) rfl) (fun hlt => ?_) (fun hge => ?_)
  · obtain ⟨seg, h1, h2, h3, h4, h5⟩ := rune_step s p hlt
    have hcut := seg_cut h1 h2 hst (by omega)
    have h1' : L.drop p = seg ++ L.drop (p + (Utf8.decode s p).2) := h1
    have body := fun R => ln_rd s (os.map ba) ver st k p ((Utf8.decode s p).1 : Nat) R
    rw [inc64 p (by omega), show s.extract (Int.toNat (st : Int)) (Int.toNat (p : Int)) = ba ((L.take p).drop st) from ext_ba s st p] at body
    refine Trl.of_code (known_none _) (ne_nil (by kernel_rfl)) (body _) (holds_bif (fun h => ⟨?_, ?_⟩) fun h => ⟨trivial, ?_⟩)
    · with_reducible exact cdb_iff.2 ⟨cdb_iff.2 ⟨trivial, decide_eq_true (by omega)⟩, decide_eq_true (room (by rw [List.length_map]; omega))⟩
    · have h := eq_of_beq h
      rcases h5 with ⟨b, e1, e2, e3⟩ | ⟨e1, e2⟩
      · have hb : b = 10 := UInt8.toNat_inj.1 (by show b.toNat = 10; omega)
        subst hb
        have hw : (Utf8.decode s p).2 = 1 := by rw [← h2, e1]; rfl
        rw [hw] at h4 h1' ⊢
        rw [h1', e1] at hI
        refine ⟨s.size - (p + 1), by omega, h4, rfl, p + 1, os ++ [(L.take p).drop st], ver + 1, Nat.le_refl _, by simp; omega, by rw [snoc_sv]; rfl, rfl, ?_⟩
        have hz : (L.take (p + 1)).drop (p + 1) = [] := List.drop_eq_nil_of_le (by rw [List.length_take]; omega)
        rw [hI, hz]
        show os ++ lns _ (10 :: _) = _
        rw [lns, if_pos rfl, List.append_assoc]; rfl
      · omega
    · have h : ¬ ((Utf8.decode s p).1 : Int) = 10 := ne_of_beq_false h
      have hn : (10 : UInt8) ∉ seg := fun hm => by
        rcases h5 with ⟨b, e1, e2, e3⟩ | ⟨e1, e2⟩
        · rw [e1] at hm
          have := List.mem_singleton.1 hm
          rw [← this] at e2
          exact h (by rw [e2]; rfl)
        · have := e2 _ hm
          exact absurd this (by decide)
      rw [h1', lns_run _ _ _ hn] at hI
      exact ⟨s.size - (p + (Utf8.decode s p).2), by omega, h4, rfl, st, os, ver, by omega, by omega, rfl, rfl, by rw [hcut]; exact hI⟩
  · have hps : p = s.size := by omega
    subst hps
    refine Trl.of_code (known_none _) (ne_nil (by kernel_rfl)) (ln_ov s (os.map ba) ver st k _) ⟨trivial, ?_⟩
    show Tr Try.prog nro (sub (bodyOf 10) [1, 1, 1, 1]) _ _ _
    rw [List.drop_of_length_le (show L.length ≤ s.size by omega), List.take_of_length_le (show L.length ≤ s.size by omega)] at hI
    have post := fun R => ln_post s (os.map ba) ver st R
    have hx : s.extract (Int.toNat (st : Int)) (Int.toNat ((s.size : Nat) : Int)) = ba (L.drop st) := by
      have := ext_ba s st s.size
      rw [List.take_of_length_le (by omega)] at this
      exact this
    rw [hx] at post
    refine Tr.of_flat (Trl.of_code (known_none _) (ne_nil (by kernel_rfl)) (post _) (holds_bif (fun h => ⟨?_, .inr rfl, trivial, ?_⟩) fun h => ⟨trivial, .inr rfl, trivial, ?_⟩))
    · with_reducible exact cdb_iff.2 ⟨cdb_iff.2 ⟨trivial, decide_eq_true (by have := of_decide_eq_true h; omega)⟩, decide_eq_true (room (by rw [List.length_map]; omega))⟩
    · have h := of_decide_eq_true h
      have hne : ¬ L.drop st = [] := fun e => by
        have := congrArg List.length e
        rw [List.length_drop] at this
        simp at this; omega
      unfold linesS
      rw [show lns [] s.data.toList = _ from hI, lns, flush, if_neg hne, ← snoc_sv]; rfl
    · have h := of_decide_eq_false h
      have he : L.drop st = [] := List.drop_of_length_le (by omega)
      unfold linesS
      rw [show lns [] s.data.toList = _ from hI, lns, flush, if_pos he, List.append_nil]; rfl
/-! Words. -/
theorem wd_sl : slotsOf 12 = 45 := by kernel_rfl
theorem wd_re : resultsOf 12 = [.tmp 2] := by kernel_rfl
noncomputable abbrev wdS : Code := sub (bodyOf 12) [1, 0]
noncomputable abbrev wdB : Code := sub (bodyOf 12) [1, 0, 1, 1, 1, 0, 1, 0, 0]
theorem wd_b0 : bodyOf 12 = ((flatten (bodyOf 12)).take 1).foldr .seq (.scope wdS) := by kernel_rfl
theorem wd_b : wdS = ((flatten wdS).take 3).foldr .seq (.seq (.seq (sub (bodyOf 12) [1, 0, 1, 1, 1, 0, 0]) (.block 0 (.loop wdB))) (sub (bodyOf 12) [1, 0, 1, 1, 1, 1])) := by kernel_rfl
theorem wd_r1 : RangeAt (sub (bodyOf 12) [1, 0, 1, 1, 1, 0, 0]) 0 10 11 9 := ⟨by kernel_rfl, by kernel_rfl, by kernel_rfl, by kernel_rfl, by kernel_rfl, by kernel_rfl, by kernel_rfl⟩
theorem wd_r2 : NextAt (sub wdB [0]) 11 12 13 := ⟨by kernel_rfl, by kernel_rfl, by kernel_rfl, by kernel_rfl, by kernel_rfl, by kernel_rfl, by kernel_rfl⟩
theorem wd_f : flatten wdB = sub wdB [0] :: (flatten wdB).drop 1 := by kernel_rfl
/-- Where a word stands that has begun. -/
def Wd (L : List UInt8) (st : Int) (p : Nat) (w : List UInt8) : Prop := (st = -1 ∧ w = []) ∨ ∃ n : Nat, st = n ∧ n < p ∧ w = (L.take p).drop n
theorem Wd.ne {L : List UInt8} {st : Int} {p : Nat} {w : List UInt8} (h : Wd L st p w) (hp : p ≤ L.length) : (st = -1 ↔ w = []) := by
  rcases h with ⟨h1, h2⟩ | ⟨n, h1, h2, h3⟩
  · simp [h1, h2]
  · constructor
    · intro e; omega
    · intro e
      rw [h3] at e
      have := congrArg List.length e
      rw [List.length_drop, List.length_take] at this
      simp at this; omega
theorem fs_words (s : ByteArray) (hs : s.size ≤ 100000) : Fs Try.prog nro 12 [.v (.string s)] (hp [] []) fun r _ => clean r = some (.lst 1 ((wordsS s).map sv) .no) := by
  refine Fs.of_body (has_fn (by kernel_rfl)) ?_
  rw [wd_sl, wd_re, wd_b0]
  refine Tr.pre (c := _) (act := []) (H := hp [] []) (Trl.of_code (known_none _) (ne_nil (by kernel_rfl)) (wd_pre0 s _) ⟨trivial, ?_⟩)
  refine Tr.scope ?_
  rw [wd_b]
  refine Tr.pre (c := _) (act := []) (H := hp [] []) (Tr.keepL [0] (by kernel_rfl) (Trl.of_code (known_none _) (ne_nil (by kernel_rfl)) (wd_pre s _) ⟨trivial, ?_⟩))
  refine Tr.nilTip 3 1 rfl ?_
  refine Tr.seq (Tr.rangeAt (s := s) wd_r1 Try.underlying9 rfl (Nat.lt_of_lt_of_eq (by decide : 10 < 45) rfl) fun B k hB => ?_)
  refine TrI.keep [0, 3, 4, 5, 11] ?_
  have hl := len_data s
  let L := s.data.toList
  have hL : L.length = s.size := hl
  -- what is left to do behind the loop
  have fin : ∀ (st : Int) (en : Nat) (os : List (List UInt8)) (ver : Nat) (w : List UInt8), en ≤ s.size → os.length ≤ en → Wd L st en w → wds [] L = os ++ flush w →
      Tr Try.prog nro (sub (bodyOf 12) [1, 0, 1, 1, 1, 1]) ([.v (.string s), .dead, .dead, .lst 1 ((os.map ba).map sv) (.tp 0 ver), .v (.int .i64 st), .v (.int .i64 (en : Nat))] ++ List.replicate 39 .dead) (hp [] [ver]) (notGo fun e a h => (e = .normal ∨ e = .ret) ∧ ansOk (fun r _ => clean r = some (.lst 1 ((wordsS s).map sv) .no)) (resOf Try.prog nro [.tmp 2] a h)) := by
    intro st en os ver w he hos hw hI
    have post := fun R => wd_post s (os.map ba) ver st (en : Nat) R
    refine Tr.of_flat (Trl.of_code (known_none _) (ne_nil (by kernel_rfl)) (post _) (holds_bif (fun h => ⟨?_, .inr rfl, trivial, ?_⟩) fun h => ⟨trivial, .inr rfl, trivial, ?_⟩))
    · have h : ¬ st = -1 := by simpa using h
      rcases hw with ⟨hw, _⟩ | ⟨n, rfl, h2, h3⟩
      · exact absurd hw h
      · with_reducible exact cdb_iff.2 ⟨cdb_iff.2 ⟨trivial, decide_eq_true (by omega)⟩, decide_eq_true (room (by rw [List.length_map]; omega))⟩
    · have h : ¬ st = -1 := by simpa using h
      have hwne : ¬ w = [] := fun e => h ((Wd.ne hw (by omega)).2 e)
      rcases hw with ⟨hw, _⟩ | ⟨n, rfl, h2, h3⟩
      · exact absurd hw h
      · unfold wordsS
        have hx : s.extract (Int.toNat (n : Int)) (Int.toNat ((en : Nat) : Int)) = ba w := by rw [h3]; exact ext_ba s n en
        rw [hx, show wds [] s.data.toList = _ from hI, flush, if_neg hwne, ← snoc_sv]; rfl
    · have h : st = -1 := by simpa using h
      have he : w = [] := (Wd.ne hw (by omega)).1 h
      unfold wordsS
      rw [show wds [] s.data.toList = _ from hI, he, flush, if_pos rfl, List.append_nil]; rfl
  let I : Nat → List AV → AH → Nat → Prop := fun m act H p => p ≤ s.size ∧ m = s.size - p ∧ ∃ (st : Int) (os : List (List UInt8)) (ver : Nat) (w : List UInt8), os.length ≤ p ∧ act = wdA s (.lst 1 ((os.map ba).map sv) (.tp 0 ver)) st (s.size : Nat) k .dead .dead ∧ H = hp [] [ver] ∧ Wd L st p w ∧ wds [] L = os ++ wds w (L.drop p)
  refine TrI.block (TrI.loop hB I ?_ (m := s.size) ⟨Nat.zero_le _, rfl, -1, [], 0, [], Nat.le_refl _, rfl, rfl, .inl ⟨rfl, rfl⟩, by simp⟩)
  rintro m act H p ⟨hp, rfl, st, os, ver, w, hos, rfl, rfl, hw, hI⟩
  refine TrI.round hB wd_f wd_r2 rfl (Nat.lt_of_lt_of_eq (by decide : 12 < 45) rfl) (fun hlt => ?_) (fun hge => ?_)
  · obtain ⟨seg, h1, h2, h3, h4, h5⟩ := rune_step s p hlt
    have h1' : L.drop p = seg ++ L.drop (p + (Utf8.decode s p).2) := h1
    have body := fun R => wd_rd s (os.map ba) ver st (s.size : Nat) k p ((Utf8.decode s p).1 : Nat) R
    -- a byte of its own
    have low : ∀ n : Nat, n < 128 → ((Utf8.decode s p).1 : Int) = n → seg = [UInt8.ofNat n] ∧ (Utf8.decode s p).2 = 1 := fun n hn e => by
      rcases h5 with ⟨b, e1, e2, e3⟩ | ⟨e1, e2⟩
      · have hb : b = UInt8.ofNat n := UInt8.toNat_inj.1 (by rw [UInt8.toNat_ofNat_of_lt' (by show n < 256; omega)]; omega)
        subst hb
        exact ⟨e1, by rw [← h2, e1]; rfl⟩
      · omega
    have other : ¬ ((Utf8.decode s p).1 : Int) = 35 → ¬ ((Utf8.decode s p).1 : Int) = 32 → ¬ ((Utf8.decode s p).1 : Int) = 9 → ∀ c ∈ seg, plainW c := fun a1 a2 a3 c hc => by
      rcases h5 with ⟨b, e1, e2, e3⟩ | ⟨e1, e2⟩
      · rw [e1] at hc
        have := List.mem_singleton.1 hc
        subst this
        refine ⟨fun e => a1 ?_, fun e => a2 ?_, fun e => a3 ?_⟩ <;> (rw [e2, e]; rfl)
      · have := e2 c hc
        refine ⟨fun e => ?_, fun e => ?_, fun e => ?_⟩ <;> (subst e; exact absurd this (by decide))
    -- a blank: the word is told, if there is one
    have blank : ((Utf8.decode s p).1 : Int) = 32 ∨ ((Utf8.decode s p).1 : Int) = 9 → (Utf8.decode s p).2 = 1 ∧ wds [] L = (os ++ flush w) ++ wds [] (L.drop (p + 1)) := fun e => by
      have hx : ∃ c : UInt8, (c = 32 ∨ c = 9) ∧ seg = [c] ∧ (Utf8.decode s p).2 = 1 := by
        rcases e with e | e
        · obtain ⟨x1, x2⟩ := low 32 (by decide) e; exact ⟨32, .inl rfl, x1, x2⟩
        · obtain ⟨x1, x2⟩ := low 9 (by decide) e; exact ⟨9, .inr rfl, x1, x2⟩
      obtain ⟨c, hc, x1, x2⟩ := hx
      refine ⟨x2, ?_⟩
      rw [h1', x1, x2] at hI
      rw [hI]
      show os ++ wds w (c :: _) = _
      rw [wds, if_neg (by rcases hc with rfl | rfl <;> decide), if_pos hc, List.append_assoc]
      rfl
    have told : ∀ (st' : Int), ((Utf8.decode s p).1 : Int) = 32 ∨ ((Utf8.decode s p).1 : Int) = 9 → ¬ st = -1 → ∃ m', m' < s.size - p ∧ I m' (wdA s (.lst 1 ((os.map ba).map sv ++ [.v (.string (s.extract (Int.toNat st) (Int.toNat (p : Int))))]) (.tp 0 (ver + 1))) (-1) (s.size : Nat) k .dead .dead) (AE.hp [] [ver + 1]) (p + (Utf8.decode s p).2) := fun _ e hst => by
      obtain ⟨x2, hI2⟩ := blank e
      have hwne : ¬ w = [] := fun e => hst ((Wd.ne hw (by omega)).2 e)
      rcases hw with ⟨hw, _⟩ | ⟨n, rfl, h2, h3⟩
      · exact absurd hw hst
      · have hx : s.extract (Int.toNat (n : Int)) (Int.toNat (p : Int)) = ba w := by rw [h3]; exact ext_ba s n p
        rw [hx, snoc_sv, x2]
        rw [flush, if_neg hwne] at hI2
        exact ⟨s.size - (p + 1), by omega, by omega, rfl, -1, os ++ [w], ver + 1, [], by simp; omega, rfl, rfl, .inl ⟨rfl, rfl⟩, hI2⟩
    have quiet : ((Utf8.decode s p).1 : Int) = 32 ∨ ((Utf8.decode s p).1 : Int) = 9 → st = -1 → ∃ m', m' < s.size - p ∧ I m' (wdA s (.lst 1 ((os.map ba).map sv) (.tp 0 ver)) (-1) (s.size : Nat) k .dead .dead) (AE.hp [] [ver]) (p + (Utf8.decode s p).2) := fun e hst => by
      obtain ⟨x2, hI2⟩ := blank e
      have hwe : w = [] := (Wd.ne hw (by omega)).1 hst
      rw [hwe, flush, if_pos rfl, List.append_nil] at hI2
      rw [x2]
      exact ⟨s.size - (p + 1), by omega, by omega, rfl, -1, os, ver, [], by omega, rfl, rfl, .inl ⟨rfl, rfl⟩, hI2⟩
    have cdT : ¬ st = -1 → (decide ((0 : Int) ≤ st ∧ st ≤ (p : Int) ∧ (p : Int) ≤ ((s.size : Nat) : Int))) = true := fun hst => by
      rcases hw with ⟨hw, _⟩ | ⟨n, rfl, h2, h3⟩
      · exact absurd hw hst
      · exact decide_eq_true (by omega)
    have grow : (∀ c ∈ seg, plainW c) → ∀ st' : Int, (st = -1 → st' = p) → (¬ st = -1 → st' = st) → ∃ m', m' < s.size - p ∧ I m' (wdA s (.lst 1 ((os.map ba).map sv) (.tp 0 ver)) st' (s.size : Nat) k .dead .dead) (AE.hp [] [ver]) (p + (Utf8.decode s p).2) := fun hc st' q1 q2 => by
      rw [h1', wds_run _ _ _ hc] at hI
      refine ⟨s.size - (p + (Utf8.decode s p).2), by omega, h4, rfl, st', os, ver, w ++ seg, by omega, rfl, rfl, .inr ?_, hI⟩
      rcases hw with ⟨hw, hwe⟩ | ⟨n, e, hn, h3⟩
      · refine ⟨p, q1 hw, by omega, ?_⟩
        rw [seg_cut h1' h2 (Nat.le_refl p) (by omega), hwe, List.drop_eq_nil_of_le (by rw [List.length_take]; omega)]
      · refine ⟨n, by rw [q2 (by omega)]; exact e, by omega, ?_⟩
        rw [seg_cut h1' h2 (by omega) (by omega), h3]
    refine Trl.of_code (known_none _) (ne_nil (by kernel_rfl)) (body _) (holds_bif (fun h => ⟨trivial, ?_⟩) fun h => holds_bif (fun h' => holds_bif (fun _ => holds_bif (fun h3 => ⟨?_, ?_⟩) fun h3 => ⟨trivial, ?_⟩) fun h3 => ?_) fun h' => holds_bif (fun h3 => holds_bif (fun h3' => ⟨?_, ?_⟩) fun h3' => ⟨trivial, ?_⟩) fun h3 => holds_bif (fun h3' => ⟨trivial, ?_⟩) fun h3' => ⟨trivial, ?_⟩)
    · have h : ((Utf8.decode s p).1 : Int) = 35 := eq_of_beq h
      obtain ⟨x1, x2⟩ := low 35 (by decide) h
      rw [h1', x1] at hI
      show Tr Try.prog nro (sub (bodyOf 12) [1, 0, 1, 1, 1, 1]) _ _ _
      refine Tr.keep [0, 3, 4, 5] (fin st p os ver w hp hos hw ?_)
      rw [hI]
      show os ++ wds w (35 :: _) = _
      rw [wds, if_pos rfl]
    · have h3 : ¬ st = -1 := by simpa using h3
      with_reducible exact cdb_iff.2 ⟨cdb_iff.2 ⟨trivial, cdT h3⟩, decide_eq_true (room (by rw [List.length_map]; omega))⟩
    · exact told 0 (.inl (eq_of_beq h')) (by simpa using h3)
    · exact quiet (.inl (eq_of_beq h')) (by simpa using h3)
    · rw [h'] at h3; cases h3
    · have h3' : ¬ st = -1 := by simpa using h3'
      with_reducible exact cdb_iff.2 ⟨cdb_iff.2 ⟨trivial, cdT h3'⟩, decide_eq_true (room (by rw [List.length_map]; omega))⟩
    · exact told 0 (.inr (eq_of_beq h3)) (by simpa using h3')
    · exact quiet (.inr (eq_of_beq h3)) (by simpa using h3')
    · have h3' : st = -1 := by simpa using h3'
      exact grow (other (ne_of_beq_false h) (ne_of_beq_false h') (ne_of_beq_false h3)) p (fun _ => rfl) (fun e => absurd h3' e)
    · have h3' : ¬ st = -1 := by simpa using h3'
      exact grow (other (ne_of_beq_false h) (ne_of_beq_false h') (ne_of_beq_false h3)) st (fun e => absurd e h3') (fun _ => rfl)
  · have hps : p = s.size := by omega
    subst hps
    refine Trl.of_code (known_none _) (ne_nil (by kernel_rfl)) (wd_ov s (os.map ba) ver st (s.size : Nat) k _) ⟨trivial, ?_⟩
    show Tr Try.prog nro (sub (bodyOf 12) [1, 0, 1, 1, 1, 1]) _ _ _
    rw [List.drop_of_length_le (show L.length ≤ s.size by omega)] at hI
    exact fin st s.size os ver w (Nat.le_refl _) hos hw hI
end Go.Proofs.Ytjllakfoeknhdaa.AE
