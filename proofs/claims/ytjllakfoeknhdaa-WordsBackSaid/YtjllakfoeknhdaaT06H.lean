/-
  Layer 6: what is known of words, over functions that give it.
-/
import Derived.Test.YtjllakfoeknhdaaT06G
namespace Go.Proofs.Ytjllakfoeknhdaa.AE
open Go.RowKit
def strsA? (x : AV) : Option (List ByteArray) := match x with
  | .lst 1 xs _ => strs? xs
  | .v (.slice none 0 0) => some []
  | _ => none
theorem strsA_nrm {x : AV} {l : List ByteArray} (h : strsA? x = some l) : isLV x = true ∧ nrm x = .lst 1 (l.map sv) .no := by
  unfold strsA? at h
  split at h
  · rw [strs_eq h]; exact ⟨rfl, rfl⟩
  · cases h; exact ⟨rfl, rfl⟩
  · cases h
theorem strsA_lst (l : List ByteArray) (tip : Tip) : strsA? (.lst 1 (l.map sv) tip) = some l := strs_map l
def strsX (x : AV) : List ByteArray := match strsA? x with
  | some l => l
  | none => []
theorem strsX_some {x : AV} {l : List ByteArray} (h : strsA? x = some l) : strsX x = l := by unfold strsX; rw [h]
theorem strsX_lst (l : List ByteArray) (tip : Tip) : strsX (.lst 1 (l.map sv) tip) = l := strsX_some (strsA_lst l tip)
def listV (F : ByteArray → List ByteArray) (args : List AV) : AV := .lst 1 ((F (exStr (args.headD .dead))).map sv) .no
def textOk (args : List AV) : Bool := match args with
  | [.v (.string s)] => decide (s.size ≤ 100000)
  | _ => false
theorem list_ok {g : FuncId} {F : ByteArray → List ByteArray} (hf : ∃ fn, Try.prog.funcs[g]? = some fn ∧ fn.body.isSome = true) (h : ∀ s : ByteArray, s.size ≤ 100000 → Fs Try.prog nro g [.v (.string s)] (hp [] []) fun r _ => clean r = some (.lst 1 ((F s).map sv) .no)) (ro : Nat → Option (List Value)) :
    ∀ args H r H', tot? (listV F) textOk args H = some (r, H') → HSound1 Try.prog ro g args H r H' := by
  refine tot_ok hf fun args hok => ?_
  unfold textOk at hok
  split at hok
  · exact ⟨_, rfl, (Fs.ro (h _ (of_decide_eq_true hok)) ro).mono fun r _ h => ⟨_, h, Le.refl _⟩⟩
  · cases hok
def plainP (P : ByteArray → Bool) : List Value → Option (Value × Bool) := fun us => match us with
  | [.string s] => some (.bool (P s), decide (s.size ≤ 100000))
  | _ => none
def cutP (A B : ByteArray → ByteArray) (K : ByteArray → Bool) : List Value → Option (Value × Bool) := fun us => match us with
  | [.string s] => some (.tuple #[.string (A s), .string (B s), .bool (K s)], decide (s.size ≤ 100000))
  | _ => none
theorem plain_ok {g : FuncId} (hf : ∃ fn, Try.prog.funcs[g]? = some fn ∧ fn.body.isSome = true) (h : ∀ s : ByteArray, s.size ≤ 100000 → Fs Try.prog nro g [.v (.string s)] (hp [] []) fun r _ => r = .v (.bool (plainL s.data.toList))) (ro : Nat → Option (List Value)) :
    ∀ args H r H', pure? (plainP fun s => plainL s.data.toList) args H = some (r, H') → HSound1 Try.prog ro g args H r H' := by
  refine pure_ok (fun us c hs => Fs.ro ?_ ro) hf
  unfold plainP at hs
  split at hs
  · simp only [Option.some.injEq, Prod.mk.injEq, decide_eq_true_eq] at hs
    obtain ⟨rfl, h1⟩ := hs
    exact h _ h1
  · cases hs
theorem cut_ok {g : FuncId} (hf : ∃ fn, Try.prog.funcs[g]? = some fn ∧ fn.body.isSome = true) (h : ∀ s : ByteArray, s.size ≤ 100000 → Fs Try.prog nro g [.v (.string s)] (hp [] []) fun r _ => r = .v (cutV s)) (ro : Nat → Option (List Value)) :
    ∀ args H r H', pure? (cutP cutA cutB cutK) args H = some (r, H') → HSound1 Try.prog ro g args H r H' := by
  refine pure_ok (fun us c hs => Fs.ro ?_ ro) hf
  unfold cutP at hs
  split at hs
  · simp only [Option.some.injEq, Prod.mk.injEq, decide_eq_true_eq] at hs
    obtain ⟨rfl, h1⟩ := hs
    exact h _ h1
  · cases hs
def joinV' (J : AV → ByteArray) (args : List AV) : AV := .v (.string (J (args.headD .dead)))
def joinOk' (args : List AV) : Bool := match args with
  | [x] => (match strsA? x with
    | some l => decide (l.length ≤ 1000) && l.all (fun s => decide (s.size ≤ 100000))
    | none => false)
  | _ => false
def joinX (x : AV) : ByteArray := joinB (strsX x) blank
theorem joinOk_of {l : List ByteArray} {tip : Tip} (h1 : l.length ≤ 1000) (h2 : ∀ x ∈ l, x.size ≤ 100000) : joinOk' [.lst 1 (l.map sv) tip] = true := by
  show (match strsA? (.lst 1 (l.map sv) tip) with | some l => decide (l.length ≤ 1000) && l.all (fun s => decide (s.size ≤ 100000)) | none => false) = true
  rw [strsA_lst]
  simp only [Bool.and_eq_true, decide_eq_true_eq, List.all_eq_true]
  exact ⟨h1, h2⟩
theorem wjoin_ok {g : FuncId} (hf : ∃ fn, Try.prog.funcs[g]? = some fn ∧ fn.body.isSome = true) (h : ∀ l : List ByteArray, l.length ≤ 1000 → (∀ x ∈ l, x.size ≤ 100000) → Fs Try.prog nro g [.lst 1 (l.map sv) .no] (hp [] []) fun r _ => r = .v (.string (joinB l blank))) (ro : Nat → Option (List Value)) :
    ∀ args H r H', tot? (joinV' joinX) joinOk' args H = some (r, H') → HSound1 Try.prog ro g args H r H' := by
  refine tot_nrm hf fun args hok => ?_
  unfold joinOk' at hok
  split at hok
  · rename_i x
    split at hok
    · rename_i l hl
      simp only [Bool.and_eq_true, decide_eq_true_eq, List.all_eq_true] at hok
      obtain ⟨h4, h5⟩ := strsA_nrm hl
      refine ⟨by simp [h4], ?_⟩
      rw [List.map_cons, List.map_nil, h5]
      refine (Fs.ro (h l hok.1 hok.2) ro).mono fun r _ h => ?_
      subst h
      refine ⟨_, rfl, ?_⟩
      show Le _ (.v (.string (joinB (strsX x) blank)))
      rw [strsX_some hl]
      exact Le.refl _
    · cases hok
  · cases hok
def findV (N : ByteArray → AV → Int) (B : ByteArray → AV → Bool) (args : List AV) : AV := .v (.tuple #[.int .i64 (N (exStr (args.headD .dead)) (args.tail.headD .dead)), .bool (B (exStr (args.headD .dead)) (args.tail.headD .dead))])
def findOk (args : List AV) : Bool := match args with
  | [.v (.string _), x] => (match strsA? x with
    | some l => decide (l.length ≤ 1000000)
    | none => false)
  | _ => false
def findN (w : ByteArray) (x : AV) : Int := fndN w (strsX x)
def findB (w : ByteArray) (x : AV) : Bool := fndB w (strsX x)
theorem wfind_ok {g : FuncId} (hf : ∃ fn, Try.prog.funcs[g]? = some fn ∧ fn.body.isSome = true) (h : ∀ (w : ByteArray) (l : List ByteArray), l.length ≤ 1000000 → Fs Try.prog nro g [.v (.string w), .lst 1 (l.map sv) .no] (hp [] []) fun r _ => r = .v (fndV w l)) (ro : Nat → Option (List Value)) :
    ∀ args H r H', tot? (findV findN findB) findOk args H = some (r, H') → HSound1 Try.prog ro g args H r H' := by
  refine tot_nrm hf fun args hok => ?_
  unfold findOk at hok
  split at hok
  · rename_i w x
    split at hok
    · rename_i l hl
      obtain ⟨h4, h5⟩ := strsA_nrm hl
      refine ⟨by simp [h4]; rfl, ?_⟩
      rw [List.map_cons, List.map_cons, List.map_nil, h5]
      refine (Fs.ro (h w l (of_decide_eq_true hok)) ro).mono fun r _ h => ?_
      subst h
      refine ⟨_, rfl, ?_⟩
      show Le _ (.v (.tuple #[.int .i64 (fndN w (strsX x)), .bool (fndB w (strsX x))]))
      rw [strsX_some hl, fndV_eq]
      exact Le.refl _
    · cases hok
  · cases hok
def sameV (S : AV → AV → Bool) (args : List AV) : AV := .v (.bool (S (args.headD .dead) (args.tail.headD .dead)))
def sameOk (args : List AV) : Bool := match args with
  | [x, y] => (match strsA? x with | some l => decide (l.length ≤ 1000000) | none => false) && (match strsA? y with | some _ => true | none => false)
  | _ => false
def sameX (x y : AV) : Bool := decide (strsX x = strsX y)
theorem sameOk_of (l m : List ByteArray) (t u : Tip) (h : l.length ≤ 1000000) : sameOk [.lst 1 (l.map sv) t, .lst 1 (m.map sv) u] = true := by
  show ((match strsA? (.lst 1 (l.map sv) t) with | some l => decide (l.length ≤ 1000000) | none => false) && (match strsA? (.lst 1 (m.map sv) u) with | some _ => true | none => false)) = true
  rw [strsA_lst, strsA_lst]
  simp [h]
theorem sameX_of (l m : List ByteArray) (t u : Tip) : sameX (.lst 1 (l.map sv) t) (.lst 1 (m.map sv) u) = decide (l = m) := by
  unfold sameX; rw [strsX_lst, strsX_lst]
theorem same_ok (ro : Nat → Option (List Value)) : ∀ args H r H', tot? (sameV sameX) sameOk args H = some (r, H') → HSound1 Try.prog ro 9 args H r H' := by
  refine tot_nrm (has_fn (by kernel_rfl)) fun args hok => ?_
  unfold sameOk at hok
  split at hok
  · rename_i x y
    simp only [Bool.and_eq_true] at hok
    obtain ⟨k1, k2⟩ := hok
    cases h1 : strsA? x with
    | none => rw [h1] at k1; cases k1
    | some a =>
      cases h2 : strsA? y with
      | none => rw [h2] at k2; cases k2
      | some b =>
        rw [h1] at k1
        obtain ⟨a4, a5⟩ := strsA_nrm h1
        obtain ⟨b4, b5⟩ := strsA_nrm h2
        refine ⟨by simp [a4, b4], ?_⟩
        rw [List.map_cons, List.map_cons, List.map_nil, a5, b5]
        refine (Fs.ro (fs_rsame a b (of_decide_eq_true k1)) ro).mono fun r _ h => ?_
        subst h
        refine ⟨_, rfl, ?_⟩
        show Le _ (.v (.bool (decide (strsX x = strsX y))))
        rw [strsX_some h1, strsX_some h2]
        exact Le.refl _
  · cases hok
/-- What is known: lines, words, plain, cut, joined, found, the same. -/
noncomputable def prW (FL FW : ByteArray → List ByteArray) (P : ByteArray → Bool) (A B : ByteArray → ByteArray) (K : ByteArray → Bool) (J : AV → ByteArray) (N : ByteArray → AV → Int) (D : ByteArray → AV → Bool) (S : AV → AV → Bool) : FuncId → Option (List AV → AH → Ans) := fun g => match g with
  | 10 => some (tot? (listV FL) textOk)
  | 11 => some (tot? (listV FL) textOk)
  | 12 => some (tot? (listV FW) textOk)
  | 13 => some (tot? (listV FW) textOk)
  | 14 => some (pure? (plainP P))
  | 15 => some (pure? (plainP P))
  | 7 => some (pure? (cutP A B K))
  | 8 => some (pure? (cutP A B K))
  | 19 => some (tot? (joinV' J) joinOk')
  | 20 => some (tot? (joinV' J) joinOk')
  | 17 => some (tot? (findV N D) findOk)
  | 18 => some (tot? (findV N D) findOk)
  | 9 => some (tot? (sameV S) sameOk)
  | _ => none
theorem knownW (ro : Nat → Option (List Value)) : Known ro (prW linesS wordsS (fun s => plainL s.data.toList) cutA cutB cutK joinX findN findB sameX) := by
  intro g p h
  unfold prW at h
  split at h
  · cases h; exact list_ok (has_fn (by kernel_rfl)) fs_lines _
  · cases h; exact list_ok (has_fn (by kernel_rfl)) fs_rlines _
  · cases h; exact list_ok (has_fn (by kernel_rfl)) fs_words _
  · cases h; exact list_ok (has_fn (by kernel_rfl)) fs_rwords _
  · cases h; exact plain_ok (has_fn (by kernel_rfl)) (fun s _ => fs_plain s) _
  · cases h; exact plain_ok (has_fn (by kernel_rfl)) fs_rplain _
  · cases h; exact cut_ok (has_fn (by kernel_rfl)) fs_cut _
  · cases h; exact cut_ok (has_fn (by kernel_rfl)) fs_rcut _
  · cases h; exact wjoin_ok (has_fn (by kernel_rfl)) fs_join _
  · cases h; exact wjoin_ok (has_fn (by kernel_rfl)) fs_rjoin _
  · cases h; exact wfind_ok (has_fn (by kernel_rfl)) fs_find _
  · cases h; exact wfind_ok (has_fn (by kernel_rfl)) fs_rfind _
  · cases h; exact same_ok _
  · cases h
end Go.Proofs.Ytjllakfoeknhdaa.AE
