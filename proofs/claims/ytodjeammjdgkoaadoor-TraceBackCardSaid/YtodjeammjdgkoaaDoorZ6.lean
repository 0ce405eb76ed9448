/-
  Layer 39: events that are wanted, as trees.
-/
import Derived.Test.YtodjeammjdgkoaaDoorZ5
import Derived.Test.YtodjeammjdgkoaaDoorZ1
namespace Go.Proofs.YtodjeammjdgkoaaDoor.AE
open Go.RowKit
def tpaA (Ls : List ByteArray) (acc : AV) (n i : Int) : List AV := [.dead, .dead, .dead, .dead, .dead, acc, .dead, .dead, .dead, .dead, .dead, .lst 1 (Ls.map sv) .no, gi n, gi i] ++ ded 23
def accA (acc : List Evt) (v : Nat) : AV := .lst 7 (acc.map evA) (.tp 0 v)
theorem tp_0 (S : US) (tS tR : TypeId) (pS pR : Value) (x : ByteArray) (R : Exit → List AV → AH → Prop) : codeL (roT tS pS tR pR) (fun _ => false) (prU S) 8 ((flatten (bodyOf 15)).take 3) ([sv x] ++ List.replicate 36 (.v undef)) (hp [] []) (kp [5, 11, 12, 13] R) =
    (some ((cdb True (textOk [(AV.v (Value.string x))])) ∧ (R Exit.normal [AV.dead, AV.dead, AV.dead, AV.dead, AV.dead, (AV.v (Value.slice none (0 : Nat) (0 : Nat))), AV.dead, AV.dead, AV.dead, AV.dead, AV.dead, (AV.lst (1 : Nat) (List.map sv ((S).5 x)) Tip.no), (AV.v (Value.int IntKind.i64 ((List.length (List.map sv ((S).5 x))) : Int))), (AV.v (Value.int IntKind.i64 (0 : Int))), AV.dead, AV.dead, AV.dead, AV.dead, AV.dead, AV.dead, AV.dead, AV.dead, AV.dead, AV.dead, AV.dead, AV.dead, AV.dead, AV.dead, AV.dead, AV.dead, AV.dead, AV.dead, AV.dead, AV.dead, AV.dead, AV.dead, AV.dead] (AH.mk (@List.nil (Prod Go.TypeId (List AV))) (@List.nil Nat) (0 : Nat) (0 : Nat) true (@List.nil (Prod Nat Bool)) True)))) := by kernel_rfl
theorem tp_in (S : US) (tS tR : TypeId) (pS pR : Value) (Ls : List ByteArray) (acc : List Evt) (v : Nat) (n i : Int) (R : Exit → List AV → AH → Prop) : code (roT tS pS tR pR) (fun _ => false) (prU S) 8 (sub (bodyOf 15) [1, 1, 0, 1, 0, 0]) (tpaA Ls (accA acc v) n i) (hp [] [v]) (kp [2, 3, 4, 5, 11, 12, 13] R) =
    (bif (decide (i < n)) then (bif (((List.length (List.map sv ((S).6 (exStr (AV.v (Value.string (exStr (List.getD (List.map sv Ls) (Int.toNat i) AV.dead)))))))) : Int) == (0 : Int)) then (some ((cdb (cds True (elemB Tryd.prog (9 : Nat) (List.map sv Ls) i) (((0 : Int) ≤ i) ∧ (((List.map sv Ls)[(Int.toNat i)]?) = (some (AV.v (Value.string (exStr (List.getD (List.map sv Ls) (Int.toNat i) AV.dead)))))))) (textOk [(AV.v (Value.string (exStr (List.getD (List.map sv Ls) (Int.toNat i) AV.dead))))])) ∧ (R Exit.normal [AV.dead, AV.dead, AV.dead, AV.dead, AV.dead, (AV.lst (7 : Nat) (List.map evA acc) (Tip.tp (0 : Nat) v)), AV.dead, AV.dead, AV.dead, AV.dead, AV.dead, (AV.lst (1 : Nat) (List.map sv Ls) Tip.no), (AV.v (Value.int IntKind.i64 n)), (AV.v (Value.int IntKind.i64 (IntKind.wrap IntKind.i64 (i + (1 : Int))))), AV.dead, AV.dead, AV.dead, AV.dead, AV.dead, AV.dead, AV.dead, AV.dead, AV.dead, AV.dead, AV.dead, AV.dead, AV.dead, AV.dead, AV.dead, AV.dead, AV.dead, AV.dead, AV.dead, AV.dead, AV.dead, AV.dead, AV.dead] (AH.mk (@List.nil (Prod Go.TypeId (List AV))) [v] (0 : Nat) (0 : Nat) true (@List.nil (Prod Nat Bool)) True)))) else (bif (((S).4 (exStr (List.getD (List.map sv Ls) (Int.toNat i) AV.dead))) != (0 : Int)) then (some ((cdb (cdb (cds True (elemB Tryd.prog (9 : Nat) (List.map sv Ls) i) (((0 : Int) ≤ i) ∧ (((List.map sv Ls)[(Int.toNat i)]?) = (some (AV.v (Value.string (exStr (List.getD (List.map sv Ls) (Int.toNat i) AV.dead)))))))) (textOk [(AV.v (Value.string (exStr (List.getD (List.map sv Ls) (Int.toNat i) AV.dead))))])) (okT (exStr (List.getD (List.map sv Ls) (Int.toNat i) AV.dead)))) ∧ (R Exit.ret [AV.dead, AV.dead, (AV.v (Value.slice none (0 : Nat) (0 : Nat))), (AV.v (Value.int IntKind.i64 i)), (AV.v (Value.int IntKind.i64 ((S).4 (exStr (List.getD (List.map sv Ls) (Int.toNat i) AV.dead))))), (AV.lst (7 : Nat) (List.map evA acc) (Tip.tp (0 : Nat) v)), AV.dead, AV.dead, AV.dead, AV.dead, AV.dead, (AV.lst (1 : Nat) (List.map sv Ls) Tip.no), (AV.v (Value.int IntKind.i64 n)), (AV.v (Value.int IntKind.i64 i)), AV.dead, AV.dead, AV.dead, AV.dead, AV.dead, AV.dead, AV.dead, AV.dead, AV.dead, AV.dead, AV.dead, AV.dead, AV.dead, AV.dead, AV.dead, AV.dead, AV.dead, AV.dead, AV.dead, AV.dead, AV.dead, AV.dead, AV.dead] (AH.mk [((23 : Nat), [(AV.v (Value.int IntKind.i64 ((S).3 (exStr (List.getD (List.map sv Ls) (Int.toNat i) AV.dead)) (0 : Nat)))), (AV.v (Value.int IntKind.i64 ((S).3 (exStr (List.getD (List.map sv Ls) (Int.toNat i) AV.dead)) (1 : Nat)))), (AV.v (Value.int IntKind.i64 ((S).3 (exStr (List.getD (List.map sv Ls) (Int.toNat i) AV.dead)) (2 : Nat)))), (AV.v (Value.int IntKind.i64 ((S).3 (exStr (List.getD (List.map sv Ls) (Int.toNat i) AV.dead)) (3 : Nat)))), (AV.v (Value.int IntKind.i64 ((S).3 (exStr (List.getD (List.map sv Ls) (Int.toNat i) AV.dead)) (4 : Nat)))), (AV.v (Value.int IntKind.i64 ((S).3 (exStr (List.getD (List.map sv Ls) (Int.toNat i) AV.dead)) (5 : Nat)))), (AV.v (Value.int IntKind.i64 ((S).3 (exStr (List.getD (List.map sv Ls) (Int.toNat i) AV.dead)) (6 : Nat))))])] [v] (0 : Nat) (0 : Nat) true (@List.nil (Prod Nat Bool)) True)))) else (some ((cdb (cdb (cdb (cds True (elemB Tryd.prog (9 : Nat) (List.map sv Ls) i) (((0 : Int) ≤ i) ∧ (((List.map sv Ls)[(Int.toNat i)]?) = (some (AV.v (Value.string (exStr (List.getD (List.map sv Ls) (Int.toNat i) AV.dead)))))))) (textOk [(AV.v (Value.string (exStr (List.getD (List.map sv Ls) (Int.toNat i) AV.dead))))])) (okT (exStr (List.getD (List.map sv Ls) (Int.toNat i) AV.dead)))) (decide ((((((List.length (List.map evA acc)) + (List.length [(AV.v (Value.agg #[(Value.int IntKind.i64 ((S).3 (exStr (List.getD (List.map sv Ls) (Int.toNat i) AV.dead)) (0 : Nat))), (Value.int IntKind.i64 ((S).3 (exStr (List.getD (List.map sv Ls) (Int.toNat i) AV.dead)) (1 : Nat))), (Value.int IntKind.i64 ((S).3 (exStr (List.getD (List.map sv Ls) (Int.toNat i) AV.dead)) (2 : Nat))), (Value.int IntKind.i64 ((S).3 (exStr (List.getD (List.map sv Ls) (Int.toNat i) AV.dead)) (3 : Nat))), (Value.int IntKind.i64 ((S).3 (exStr (List.getD (List.map sv Ls) (Int.toNat i) AV.dead)) (4 : Nat))), (Value.int IntKind.i64 ((S).3 (exStr (List.getD (List.map sv Ls) (Int.toNat i) AV.dead)) (5 : Nat))), (Value.int IntKind.i64 ((S).3 (exStr (List.getD (List.map sv Ls) (Int.toNat i) AV.dead)) (6 : Nat)))]))])) * (56 : Nat)) ≤ (140737488355328 : Nat)) ∧ (((List.length (List.map evA acc)) + (List.length [(AV.v (Value.agg #[(Value.int IntKind.i64 ((S).3 (exStr (List.getD (List.map sv Ls) (Int.toNat i) AV.dead)) (0 : Nat))), (Value.int IntKind.i64 ((S).3 (exStr (List.getD (List.map sv Ls) (Int.toNat i) AV.dead)) (1 : Nat))), (Value.int IntKind.i64 ((S).3 (exStr (List.getD (List.map sv Ls) (Int.toNat i) AV.dead)) (2 : Nat))), (Value.int IntKind.i64 ((S).3 (exStr (List.getD (List.map sv Ls) (Int.toNat i) AV.dead)) (3 : Nat))), (Value.int IntKind.i64 ((S).3 (exStr (List.getD (List.map sv Ls) (Int.toNat i) AV.dead)) (4 : Nat))), (Value.int IntKind.i64 ((S).3 (exStr (List.getD (List.map sv Ls) (Int.toNat i) AV.dead)) (5 : Nat))), (Value.int IntKind.i64 ((S).3 (exStr (List.getD (List.map sv Ls) (Int.toNat i) AV.dead)) (6 : Nat)))]))])) ≤ (9223372036854775807 : Nat))) ∧ (v = v)))) ∧ (R Exit.normal [AV.dead, AV.dead, AV.dead, AV.dead, AV.dead, (AV.lst (7 : Nat) ((List.map evA acc) ++ [(AV.v (Value.agg #[(Value.int IntKind.i64 ((S).3 (exStr (List.getD (List.map sv Ls) (Int.toNat i) AV.dead)) (0 : Nat))), (Value.int IntKind.i64 ((S).3 (exStr (List.getD (List.map sv Ls) (Int.toNat i) AV.dead)) (1 : Nat))), (Value.int IntKind.i64 ((S).3 (exStr (List.getD (List.map sv Ls) (Int.toNat i) AV.dead)) (2 : Nat))), (Value.int IntKind.i64 ((S).3 (exStr (List.getD (List.map sv Ls) (Int.toNat i) AV.dead)) (3 : Nat))), (Value.int IntKind.i64 ((S).3 (exStr (List.getD (List.map sv Ls) (Int.toNat i) AV.dead)) (4 : Nat))), (Value.int IntKind.i64 ((S).3 (exStr (List.getD (List.map sv Ls) (Int.toNat i) AV.dead)) (5 : Nat))), (Value.int IntKind.i64 ((S).3 (exStr (List.getD (List.map sv Ls) (Int.toNat i) AV.dead)) (6 : Nat)))]))]) (Tip.tp (0 : Nat) (v + (1 : Nat)))), AV.dead, AV.dead, AV.dead, AV.dead, AV.dead, (AV.lst (1 : Nat) (List.map sv Ls) Tip.no), (AV.v (Value.int IntKind.i64 n)), (AV.v (Value.int IntKind.i64 (IntKind.wrap IntKind.i64 (i + (1 : Int))))), AV.dead, AV.dead, AV.dead, AV.dead, AV.dead, AV.dead, AV.dead, AV.dead, AV.dead, AV.dead, AV.dead, AV.dead, AV.dead, AV.dead, AV.dead, AV.dead, AV.dead, AV.dead, AV.dead, AV.dead, AV.dead, AV.dead, AV.dead] (AH.mk [((23 : Nat), [(AV.v (Value.int IntKind.i64 ((S).3 (exStr (List.getD (List.map sv Ls) (Int.toNat i) AV.dead)) (0 : Nat)))), (AV.v (Value.int IntKind.i64 ((S).3 (exStr (List.getD (List.map sv Ls) (Int.toNat i) AV.dead)) (1 : Nat)))), (AV.v (Value.int IntKind.i64 ((S).3 (exStr (List.getD (List.map sv Ls) (Int.toNat i) AV.dead)) (2 : Nat)))), (AV.v (Value.int IntKind.i64 ((S).3 (exStr (List.getD (List.map sv Ls) (Int.toNat i) AV.dead)) (3 : Nat)))), (AV.v (Value.int IntKind.i64 ((S).3 (exStr (List.getD (List.map sv Ls) (Int.toNat i) AV.dead)) (4 : Nat)))), (AV.v (Value.int IntKind.i64 ((S).3 (exStr (List.getD (List.map sv Ls) (Int.toNat i) AV.dead)) (5 : Nat)))), (AV.v (Value.int IntKind.i64 ((S).3 (exStr (List.getD (List.map sv Ls) (Int.toNat i) AV.dead)) (6 : Nat))))])] [(v + (1 : Nat))] (0 : Nat) (0 : Nat) true (@List.nil (Prod Nat Bool)) True)))))) else (some (True ∧ (R (Exit.exit (0 : Nat)) [AV.dead, AV.dead, AV.dead, AV.dead, AV.dead, (AV.lst (7 : Nat) (List.map evA acc) (Tip.tp (0 : Nat) v)), AV.dead, AV.dead, AV.dead, AV.dead, AV.dead, (AV.lst (1 : Nat) (List.map sv Ls) Tip.no), (AV.v (Value.int IntKind.i64 n)), (AV.v (Value.int IntKind.i64 i)), AV.dead, AV.dead, AV.dead, AV.dead, AV.dead, AV.dead, AV.dead, AV.dead, AV.dead, AV.dead, AV.dead, AV.dead, AV.dead, AV.dead, AV.dead, AV.dead, AV.dead, AV.dead, AV.dead, AV.dead, AV.dead, AV.dead, AV.dead] (AH.mk (@List.nil (Prod Go.TypeId (List AV))) [v] (0 : Nat) (0 : Nat) true (@List.nil (Prod Nat Bool)) True))))) := by kernel_rfl
theorem tp_9 (S : US) (tS tR : TypeId) (pS pR : Value) (Ls : List ByteArray) (acc : List Evt) (v : Nat) (n i : Int) (R : Exit → List AV → AH → Prop) : codeL (roT tS pS tR pR) (fun _ => false) (prU S) 8 ((flatten (bodyOf 15)).drop 4) (tpaA Ls (accA acc v) n i) (hp [] [v]) (kp [2, 3, 4] R) =
    (some (True ∧ (R Exit.ret [AV.dead, AV.dead, (AV.lst (7 : Nat) (List.map evA acc) (Tip.tp (0 : Nat) v)), (AV.v (Value.int IntKind.i64 (0 : Int))), (AV.v (Value.int IntKind.i64 (0 : Int))), AV.dead, AV.dead, AV.dead, AV.dead, AV.dead, AV.dead, AV.dead, AV.dead, AV.dead, AV.dead, AV.dead, AV.dead, AV.dead, AV.dead, AV.dead, AV.dead, AV.dead, AV.dead, AV.dead, AV.dead, AV.dead, AV.dead, AV.dead, AV.dead, AV.dead, AV.dead, AV.dead, AV.dead, AV.dead, AV.dead, AV.dead, AV.dead] (AH.mk (@List.nil (Prod Go.TypeId (List AV))) [v] (0 : Nat) (0 : Nat) true (@List.nil (Prod Nat Bool)) True)))) := by kernel_rfl
end Go.Proofs.YtodjeammjdgkoaaDoor.AE
namespace Go.Proofs.YtodjeammjdgkoaaDoor.AE
open Go.RowKit
theorem lns_le : ∀ (l w : List UInt8), ∀ x ∈ lns w l, x.length ≤ w.length + l.length
  | [], w, x, h => by
    unfold lns flush at h
    split at h
    · cases h
    · simp only [List.mem_singleton] at h
      subst h; simp
  | c :: l, w, x, h => by
    unfold lns at h
    split at h
    · rcases List.mem_cons.1 h with rfl | h
      · rw [List.length_cons]; omega
      · have := lns_le l [] x h
        simp only [List.length_nil, List.length_cons] at this ⊢
        omega
    · have := lns_le l _ x h
      rw [List.length_append] at this
      simp only [List.length_cons, List.length_nil] at this ⊢
      omega
theorem lns_many : ∀ (l w : List UInt8), (lns w l).length ≤ l.length + 1
  | [], w => by unfold lns flush; split <;> simp
  | c :: l, w => by
    unfold lns
    split
    · have := lns_many l []
      simp only [List.length_cons]
      omega
    · have := lns_many l (w ++ [c])
      simp only [List.length_cons]
      omega
theorem ba_len (l : List UInt8) : (ba l).size = l.length := rfl
theorem lines_le {s x : ByteArray} (h : x ∈ linesS s) : x.size ≤ s.size := by
  unfold linesS at h
  obtain ⟨y, hy, rfl⟩ := List.mem_map.1 h
  have := lns_le _ _ y hy
  rw [len_data] at this
  rw [ba_len]
  simpa using this
theorem lines_many (s : ByteArray) : (linesS s).length ≤ s.size + 1 := by
  unfold linesS
  have := lns_many s.data.toList []
  rw [len_data] at this
  rwa [List.length_map]
def pe (W : List ByteArray) : Evt := ⟨pE W 0, pE W 1, pE W 2, pE W 3, pE W 4, pE W 5, pE W 6⟩
def pall : List ByteArray → Nat → List Evt → List Evt × Nat × Int
  | [], _, acc => (acc, 0, 0)
  | x :: l, i, acc => if (wordsS x).length = 0 then pall l (i + 1) acc else if pF (wordsS x) = 0 then pall l (i + 1) (acc ++ [pe (wordsS x)]) else ([], i, pF (wordsS x))
def pallA (p : List Evt × Nat × Int) : AV := .tuple [evL p.1, gi p.2.1, gi p.2.2]
theorem le_nil3 (sz : Nat) (u w : Value) : Le (.v (.tuple #[.slice none 0 0, u, w])) (.tuple [.lst sz [] .no, .v u, .v w]) := fun G W c h => by
  cases h
  exact .tuple (.cons (.lst (cs := []) rfl .nil (fun x hx => by cases hx) ⟨by simp, fun hne => absurd rfl hne⟩ (Nat.le_refl _) (Nat.zero_le _) trivial) (.cons (.v _) (.cons (.v _) .nil)))
section
variable {tS tR : TypeId} {pS pR : Value}
theorem tp_sl : slotsOf 15 = 37 := by kernel_rfl
theorem tp_re : resultsOf 15 = [.tmp 2, .tmp 3, .tmp 4] := by kernel_rfl
theorem tp_fl : (flatten (bodyOf 15)).drop 3 = .block 0 (.loop (sub (bodyOf 15) [1, 1, 0, 1, 0, 0])) :: (flatten (bodyOf 15)).drop 4 := by kernel_rfl
abbrev PallQ (s : ByteArray) (r : AV) : Prop := ∃ y, clean r = some y ∧ Le y (pallA (pall (linesS s) 0 []))
set_option maxHeartbeats 4000000 in
set_option maxRecDepth 100000 in
theorem fs_tpall (s : ByteArray) (hs : s.size ≤ 100000) : Fs Tryd.prog (roT tS pS tR pR) 15 [.v (.string s)] (hp [] []) fun r _ => PallQ s r := by
  refine Fs.of_body (has_fn (by kernel_rfl)) ?_
  rw [tp_sl, tp_re]
  have k0 : cdb True (textOk [.v (.string s)]) := cdb_iff.2 ⟨trivial, decide_eq_true hs⟩
  have first := fun R => tp_0 usX tS tR pS pR s R
  rw [List.length_map] at first
  refine Tr.of_flat (Trl.split 3 (Trl.of_code knownU (ne_nil (by kernel_rfl)) (first _) ⟨k0, ?_⟩))
  show Trl _ _ ((flatten (bodyOf 15)).drop 3) _ _ _
  rw [tp_fl]
  refine Trl.nilTip 5 7 rfl rfl ?_
  let I : Nat → List AV → AH → Prop := fun m act H => ∃ (i v : Nat) (acc : List Evt), i ≤ (linesS s).length ∧ acc.length ≤ i ∧ m = (linesS s).length - i ∧ act = tpaA (linesS s) (accA acc v) (linesS s).length i ∧ H = hp [] [v] ∧ pall (linesS s) 0 [] = pall ((linesS s).drop i) i acc
  refine Tr.keepL [5, 11, 12, 13] rfl (Tr.block (Tr.loop I ?_ (m := (linesS s).length) ⟨0, 0, [], Nat.zero_le _, Nat.le_refl _, rfl, rfl, rfl, rfl⟩))
  rintro m act H ⟨i, v, acc, hi, ha, rfl, rfl, rfl, hI⟩
  have hm := lines_many s
  have body := fun R => tp_in usX tS tR pS pR (linesS s) acc v (linesS s).length i R
  rw [inc64 i (by omega), List.length_map, evl] at body
  refine Tr.forget 0 1 (Nat.le_refl _) (Nat.le_refl _) (Tr.of_code knownU (body _) (holds_bif (fun h1 => ?_) fun h1 => ⟨trivial, by kernel_rfl, by kernel_rfl, ?_⟩))
  · have h1 : i < (linesS s).length := by have := of_decide_eq_true h1; omega
    have hle := lines_le (List.getElem_mem h1)
    have g1 : (0 : Int) ≤ (i : Int) ∧ ((linesS s).map sv)[Int.toNat (i : Int)]? = some (sv (linesS s)[i]) := ⟨Int.natCast_nonneg _, sv_get h1⟩
    have g2 : okT (linesS s)[i] = true := decide_eq_true (by omega)
    rw [sv_ex h1]
    rw [List.drop_eq_getElem_cons h1, pall] at hI
    refine holds_bif (fun h2 => ⟨cdb_iff.2 ⟨cds_of trivial g1, g2⟩, by kernel_rfl, by kernel_rfl, (linesS s).length - (i + 1), by omega, i + 1, v, acc, h1, by omega, rfl, rfl, rfl, ?_⟩) fun h2 => holds_bif (fun h3 => ⟨cdb_iff.2 ⟨cdb_iff.2 ⟨cds_of trivial g1, g2⟩, g2⟩, by kernel_rfl, by kernel_rfl, .inr rfl, trivial, ?_⟩) fun h3 => ⟨cdb_iff.2 ⟨cdb_iff.2 ⟨cdb_iff.2 ⟨cds_of trivial g1, g2⟩, g2⟩, ?_⟩, by kernel_rfl, by kernel_rfl, (linesS s).length - (i + 1), by omega, i + 1, v + 1, acc ++ [pe (wordsS (linesS s)[i])], h1, by rw [List.length_append, List.length_singleton]; omega, rfl, ?_, rfl, ?_⟩
    · have h2 : (wordsS (linesS s)[i]).length = 0 := by
        have h2 : ((((wordsS (linesS s)[i]).length : Nat) : Int) == 0) = true := h2
        have := eq_of_beq h2; omega
      rw [if_pos h2] at hI
      exact hI
    · have h2 : ¬ (wordsS (linesS s)[i]).length = 0 := fun e => by
        have h2 : ((((wordsS (linesS s)[i]).length : Nat) : Int) == 0) = false := h2
        rw [e] at h2; cases h2
      have h3 : ¬ pF (wordsS (linesS s)[i]) = 0 := fun e => by
        have h3 : (pF (wordsS (linesS s)[i]) != 0) = true := h3
        rw [e] at h3; cases h3
      rw [if_neg h2, if_neg h3] at hI
      exact ⟨_, rfl, by rw [hI]; exact le_nil3 7 _ _⟩
    · exact decide_eq_true ⟨⟨by simp only [List.length_cons, List.length_nil]; omega, by simp only [List.length_cons, List.length_nil]; omega⟩, rfl⟩
    · unfold tpaA accA
      rw [List.map_append]; rfl
    · have h2 : ¬ (wordsS (linesS s)[i]).length = 0 := fun e => by
        have h2 : ((((wordsS (linesS s)[i]).length : Nat) : Int) == 0) = false := h2
        rw [e] at h2; cases h2
      have h3 : pF (wordsS (linesS s)[i]) = 0 := by
        have h3 : (pF (wordsS (linesS s)[i]) != 0) = false := h3
        simpa using h3
      rw [if_neg h2, if_pos h3] at hI
      exact hI
  · have h1 : i = (linesS s).length := by have := of_decide_eq_false h1; omega
    subst h1
    rw [List.drop_length] at hI
    show Trl _ _ ((flatten (bodyOf 15)).drop 4) _ _ _
    refine Trl.of_code knownU (ne_nil (by kernel_rfl)) (tp_9 usX tS tR pS pR (linesS s) acc v _ _ _) ⟨trivial, .inr rfl, trivial, ?_⟩
    show ∃ y, _ ∧ Le y _
    rw [hI]
    exact ⟨_, rfl, Le.refl _⟩
end
end Go.Proofs.YtodjeammjdgkoaaDoor.AE
namespace Go.Proofs.YtodjeammjdgkoaaDoor.AE
open Go.RowKit
def siA (x y : AV) (i : Int) : List AV := [x, y, .dead, .dead, .dead, gi i] ++ List.replicate 26 .dead
theorem si_pre (ro : Nat → Option (List Value)) (a b : List Int) (R : Exit → List AV → AH → Prop) : codeL ro (fun _ => false) (fun _ => none) 5 ((flatten (bodyOf 22)).take 4) ([.lst 1 (a.map gi) .no, .lst 1 (b.map gi) .no] ++ List.replicate 30 (.v undef)) (hp [] []) (kp [0, 1, 4, 5] R) =
    (bif (((List.length (List.map gi a)) : Int) != ((List.length (List.map gi b)) : Int)) then (some (True ∧ (R Exit.ret [(AV.lst (1 : Nat) (List.map gi a) Tip.no), (AV.lst (1 : Nat) (List.map gi b) Tip.no), AV.dead, AV.dead, (AV.v (Value.bool false)), (AV.v (Value.tuple (Array.mk (@List.nil Go.Value)))), AV.dead, AV.dead, AV.dead, AV.dead, AV.dead, AV.dead, AV.dead, AV.dead, AV.dead, AV.dead, AV.dead, AV.dead, AV.dead, AV.dead, AV.dead, AV.dead, AV.dead, AV.dead, AV.dead, AV.dead, AV.dead, AV.dead, AV.dead, AV.dead, AV.dead, AV.dead] (AH.mk (@List.nil (Prod Go.TypeId (List AV))) (@List.nil Nat) (0 : Nat) (0 : Nat) true (@List.nil (Prod Nat Bool)) True)))) else (some (True ∧ (R Exit.normal [(AV.lst (1 : Nat) (List.map gi a) Tip.no), (AV.lst (1 : Nat) (List.map gi b) Tip.no), AV.dead, AV.dead, (AV.v (Value.bool false)), (AV.v (Value.int IntKind.i64 (0 : Int))), AV.dead, AV.dead, AV.dead, AV.dead, AV.dead, AV.dead, AV.dead, AV.dead, AV.dead, AV.dead, AV.dead, AV.dead, AV.dead, AV.dead, AV.dead, AV.dead, AV.dead, AV.dead, AV.dead, AV.dead, AV.dead, AV.dead, AV.dead, AV.dead, AV.dead, AV.dead] (AH.mk (@List.nil (Prod Go.TypeId (List AV))) (@List.nil Nat) (0 : Nat) (0 : Nat) true (@List.nil (Prod Nat Bool)) True))))) := by kernel_rfl
theorem si_in (ro : Nat → Option (List Value)) (a b : List Int) (i : Int) (R : Exit → List AV → AH → Prop) : code ro (fun _ => false) (fun _ => none) 5 (sub (bodyOf 22) [1, 1, 0, 1, 0, 0]) (siA (.lst 1 (a.map gi) .no) (.lst 1 (b.map gi) .no) i) (hp [] []) (kp [0, 1, 4, 5] R) =
    (bif (decide (i < ((List.length (List.map gi a)) : Int))) then (bif (decide (i < ((List.length (List.map gi b)) : Int))) then (bif ((exInt (List.getD (List.map gi a) (Int.toNat i) AV.dead)) != (exInt (List.getD (List.map gi b) (Int.toNat i) AV.dead))) then (some ((cds (cds True (elemB Tryd.prog (3 : Nat) (List.map gi a) i) (((0 : Int) ≤ i) ∧ (((List.map gi a)[(Int.toNat i)]?) = (some (AV.v (Value.int IntKind.i64 (exInt (List.getD (List.map gi a) (Int.toNat i) AV.dead)))))))) (elemB Tryd.prog (3 : Nat) (List.map gi b) i) (((0 : Int) ≤ i) ∧ (((List.map gi b)[(Int.toNat i)]?) = (some (AV.v (Value.int IntKind.i64 (exInt (List.getD (List.map gi b) (Int.toNat i) AV.dead)))))))) ∧ (R Exit.ret [(AV.lst (1 : Nat) (List.map gi a) Tip.no), (AV.lst (1 : Nat) (List.map gi b) Tip.no), AV.dead, AV.dead, (AV.v (Value.bool false)), (AV.v (Value.int IntKind.i64 i)), AV.dead, AV.dead, AV.dead, AV.dead, AV.dead, AV.dead, AV.dead, AV.dead, AV.dead, AV.dead, AV.dead, AV.dead, AV.dead, AV.dead, AV.dead, AV.dead, AV.dead, AV.dead, AV.dead, AV.dead, AV.dead, AV.dead, AV.dead, AV.dead, AV.dead, AV.dead] (AH.mk (@List.nil (Prod Go.TypeId (List AV))) (@List.nil Nat) (0 : Nat) (0 : Nat) true (@List.nil (Prod Nat Bool)) True)))) else (some ((cds (cds True (elemB Tryd.prog (3 : Nat) (List.map gi a) i) (((0 : Int) ≤ i) ∧ (((List.map gi a)[(Int.toNat i)]?) = (some (AV.v (Value.int IntKind.i64 (exInt (List.getD (List.map gi a) (Int.toNat i) AV.dead)))))))) (elemB Tryd.prog (3 : Nat) (List.map gi b) i) (((0 : Int) ≤ i) ∧ (((List.map gi b)[(Int.toNat i)]?) = (some (AV.v (Value.int IntKind.i64 (exInt (List.getD (List.map gi b) (Int.toNat i) AV.dead)))))))) ∧ (R Exit.normal [(AV.lst (1 : Nat) (List.map gi a) Tip.no), (AV.lst (1 : Nat) (List.map gi b) Tip.no), AV.dead, AV.dead, AV.dead, (AV.v (Value.int IntKind.i64 (IntKind.wrap IntKind.i64 (i + (1 : Int))))), AV.dead, AV.dead, AV.dead, AV.dead, AV.dead, AV.dead, AV.dead, AV.dead, AV.dead, AV.dead, AV.dead, AV.dead, AV.dead, AV.dead, AV.dead, AV.dead, AV.dead, AV.dead, AV.dead, AV.dead, AV.dead, AV.dead, AV.dead, AV.dead, AV.dead, AV.dead] (AH.mk (@List.nil (Prod Go.TypeId (List AV))) (@List.nil Nat) (0 : Nat) (0 : Nat) true (@List.nil (Prod Nat Bool)) True))))) else (some (True ∧ (R (Exit.exit (0 : Nat)) [(AV.lst (1 : Nat) (List.map gi a) Tip.no), (AV.lst (1 : Nat) (List.map gi b) Tip.no), AV.dead, AV.dead, AV.dead, (AV.v (Value.int IntKind.i64 i)), AV.dead, AV.dead, AV.dead, AV.dead, AV.dead, AV.dead, AV.dead, AV.dead, AV.dead, AV.dead, AV.dead, AV.dead, AV.dead, AV.dead, AV.dead, AV.dead, AV.dead, AV.dead, AV.dead, AV.dead, AV.dead, AV.dead, AV.dead, AV.dead, AV.dead, AV.dead] (AH.mk (@List.nil (Prod Go.TypeId (List AV))) (@List.nil Nat) (0 : Nat) (0 : Nat) true (@List.nil (Prod Nat Bool)) True))))) else (some (True ∧ (R (Exit.exit (0 : Nat)) [(AV.lst (1 : Nat) (List.map gi a) Tip.no), (AV.lst (1 : Nat) (List.map gi b) Tip.no), AV.dead, AV.dead, AV.dead, (AV.v (Value.int IntKind.i64 i)), AV.dead, AV.dead, AV.dead, AV.dead, AV.dead, AV.dead, AV.dead, AV.dead, AV.dead, AV.dead, AV.dead, AV.dead, AV.dead, AV.dead, AV.dead, AV.dead, AV.dead, AV.dead, AV.dead, AV.dead, AV.dead, AV.dead, AV.dead, AV.dead, AV.dead, AV.dead] (AH.mk (@List.nil (Prod Go.TypeId (List AV))) (@List.nil Nat) (0 : Nat) (0 : Nat) true (@List.nil (Prod Nat Bool)) True))))) := by kernel_rfl
theorem si_post (ro : Nat → Option (List Value)) (x y : AV) (i : Int) (R : Exit → List AV → AH → Prop) : codeL ro (fun _ => false) (fun _ => none) 5 ((flatten (bodyOf 22)).drop 5) (siA x y i) (hp [] []) (kp [4] R) =
    (some (True ∧ (R Exit.ret [AV.dead, AV.dead, AV.dead, AV.dead, (AV.v (Value.bool true)), AV.dead, AV.dead, AV.dead, AV.dead, AV.dead, AV.dead, AV.dead, AV.dead, AV.dead, AV.dead, AV.dead, AV.dead, AV.dead, AV.dead, AV.dead, AV.dead, AV.dead, AV.dead, AV.dead, AV.dead, AV.dead, AV.dead, AV.dead, AV.dead, AV.dead, AV.dead, AV.dead] (AH.mk (@List.nil (Prod Go.TypeId (List AV))) (@List.nil Nat) (0 : Nat) (0 : Nat) true (@List.nil (Prod Nat Bool)) True)))) := by kernel_rfl
end Go.Proofs.YtodjeammjdgkoaaDoor.AE
namespace Go.Proofs.YtodjeammjdgkoaaDoor.AE
open Go.RowKit
theorem si_sl : slotsOf 22 = 32 := by kernel_rfl
theorem si_re : resultsOf 22 = [.tmp 4] := by kernel_rfl
theorem si_fl : (flatten (bodyOf 22)).drop 4 = .block 0 (.loop (sub (bodyOf 22) [1, 1, 0, 1, 0, 0])) :: (flatten (bodyOf 22)).drop 5 := by kernel_rfl
theorem gilS (l : List Int) : (l.map gi).length = l.length := List.length_map ..
set_option maxRecDepth 100000 in
theorem fs_samei {ro : Nat → Option (List Value)} (a b : List Int) (ha : a.length ≤ 1000000) : Fs Tryd.prog ro 22 [.lst 1 (a.map gi) .no, .lst 1 (b.map gi) .no] (hp [] []) fun r _ => r = .v (.bool (decide (a = b))) := by
  refine Fs.of_body (has_fn (by kernel_rfl)) ?_
  rw [si_sl, si_re]
  have pre := fun R => si_pre ro a b R
  rw [gilS, gilS] at pre
  refine Tr.of_flat (Trl.split 4 (Trl.of_code (known_none _) (ne_nil (by kernel_rfl)) (pre _) (holds_bif (fun h => ⟨trivial, .inr rfl, trivial, ?_⟩) fun h => ⟨trivial, ?_⟩)))
  · have h : ¬ a = b := by rintro rfl; simp at h
    rw [decide_eq_false h]; rfl
  have hlen : a.length = b.length := by simp at h; omega
  show Trl _ _ ((flatten (bodyOf 22)).drop 4) _ _ _
  rw [si_fl]
  refine Tr.keepL [0, 1, 5] rfl ?_
  let I : Nat → List AV → AH → Prop := fun m act H => ∃ i : Nat, i ≤ a.length ∧ m = a.length - i ∧ act = siA (.lst 1 (a.map gi) .no) (.lst 1 (b.map gi) .no) i ∧ H = hp [] [] ∧ a.take i = b.take i
  refine Tr.block (Tr.loop I ?_ (m := a.length) ⟨0, Nat.zero_le _, rfl, rfl, rfl, rfl⟩)
  rintro m act H ⟨i, hi, rfl, rfl, rfl, hp⟩
  have body := fun R => si_in ro a b i R
  rw [gilS, gilS, inc64 i (by omega)] at body
  refine Tr.of_code (known_none _) (body _) (holds_bif (fun h1 => holds_bif (fun h2 => ?_) (fun h2 => ?_)) fun h1 => ⟨trivial, ?_⟩)
  · have h1 : i < a.length := by have := of_decide_eq_true h1; omega
    have h2 : i < b.length := by omega
    have g1 : (a.map gi)[Int.toNat (i : Int)]? = some (.v (.int .i64 a[i])) := gi_get h1
    have g2 : (b.map gi)[Int.toNat (i : Int)]? = some (.v (.int .i64 b[i])) := gi_get h2
    have h0 := Int.natCast_nonneg i
    rw [gi_ex h1, gi_ex h2]
    refine holds_bif (fun h3 => ⟨cds_of (cds_of trivial ⟨h0, g1⟩) ⟨h0, g2⟩, .inr rfl, trivial, ?_⟩) (fun h3 => ⟨cds_of (cds_of trivial ⟨h0, g1⟩) ⟨h0, g2⟩, a.length - (i + 1), by omega, i + 1, h1, rfl, rfl, rfl, ?_⟩)
    · have h3 : ¬ a[i] = b[i] := by simpa using h3
      have : ¬ a = b := by rintro rfl; exact h3 rfl
      rw [decide_eq_false this]; rfl
    · have h3 : a[i] = b[i] := by simpa using h3
      rw [take_snoc h1, take_snoc h2, hp, h3]
  · have h1 := of_decide_eq_true h1
    have h2 := of_decide_eq_false h2
    omega
  · have h1 : i = a.length := by have := of_decide_eq_false h1; omega
    have hab : a = b := by
      rw [h1, List.take_length, hlen, List.take_length] at hp; exact hp
    show Trl _ _ ((flatten (bodyOf 22)).drop 5) _ _ _
    refine Trl.of_code (known_none _) (ne_nil (by kernel_rfl)) (si_post ro _ _ _ _) ⟨trivial, .inr rfl, trivial, ?_⟩
    rw [decide_eq_true hab]; rfl
def sameIV (S : AV → AV → Bool) (args : List AV) : AV := .v (.bool (S (args.headD .dead) (args.tail.headD .dead)))
def sameIOk (args : List AV) : Bool := match args with
  | [x, y] => (match intsA? x with | some l => decide (l.length ≤ 1000000) | none => false) && (match intsA? y with | some _ => true | none => false)
  | _ => false
def intsY (x : AV) : List Int := match intsA? x with
  | some l => l
  | none => []
theorem intsY_some {x : AV} {l : List Int} (h : intsA? x = some l) : intsY x = l := by unfold intsY; rw [h]
def sameIX (x y : AV) : Bool := decide (intsY x = intsY y)
theorem samei_ok {ro : Nat → Option (List Value)} : ∀ args H r H', tot? (sameIV sameIX) sameIOk args H = some (r, H') → HSound1 Tryd.prog ro 22 args H r H' := by
  refine tot_nrm (has_fn (by kernel_rfl)) fun args hok => ?_
  unfold sameIOk at hok
  split at hok
  · rename_i x y
    simp only [Bool.and_eq_true] at hok
    obtain ⟨k1, k2⟩ := hok
    cases h1 : intsA? x with
    | none => rw [h1] at k1; cases k1
    | some a =>
      cases h2 : intsA? y with
      | none => rw [h2] at k2; cases k2
      | some b =>
        rw [h1] at k1
        obtain ⟨a4, a5⟩ := intsA_nrm h1
        obtain ⟨b4, b5⟩ := intsA_nrm h2
        refine ⟨by simp [a4, b4], ?_⟩
        rw [List.map_cons, List.map_cons, List.map_nil, a5, b5]
        refine (fs_samei a b (of_decide_eq_true k1)).mono fun r _ h => ?_
        subst h
        refine ⟨_, rfl, ?_⟩
        show Le _ (.v (.bool (decide (intsY x = intsY y))))
        rw [intsY_some h1, intsY_some h2]
        exact Le.refl _
  · cases hok
end Go.Proofs.YtodjeammjdgkoaaDoor.AE
namespace Go.Proofs.YtodjeammjdgkoaaDoor.AE
open Go.RowKit
def kiN : AV := .lst 1 [gi 1, gi 2, gi 3, gi 4, gi 5, gi 6, gi 12, gi 13, gi 14] .no
theorem cn_t (ro : Nat → Option (List Value)) (k : Int) (Φ : AV → Prop) : callK ro (fun _ => false) (fun _ => none) 8 43 [kiN, gi k] (hp [] []) (fun r h => some (h.cd ∧ Φ r)) =
    (bif (k == (1 : Int)) then (some (True ∧ (Φ (AV.v (Value.bool true))))) else (bif (k == (2 : Int)) then (some (True ∧ (Φ (AV.v (Value.bool true))))) else (bif (k == (3 : Int)) then (some (True ∧ (Φ (AV.v (Value.bool true))))) else (bif (k == (4 : Int)) then (some (True ∧ (Φ (AV.v (Value.bool true))))) else (bif (k == (5 : Int)) then (some (True ∧ (Φ (AV.v (Value.bool true))))) else (bif (k == (6 : Int)) then (some (True ∧ (Φ (AV.v (Value.bool true))))) else (bif (k == (12 : Int)) then (some (True ∧ (Φ (AV.v (Value.bool true))))) else (bif (k == (13 : Int)) then (some (True ∧ (Φ (AV.v (Value.bool true))))) else (bif (k == (14 : Int)) then (some (True ∧ (Φ (AV.v (Value.bool true))))) else (some (True ∧ (Φ (AV.v (Value.bool false)))))))))))))) := by kernel_rfl
def cnOk (args : List AV) : Bool := match args with
  | [.lst 1 xs _, .v (.int .i64 _)] => (match ints? xs with
    | some l => decide (l = [1, 2, 3, 4, 5, 6, 12, 13, 14])
    | none => false)
  | _ => false
noncomputable def prCN (CN : List AV → Bool) : FuncId → Option (List AV → AH → Ans) := fun g => match g with
  | 43 => some (tot? (fun a => .v (.bool (CN a))) cnOk)
  | _ => none
end Go.Proofs.YtodjeammjdgkoaaDoor.AE
namespace Go.Proofs.YtodjeammjdgkoaaDoor.AE
open Go.RowKit
def ofF : AV := .fn (.func 41) [] [.ptr 0 0]
def ofH (n : Int) : List (TypeId × List AV) := [(3, [gi n])]
def pkA (L : List Evt) (f : AV) (acc : AV) (n i : Int) : List AV := [.dead, f, .dead, .dead, .dead, acc, .dead, .dead, evL L, gi n, gi i] ++ ded 12
theorem pko_0 (ro : Nat → Option (List Value)) (CN : List AV → Bool) (L : List Evt) (m : Int) (R : Exit → List AV → AH → Prop) : codeL ro (fun _ => false) (prCN CN) 8 ((flatten (bodyOf 40)).take 3) ([evL L, ofF] ++ List.replicate 21 (.v undef)) (hp (ofH m) []) (kp [1, 5, 8, 9, 10] R) =
    (some (True ∧ (R Exit.normal [AV.dead, (AV.fn (Go.Fn.func (41 : Nat)) (@List.nil AV) [(AV.ptr (0 : Nat) (0 : Nat))]), AV.dead, AV.dead, AV.dead, (AV.v (Value.slice none (0 : Nat) (0 : Nat))), AV.dead, AV.dead, (AV.lst (7 : Nat) (List.map evA L) Tip.no), (AV.v (Value.int IntKind.i64 ((List.length (List.map evA L)) : Int))), (AV.v (Value.int IntKind.i64 (0 : Int))), AV.dead, AV.dead, AV.dead, AV.dead, AV.dead, AV.dead, AV.dead, AV.dead, AV.dead, AV.dead, AV.dead, AV.dead] (AH.mk [((3 : Nat), [(AV.v (Value.int IntKind.i64 m))])] (@List.nil Nat) (0 : Nat) (0 : Nat) true (@List.nil (Prod Nat Bool)) True)))) := by kernel_rfl
theorem pko_in (ro : Nat → Option (List Value)) (CN : List AV → Bool) (L acc : List Evt) (v : Nat) (m n i : Int) (R : Exit → List AV → AH → Prop) : code ro (fun _ => false) (prCN CN) 8 (sub (bodyOf 40) [1, 1, 0, 1, 0, 0]) (pkA L ofF (accA acc v) n i) (hp (ofH m) [v]) (kp [1, 5, 8, 9, 10] R) =
    (bif (decide (i < n)) then (bif ((exInt (List.getD (AV.cells (List.getD (List.map evA L) (Int.toNat i) AV.dead)) (2 : Nat) AV.dead)) == m) then (some ((cdb (cds True (elemB Tryd.prog (23 : Nat) (List.map evA L) i) (((0 : Int) ≤ i) ∧ (((List.map evA L)[(Int.toNat i)]?) = (some (AV.v (Value.agg #[(Value.int IntKind.i64 (exInt (List.getD (AV.cells (List.getD (List.map evA L) (Int.toNat i) AV.dead)) (0 : Nat) AV.dead))), (Value.int IntKind.i64 (exInt (List.getD (AV.cells (List.getD (List.map evA L) (Int.toNat i) AV.dead)) (1 : Nat) AV.dead))), (Value.int IntKind.i64 (exInt (List.getD (AV.cells (List.getD (List.map evA L) (Int.toNat i) AV.dead)) (2 : Nat) AV.dead))), (Value.int IntKind.i64 (exInt (List.getD (AV.cells (List.getD (List.map evA L) (Int.toNat i) AV.dead)) (3 : Nat) AV.dead))), (Value.int IntKind.i64 (exInt (List.getD (AV.cells (List.getD (List.map evA L) (Int.toNat i) AV.dead)) (4 : Nat) AV.dead))), (Value.int IntKind.i64 (exInt (List.getD (AV.cells (List.getD (List.map evA L) (Int.toNat i) AV.dead)) (5 : Nat) AV.dead))), (Value.int IntKind.i64 (exInt (List.getD (AV.cells (List.getD (List.map evA L) (Int.toNat i) AV.dead)) (6 : Nat) AV.dead)))])))))) (decide ((((((List.length (List.map evA acc)) + (List.length [(AV.v (Value.agg #[(Value.int IntKind.i64 (exInt (List.getD (AV.cells (List.getD (List.map evA L) (Int.toNat i) AV.dead)) (0 : Nat) AV.dead))), (Value.int IntKind.i64 (exInt (List.getD (AV.cells (List.getD (List.map evA L) (Int.toNat i) AV.dead)) (1 : Nat) AV.dead))), (Value.int IntKind.i64 (exInt (List.getD (AV.cells (List.getD (List.map evA L) (Int.toNat i) AV.dead)) (2 : Nat) AV.dead))), (Value.int IntKind.i64 (exInt (List.getD (AV.cells (List.getD (List.map evA L) (Int.toNat i) AV.dead)) (3 : Nat) AV.dead))), (Value.int IntKind.i64 (exInt (List.getD (AV.cells (List.getD (List.map evA L) (Int.toNat i) AV.dead)) (4 : Nat) AV.dead))), (Value.int IntKind.i64 (exInt (List.getD (AV.cells (List.getD (List.map evA L) (Int.toNat i) AV.dead)) (5 : Nat) AV.dead))), (Value.int IntKind.i64 (exInt (List.getD (AV.cells (List.getD (List.map evA L) (Int.toNat i) AV.dead)) (6 : Nat) AV.dead)))]))])) * (56 : Nat)) ≤ (140737488355328 : Nat)) ∧ (((List.length (List.map evA acc)) + (List.length [(AV.v (Value.agg #[(Value.int IntKind.i64 (exInt (List.getD (AV.cells (List.getD (List.map evA L) (Int.toNat i) AV.dead)) (0 : Nat) AV.dead))), (Value.int IntKind.i64 (exInt (List.getD (AV.cells (List.getD (List.map evA L) (Int.toNat i) AV.dead)) (1 : Nat) AV.dead))), (Value.int IntKind.i64 (exInt (List.getD (AV.cells (List.getD (List.map evA L) (Int.toNat i) AV.dead)) (2 : Nat) AV.dead))), (Value.int IntKind.i64 (exInt (List.getD (AV.cells (List.getD (List.map evA L) (Int.toNat i) AV.dead)) (3 : Nat) AV.dead))), (Value.int IntKind.i64 (exInt (List.getD (AV.cells (List.getD (List.map evA L) (Int.toNat i) AV.dead)) (4 : Nat) AV.dead))), (Value.int IntKind.i64 (exInt (List.getD (AV.cells (List.getD (List.map evA L) (Int.toNat i) AV.dead)) (5 : Nat) AV.dead))), (Value.int IntKind.i64 (exInt (List.getD (AV.cells (List.getD (List.map evA L) (Int.toNat i) AV.dead)) (6 : Nat) AV.dead)))]))])) ≤ (9223372036854775807 : Nat))) ∧ (v = v)))) ∧ (R Exit.normal [AV.dead, (AV.fn (Go.Fn.func (41 : Nat)) (@List.nil AV) [(AV.ptr (0 : Nat) (0 : Nat))]), AV.dead, AV.dead, AV.dead, (AV.lst (7 : Nat) ((List.map evA acc) ++ [(AV.v (Value.agg #[(Value.int IntKind.i64 (exInt (List.getD (AV.cells (List.getD (List.map evA L) (Int.toNat i) AV.dead)) (0 : Nat) AV.dead))), (Value.int IntKind.i64 (exInt (List.getD (AV.cells (List.getD (List.map evA L) (Int.toNat i) AV.dead)) (1 : Nat) AV.dead))), (Value.int IntKind.i64 (exInt (List.getD (AV.cells (List.getD (List.map evA L) (Int.toNat i) AV.dead)) (2 : Nat) AV.dead))), (Value.int IntKind.i64 (exInt (List.getD (AV.cells (List.getD (List.map evA L) (Int.toNat i) AV.dead)) (3 : Nat) AV.dead))), (Value.int IntKind.i64 (exInt (List.getD (AV.cells (List.getD (List.map evA L) (Int.toNat i) AV.dead)) (4 : Nat) AV.dead))), (Value.int IntKind.i64 (exInt (List.getD (AV.cells (List.getD (List.map evA L) (Int.toNat i) AV.dead)) (5 : Nat) AV.dead))), (Value.int IntKind.i64 (exInt (List.getD (AV.cells (List.getD (List.map evA L) (Int.toNat i) AV.dead)) (6 : Nat) AV.dead)))]))]) (Tip.tp (0 : Nat) (v + (1 : Nat)))), AV.dead, AV.dead, (AV.lst (7 : Nat) (List.map evA L) Tip.no), (AV.v (Value.int IntKind.i64 n)), (AV.v (Value.int IntKind.i64 (IntKind.wrap IntKind.i64 (i + (1 : Int))))), AV.dead, AV.dead, AV.dead, AV.dead, AV.dead, AV.dead, AV.dead, AV.dead, AV.dead, AV.dead, AV.dead, AV.dead] (AH.mk [((3 : Nat), [(AV.v (Value.int IntKind.i64 m))]), ((23 : Nat), [(AV.v (Value.int IntKind.i64 (exInt (List.getD (AV.cells (List.getD (List.map evA L) (Int.toNat i) AV.dead)) (0 : Nat) AV.dead)))), (AV.v (Value.int IntKind.i64 (exInt (List.getD (AV.cells (List.getD (List.map evA L) (Int.toNat i) AV.dead)) (1 : Nat) AV.dead)))), (AV.v (Value.int IntKind.i64 (exInt (List.getD (AV.cells (List.getD (List.map evA L) (Int.toNat i) AV.dead)) (2 : Nat) AV.dead)))), (AV.v (Value.int IntKind.i64 (exInt (List.getD (AV.cells (List.getD (List.map evA L) (Int.toNat i) AV.dead)) (3 : Nat) AV.dead)))), (AV.v (Value.int IntKind.i64 (exInt (List.getD (AV.cells (List.getD (List.map evA L) (Int.toNat i) AV.dead)) (4 : Nat) AV.dead)))), (AV.v (Value.int IntKind.i64 (exInt (List.getD (AV.cells (List.getD (List.map evA L) (Int.toNat i) AV.dead)) (5 : Nat) AV.dead)))), (AV.v (Value.int IntKind.i64 (exInt (List.getD (AV.cells (List.getD (List.map evA L) (Int.toNat i) AV.dead)) (6 : Nat) AV.dead))))]), ((23 : Nat), [(AV.v (Value.int IntKind.i64 (exInt (List.getD (AV.cells (List.getD (List.map evA L) (Int.toNat i) AV.dead)) (0 : Nat) AV.dead)))), (AV.v (Value.int IntKind.i64 (exInt (List.getD (AV.cells (List.getD (List.map evA L) (Int.toNat i) AV.dead)) (1 : Nat) AV.dead)))), (AV.v (Value.int IntKind.i64 (exInt (List.getD (AV.cells (List.getD (List.map evA L) (Int.toNat i) AV.dead)) (2 : Nat) AV.dead)))), (AV.v (Value.int IntKind.i64 (exInt (List.getD (AV.cells (List.getD (List.map evA L) (Int.toNat i) AV.dead)) (3 : Nat) AV.dead)))), (AV.v (Value.int IntKind.i64 (exInt (List.getD (AV.cells (List.getD (List.map evA L) (Int.toNat i) AV.dead)) (4 : Nat) AV.dead)))), (AV.v (Value.int IntKind.i64 (exInt (List.getD (AV.cells (List.getD (List.map evA L) (Int.toNat i) AV.dead)) (5 : Nat) AV.dead)))), (AV.v (Value.int IntKind.i64 (exInt (List.getD (AV.cells (List.getD (List.map evA L) (Int.toNat i) AV.dead)) (6 : Nat) AV.dead))))])] [(v + (1 : Nat))] (0 : Nat) (0 : Nat) true (@List.nil (Prod Nat Bool)) True)))) else (some ((cds True (elemB Tryd.prog (23 : Nat) (List.map evA L) i) (((0 : Int) ≤ i) ∧ (((List.map evA L)[(Int.toNat i)]?) = (some (AV.v (Value.agg #[(Value.int IntKind.i64 (exInt (List.getD (AV.cells (List.getD (List.map evA L) (Int.toNat i) AV.dead)) (0 : Nat) AV.dead))), (Value.int IntKind.i64 (exInt (List.getD (AV.cells (List.getD (List.map evA L) (Int.toNat i) AV.dead)) (1 : Nat) AV.dead))), (Value.int IntKind.i64 (exInt (List.getD (AV.cells (List.getD (List.map evA L) (Int.toNat i) AV.dead)) (2 : Nat) AV.dead))), (Value.int IntKind.i64 (exInt (List.getD (AV.cells (List.getD (List.map evA L) (Int.toNat i) AV.dead)) (3 : Nat) AV.dead))), (Value.int IntKind.i64 (exInt (List.getD (AV.cells (List.getD (List.map evA L) (Int.toNat i) AV.dead)) (4 : Nat) AV.dead))), (Value.int IntKind.i64 (exInt (List.getD (AV.cells (List.getD (List.map evA L) (Int.toNat i) AV.dead)) (5 : Nat) AV.dead))), (Value.int IntKind.i64 (exInt (List.getD (AV.cells (List.getD (List.map evA L) (Int.toNat i) AV.dead)) (6 : Nat) AV.dead)))])))))) ∧ (R Exit.normal [AV.dead, (AV.fn (Go.Fn.func (41 : Nat)) (@List.nil AV) [(AV.ptr (0 : Nat) (0 : Nat))]), AV.dead, AV.dead, AV.dead, (AV.lst (7 : Nat) (List.map evA acc) (Tip.tp (0 : Nat) v)), AV.dead, AV.dead, (AV.lst (7 : Nat) (List.map evA L) Tip.no), (AV.v (Value.int IntKind.i64 n)), (AV.v (Value.int IntKind.i64 (IntKind.wrap IntKind.i64 (i + (1 : Int))))), AV.dead, AV.dead, AV.dead, AV.dead, AV.dead, AV.dead, AV.dead, AV.dead, AV.dead, AV.dead, AV.dead, AV.dead] (AH.mk [((3 : Nat), [(AV.v (Value.int IntKind.i64 m))]), ((23 : Nat), [(AV.v (Value.int IntKind.i64 (exInt (List.getD (AV.cells (List.getD (List.map evA L) (Int.toNat i) AV.dead)) (0 : Nat) AV.dead)))), (AV.v (Value.int IntKind.i64 (exInt (List.getD (AV.cells (List.getD (List.map evA L) (Int.toNat i) AV.dead)) (1 : Nat) AV.dead)))), (AV.v (Value.int IntKind.i64 (exInt (List.getD (AV.cells (List.getD (List.map evA L) (Int.toNat i) AV.dead)) (2 : Nat) AV.dead)))), (AV.v (Value.int IntKind.i64 (exInt (List.getD (AV.cells (List.getD (List.map evA L) (Int.toNat i) AV.dead)) (3 : Nat) AV.dead)))), (AV.v (Value.int IntKind.i64 (exInt (List.getD (AV.cells (List.getD (List.map evA L) (Int.toNat i) AV.dead)) (4 : Nat) AV.dead)))), (AV.v (Value.int IntKind.i64 (exInt (List.getD (AV.cells (List.getD (List.map evA L) (Int.toNat i) AV.dead)) (5 : Nat) AV.dead)))), (AV.v (Value.int IntKind.i64 (exInt (List.getD (AV.cells (List.getD (List.map evA L) (Int.toNat i) AV.dead)) (6 : Nat) AV.dead))))]), ((23 : Nat), [(AV.v (Value.int IntKind.i64 (exInt (List.getD (AV.cells (List.getD (List.map evA L) (Int.toNat i) AV.dead)) (0 : Nat) AV.dead)))), (AV.v (Value.int IntKind.i64 (exInt (List.getD (AV.cells (List.getD (List.map evA L) (Int.toNat i) AV.dead)) (1 : Nat) AV.dead)))), (AV.v (Value.int IntKind.i64 (exInt (List.getD (AV.cells (List.getD (List.map evA L) (Int.toNat i) AV.dead)) (2 : Nat) AV.dead)))), (AV.v (Value.int IntKind.i64 (exInt (List.getD (AV.cells (List.getD (List.map evA L) (Int.toNat i) AV.dead)) (3 : Nat) AV.dead)))), (AV.v (Value.int IntKind.i64 (exInt (List.getD (AV.cells (List.getD (List.map evA L) (Int.toNat i) AV.dead)) (4 : Nat) AV.dead)))), (AV.v (Value.int IntKind.i64 (exInt (List.getD (AV.cells (List.getD (List.map evA L) (Int.toNat i) AV.dead)) (5 : Nat) AV.dead)))), (AV.v (Value.int IntKind.i64 (exInt (List.getD (AV.cells (List.getD (List.map evA L) (Int.toNat i) AV.dead)) (6 : Nat) AV.dead))))])] [v] (0 : Nat) (0 : Nat) true (@List.nil (Prod Nat Bool)) True))))) else (some (True ∧ (R (Exit.exit (0 : Nat)) [AV.dead, (AV.fn (Go.Fn.func (41 : Nat)) (@List.nil AV) [(AV.ptr (0 : Nat) (0 : Nat))]), AV.dead, AV.dead, AV.dead, (AV.lst (7 : Nat) (List.map evA acc) (Tip.tp (0 : Nat) v)), AV.dead, AV.dead, (AV.lst (7 : Nat) (List.map evA L) Tip.no), (AV.v (Value.int IntKind.i64 n)), (AV.v (Value.int IntKind.i64 i)), AV.dead, AV.dead, AV.dead, AV.dead, AV.dead, AV.dead, AV.dead, AV.dead, AV.dead, AV.dead, AV.dead, AV.dead] (AH.mk [((3 : Nat), [(AV.v (Value.int IntKind.i64 m))])] [v] (0 : Nat) (0 : Nat) true (@List.nil (Prod Nat Bool)) True))))) := by kernel_rfl
theorem pko_9 (ro : Nat → Option (List Value)) (CN : List AV → Bool) (L acc : List Evt) (v : Nat) (m n i : Int) (R : Exit → List AV → AH → Prop) : codeL ro (fun _ => false) (prCN CN) 8 ((flatten (bodyOf 40)).drop 4) (pkA L ofF (accA acc v) n i) (hp (ofH m) [v]) (kp [4] R) =
    (some (True ∧ (R Exit.ret [AV.dead, AV.dead, AV.dead, AV.dead, (AV.lst (7 : Nat) (List.map evA acc) (Tip.tp (0 : Nat) v)), AV.dead, AV.dead, AV.dead, AV.dead, AV.dead, AV.dead, AV.dead, AV.dead, AV.dead, AV.dead, AV.dead, AV.dead, AV.dead, AV.dead, AV.dead, AV.dead, AV.dead, AV.dead] (AH.mk [((3 : Nat), [(AV.v (Value.int IntKind.i64 m))])] [v] (0 : Nat) (0 : Nat) true (@List.nil (Prod Nat Bool)) True)))) := by kernel_rfl
end Go.Proofs.YtodjeammjdgkoaaDoor.AE
