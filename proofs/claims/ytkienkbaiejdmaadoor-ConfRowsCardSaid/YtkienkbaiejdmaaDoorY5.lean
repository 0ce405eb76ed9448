
/-
  The law ConfRows of layer 28: the call comes to true.
-/
import Derived.Test.YtkienkbaiejdmaaDoorZ1
import Derived.Test.YtkienkbaiejdmaaDoorY4
import Derived.Test.YtkienkbaiejdmaaDoorMem
import Derived.Deep.Slices
import Derived.Deep.Fields
import Derived.Test.YtkienkbaiejdmaaDoorAETr
import Derived.MakeChecks
import Derived.Lib.LaidTab
namespace Go.Proofs.YtkienkbaiejdmaaDoor.AE
open Go.RowKit
def siA (x y : AV) (i : Int) : List AV := [x, y, .dead, .dead, .dead, gi i] ++ List.replicate 26 .dead
theorem si_pre (ro : Nat → Option (List Value)) (a b : List Int) (R : Exit → List AV → AH → Prop) : codeL ro (fun _ => false) (fun _ => none) 5 ((flatten (bodyOf 26)).take 4) ([.lst 1 (a.map gi) .no, .lst 1 (b.map gi) .no] ++ List.replicate 30 (.v undef)) (hp [] []) (kp [0, 1, 4, 5] R) =
    (bif (((List.length (List.map gi a)) : Int) != ((List.length (List.map gi b)) : Int)) then (some (True ∧ (R Exit.ret [(AV.lst (1 : Nat) (List.map gi a) Tip.no), (AV.lst (1 : Nat) (List.map gi b) Tip.no), AV.dead, AV.dead, (AV.v (Value.bool false)), (AV.v (Value.tuple (Array.mk (@List.nil Go.Value)))), AV.dead, AV.dead, AV.dead, AV.dead, AV.dead, AV.dead, AV.dead, AV.dead, AV.dead, AV.dead, AV.dead, AV.dead, AV.dead, AV.dead, AV.dead, AV.dead, AV.dead, AV.dead, AV.dead, AV.dead, AV.dead, AV.dead, AV.dead, AV.dead, AV.dead, AV.dead] (AH.mk (@List.nil (Prod Go.TypeId (List AV))) (@List.nil Nat) (0 : Nat) (0 : Nat) true (@List.nil (Prod Nat Bool)) True)))) else (some (True ∧ (R Exit.normal [(AV.lst (1 : Nat) (List.map gi a) Tip.no), (AV.lst (1 : Nat) (List.map gi b) Tip.no), AV.dead, AV.dead, (AV.v (Value.bool false)), (AV.v (Value.int IntKind.i64 (0 : Int))), AV.dead, AV.dead, AV.dead, AV.dead, AV.dead, AV.dead, AV.dead, AV.dead, AV.dead, AV.dead, AV.dead, AV.dead, AV.dead, AV.dead, AV.dead, AV.dead, AV.dead, AV.dead, AV.dead, AV.dead, AV.dead, AV.dead, AV.dead, AV.dead, AV.dead, AV.dead] (AH.mk (@List.nil (Prod Go.TypeId (List AV))) (@List.nil Nat) (0 : Nat) (0 : Nat) true (@List.nil (Prod Nat Bool)) True))))) := by kernel_rfl
theorem si_in (ro : Nat → Option (List Value)) (a b : List Int) (i : Int) (R : Exit → List AV → AH → Prop) : code ro (fun _ => false) (fun _ => none) 5 (sub (bodyOf 26) [1, 1, 0, 1, 0, 0]) (siA (.lst 1 (a.map gi) .no) (.lst 1 (b.map gi) .no) i) (hp [] []) (kp [0, 1, 4, 5] R) =
    (bif (decide (i < ((List.length (List.map gi a)) : Int))) then (bif (decide (i < ((List.length (List.map gi b)) : Int))) then (bif ((exInt (List.getD (List.map gi a) (Int.toNat i) AV.dead)) != (exInt (List.getD (List.map gi b) (Int.toNat i) AV.dead))) then (some ((cds (cds True (elemB Tryd.prog (3 : Nat) (List.map gi a) i) (((0 : Int) ≤ i) ∧ (((List.map gi a)[(Int.toNat i)]?) = (some (AV.v (Value.int IntKind.i64 (exInt (List.getD (List.map gi a) (Int.toNat i) AV.dead)))))))) (elemB Tryd.prog (3 : Nat) (List.map gi b) i) (((0 : Int) ≤ i) ∧ (((List.map gi b)[(Int.toNat i)]?) = (some (AV.v (Value.int IntKind.i64 (exInt (List.getD (List.map gi b) (Int.toNat i) AV.dead)))))))) ∧ (R Exit.ret [(AV.lst (1 : Nat) (List.map gi a) Tip.no), (AV.lst (1 : Nat) (List.map gi b) Tip.no), AV.dead, AV.dead, (AV.v (Value.bool false)), (AV.v (Value.int IntKind.i64 i)), AV.dead, AV.dead, AV.dead, AV.dead, AV.dead, AV.dead, AV.dead, AV.dead, AV.dead, AV.dead, AV.dead, AV.dead, AV.dead, AV.dead, AV.dead, AV.dead, AV.dead, AV.dead, AV.dead, AV.dead, AV.dead, AV.dead, AV.dead, AV.dead, AV.dead, AV.dead] (AH.mk (@List.nil (Prod Go.TypeId (List AV))) (@List.nil Nat) (0 : Nat) (0 : Nat) true (@List.nil (Prod Nat Bool)) True)))) else (some ((cds (cds True (elemB Tryd.prog (3 : Nat) (List.map gi a) i) (((0 : Int) ≤ i) ∧ (((List.map gi a)[(Int.toNat i)]?) = (some (AV.v (Value.int IntKind.i64 (exInt (List.getD (List.map gi a) (Int.toNat i) AV.dead)))))))) (elemB Tryd.prog (3 : Nat) (List.map gi b) i) (((0 : Int) ≤ i) ∧ (((List.map gi b)[(Int.toNat i)]?) = (some (AV.v (Value.int IntKind.i64 (exInt (List.getD (List.map gi b) (Int.toNat i) AV.dead)))))))) ∧ (R Exit.normal [(AV.lst (1 : Nat) (List.map gi a) Tip.no), (AV.lst (1 : Nat) (List.map gi b) Tip.no), AV.dead, AV.dead, AV.dead, (AV.v (Value.int IntKind.i64 (IntKind.wrap IntKind.i64 (i + (1 : Int))))), AV.dead, AV.dead, AV.dead, AV.dead, AV.dead, AV.dead, AV.dead, AV.dead, AV.dead, AV.dead, AV.dead, AV.dead, AV.dead, AV.dead, AV.dead, AV.dead, AV.dead, AV.dead, AV.dead, AV.dead, AV.dead, AV.dead, AV.dead, AV.dead, AV.dead, AV.dead] (AH.mk (@List.nil (Prod Go.TypeId (List AV))) (@List.nil Nat) (0 : Nat) (0 : Nat) true (@List.nil (Prod Nat Bool)) True))))) else (some (True ∧ (R (Exit.exit (0 : Nat)) [(AV.lst (1 : Nat) (List.map gi a) Tip.no), (AV.lst (1 : Nat) (List.map gi b) Tip.no), AV.dead, AV.dead, AV.dead, (AV.v (Value.int IntKind.i64 i)), AV.dead, AV.dead, AV.dead, AV.dead, AV.dead, AV.dead, AV.dead, AV.dead, AV.dead, AV.dead, AV.dead, AV.dead, AV.dead, AV.dead, AV.dead, AV.dead, AV.dead, AV.dead, AV.dead, AV.dead, AV.dead, AV.dead, AV.dead, AV.dead, AV.dead, AV.dead] (AH.mk (@List.nil (Prod Go.TypeId (List AV))) (@List.nil Nat) (0 : Nat) (0 : Nat) true (@List.nil (Prod Nat Bool)) True))))) else (some (True ∧ (R (Exit.exit (0 : Nat)) [(AV.lst (1 : Nat) (List.map gi a) Tip.no), (AV.lst (1 : Nat) (List.map gi b) Tip.no), AV.dead, AV.dead, AV.dead, (AV.v (Value.int IntKind.i64 i)), AV.dead, AV.dead, AV.dead, AV.dead, AV.dead, AV.dead, AV.dead, AV.dead, AV.dead, AV.dead, AV.dead, AV.dead, AV.dead, AV.dead, AV.dead, AV.dead, AV.dead, AV.dead, AV.dead, AV.dead, AV.dead, AV.dead, AV.dead, AV.dead, AV.dead, AV.dead] (AH.mk (@List.nil (Prod Go.TypeId (List AV))) (@List.nil Nat) (0 : Nat) (0 : Nat) true (@List.nil (Prod Nat Bool)) True))))) := by kernel_rfl
theorem si_post (ro : Nat → Option (List Value)) (x y : AV) (i : Int) (R : Exit → List AV → AH → Prop) : codeL ro (fun _ => false) (fun _ => none) 5 ((flatten (bodyOf 26)).drop 5) (siA x y i) (hp [] []) (kp [4] R) =
    (some (True ∧ (R Exit.ret [AV.dead, AV.dead, AV.dead, AV.dead, (AV.v (Value.bool true)), AV.dead, AV.dead, AV.dead, AV.dead, AV.dead, AV.dead, AV.dead, AV.dead, AV.dead, AV.dead, AV.dead, AV.dead, AV.dead, AV.dead, AV.dead, AV.dead, AV.dead, AV.dead, AV.dead, AV.dead, AV.dead, AV.dead, AV.dead, AV.dead, AV.dead, AV.dead, AV.dead] (AH.mk (@List.nil (Prod Go.TypeId (List AV))) (@List.nil Nat) (0 : Nat) (0 : Nat) true (@List.nil (Prod Nat Bool)) True)))) := by kernel_rfl
end Go.Proofs.YtkienkbaiejdmaaDoor.AE
namespace Go.Proofs.YtkienkbaiejdmaaDoor.AE
open Go.RowKit
theorem si_sl : slotsOf 26 = 32 := by kernel_rfl
theorem si_re : resultsOf 26 = [.tmp 4] := by kernel_rfl
theorem si_fl : (flatten (bodyOf 26)).drop 4 = .block 0 (.loop (sub (bodyOf 26) [1, 1, 0, 1, 0, 0])) :: (flatten (bodyOf 26)).drop 5 := by kernel_rfl
theorem gilS (l : List Int) : (l.map gi).length = l.length := List.length_map ..
set_option maxRecDepth 100000 in
theorem fs_samei {ro : Nat → Option (List Value)} (a b : List Int) (ha : a.length ≤ 1000000) : Fs Tryd.prog ro 26 [.lst 1 (a.map gi) .no, .lst 1 (b.map gi) .no] (hp [] []) fun r _ => r = .v (.bool (decide (a = b))) := by
  refine Fs.of_body (has_fn (by kernel_rfl)) ?_
  rw [si_sl, si_re]
  have pre := fun R => si_pre ro a b R
  rw [gilS, gilS] at pre
  refine Tr.of_flat (Trl.split 4 (Trl.of_code (known_none _) (ne_nil (by kernel_rfl)) (pre _) (holds_bif (fun h => ⟨trivial, .inr rfl, trivial, ?_⟩) fun h => ⟨trivial, ?_⟩)))
  · have h : ¬ a = b := by rintro rfl; simp at h
    rw [decide_eq_false h]; rfl
  have hlen : a.length = b.length := by simp at h; omega
  show Trl _ _ ((flatten (bodyOf 26)).drop 4) _ _ _
  rw [si_fl]
  refine Tr.keepL [0, 1, 5] rfl ?_
  let I : Nat → List AV → AH → Prop := fun m act H => ∃ i : Nat, i ≤ a.length ∧ m = a.length - i ∧ act = siA (.lst 1 (a.map gi) .no) (.lst 1 (b.map gi) .no) i ∧ H = hp [] [] ∧ a.take i = b.take i
  refine Tr.block (Tr.loop I ?_ (m := a.length) ⟨0, Nat.zero_le _, rfl, rfl, rfl, rfl⟩)
  rintro m act H ⟨i, hi, rfl, rfl, rfl, hp⟩
  have body := fun R => si_in ro a b i R
  rw [gilS, gilS, inc64 i (by omega)] at body
  refine Tr.of_code (known_none _) (body _) (holds_bif (fun h1 => holds_bif (fun h2 => ?_) (fun h2 => ?_)) fun h1 => ⟨trivial, ?_⟩)
  · have h1 : i < a.length := by have := of_decide_eq_true h1; omega
    have h2 : i < b.length := by omega
    have g1 : (a.map gi)[Int.toNat (i : Int)]? = some (.v (.int .i64 a[i])) := gi_get h1
    have g2 : (b.map gi)[Int.toNat (i : Int)]? = some (.v (.int .i64 b[i])) := gi_get h2
    have h0 := Int.natCast_nonneg i
    rw [gi_ex h1, gi_ex h2]
    refine holds_bif (fun h3 => ⟨cds_of (cds_of trivial ⟨h0, g1⟩) ⟨h0, g2⟩, .inr rfl, trivial, ?_⟩) (fun h3 => ⟨cds_of (cds_of trivial ⟨h0, g1⟩) ⟨h0, g2⟩, a.length - (i + 1), by omega, i + 1, h1, rfl, rfl, rfl, ?_⟩)
    · have h3 : ¬ a[i] = b[i] := by simpa using h3
      have : ¬ a = b := by rintro rfl; exact h3 rfl
      rw [decide_eq_false this]; rfl
    · have h3 : a[i] = b[i] := by simpa using h3
      rw [take_snoc h1, take_snoc h2, hp, h3]
  · have h1 := of_decide_eq_true h1
    have h2 := of_decide_eq_false h2
    omega
  · have h1 : i = a.length := by have := of_decide_eq_false h1; omega
    have hab : a = b := by
      rw [h1, List.take_length, hlen, List.take_length] at hp; exact hp
    show Trl _ _ ((flatten (bodyOf 26)).drop 5) _ _ _
    refine Trl.of_code (known_none _) (ne_nil (by kernel_rfl)) (si_post ro _ _ _ _) ⟨trivial, .inr rfl, trivial, ?_⟩
    rw [decide_eq_true hab]; rfl
def sameIV (S : AV → AV → Bool) (args : List AV) : AV := .v (.bool (S (args.headD .dead) (args.tail.headD .dead)))
def sameIOk (args : List AV) : Bool := match args with
  | [x, y] => (match intsA? x with | some l => decide (l.length ≤ 1000000) | none => false) && (match intsA? y with | some _ => true | none => false)
  | _ => false
def intsY (x : AV) : List Int := match intsA? x with
  | some l => l
  | none => []
theorem intsY_some {x : AV} {l : List Int} (h : intsA? x = some l) : intsY x = l := by unfold intsY; rw [h]
theorem intsY_lst (l : List Int) (tip : Tip) : intsY (.lst 1 (l.map gi) tip) = l := intsY_some (intsA_lst l tip)
def sameIX (x y : AV) : Bool := decide (intsY x = intsY y)
theorem sameIOk_of (l m : List Int) (t u : Tip) (h : l.length ≤ 1000000) : sameIOk [.lst 1 (l.map gi) t, .lst 1 (m.map gi) u] = true := by
  show ((match intsA? (.lst 1 (l.map gi) t) with | some l => decide (l.length ≤ 1000000) | none => false) && (match intsA? (.lst 1 (m.map gi) u) with | some _ => true | none => false)) = true
  rw [intsA_lst, intsA_lst]
  simp [h]
theorem samei_ok {ro : Nat → Option (List Value)} : ∀ args H r H', tot? (sameIV sameIX) sameIOk args H = some (r, H') → HSound1 Tryd.prog ro 26 args H r H' := by
  refine tot_nrm (has_fn (by kernel_rfl)) fun args hok => ?_
  unfold sameIOk at hok
  split at hok
  · rename_i x y
    simp only [Bool.and_eq_true] at hok
    obtain ⟨k1, k2⟩ := hok
    cases h1 : intsA? x with
    | none => rw [h1] at k1; cases k1
    | some a =>
      cases h2 : intsA? y with
      | none => rw [h2] at k2; cases k2
      | some b =>
        rw [h1] at k1
        obtain ⟨a4, a5⟩ := intsA_nrm h1
        obtain ⟨b4, b5⟩ := intsA_nrm h2
        refine ⟨by simp [a4, b4], ?_⟩
        rw [List.map_cons, List.map_cons, List.map_nil, a5, b5]
        refine (fs_samei a b (of_decide_eq_true k1)).mono fun r _ h => ?_
        subst h
        refine ⟨_, rfl, ?_⟩
        show Le _ (.v (.bool (decide (intsY x = intsY y))))
        rw [intsY_some h1, intsY_some h2]
        exact Le.refl _
  · cases hok
end Go.Proofs.YtkienkbaiejdmaaDoor.AE
namespace Go.Proofs.YtkienkbaiejdmaaDoor.AE
open Go.RowKit
section
variable {tS tR : TypeId} {pS pR : Value}
theorem rlin_ok : ∀ args H r H', tot? (linV linX) linOk args H = some (r, H') → HSound1 Tryd.prog (roN tS pS tR pR) 23 args H r H' := by
  refine tot_ok (has_fn (by kernel_rfl)) fun args hok => ?_
  unfold linOk at hok
  split at hok
  · rename_i x
    split at hok
    · rename_i p hp
      obtain ⟨zs, cs⟩ := p
      simp only [Bool.and_eq_true, decide_eq_true_eq, List.all_eq_true] at hok
      obtain ⟨k1, k2, k3⟩ := hok
      obtain ⟨x', h1, h2⟩ := svc_clean hp
      obtain ⟨x1, x2, x3, x4, x5, x6, x7, x8, x9, x10, x11, x12, x13, rfl⟩ := list13 (svc_cells hp).1
      refine ⟨[x'], by simp only [cleans, h1], ?_⟩
      refine Fs.weak ((fs_rlines (x1 := x1) (x2 := x2) (x3 := x3) (x4 := x4) (x5 := x5) (x6 := x6) (x7 := x7) (x8 := x8) (x9 := x9) (x10 := x10) (x11 := x11) (x12 := x12) (x13 := x13) (cs := cs) (fun z hz => in64_of (k1 z hz)) (fun c hc => clOkB_of (k2 c hc)) k3).mono fun r _ h => ?_) fun G W cs h => ?_
      · obtain ⟨y, e1, e2⟩ := h
        refine ⟨y, e1, ?_⟩
        show Le y (.lst 1 ((linesL (svcN x) (svcK x)).map sv) .no)
        rw [svcN_some hp, svcK_some hp]
        exact e2
      · cases h with
        | cons e1 t => exact .cons (svc_le h2 _ _ _ e1) t
    · cases hok
  · cases hok
end
noncomputable def prR (LN : AV → List ByteArray) (HI : Nat → ByteArray → Int) (HK : ByteArray → Bool) (CI : Nat → ByteArray → Int) (CB : ByteArray → Bool) (SS : AV → AV → Bool) (RW : ByteArray → AV → AV → ByteArray) (NX : ByteArray → ByteArray → AV → List Int) (NB : ByteArray → ByteArray → AV → Bool) (SI SW : AV → AV → Bool) : FuncId → Option (List AV → AH → Ans) := fun g => match g with
  | 22 => some (tot? (linV LN) linOk)
  | 23 => some (tot? (linV LN) linOk)
  | 17 => some (pure? (hdP HI HK))
  | 18 => some (pure? (hdP HI HK))
  | 19 => some (pure? (caP CI CB))
  | 20 => some (pure? (caP CI CB))
  | 14 => some (tot? (ssV SS) ssOk)
  | 24 => some (tot? (rowV RW) rowOk)
  | 25 => some (tot? (rowV RW) rowOk)
  | 15 => some (tot? (numQ NX NB) numOk)
  | 16 => some (tot? (numQ NX NB) numOk)
  | 26 => some (tot? (sameIV SI) sameIOk)
  | 21 => some (tot? (sameV SW) sameOk)
  | 6 => some (pure? awakeS)
  | _ => none
theorem knownR {tS tR : TypeId} {pS pR : Value} : Known (roN tS pS tR pR) (prR linX headI hdK callI caK ssX rowX nmX nmB sameIX sameX) := by
  intro g p h
  unfold prR at h
  split at h
  · cases h; exact lin_ok
  · cases h; exact rlin_ok
  · cases h; exact hd_ok' (has_fn (by kernel_rfl)) fs_head
  · cases h; exact hd_ok' (has_fn (by kernel_rfl)) fs_rhead
  · cases h; exact ca_ok (has_fn (by kernel_rfl)) fs_call
  · cases h; exact ca_ok (has_fn (by kernel_rfl)) fs_rcall
  · cases h; exact ss_ok
  · cases h; exact row_ok (has_fn (by kernel_rfl)) fun _ _ _ => fs_row (roN_le tS pS tR pR)
  · cases h; exact row_ok (has_fn (by kernel_rfl)) fun _ _ _ => fs_rrow (roN_le tS pS tR pR)
  · cases h; exact num_ok (has_fn (by kernel_rfl)) fun _ _ _ => fs_numbers (roN_le tS pS tR pR)
  · cases h; exact num_ok (has_fn (by kernel_rfl)) fun _ _ _ => fs_rnumbers (roN_le tS pS tR pR)
  · cases h; exact samei_ok
  · cases h; exact same_ok _
  · cases h; exact awake_ok28
  · cases h
end Go.Proofs.YtkienkbaiejdmaaDoor.AE
namespace Go.Proofs.YtkienkbaiejdmaaDoor.AE
open Go.RowKit
def lineA (t w : ByteArray) (ns : List ByteArray) : AV := .agg [sv t, sv w, .lst 1 (ns.map sv) .no]
def lineC (t w : ByteArray) (ns : List ByteArray) : List AV := [sv t, sv w, .lst 1 (ns.map sv) .no]
def rowsA (zs : List Int) (i : Int) : List AV := [.dead, .dead, .lst 1 (zs.map gi) .no, .ptr 0 0, .ptr 1 0, .dead, .dead, gi i] ++ List.replicate 152 .dead
def rowsH (x1 x2 x3 x4 x5 x6 x7 x8 x9 x10 x11 x12 x13 : Int) (cs : List Cl) (t w : ByteArray) (ns : List ByteArray) : AH := hp [(26, svcC x1 x2 x3 x4 x5 x6 x7 x8 x9 x10 x11 x12 x13 cs), (39, lineC t w ns)] []
theorem cr_pre (LN : AV → List ByteArray) (HI : Nat → ByteArray → Int) (HK : ByteArray → Bool) (CI : Nat → ByteArray → Int) (CB : ByteArray → Bool) (SS : AV → AV → Bool) (RW : ByteArray → AV → AV → ByteArray) (NX : ByteArray → ByteArray → AV → List Int) (NB : ByteArray → ByteArray → AV → Bool) (SI SW : AV → AV → Bool) (tS tR : TypeId) (pS pR : Value) (x1 x2 x3 x4 x5 x6 x7 x8 x9 x10 x11 x12 x13 : Int) (cs : List Cl) (t w : ByteArray) (ns : List ByteArray) (zs : List Int) (R : Exit → List AV → AH → Prop) : codeL (roN tS pS tR pR) (fun _ => false) (prR LN HI HK CI CB SS RW NX NB SI SW) 8 ((flatten (bodyOf 4)).take 4) ([svcA x1 x2 x3 x4 x5 x6 x7 x8 x9 x10 x11 x12 x13 cs, lineA t w ns, .lst 1 (zs.map gi) .no] ++ List.replicate 157 (.v undef)) (hp [] []) (kp [2, 3, 4, 6, 7] R) =
    (bif (decide ((20 : Int) < ((List.length (List.map clA cs)) : Int))) then (some (True ∧ (R Exit.ret [AV.dead, AV.dead, (AV.lst (1 : Nat) (List.map gi zs) Tip.no), (AV.ptr (0 : Nat) (0 : Nat)), (AV.ptr (List.length [((26 : Nat), [(AV.v (Value.int IntKind.i64 x1)), (AV.v (Value.int IntKind.i64 x2)), (AV.v (Value.int IntKind.i64 x3)), (AV.v (Value.int IntKind.i64 x4)), (AV.v (Value.int IntKind.i64 x5)), (AV.v (Value.int IntKind.i64 x6)), (AV.v (Value.int IntKind.i64 x7)), (AV.v (Value.int IntKind.i64 x8)), (AV.v (Value.int IntKind.i64 x9)), (AV.v (Value.int IntKind.i64 x10)), (AV.v (Value.int IntKind.i64 x11)), (AV.v (Value.int IntKind.i64 x12)), (AV.v (Value.int IntKind.i64 x13)), (AV.lst (4 : Nat) (List.map clA cs) Tip.no)])]) (0 : Nat)), AV.dead, (AV.v (Value.bool true)), (AV.v (Value.tuple (Array.mk (@List.nil Go.Value)))), AV.dead, AV.dead, AV.dead, AV.dead, AV.dead, AV.dead, AV.dead, AV.dead, AV.dead, AV.dead, AV.dead, AV.dead, AV.dead, AV.dead, AV.dead, AV.dead, AV.dead, AV.dead, AV.dead, AV.dead, AV.dead, AV.dead, AV.dead, AV.dead, AV.dead, AV.dead, AV.dead, AV.dead, AV.dead, AV.dead, AV.dead, AV.dead, AV.dead, AV.dead, AV.dead, AV.dead, AV.dead, AV.dead, AV.dead, AV.dead, AV.dead, AV.dead, AV.dead, AV.dead, AV.dead, AV.dead, AV.dead, AV.dead, AV.dead, AV.dead, AV.dead, AV.dead, AV.dead, AV.dead, AV.dead, AV.dead, AV.dead, AV.dead, AV.dead, AV.dead, AV.dead, AV.dead, AV.dead, AV.dead, AV.dead, AV.dead, AV.dead, AV.dead, AV.dead, AV.dead, AV.dead, AV.dead, AV.dead, AV.dead, AV.dead, AV.dead, AV.dead, AV.dead, AV.dead, AV.dead, AV.dead, AV.dead, AV.dead, AV.dead, AV.dead, AV.dead, AV.dead, AV.dead, AV.dead, AV.dead, AV.dead, AV.dead, AV.dead, AV.dead, AV.dead, AV.dead, AV.dead, AV.dead, AV.dead, AV.dead, AV.dead, AV.dead, AV.dead, AV.dead, AV.dead, AV.dead, AV.dead, AV.dead, AV.dead, AV.dead, AV.dead, AV.dead, AV.dead, AV.dead, AV.dead, AV.dead, AV.dead, AV.dead, AV.dead, AV.dead, AV.dead, AV.dead, AV.dead, AV.dead, AV.dead, AV.dead, AV.dead, AV.dead, AV.dead, AV.dead, AV.dead, AV.dead, AV.dead, AV.dead, AV.dead, AV.dead, AV.dead, AV.dead, AV.dead, AV.dead, AV.dead, AV.dead, AV.dead, AV.dead, AV.dead, AV.dead, AV.dead, AV.dead, AV.dead, AV.dead, AV.dead, AV.dead] (AH.mk [((26 : Nat), [(AV.v (Value.int IntKind.i64 x1)), (AV.v (Value.int IntKind.i64 x2)), (AV.v (Value.int IntKind.i64 x3)), (AV.v (Value.int IntKind.i64 x4)), (AV.v (Value.int IntKind.i64 x5)), (AV.v (Value.int IntKind.i64 x6)), (AV.v (Value.int IntKind.i64 x7)), (AV.v (Value.int IntKind.i64 x8)), (AV.v (Value.int IntKind.i64 x9)), (AV.v (Value.int IntKind.i64 x10)), (AV.v (Value.int IntKind.i64 x11)), (AV.v (Value.int IntKind.i64 x12)), (AV.v (Value.int IntKind.i64 x13)), (AV.lst (4 : Nat) (List.map clA cs) Tip.no)]), ((39 : Nat), [(AV.v (Value.string t)), (AV.v (Value.string w)), (AV.lst (1 : Nat) (List.map sv ns) Tip.no)])] (@List.nil Nat) (0 : Nat) (0 : Nat) true (@List.nil (Prod Nat Bool)) True)))) else (bif (decide ((400 : Int) < ((ByteArray.size t) : Int))) then (some (True ∧ (R Exit.ret [AV.dead, AV.dead, (AV.lst (1 : Nat) (List.map gi zs) Tip.no), (AV.ptr (0 : Nat) (0 : Nat)), (AV.ptr (List.length [((26 : Nat), [(AV.v (Value.int IntKind.i64 x1)), (AV.v (Value.int IntKind.i64 x2)), (AV.v (Value.int IntKind.i64 x3)), (AV.v (Value.int IntKind.i64 x4)), (AV.v (Value.int IntKind.i64 x5)), (AV.v (Value.int IntKind.i64 x6)), (AV.v (Value.int IntKind.i64 x7)), (AV.v (Value.int IntKind.i64 x8)), (AV.v (Value.int IntKind.i64 x9)), (AV.v (Value.int IntKind.i64 x10)), (AV.v (Value.int IntKind.i64 x11)), (AV.v (Value.int IntKind.i64 x12)), (AV.v (Value.int IntKind.i64 x13)), (AV.lst (4 : Nat) (List.map clA cs) Tip.no)])]) (0 : Nat)), AV.dead, (AV.v (Value.bool true)), (AV.v (Value.tuple (Array.mk (@List.nil Go.Value)))), AV.dead, AV.dead, AV.dead, AV.dead, AV.dead, AV.dead, AV.dead, AV.dead, AV.dead, AV.dead, AV.dead, AV.dead, AV.dead, AV.dead, AV.dead, AV.dead, AV.dead, AV.dead, AV.dead, AV.dead, AV.dead, AV.dead, AV.dead, AV.dead, AV.dead, AV.dead, AV.dead, AV.dead, AV.dead, AV.dead, AV.dead, AV.dead, AV.dead, AV.dead, AV.dead, AV.dead, AV.dead, AV.dead, AV.dead, AV.dead, AV.dead, AV.dead, AV.dead, AV.dead, AV.dead, AV.dead, AV.dead, AV.dead, AV.dead, AV.dead, AV.dead, AV.dead, AV.dead, AV.dead, AV.dead, AV.dead, AV.dead, AV.dead, AV.dead, AV.dead, AV.dead, AV.dead, AV.dead, AV.dead, AV.dead, AV.dead, AV.dead, AV.dead, AV.dead, AV.dead, AV.dead, AV.dead, AV.dead, AV.dead, AV.dead, AV.dead, AV.dead, AV.dead, AV.dead, AV.dead, AV.dead, AV.dead, AV.dead, AV.dead, AV.dead, AV.dead, AV.dead, AV.dead, AV.dead, AV.dead, AV.dead, AV.dead, AV.dead, AV.dead, AV.dead, AV.dead, AV.dead, AV.dead, AV.dead, AV.dead, AV.dead, AV.dead, AV.dead, AV.dead, AV.dead, AV.dead, AV.dead, AV.dead, AV.dead, AV.dead, AV.dead, AV.dead, AV.dead, AV.dead, AV.dead, AV.dead, AV.dead, AV.dead, AV.dead, AV.dead, AV.dead, AV.dead, AV.dead, AV.dead, AV.dead, AV.dead, AV.dead, AV.dead, AV.dead, AV.dead, AV.dead, AV.dead, AV.dead, AV.dead, AV.dead, AV.dead, AV.dead, AV.dead, AV.dead, AV.dead, AV.dead, AV.dead, AV.dead, AV.dead, AV.dead, AV.dead, AV.dead, AV.dead, AV.dead, AV.dead, AV.dead, AV.dead] (AH.mk [((26 : Nat), [(AV.v (Value.int IntKind.i64 x1)), (AV.v (Value.int IntKind.i64 x2)), (AV.v (Value.int IntKind.i64 x3)), (AV.v (Value.int IntKind.i64 x4)), (AV.v (Value.int IntKind.i64 x5)), (AV.v (Value.int IntKind.i64 x6)), (AV.v (Value.int IntKind.i64 x7)), (AV.v (Value.int IntKind.i64 x8)), (AV.v (Value.int IntKind.i64 x9)), (AV.v (Value.int IntKind.i64 x10)), (AV.v (Value.int IntKind.i64 x11)), (AV.v (Value.int IntKind.i64 x12)), (AV.v (Value.int IntKind.i64 x13)), (AV.lst (4 : Nat) (List.map clA cs) Tip.no)]), ((39 : Nat), [(AV.v (Value.string t)), (AV.v (Value.string w)), (AV.lst (1 : Nat) (List.map sv ns) Tip.no)])] (@List.nil Nat) (0 : Nat) (0 : Nat) true (@List.nil (Prod Nat Bool)) True)))) else (bif (decide ((400 : Int) < ((ByteArray.size w) : Int))) then (some (True ∧ (R Exit.ret [AV.dead, AV.dead, (AV.lst (1 : Nat) (List.map gi zs) Tip.no), (AV.ptr (0 : Nat) (0 : Nat)), (AV.ptr (List.length [((26 : Nat), [(AV.v (Value.int IntKind.i64 x1)), (AV.v (Value.int IntKind.i64 x2)), (AV.v (Value.int IntKind.i64 x3)), (AV.v (Value.int IntKind.i64 x4)), (AV.v (Value.int IntKind.i64 x5)), (AV.v (Value.int IntKind.i64 x6)), (AV.v (Value.int IntKind.i64 x7)), (AV.v (Value.int IntKind.i64 x8)), (AV.v (Value.int IntKind.i64 x9)), (AV.v (Value.int IntKind.i64 x10)), (AV.v (Value.int IntKind.i64 x11)), (AV.v (Value.int IntKind.i64 x12)), (AV.v (Value.int IntKind.i64 x13)), (AV.lst (4 : Nat) (List.map clA cs) Tip.no)])]) (0 : Nat)), AV.dead, (AV.v (Value.bool true)), (AV.v (Value.tuple (Array.mk (@List.nil Go.Value)))), AV.dead, AV.dead, AV.dead, AV.dead, AV.dead, AV.dead, AV.dead, AV.dead, AV.dead, AV.dead, AV.dead, AV.dead, AV.dead, AV.dead, AV.dead, AV.dead, AV.dead, AV.dead, AV.dead, AV.dead, AV.dead, AV.dead, AV.dead, AV.dead, AV.dead, AV.dead, AV.dead, AV.dead, AV.dead, AV.dead, AV.dead, AV.dead, AV.dead, AV.dead, AV.dead, AV.dead, AV.dead, AV.dead, AV.dead, AV.dead, AV.dead, AV.dead, AV.dead, AV.dead, AV.dead, AV.dead, AV.dead, AV.dead, AV.dead, AV.dead, AV.dead, AV.dead, AV.dead, AV.dead, AV.dead, AV.dead, AV.dead, AV.dead, AV.dead, AV.dead, AV.dead, AV.dead, AV.dead, AV.dead, AV.dead, AV.dead, AV.dead, AV.dead, AV.dead, AV.dead, AV.dead, AV.dead, AV.dead, AV.dead, AV.dead, AV.dead, AV.dead, AV.dead, AV.dead, AV.dead, AV.dead, AV.dead, AV.dead, AV.dead, AV.dead, AV.dead, AV.dead, AV.dead, AV.dead, AV.dead, AV.dead, AV.dead, AV.dead, AV.dead, AV.dead, AV.dead, AV.dead, AV.dead, AV.dead, AV.dead, AV.dead, AV.dead, AV.dead, AV.dead, AV.dead, AV.dead, AV.dead, AV.dead, AV.dead, AV.dead, AV.dead, AV.dead, AV.dead, AV.dead, AV.dead, AV.dead, AV.dead, AV.dead, AV.dead, AV.dead, AV.dead, AV.dead, AV.dead, AV.dead, AV.dead, AV.dead, AV.dead, AV.dead, AV.dead, AV.dead, AV.dead, AV.dead, AV.dead, AV.dead, AV.dead, AV.dead, AV.dead, AV.dead, AV.dead, AV.dead, AV.dead, AV.dead, AV.dead, AV.dead, AV.dead, AV.dead, AV.dead, AV.dead, AV.dead, AV.dead, AV.dead, AV.dead] (AH.mk [((26 : Nat), [(AV.v (Value.int IntKind.i64 x1)), (AV.v (Value.int IntKind.i64 x2)), (AV.v (Value.int IntKind.i64 x3)), (AV.v (Value.int IntKind.i64 x4)), (AV.v (Value.int IntKind.i64 x5)), (AV.v (Value.int IntKind.i64 x6)), (AV.v (Value.int IntKind.i64 x7)), (AV.v (Value.int IntKind.i64 x8)), (AV.v (Value.int IntKind.i64 x9)), (AV.v (Value.int IntKind.i64 x10)), (AV.v (Value.int IntKind.i64 x11)), (AV.v (Value.int IntKind.i64 x12)), (AV.v (Value.int IntKind.i64 x13)), (AV.lst (4 : Nat) (List.map clA cs) Tip.no)]), ((39 : Nat), [(AV.v (Value.string t)), (AV.v (Value.string w)), (AV.lst (1 : Nat) (List.map sv ns) Tip.no)])] (@List.nil Nat) (0 : Nat) (0 : Nat) true (@List.nil (Prod Nat Bool)) True)))) else (bif (decide ((20 : Int) < ((List.length (List.map sv ns)) : Int))) then (some (True ∧ (R Exit.ret [AV.dead, AV.dead, (AV.lst (1 : Nat) (List.map gi zs) Tip.no), (AV.ptr (0 : Nat) (0 : Nat)), (AV.ptr (List.length [((26 : Nat), [(AV.v (Value.int IntKind.i64 x1)), (AV.v (Value.int IntKind.i64 x2)), (AV.v (Value.int IntKind.i64 x3)), (AV.v (Value.int IntKind.i64 x4)), (AV.v (Value.int IntKind.i64 x5)), (AV.v (Value.int IntKind.i64 x6)), (AV.v (Value.int IntKind.i64 x7)), (AV.v (Value.int IntKind.i64 x8)), (AV.v (Value.int IntKind.i64 x9)), (AV.v (Value.int IntKind.i64 x10)), (AV.v (Value.int IntKind.i64 x11)), (AV.v (Value.int IntKind.i64 x12)), (AV.v (Value.int IntKind.i64 x13)), (AV.lst (4 : Nat) (List.map clA cs) Tip.no)])]) (0 : Nat)), AV.dead, (AV.v (Value.bool true)), (AV.v (Value.tuple (Array.mk (@List.nil Go.Value)))), AV.dead, AV.dead, AV.dead, AV.dead, AV.dead, AV.dead, AV.dead, AV.dead, AV.dead, AV.dead, AV.dead, AV.dead, AV.dead, AV.dead, AV.dead, AV.dead, AV.dead, AV.dead, AV.dead, AV.dead, AV.dead, AV.dead, AV.dead, AV.dead, AV.dead, AV.dead, AV.dead, AV.dead, AV.dead, AV.dead, AV.dead, AV.dead, AV.dead, AV.dead, AV.dead, AV.dead, AV.dead, AV.dead, AV.dead, AV.dead, AV.dead, AV.dead, AV.dead, AV.dead, AV.dead, AV.dead, AV.dead, AV.dead, AV.dead, AV.dead, AV.dead, AV.dead, AV.dead, AV.dead, AV.dead, AV.dead, AV.dead, AV.dead, AV.dead, AV.dead, AV.dead, AV.dead, AV.dead, AV.dead, AV.dead, AV.dead, AV.dead, AV.dead, AV.dead, AV.dead, AV.dead, AV.dead, AV.dead, AV.dead, AV.dead, AV.dead, AV.dead, AV.dead, AV.dead, AV.dead, AV.dead, AV.dead, AV.dead, AV.dead, AV.dead, AV.dead, AV.dead, AV.dead, AV.dead, AV.dead, AV.dead, AV.dead, AV.dead, AV.dead, AV.dead, AV.dead, AV.dead, AV.dead, AV.dead, AV.dead, AV.dead, AV.dead, AV.dead, AV.dead, AV.dead, AV.dead, AV.dead, AV.dead, AV.dead, AV.dead, AV.dead, AV.dead, AV.dead, AV.dead, AV.dead, AV.dead, AV.dead, AV.dead, AV.dead, AV.dead, AV.dead, AV.dead, AV.dead, AV.dead, AV.dead, AV.dead, AV.dead, AV.dead, AV.dead, AV.dead, AV.dead, AV.dead, AV.dead, AV.dead, AV.dead, AV.dead, AV.dead, AV.dead, AV.dead, AV.dead, AV.dead, AV.dead, AV.dead, AV.dead, AV.dead, AV.dead, AV.dead, AV.dead, AV.dead, AV.dead, AV.dead, AV.dead] (AH.mk [((26 : Nat), [(AV.v (Value.int IntKind.i64 x1)), (AV.v (Value.int IntKind.i64 x2)), (AV.v (Value.int IntKind.i64 x3)), (AV.v (Value.int IntKind.i64 x4)), (AV.v (Value.int IntKind.i64 x5)), (AV.v (Value.int IntKind.i64 x6)), (AV.v (Value.int IntKind.i64 x7)), (AV.v (Value.int IntKind.i64 x8)), (AV.v (Value.int IntKind.i64 x9)), (AV.v (Value.int IntKind.i64 x10)), (AV.v (Value.int IntKind.i64 x11)), (AV.v (Value.int IntKind.i64 x12)), (AV.v (Value.int IntKind.i64 x13)), (AV.lst (4 : Nat) (List.map clA cs) Tip.no)]), ((39 : Nat), [(AV.v (Value.string t)), (AV.v (Value.string w)), (AV.lst (1 : Nat) (List.map sv ns) Tip.no)])] (@List.nil Nat) (0 : Nat) (0 : Nat) true (@List.nil (Prod Nat Bool)) True)))) else (bif (decide ((20 : Int) < ((List.length (List.map gi zs)) : Int))) then (some (True ∧ (R Exit.ret [AV.dead, AV.dead, (AV.lst (1 : Nat) (List.map gi zs) Tip.no), (AV.ptr (0 : Nat) (0 : Nat)), (AV.ptr (List.length [((26 : Nat), [(AV.v (Value.int IntKind.i64 x1)), (AV.v (Value.int IntKind.i64 x2)), (AV.v (Value.int IntKind.i64 x3)), (AV.v (Value.int IntKind.i64 x4)), (AV.v (Value.int IntKind.i64 x5)), (AV.v (Value.int IntKind.i64 x6)), (AV.v (Value.int IntKind.i64 x7)), (AV.v (Value.int IntKind.i64 x8)), (AV.v (Value.int IntKind.i64 x9)), (AV.v (Value.int IntKind.i64 x10)), (AV.v (Value.int IntKind.i64 x11)), (AV.v (Value.int IntKind.i64 x12)), (AV.v (Value.int IntKind.i64 x13)), (AV.lst (4 : Nat) (List.map clA cs) Tip.no)])]) (0 : Nat)), AV.dead, (AV.v (Value.bool true)), (AV.v (Value.tuple (Array.mk (@List.nil Go.Value)))), AV.dead, AV.dead, AV.dead, AV.dead, AV.dead, AV.dead, AV.dead, AV.dead, AV.dead, AV.dead, AV.dead, AV.dead, AV.dead, AV.dead, AV.dead, AV.dead, AV.dead, AV.dead, AV.dead, AV.dead, AV.dead, AV.dead, AV.dead, AV.dead, AV.dead, AV.dead, AV.dead, AV.dead, AV.dead, AV.dead, AV.dead, AV.dead, AV.dead, AV.dead, AV.dead, AV.dead, AV.dead, AV.dead, AV.dead, AV.dead, AV.dead, AV.dead, AV.dead, AV.dead, AV.dead, AV.dead, AV.dead, AV.dead, AV.dead, AV.dead, AV.dead, AV.dead, AV.dead, AV.dead, AV.dead, AV.dead, AV.dead, AV.dead, AV.dead, AV.dead, AV.dead, AV.dead, AV.dead, AV.dead, AV.dead, AV.dead, AV.dead, AV.dead, AV.dead, AV.dead, AV.dead, AV.dead, AV.dead, AV.dead, AV.dead, AV.dead, AV.dead, AV.dead, AV.dead, AV.dead, AV.dead, AV.dead, AV.dead, AV.dead, AV.dead, AV.dead, AV.dead, AV.dead, AV.dead, AV.dead, AV.dead, AV.dead, AV.dead, AV.dead, AV.dead, AV.dead, AV.dead, AV.dead, AV.dead, AV.dead, AV.dead, AV.dead, AV.dead, AV.dead, AV.dead, AV.dead, AV.dead, AV.dead, AV.dead, AV.dead, AV.dead, AV.dead, AV.dead, AV.dead, AV.dead, AV.dead, AV.dead, AV.dead, AV.dead, AV.dead, AV.dead, AV.dead, AV.dead, AV.dead, AV.dead, AV.dead, AV.dead, AV.dead, AV.dead, AV.dead, AV.dead, AV.dead, AV.dead, AV.dead, AV.dead, AV.dead, AV.dead, AV.dead, AV.dead, AV.dead, AV.dead, AV.dead, AV.dead, AV.dead, AV.dead, AV.dead, AV.dead, AV.dead, AV.dead, AV.dead, AV.dead, AV.dead] (AH.mk [((26 : Nat), [(AV.v (Value.int IntKind.i64 x1)), (AV.v (Value.int IntKind.i64 x2)), (AV.v (Value.int IntKind.i64 x3)), (AV.v (Value.int IntKind.i64 x4)), (AV.v (Value.int IntKind.i64 x5)), (AV.v (Value.int IntKind.i64 x6)), (AV.v (Value.int IntKind.i64 x7)), (AV.v (Value.int IntKind.i64 x8)), (AV.v (Value.int IntKind.i64 x9)), (AV.v (Value.int IntKind.i64 x10)), (AV.v (Value.int IntKind.i64 x11)), (AV.v (Value.int IntKind.i64 x12)), (AV.v (Value.int IntKind.i64 x13)), (AV.lst (4 : Nat) (List.map clA cs) Tip.no)]), ((39 : Nat), [(AV.v (Value.string t)), (AV.v (Value.string w)), (AV.lst (1 : Nat) (List.map sv ns) Tip.no)])] (@List.nil Nat) (0 : Nat) (0 : Nat) true (@List.nil (Prod Nat Bool)) True)))) else (some (True ∧ (R Exit.normal [AV.dead, AV.dead, (AV.lst (1 : Nat) (List.map gi zs) Tip.no), (AV.ptr (0 : Nat) (0 : Nat)), (AV.ptr (List.length [((26 : Nat), [(AV.v (Value.int IntKind.i64 x1)), (AV.v (Value.int IntKind.i64 x2)), (AV.v (Value.int IntKind.i64 x3)), (AV.v (Value.int IntKind.i64 x4)), (AV.v (Value.int IntKind.i64 x5)), (AV.v (Value.int IntKind.i64 x6)), (AV.v (Value.int IntKind.i64 x7)), (AV.v (Value.int IntKind.i64 x8)), (AV.v (Value.int IntKind.i64 x9)), (AV.v (Value.int IntKind.i64 x10)), (AV.v (Value.int IntKind.i64 x11)), (AV.v (Value.int IntKind.i64 x12)), (AV.v (Value.int IntKind.i64 x13)), (AV.lst (4 : Nat) (List.map clA cs) Tip.no)])]) (0 : Nat)), AV.dead, (AV.v (Value.bool false)), (AV.v (Value.int IntKind.i64 (0 : Int))), AV.dead, AV.dead, AV.dead, AV.dead, AV.dead, AV.dead, AV.dead, AV.dead, AV.dead, AV.dead, AV.dead, AV.dead, AV.dead, AV.dead, AV.dead, AV.dead, AV.dead, AV.dead, AV.dead, AV.dead, AV.dead, AV.dead, AV.dead, AV.dead, AV.dead, AV.dead, AV.dead, AV.dead, AV.dead, AV.dead, AV.dead, AV.dead, AV.dead, AV.dead, AV.dead, AV.dead, AV.dead, AV.dead, AV.dead, AV.dead, AV.dead, AV.dead, AV.dead, AV.dead, AV.dead, AV.dead, AV.dead, AV.dead, AV.dead, AV.dead, AV.dead, AV.dead, AV.dead, AV.dead, AV.dead, AV.dead, AV.dead, AV.dead, AV.dead, AV.dead, AV.dead, AV.dead, AV.dead, AV.dead, AV.dead, AV.dead, AV.dead, AV.dead, AV.dead, AV.dead, AV.dead, AV.dead, AV.dead, AV.dead, AV.dead, AV.dead, AV.dead, AV.dead, AV.dead, AV.dead, AV.dead, AV.dead, AV.dead, AV.dead, AV.dead, AV.dead, AV.dead, AV.dead, AV.dead, AV.dead, AV.dead, AV.dead, AV.dead, AV.dead, AV.dead, AV.dead, AV.dead, AV.dead, AV.dead, AV.dead, AV.dead, AV.dead, AV.dead, AV.dead, AV.dead, AV.dead, AV.dead, AV.dead, AV.dead, AV.dead, AV.dead, AV.dead, AV.dead, AV.dead, AV.dead, AV.dead, AV.dead, AV.dead, AV.dead, AV.dead, AV.dead, AV.dead, AV.dead, AV.dead, AV.dead, AV.dead, AV.dead, AV.dead, AV.dead, AV.dead, AV.dead, AV.dead, AV.dead, AV.dead, AV.dead, AV.dead, AV.dead, AV.dead, AV.dead, AV.dead, AV.dead, AV.dead, AV.dead, AV.dead, AV.dead, AV.dead, AV.dead, AV.dead, AV.dead, AV.dead, AV.dead, AV.dead] (AH.mk [((26 : Nat), [(AV.v (Value.int IntKind.i64 x1)), (AV.v (Value.int IntKind.i64 x2)), (AV.v (Value.int IntKind.i64 x3)), (AV.v (Value.int IntKind.i64 x4)), (AV.v (Value.int IntKind.i64 x5)), (AV.v (Value.int IntKind.i64 x6)), (AV.v (Value.int IntKind.i64 x7)), (AV.v (Value.int IntKind.i64 x8)), (AV.v (Value.int IntKind.i64 x9)), (AV.v (Value.int IntKind.i64 x10)), (AV.v (Value.int IntKind.i64 x11)), (AV.v (Value.int IntKind.i64 x12)), (AV.v (Value.int IntKind.i64 x13)), (AV.lst (4 : Nat) (List.map clA cs) Tip.no)]), ((39 : Nat), [(AV.v (Value.string t)), (AV.v (Value.string w)), (AV.lst (1 : Nat) (List.map sv ns) Tip.no)])] (@List.nil Nat) (0 : Nat) (0 : Nat) true (@List.nil (Prod Nat Bool)) True))))))))) := by kernel_rfl
theorem cr_in (LN : AV → List ByteArray) (HI : Nat → ByteArray → Int) (HK : ByteArray → Bool) (CI : Nat → ByteArray → Int) (CB : ByteArray → Bool) (SS : AV → AV → Bool) (RW : ByteArray → AV → AV → ByteArray) (NX : ByteArray → ByteArray → AV → List Int) (NB : ByteArray → ByteArray → AV → Bool) (SI SW : AV → AV → Bool) (tS tR : TypeId) (pS pR : Value) (x1 x2 x3 x4 x5 x6 x7 x8 x9 x10 x11 x12 x13 : Int) (cs : List Cl) (t w : ByteArray) (ns : List ByteArray) (zs : List Int) (i : Int) (R : Exit → List AV → AH → Prop) : code (roN tS pS tR pR) (fun _ => false) (prR LN HI HK CI CB SS RW NX NB SI SW) 8 (sub (bodyOf 4) [1, 1, 0, 1, 0, 0]) (rowsA zs i) (rowsH x1 x2 x3 x4 x5 x6 x7 x8 x9 x10 x11 x12 x13 cs t w ns) (kp [2, 3, 4, 6, 7] R) =
    (bif (decide (i < ((List.length (List.map sv ns)) : Int))) then (bif (decide ((400 : Int) < ((ByteArray.size (exStr (List.getD (List.map sv ns) (Int.toNat i) AV.dead))) : Int))) then (some ((cds True (elemB Tryd.prog (9 : Nat) (List.map sv ns) i) (((0 : Int) ≤ i) ∧ (((List.map sv ns)[(Int.toNat i)]?) = (some (AV.v (Value.string (exStr (List.getD (List.map sv ns) (Int.toNat i) AV.dead)))))))) ∧ (R Exit.ret [AV.dead, AV.dead, (AV.lst (1 : Nat) (List.map gi zs) Tip.no), (AV.ptr (0 : Nat) (0 : Nat)), (AV.ptr (1 : Nat) (0 : Nat)), AV.dead, (AV.v (Value.bool true)), (AV.v (Value.int IntKind.i64 i)), AV.dead, AV.dead, AV.dead, AV.dead, AV.dead, AV.dead, AV.dead, AV.dead, AV.dead, AV.dead, AV.dead, AV.dead, AV.dead, AV.dead, AV.dead, AV.dead, AV.dead, AV.dead, AV.dead, AV.dead, AV.dead, AV.dead, AV.dead, AV.dead, AV.dead, AV.dead, AV.dead, AV.dead, AV.dead, AV.dead, AV.dead, AV.dead, AV.dead, AV.dead, AV.dead, AV.dead, AV.dead, AV.dead, AV.dead, AV.dead, AV.dead, AV.dead, AV.dead, AV.dead, AV.dead, AV.dead, AV.dead, AV.dead, AV.dead, AV.dead, AV.dead, AV.dead, AV.dead, AV.dead, AV.dead, AV.dead, AV.dead, AV.dead, AV.dead, AV.dead, AV.dead, AV.dead, AV.dead, AV.dead, AV.dead, AV.dead, AV.dead, AV.dead, AV.dead, AV.dead, AV.dead, AV.dead, AV.dead, AV.dead, AV.dead, AV.dead, AV.dead, AV.dead, AV.dead, AV.dead, AV.dead, AV.dead, AV.dead, AV.dead, AV.dead, AV.dead, AV.dead, AV.dead, AV.dead, AV.dead, AV.dead, AV.dead, AV.dead, AV.dead, AV.dead, AV.dead, AV.dead, AV.dead, AV.dead, AV.dead, AV.dead, AV.dead, AV.dead, AV.dead, AV.dead, AV.dead, AV.dead, AV.dead, AV.dead, AV.dead, AV.dead, AV.dead, AV.dead, AV.dead, AV.dead, AV.dead, AV.dead, AV.dead, AV.dead, AV.dead, AV.dead, AV.dead, AV.dead, AV.dead, AV.dead, AV.dead, AV.dead, AV.dead, AV.dead, AV.dead, AV.dead, AV.dead, AV.dead, AV.dead, AV.dead, AV.dead, AV.dead, AV.dead, AV.dead, AV.dead, AV.dead, AV.dead, AV.dead, AV.dead, AV.dead, AV.dead, AV.dead, AV.dead, AV.dead, AV.dead, AV.dead, AV.dead] (AH.mk [((26 : Nat), [(AV.v (Value.int IntKind.i64 x1)), (AV.v (Value.int IntKind.i64 x2)), (AV.v (Value.int IntKind.i64 x3)), (AV.v (Value.int IntKind.i64 x4)), (AV.v (Value.int IntKind.i64 x5)), (AV.v (Value.int IntKind.i64 x6)), (AV.v (Value.int IntKind.i64 x7)), (AV.v (Value.int IntKind.i64 x8)), (AV.v (Value.int IntKind.i64 x9)), (AV.v (Value.int IntKind.i64 x10)), (AV.v (Value.int IntKind.i64 x11)), (AV.v (Value.int IntKind.i64 x12)), (AV.v (Value.int IntKind.i64 x13)), (AV.lst (4 : Nat) (List.map clA cs) Tip.no)]), ((39 : Nat), [(AV.v (Value.string t)), (AV.v (Value.string w)), (AV.lst (1 : Nat) (List.map sv ns) Tip.no)])] (@List.nil Nat) (0 : Nat) (0 : Nat) true (@List.nil (Prod Nat Bool)) True)))) else (some ((cds True (elemB Tryd.prog (9 : Nat) (List.map sv ns) i) (((0 : Int) ≤ i) ∧ (((List.map sv ns)[(Int.toNat i)]?) = (some (AV.v (Value.string (exStr (List.getD (List.map sv ns) (Int.toNat i) AV.dead)))))))) ∧ (R Exit.normal [AV.dead, AV.dead, (AV.lst (1 : Nat) (List.map gi zs) Tip.no), (AV.ptr (0 : Nat) (0 : Nat)), (AV.ptr (1 : Nat) (0 : Nat)), AV.dead, AV.dead, (AV.v (Value.int IntKind.i64 (IntKind.wrap IntKind.i64 (i + (1 : Int))))), AV.dead, AV.dead, AV.dead, AV.dead, AV.dead, AV.dead, AV.dead, AV.dead, AV.dead, AV.dead, AV.dead, AV.dead, AV.dead, AV.dead, AV.dead, AV.dead, AV.dead, AV.dead, AV.dead, AV.dead, AV.dead, AV.dead, AV.dead, AV.dead, AV.dead, AV.dead, AV.dead, AV.dead, AV.dead, AV.dead, AV.dead, AV.dead, AV.dead, AV.dead, AV.dead, AV.dead, AV.dead, AV.dead, AV.dead, AV.dead, AV.dead, AV.dead, AV.dead, AV.dead, AV.dead, AV.dead, AV.dead, AV.dead, AV.dead, AV.dead, AV.dead, AV.dead, AV.dead, AV.dead, AV.dead, AV.dead, AV.dead, AV.dead, AV.dead, AV.dead, AV.dead, AV.dead, AV.dead, AV.dead, AV.dead, AV.dead, AV.dead, AV.dead, AV.dead, AV.dead, AV.dead, AV.dead, AV.dead, AV.dead, AV.dead, AV.dead, AV.dead, AV.dead, AV.dead, AV.dead, AV.dead, AV.dead, AV.dead, AV.dead, AV.dead, AV.dead, AV.dead, AV.dead, AV.dead, AV.dead, AV.dead, AV.dead, AV.dead, AV.dead, AV.dead, AV.dead, AV.dead, AV.dead, AV.dead, AV.dead, AV.dead, AV.dead, AV.dead, AV.dead, AV.dead, AV.dead, AV.dead, AV.dead, AV.dead, AV.dead, AV.dead, AV.dead, AV.dead, AV.dead, AV.dead, AV.dead, AV.dead, AV.dead, AV.dead, AV.dead, AV.dead, AV.dead, AV.dead, AV.dead, AV.dead, AV.dead, AV.dead, AV.dead, AV.dead, AV.dead, AV.dead, AV.dead, AV.dead, AV.dead, AV.dead, AV.dead, AV.dead, AV.dead, AV.dead, AV.dead, AV.dead, AV.dead, AV.dead, AV.dead, AV.dead, AV.dead, AV.dead, AV.dead, AV.dead, AV.dead, AV.dead, AV.dead] (AH.mk [((26 : Nat), [(AV.v (Value.int IntKind.i64 x1)), (AV.v (Value.int IntKind.i64 x2)), (AV.v (Value.int IntKind.i64 x3)), (AV.v (Value.int IntKind.i64 x4)), (AV.v (Value.int IntKind.i64 x5)), (AV.v (Value.int IntKind.i64 x6)), (AV.v (Value.int IntKind.i64 x7)), (AV.v (Value.int IntKind.i64 x8)), (AV.v (Value.int IntKind.i64 x9)), (AV.v (Value.int IntKind.i64 x10)), (AV.v (Value.int IntKind.i64 x11)), (AV.v (Value.int IntKind.i64 x12)), (AV.v (Value.int IntKind.i64 x13)), (AV.lst (4 : Nat) (List.map clA cs) Tip.no)]), ((39 : Nat), [(AV.v (Value.string t)), (AV.v (Value.string w)), (AV.lst (1 : Nat) (List.map sv ns) Tip.no)])] (@List.nil Nat) (0 : Nat) (0 : Nat) true (@List.nil (Prod Nat Bool)) True))))) else (some (True ∧ (R (Exit.exit (0 : Nat)) [AV.dead, AV.dead, (AV.lst (1 : Nat) (List.map gi zs) Tip.no), (AV.ptr (0 : Nat) (0 : Nat)), (AV.ptr (1 : Nat) (0 : Nat)), AV.dead, AV.dead, (AV.v (Value.int IntKind.i64 i)), AV.dead, AV.dead, AV.dead, AV.dead, AV.dead, AV.dead, AV.dead, AV.dead, AV.dead, AV.dead, AV.dead, AV.dead, AV.dead, AV.dead, AV.dead, AV.dead, AV.dead, AV.dead, AV.dead, AV.dead, AV.dead, AV.dead, AV.dead, AV.dead, AV.dead, AV.dead, AV.dead, AV.dead, AV.dead, AV.dead, AV.dead, AV.dead, AV.dead, AV.dead, AV.dead, AV.dead, AV.dead, AV.dead, AV.dead, AV.dead, AV.dead, AV.dead, AV.dead, AV.dead, AV.dead, AV.dead, AV.dead, AV.dead, AV.dead, AV.dead, AV.dead, AV.dead, AV.dead, AV.dead, AV.dead, AV.dead, AV.dead, AV.dead, AV.dead, AV.dead, AV.dead, AV.dead, AV.dead, AV.dead, AV.dead, AV.dead, AV.dead, AV.dead, AV.dead, AV.dead, AV.dead, AV.dead, AV.dead, AV.dead, AV.dead, AV.dead, AV.dead, AV.dead, AV.dead, AV.dead, AV.dead, AV.dead, AV.dead, AV.dead, AV.dead, AV.dead, AV.dead, AV.dead, AV.dead, AV.dead, AV.dead, AV.dead, AV.dead, AV.dead, AV.dead, AV.dead, AV.dead, AV.dead, AV.dead, AV.dead, AV.dead, AV.dead, AV.dead, AV.dead, AV.dead, AV.dead, AV.dead, AV.dead, AV.dead, AV.dead, AV.dead, AV.dead, AV.dead, AV.dead, AV.dead, AV.dead, AV.dead, AV.dead, AV.dead, AV.dead, AV.dead, AV.dead, AV.dead, AV.dead, AV.dead, AV.dead, AV.dead, AV.dead, AV.dead, AV.dead, AV.dead, AV.dead, AV.dead, AV.dead, AV.dead, AV.dead, AV.dead, AV.dead, AV.dead, AV.dead, AV.dead, AV.dead, AV.dead, AV.dead, AV.dead, AV.dead, AV.dead, AV.dead, AV.dead, AV.dead, AV.dead, AV.dead] (AH.mk [((26 : Nat), [(AV.v (Value.int IntKind.i64 x1)), (AV.v (Value.int IntKind.i64 x2)), (AV.v (Value.int IntKind.i64 x3)), (AV.v (Value.int IntKind.i64 x4)), (AV.v (Value.int IntKind.i64 x5)), (AV.v (Value.int IntKind.i64 x6)), (AV.v (Value.int IntKind.i64 x7)), (AV.v (Value.int IntKind.i64 x8)), (AV.v (Value.int IntKind.i64 x9)), (AV.v (Value.int IntKind.i64 x10)), (AV.v (Value.int IntKind.i64 x11)), (AV.v (Value.int IntKind.i64 x12)), (AV.v (Value.int IntKind.i64 x13)), (AV.lst (4 : Nat) (List.map clA cs) Tip.no)]), ((39 : Nat), [(AV.v (Value.string t)), (AV.v (Value.string w)), (AV.lst (1 : Nat) (List.map sv ns) Tip.no)])] (@List.nil Nat) (0 : Nat) (0 : Nat) true (@List.nil (Prod Nat Bool)) True))))) := by kernel_rfl
theorem cr_post (LN : AV → List ByteArray) (HI : Nat → ByteArray → Int) (HK : ByteArray → Bool) (CI : Nat → ByteArray → Int) (CB : ByteArray → Bool) (SS : AV → AV → Bool) (RW : ByteArray → AV → AV → ByteArray) (NX : ByteArray → ByteArray → AV → List Int) (NB : ByteArray → ByteArray → AV → Bool) (SI SW : AV → AV → Bool) (tS tR : TypeId) (pS pR : Value) (x1 x2 x3 x4 x5 x6 x7 x8 x9 x10 x11 x12 x13 : Int) (cs : List Cl) (t w : ByteArray) (ns : List ByteArray) (zs : List Int) (i : Int) (R : Exit → List AV → AH → Prop) : codeL (roN tS pS tR pR) (fun _ => false) (prR LN HI HK CI CB SS RW NX NB SI SW) 8 ((flatten (bodyOf 4)).drop 5) (rowsA zs i) (rowsH x1 x2 x3 x4 x5 x6 x7 x8 x9 x10 x11 x12 x13 cs t w ns) (kp [6] R) =
    (bif (SW (AV.lst (1 : Nat) (List.map sv (LN (AV.agg [(AV.v (Value.int IntKind.i64 x1)), (AV.v (Value.int IntKind.i64 x2)), (AV.v (Value.int IntKind.i64 x3)), (AV.v (Value.int IntKind.i64 x4)), (AV.v (Value.int IntKind.i64 x5)), (AV.v (Value.int IntKind.i64 x6)), (AV.v (Value.int IntKind.i64 x7)), (AV.v (Value.int IntKind.i64 x8)), (AV.v (Value.int IntKind.i64 x9)), (AV.v (Value.int IntKind.i64 x10)), (AV.v (Value.int IntKind.i64 x11)), (AV.v (Value.int IntKind.i64 x12)), (AV.v (Value.int IntKind.i64 x13)), (AV.lst (4 : Nat) (List.map clA cs) Tip.no)]))) Tip.no) (AV.lst (1 : Nat) (List.map sv (LN (AV.agg [(AV.v (Value.int IntKind.i64 x1)), (AV.v (Value.int IntKind.i64 x2)), (AV.v (Value.int IntKind.i64 x3)), (AV.v (Value.int IntKind.i64 x4)), (AV.v (Value.int IntKind.i64 x5)), (AV.v (Value.int IntKind.i64 x6)), (AV.v (Value.int IntKind.i64 x7)), (AV.v (Value.int IntKind.i64 x8)), (AV.v (Value.int IntKind.i64 x9)), (AV.v (Value.int IntKind.i64 x10)), (AV.v (Value.int IntKind.i64 x11)), (AV.v (Value.int IntKind.i64 x12)), (AV.v (Value.int IntKind.i64 x13)), (AV.lst (4 : Nat) (List.map clA cs) Tip.no)]))) Tip.no)) then (bif ((ByteArray.toList (RW w (AV.lst (1 : Nat) (List.map sv ns) Tip.no) (AV.lst (1 : Nat) (List.map gi zs) Tip.no))) == (ByteArray.toList (RW w (AV.lst (1 : Nat) (List.map sv ns) Tip.no) (AV.lst (1 : Nat) (List.map gi zs) Tip.no)))) then (bif (SI (AV.lst (1 : Nat) (List.map gi (NX t w (AV.lst (1 : Nat) (List.map sv ns) Tip.no))) Tip.no) (AV.lst (1 : Nat) (List.map gi (NX t w (AV.lst (1 : Nat) (List.map sv ns) Tip.no))) Tip.no)) then (bif ((NB t w (AV.lst (1 : Nat) (List.map sv ns) Tip.no)) == (NB t w (AV.lst (1 : Nat) (List.map sv ns) Tip.no))) then (bif (SS (AV.v (Value.agg #[(Value.int IntKind.i64 (HI (0 : Nat) t)), (Value.int IntKind.i64 (HI (1 : Nat) t)), (Value.int IntKind.i64 (HI (2 : Nat) t)), (Value.int IntKind.i64 (HI (3 : Nat) t)), (Value.int IntKind.i64 (HI (4 : Nat) t)), (Value.int IntKind.i64 (HI (5 : Nat) t)), (Value.int IntKind.i64 (HI (6 : Nat) t)), (Value.int IntKind.i64 (HI (7 : Nat) t)), (Value.int IntKind.i64 (HI (8 : Nat) t)), (Value.int IntKind.i64 (HI (9 : Nat) t)), (Value.int IntKind.i64 (HI (10 : Nat) t)), (Value.int IntKind.i64 (HI (11 : Nat) t)), (Value.int IntKind.i64 (HI (12 : Nat) t)), (Value.slice none (0 : Nat) (0 : Nat))])) (AV.v (Value.agg #[(Value.int IntKind.i64 (HI (0 : Nat) t)), (Value.int IntKind.i64 (HI (1 : Nat) t)), (Value.int IntKind.i64 (HI (2 : Nat) t)), (Value.int IntKind.i64 (HI (3 : Nat) t)), (Value.int IntKind.i64 (HI (4 : Nat) t)), (Value.int IntKind.i64 (HI (5 : Nat) t)), (Value.int IntKind.i64 (HI (6 : Nat) t)), (Value.int IntKind.i64 (HI (7 : Nat) t)), (Value.int IntKind.i64 (HI (8 : Nat) t)), (Value.int IntKind.i64 (HI (9 : Nat) t)), (Value.int IntKind.i64 (HI (10 : Nat) t)), (Value.int IntKind.i64 (HI (11 : Nat) t)), (Value.int IntKind.i64 (HI (12 : Nat) t)), (Value.slice none (0 : Nat) (0 : Nat))]))) then (bif ((HK t) == (HK t)) then (bif (((CI (0 : Nat) t) == (CI (0 : Nat) t)) && (((CI (1 : Nat) t) == (CI (1 : Nat) t)) && (((CI (2 : Nat) t) == (CI (2 : Nat) t)) && (((CI (3 : Nat) t) == (CI (3 : Nat) t)) && true)))) then (bif ((CB t) == (CB t)) then (some ((cdb (cdb (cdb (cdb (cdb (cdb (cdb (cdb (cdb (cdb (cdb (cdb True (numOk [(AV.v (Value.string t)), (AV.v (Value.string w)), (AV.lst (1 : Nat) (List.map sv ns) Tip.no)])) (numOk [(AV.v (Value.string t)), (AV.v (Value.string w)), (AV.lst (1 : Nat) (List.map sv ns) Tip.no)])) (decide ((ByteArray.size t) ≤ (100000 : Nat)))) (decide ((ByteArray.size t) ≤ (100000 : Nat)))) (decide ((ByteArray.size t) ≤ (100000 : Nat)))) (decide ((ByteArray.size t) ≤ (100000 : Nat)))) (linOk [(AV.agg [(AV.v (Value.int IntKind.i64 x1)), (AV.v (Value.int IntKind.i64 x2)), (AV.v (Value.int IntKind.i64 x3)), (AV.v (Value.int IntKind.i64 x4)), (AV.v (Value.int IntKind.i64 x5)), (AV.v (Value.int IntKind.i64 x6)), (AV.v (Value.int IntKind.i64 x7)), (AV.v (Value.int IntKind.i64 x8)), (AV.v (Value.int IntKind.i64 x9)), (AV.v (Value.int IntKind.i64 x10)), (AV.v (Value.int IntKind.i64 x11)), (AV.v (Value.int IntKind.i64 x12)), (AV.v (Value.int IntKind.i64 x13)), (AV.lst (4 : Nat) (List.map clA cs) Tip.no)])])) (linOk [(AV.agg [(AV.v (Value.int IntKind.i64 x1)), (AV.v (Value.int IntKind.i64 x2)), (AV.v (Value.int IntKind.i64 x3)), (AV.v (Value.int IntKind.i64 x4)), (AV.v (Value.int IntKind.i64 x5)), (AV.v (Value.int IntKind.i64 x6)), (AV.v (Value.int IntKind.i64 x7)), (AV.v (Value.int IntKind.i64 x8)), (AV.v (Value.int IntKind.i64 x9)), (AV.v (Value.int IntKind.i64 x10)), (AV.v (Value.int IntKind.i64 x11)), (AV.v (Value.int IntKind.i64 x12)), (AV.v (Value.int IntKind.i64 x13)), (AV.lst (4 : Nat) (List.map clA cs) Tip.no)])])) (sameOk [(AV.lst (1 : Nat) (List.map sv (LN (AV.agg [(AV.v (Value.int IntKind.i64 x1)), (AV.v (Value.int IntKind.i64 x2)), (AV.v (Value.int IntKind.i64 x3)), (AV.v (Value.int IntKind.i64 x4)), (AV.v (Value.int IntKind.i64 x5)), (AV.v (Value.int IntKind.i64 x6)), (AV.v (Value.int IntKind.i64 x7)), (AV.v (Value.int IntKind.i64 x8)), (AV.v (Value.int IntKind.i64 x9)), (AV.v (Value.int IntKind.i64 x10)), (AV.v (Value.int IntKind.i64 x11)), (AV.v (Value.int IntKind.i64 x12)), (AV.v (Value.int IntKind.i64 x13)), (AV.lst (4 : Nat) (List.map clA cs) Tip.no)]))) Tip.no), (AV.lst (1 : Nat) (List.map sv (LN (AV.agg [(AV.v (Value.int IntKind.i64 x1)), (AV.v (Value.int IntKind.i64 x2)), (AV.v (Value.int IntKind.i64 x3)), (AV.v (Value.int IntKind.i64 x4)), (AV.v (Value.int IntKind.i64 x5)), (AV.v (Value.int IntKind.i64 x6)), (AV.v (Value.int IntKind.i64 x7)), (AV.v (Value.int IntKind.i64 x8)), (AV.v (Value.int IntKind.i64 x9)), (AV.v (Value.int IntKind.i64 x10)), (AV.v (Value.int IntKind.i64 x11)), (AV.v (Value.int IntKind.i64 x12)), (AV.v (Value.int IntKind.i64 x13)), (AV.lst (4 : Nat) (List.map clA cs) Tip.no)]))) Tip.no)])) (rowOk [(AV.v (Value.string w)), (AV.lst (1 : Nat) (List.map sv ns) Tip.no), (AV.lst (1 : Nat) (List.map gi zs) Tip.no)])) (rowOk [(AV.v (Value.string w)), (AV.lst (1 : Nat) (List.map sv ns) Tip.no), (AV.lst (1 : Nat) (List.map gi zs) Tip.no)])) (sameIOk [(AV.lst (1 : Nat) (List.map gi (NX t w (AV.lst (1 : Nat) (List.map sv ns) Tip.no))) Tip.no), (AV.lst (1 : Nat) (List.map gi (NX t w (AV.lst (1 : Nat) (List.map sv ns) Tip.no))) Tip.no)])) ∧ (R Exit.ret [AV.dead, AV.dead, AV.dead, AV.dead, AV.dead, AV.dead, (AV.v (Value.bool true)), AV.dead, AV.dead, AV.dead, AV.dead, AV.dead, AV.dead, AV.dead, AV.dead, AV.dead, AV.dead, AV.dead, AV.dead, AV.dead, AV.dead, AV.dead, AV.dead, AV.dead, AV.dead, AV.dead, AV.dead, AV.dead, AV.dead, AV.dead, AV.dead, AV.dead, AV.dead, AV.dead, AV.dead, AV.dead, AV.dead, AV.dead, AV.dead, AV.dead, AV.dead, AV.dead, AV.dead, AV.dead, AV.dead, AV.dead, AV.dead, AV.dead, AV.dead, AV.dead, AV.dead, AV.dead, AV.dead, AV.dead, AV.dead, AV.dead, AV.dead, AV.dead, AV.dead, AV.dead, AV.dead, AV.dead, AV.dead, AV.dead, AV.dead, AV.dead, AV.dead, AV.dead, AV.dead, AV.dead, AV.dead, AV.dead, AV.dead, AV.dead, AV.dead, AV.dead, AV.dead, AV.dead, AV.dead, AV.dead, AV.dead, AV.dead, AV.dead, AV.dead, AV.dead, AV.dead, AV.dead, AV.dead, AV.dead, AV.dead, AV.dead, AV.dead, AV.dead, AV.dead, AV.dead, AV.dead, AV.dead, AV.dead, AV.dead, AV.dead, AV.dead, AV.dead, AV.dead, AV.dead, AV.dead, AV.dead, AV.dead, AV.dead, AV.dead, AV.dead, AV.dead, AV.dead, AV.dead, AV.dead, AV.dead, AV.dead, AV.dead, AV.dead, AV.dead, AV.dead, AV.dead, AV.dead, AV.dead, AV.dead, AV.dead, AV.dead, AV.dead, AV.dead, AV.dead, AV.dead, AV.dead, AV.dead, AV.dead, AV.dead, AV.dead, AV.dead, AV.dead, AV.dead, AV.dead, AV.dead, AV.dead, AV.dead, AV.dead, AV.dead, AV.dead, AV.dead, AV.dead, AV.dead, AV.dead, AV.dead, AV.dead, AV.dead, AV.dead, AV.dead, AV.dead, AV.dead, AV.dead, AV.dead, AV.dead, AV.dead] (AH.mk [((26 : Nat), [(AV.v (Value.int IntKind.i64 x1)), (AV.v (Value.int IntKind.i64 x2)), (AV.v (Value.int IntKind.i64 x3)), (AV.v (Value.int IntKind.i64 x4)), (AV.v (Value.int IntKind.i64 x5)), (AV.v (Value.int IntKind.i64 x6)), (AV.v (Value.int IntKind.i64 x7)), (AV.v (Value.int IntKind.i64 x8)), (AV.v (Value.int IntKind.i64 x9)), (AV.v (Value.int IntKind.i64 x10)), (AV.v (Value.int IntKind.i64 x11)), (AV.v (Value.int IntKind.i64 x12)), (AV.v (Value.int IntKind.i64 x13)), (AV.lst (4 : Nat) (List.map clA cs) Tip.no)]), ((39 : Nat), [(AV.v (Value.string t)), (AV.v (Value.string w)), (AV.lst (1 : Nat) (List.map sv ns) Tip.no)]), ((26 : Nat), [(AV.v (Value.int IntKind.i64 (HI (0 : Nat) t))), (AV.v (Value.int IntKind.i64 (HI (1 : Nat) t))), (AV.v (Value.int IntKind.i64 (HI (2 : Nat) t))), (AV.v (Value.int IntKind.i64 (HI (3 : Nat) t))), (AV.v (Value.int IntKind.i64 (HI (4 : Nat) t))), (AV.v (Value.int IntKind.i64 (HI (5 : Nat) t))), (AV.v (Value.int IntKind.i64 (HI (6 : Nat) t))), (AV.v (Value.int IntKind.i64 (HI (7 : Nat) t))), (AV.v (Value.int IntKind.i64 (HI (8 : Nat) t))), (AV.v (Value.int IntKind.i64 (HI (9 : Nat) t))), (AV.v (Value.int IntKind.i64 (HI (10 : Nat) t))), (AV.v (Value.int IntKind.i64 (HI (11 : Nat) t))), (AV.v (Value.int IntKind.i64 (HI (12 : Nat) t))), (AV.v (Value.slice none (0 : Nat) (0 : Nat)))]), ((26 : Nat), [(AV.v (Value.int IntKind.i64 (HI (0 : Nat) t))), (AV.v (Value.int IntKind.i64 (HI (1 : Nat) t))), (AV.v (Value.int IntKind.i64 (HI (2 : Nat) t))), (AV.v (Value.int IntKind.i64 (HI (3 : Nat) t))), (AV.v (Value.int IntKind.i64 (HI (4 : Nat) t))), (AV.v (Value.int IntKind.i64 (HI (5 : Nat) t))), (AV.v (Value.int IntKind.i64 (HI (6 : Nat) t))), (AV.v (Value.int IntKind.i64 (HI (7 : Nat) t))), (AV.v (Value.int IntKind.i64 (HI (8 : Nat) t))), (AV.v (Value.int IntKind.i64 (HI (9 : Nat) t))), (AV.v (Value.int IntKind.i64 (HI (10 : Nat) t))), (AV.v (Value.int IntKind.i64 (HI (11 : Nat) t))), (AV.v (Value.int IntKind.i64 (HI (12 : Nat) t))), (AV.v (Value.slice none (0 : Nat) (0 : Nat)))]), ((47 : Nat), [(AV.v (Value.int IntKind.i64 (CI (0 : Nat) t))), (AV.v (Value.int IntKind.i64 (CI (1 : Nat) t))), (AV.v (Value.int IntKind.i64 (CI (2 : Nat) t))), (AV.v (Value.int IntKind.i64 (CI (3 : Nat) t)))]), ((47 : Nat), [(AV.v (Value.int IntKind.i64 (CI (0 : Nat) t))), (AV.v (Value.int IntKind.i64 (CI (1 : Nat) t))), (AV.v (Value.int IntKind.i64 (CI (2 : Nat) t))), (AV.v (Value.int IntKind.i64 (CI (3 : Nat) t)))])] (@List.nil Nat) (0 : Nat) (0 : Nat) true (@List.nil (Prod Nat Bool)) True)))) else (some ((cdb (cdb (cdb (cdb (cdb (cdb (cdb (cdb (cdb (cdb (cdb (cdb True (numOk [(AV.v (Value.string t)), (AV.v (Value.string w)), (AV.lst (1 : Nat) (List.map sv ns) Tip.no)])) (numOk [(AV.v (Value.string t)), (AV.v (Value.string w)), (AV.lst (1 : Nat) (List.map sv ns) Tip.no)])) (decide ((ByteArray.size t) ≤ (100000 : Nat)))) (decide ((ByteArray.size t) ≤ (100000 : Nat)))) (decide ((ByteArray.size t) ≤ (100000 : Nat)))) (decide ((ByteArray.size t) ≤ (100000 : Nat)))) (linOk [(AV.agg [(AV.v (Value.int IntKind.i64 x1)), (AV.v (Value.int IntKind.i64 x2)), (AV.v (Value.int IntKind.i64 x3)), (AV.v (Value.int IntKind.i64 x4)), (AV.v (Value.int IntKind.i64 x5)), (AV.v (Value.int IntKind.i64 x6)), (AV.v (Value.int IntKind.i64 x7)), (AV.v (Value.int IntKind.i64 x8)), (AV.v (Value.int IntKind.i64 x9)), (AV.v (Value.int IntKind.i64 x10)), (AV.v (Value.int IntKind.i64 x11)), (AV.v (Value.int IntKind.i64 x12)), (AV.v (Value.int IntKind.i64 x13)), (AV.lst (4 : Nat) (List.map clA cs) Tip.no)])])) (linOk [(AV.agg [(AV.v (Value.int IntKind.i64 x1)), (AV.v (Value.int IntKind.i64 x2)), (AV.v (Value.int IntKind.i64 x3)), (AV.v (Value.int IntKind.i64 x4)), (AV.v (Value.int IntKind.i64 x5)), (AV.v (Value.int IntKind.i64 x6)), (AV.v (Value.int IntKind.i64 x7)), (AV.v (Value.int IntKind.i64 x8)), (AV.v (Value.int IntKind.i64 x9)), (AV.v (Value.int IntKind.i64 x10)), (AV.v (Value.int IntKind.i64 x11)), (AV.v (Value.int IntKind.i64 x12)), (AV.v (Value.int IntKind.i64 x13)), (AV.lst (4 : Nat) (List.map clA cs) Tip.no)])])) (sameOk [(AV.lst (1 : Nat) (List.map sv (LN (AV.agg [(AV.v (Value.int IntKind.i64 x1)), (AV.v (Value.int IntKind.i64 x2)), (AV.v (Value.int IntKind.i64 x3)), (AV.v (Value.int IntKind.i64 x4)), (AV.v (Value.int IntKind.i64 x5)), (AV.v (Value.int IntKind.i64 x6)), (AV.v (Value.int IntKind.i64 x7)), (AV.v (Value.int IntKind.i64 x8)), (AV.v (Value.int IntKind.i64 x9)), (AV.v (Value.int IntKind.i64 x10)), (AV.v (Value.int IntKind.i64 x11)), (AV.v (Value.int IntKind.i64 x12)), (AV.v (Value.int IntKind.i64 x13)), (AV.lst (4 : Nat) (List.map clA cs) Tip.no)]))) Tip.no), (AV.lst (1 : Nat) (List.map sv (LN (AV.agg [(AV.v (Value.int IntKind.i64 x1)), (AV.v (Value.int IntKind.i64 x2)), (AV.v (Value.int IntKind.i64 x3)), (AV.v (Value.int IntKind.i64 x4)), (AV.v (Value.int IntKind.i64 x5)), (AV.v (Value.int IntKind.i64 x6)), (AV.v (Value.int IntKind.i64 x7)), (AV.v (Value.int IntKind.i64 x8)), (AV.v (Value.int IntKind.i64 x9)), (AV.v (Value.int IntKind.i64 x10)), (AV.v (Value.int IntKind.i64 x11)), (AV.v (Value.int IntKind.i64 x12)), (AV.v (Value.int IntKind.i64 x13)), (AV.lst (4 : Nat) (List.map clA cs) Tip.no)]))) Tip.no)])) (rowOk [(AV.v (Value.string w)), (AV.lst (1 : Nat) (List.map sv ns) Tip.no), (AV.lst (1 : Nat) (List.map gi zs) Tip.no)])) (rowOk [(AV.v (Value.string w)), (AV.lst (1 : Nat) (List.map sv ns) Tip.no), (AV.lst (1 : Nat) (List.map gi zs) Tip.no)])) (sameIOk [(AV.lst (1 : Nat) (List.map gi (NX t w (AV.lst (1 : Nat) (List.map sv ns) Tip.no))) Tip.no), (AV.lst (1 : Nat) (List.map gi (NX t w (AV.lst (1 : Nat) (List.map sv ns) Tip.no))) Tip.no)])) ∧ (R Exit.ret [AV.dead, AV.dead, AV.dead, AV.dead, AV.dead, AV.dead, (AV.v (Value.bool false)), AV.dead, AV.dead, AV.dead, AV.dead, AV.dead, AV.dead, AV.dead, AV.dead, AV.dead, AV.dead, AV.dead, AV.dead, AV.dead, AV.dead, AV.dead, AV.dead, AV.dead, AV.dead, AV.dead, AV.dead, AV.dead, AV.dead, AV.dead, AV.dead, AV.dead, AV.dead, AV.dead, AV.dead, AV.dead, AV.dead, AV.dead, AV.dead, AV.dead, AV.dead, AV.dead, AV.dead, AV.dead, AV.dead, AV.dead, AV.dead, AV.dead, AV.dead, AV.dead, AV.dead, AV.dead, AV.dead, AV.dead, AV.dead, AV.dead, AV.dead, AV.dead, AV.dead, AV.dead, AV.dead, AV.dead, AV.dead, AV.dead, AV.dead, AV.dead, AV.dead, AV.dead, AV.dead, AV.dead, AV.dead, AV.dead, AV.dead, AV.dead, AV.dead, AV.dead, AV.dead, AV.dead, AV.dead, AV.dead, AV.dead, AV.dead, AV.dead, AV.dead, AV.dead, AV.dead, AV.dead, AV.dead, AV.dead, AV.dead, AV.dead, AV.dead, AV.dead, AV.dead, AV.dead, AV.dead, AV.dead, AV.dead, AV.dead, AV.dead, AV.dead, AV.dead, AV.dead, AV.dead, AV.dead, AV.dead, AV.dead, AV.dead, AV.dead, AV.dead, AV.dead, AV.dead, AV.dead, AV.dead, AV.dead, AV.dead, AV.dead, AV.dead, AV.dead, AV.dead, AV.dead, AV.dead, AV.dead, AV.dead, AV.dead, AV.dead, AV.dead, AV.dead, AV.dead, AV.dead, AV.dead, AV.dead, AV.dead, AV.dead, AV.dead, AV.dead, AV.dead, AV.dead, AV.dead, AV.dead, AV.dead, AV.dead, AV.dead, AV.dead, AV.dead, AV.dead, AV.dead, AV.dead, AV.dead, AV.dead, AV.dead, AV.dead, AV.dead, AV.dead, AV.dead, AV.dead, AV.dead, AV.dead, AV.dead, AV.dead] (AH.mk [((26 : Nat), [(AV.v (Value.int IntKind.i64 x1)), (AV.v (Value.int IntKind.i64 x2)), (AV.v (Value.int IntKind.i64 x3)), (AV.v (Value.int IntKind.i64 x4)), (AV.v (Value.int IntKind.i64 x5)), (AV.v (Value.int IntKind.i64 x6)), (AV.v (Value.int IntKind.i64 x7)), (AV.v (Value.int IntKind.i64 x8)), (AV.v (Value.int IntKind.i64 x9)), (AV.v (Value.int IntKind.i64 x10)), (AV.v (Value.int IntKind.i64 x11)), (AV.v (Value.int IntKind.i64 x12)), (AV.v (Value.int IntKind.i64 x13)), (AV.lst (4 : Nat) (List.map clA cs) Tip.no)]), ((39 : Nat), [(AV.v (Value.string t)), (AV.v (Value.string w)), (AV.lst (1 : Nat) (List.map sv ns) Tip.no)]), ((26 : Nat), [(AV.v (Value.int IntKind.i64 (HI (0 : Nat) t))), (AV.v (Value.int IntKind.i64 (HI (1 : Nat) t))), (AV.v (Value.int IntKind.i64 (HI (2 : Nat) t))), (AV.v (Value.int IntKind.i64 (HI (3 : Nat) t))), (AV.v (Value.int IntKind.i64 (HI (4 : Nat) t))), (AV.v (Value.int IntKind.i64 (HI (5 : Nat) t))), (AV.v (Value.int IntKind.i64 (HI (6 : Nat) t))), (AV.v (Value.int IntKind.i64 (HI (7 : Nat) t))), (AV.v (Value.int IntKind.i64 (HI (8 : Nat) t))), (AV.v (Value.int IntKind.i64 (HI (9 : Nat) t))), (AV.v (Value.int IntKind.i64 (HI (10 : Nat) t))), (AV.v (Value.int IntKind.i64 (HI (11 : Nat) t))), (AV.v (Value.int IntKind.i64 (HI (12 : Nat) t))), (AV.v (Value.slice none (0 : Nat) (0 : Nat)))]), ((26 : Nat), [(AV.v (Value.int IntKind.i64 (HI (0 : Nat) t))), (AV.v (Value.int IntKind.i64 (HI (1 : Nat) t))), (AV.v (Value.int IntKind.i64 (HI (2 : Nat) t))), (AV.v (Value.int IntKind.i64 (HI (3 : Nat) t))), (AV.v (Value.int IntKind.i64 (HI (4 : Nat) t))), (AV.v (Value.int IntKind.i64 (HI (5 : Nat) t))), (AV.v (Value.int IntKind.i64 (HI (6 : Nat) t))), (AV.v (Value.int IntKind.i64 (HI (7 : Nat) t))), (AV.v (Value.int IntKind.i64 (HI (8 : Nat) t))), (AV.v (Value.int IntKind.i64 (HI (9 : Nat) t))), (AV.v (Value.int IntKind.i64 (HI (10 : Nat) t))), (AV.v (Value.int IntKind.i64 (HI (11 : Nat) t))), (AV.v (Value.int IntKind.i64 (HI (12 : Nat) t))), (AV.v (Value.slice none (0 : Nat) (0 : Nat)))]), ((47 : Nat), [(AV.v (Value.int IntKind.i64 (CI (0 : Nat) t))), (AV.v (Value.int IntKind.i64 (CI (1 : Nat) t))), (AV.v (Value.int IntKind.i64 (CI (2 : Nat) t))), (AV.v (Value.int IntKind.i64 (CI (3 : Nat) t)))]), ((47 : Nat), [(AV.v (Value.int IntKind.i64 (CI (0 : Nat) t))), (AV.v (Value.int IntKind.i64 (CI (1 : Nat) t))), (AV.v (Value.int IntKind.i64 (CI (2 : Nat) t))), (AV.v (Value.int IntKind.i64 (CI (3 : Nat) t)))])] (@List.nil Nat) (0 : Nat) (0 : Nat) true (@List.nil (Prod Nat Bool)) True))))) else (some ((cdb (cdb (cdb (cdb (cdb (cdb (cdb (cdb (cdb (cdb (cdb (cdb True (numOk [(AV.v (Value.string t)), (AV.v (Value.string w)), (AV.lst (1 : Nat) (List.map sv ns) Tip.no)])) (numOk [(AV.v (Value.string t)), (AV.v (Value.string w)), (AV.lst (1 : Nat) (List.map sv ns) Tip.no)])) (decide ((ByteArray.size t) ≤ (100000 : Nat)))) (decide ((ByteArray.size t) ≤ (100000 : Nat)))) (decide ((ByteArray.size t) ≤ (100000 : Nat)))) (decide ((ByteArray.size t) ≤ (100000 : Nat)))) (linOk [(AV.agg [(AV.v (Value.int IntKind.i64 x1)), (AV.v (Value.int IntKind.i64 x2)), (AV.v (Value.int IntKind.i64 x3)), (AV.v (Value.int IntKind.i64 x4)), (AV.v (Value.int IntKind.i64 x5)), (AV.v (Value.int IntKind.i64 x6)), (AV.v (Value.int IntKind.i64 x7)), (AV.v (Value.int IntKind.i64 x8)), (AV.v (Value.int IntKind.i64 x9)), (AV.v (Value.int IntKind.i64 x10)), (AV.v (Value.int IntKind.i64 x11)), (AV.v (Value.int IntKind.i64 x12)), (AV.v (Value.int IntKind.i64 x13)), (AV.lst (4 : Nat) (List.map clA cs) Tip.no)])])) (linOk [(AV.agg [(AV.v (Value.int IntKind.i64 x1)), (AV.v (Value.int IntKind.i64 x2)), (AV.v (Value.int IntKind.i64 x3)), (AV.v (Value.int IntKind.i64 x4)), (AV.v (Value.int IntKind.i64 x5)), (AV.v (Value.int IntKind.i64 x6)), (AV.v (Value.int IntKind.i64 x7)), (AV.v (Value.int IntKind.i64 x8)), (AV.v (Value.int IntKind.i64 x9)), (AV.v (Value.int IntKind.i64 x10)), (AV.v (Value.int IntKind.i64 x11)), (AV.v (Value.int IntKind.i64 x12)), (AV.v (Value.int IntKind.i64 x13)), (AV.lst (4 : Nat) (List.map clA cs) Tip.no)])])) (sameOk [(AV.lst (1 : Nat) (List.map sv (LN (AV.agg [(AV.v (Value.int IntKind.i64 x1)), (AV.v (Value.int IntKind.i64 x2)), (AV.v (Value.int IntKind.i64 x3)), (AV.v (Value.int IntKind.i64 x4)), (AV.v (Value.int IntKind.i64 x5)), (AV.v (Value.int IntKind.i64 x6)), (AV.v (Value.int IntKind.i64 x7)), (AV.v (Value.int IntKind.i64 x8)), (AV.v (Value.int IntKind.i64 x9)), (AV.v (Value.int IntKind.i64 x10)), (AV.v (Value.int IntKind.i64 x11)), (AV.v (Value.int IntKind.i64 x12)), (AV.v (Value.int IntKind.i64 x13)), (AV.lst (4 : Nat) (List.map clA cs) Tip.no)]))) Tip.no), (AV.lst (1 : Nat) (List.map sv (LN (AV.agg [(AV.v (Value.int IntKind.i64 x1)), (AV.v (Value.int IntKind.i64 x2)), (AV.v (Value.int IntKind.i64 x3)), (AV.v (Value.int IntKind.i64 x4)), (AV.v (Value.int IntKind.i64 x5)), (AV.v (Value.int IntKind.i64 x6)), (AV.v (Value.int IntKind.i64 x7)), (AV.v (Value.int IntKind.i64 x8)), (AV.v (Value.int IntKind.i64 x9)), (AV.v (Value.int IntKind.i64 x10)), (AV.v (Value.int IntKind.i64 x11)), (AV.v (Value.int IntKind.i64 x12)), (AV.v (Value.int IntKind.i64 x13)), (AV.lst (4 : Nat) (List.map clA cs) Tip.no)]))) Tip.no)])) (rowOk [(AV.v (Value.string w)), (AV.lst (1 : Nat) (List.map sv ns) Tip.no), (AV.lst (1 : Nat) (List.map gi zs) Tip.no)])) (rowOk [(AV.v (Value.string w)), (AV.lst (1 : Nat) (List.map sv ns) Tip.no), (AV.lst (1 : Nat) (List.map gi zs) Tip.no)])) (sameIOk [(AV.lst (1 : Nat) (List.map gi (NX t w (AV.lst (1 : Nat) (List.map sv ns) Tip.no))) Tip.no), (AV.lst (1 : Nat) (List.map gi (NX t w (AV.lst (1 : Nat) (List.map sv ns) Tip.no))) Tip.no)])) ∧ (R Exit.ret [AV.dead, AV.dead, AV.dead, AV.dead, AV.dead, AV.dead, (AV.v (Value.bool false)), AV.dead, AV.dead, AV.dead, AV.dead, AV.dead, AV.dead, AV.dead, AV.dead, AV.dead, AV.dead, AV.dead, AV.dead, AV.dead, AV.dead, AV.dead, AV.dead, AV.dead, AV.dead, AV.dead, AV.dead, AV.dead, AV.dead, AV.dead, AV.dead, AV.dead, AV.dead, AV.dead, AV.dead, AV.dead, AV.dead, AV.dead, AV.dead, AV.dead, AV.dead, AV.dead, AV.dead, AV.dead, AV.dead, AV.dead, AV.dead, AV.dead, AV.dead, AV.dead, AV.dead, AV.dead, AV.dead, AV.dead, AV.dead, AV.dead, AV.dead, AV.dead, AV.dead, AV.dead, AV.dead, AV.dead, AV.dead, AV.dead, AV.dead, AV.dead, AV.dead, AV.dead, AV.dead, AV.dead, AV.dead, AV.dead, AV.dead, AV.dead, AV.dead, AV.dead, AV.dead, AV.dead, AV.dead, AV.dead, AV.dead, AV.dead, AV.dead, AV.dead, AV.dead, AV.dead, AV.dead, AV.dead, AV.dead, AV.dead, AV.dead, AV.dead, AV.dead, AV.dead, AV.dead, AV.dead, AV.dead, AV.dead, AV.dead, AV.dead, AV.dead, AV.dead, AV.dead, AV.dead, AV.dead, AV.dead, AV.dead, AV.dead, AV.dead, AV.dead, AV.dead, AV.dead, AV.dead, AV.dead, AV.dead, AV.dead, AV.dead, AV.dead, AV.dead, AV.dead, AV.dead, AV.dead, AV.dead, AV.dead, AV.dead, AV.dead, AV.dead, AV.dead, AV.dead, AV.dead, AV.dead, AV.dead, AV.dead, AV.dead, AV.dead, AV.dead, AV.dead, AV.dead, AV.dead, AV.dead, AV.dead, AV.dead, AV.dead, AV.dead, AV.dead, AV.dead, AV.dead, AV.dead, AV.dead, AV.dead, AV.dead, AV.dead, AV.dead, AV.dead, AV.dead, AV.dead, AV.dead, AV.dead, AV.dead, AV.dead] (AH.mk [((26 : Nat), [(AV.v (Value.int IntKind.i64 x1)), (AV.v (Value.int IntKind.i64 x2)), (AV.v (Value.int IntKind.i64 x3)), (AV.v (Value.int IntKind.i64 x4)), (AV.v (Value.int IntKind.i64 x5)), (AV.v (Value.int IntKind.i64 x6)), (AV.v (Value.int IntKind.i64 x7)), (AV.v (Value.int IntKind.i64 x8)), (AV.v (Value.int IntKind.i64 x9)), (AV.v (Value.int IntKind.i64 x10)), (AV.v (Value.int IntKind.i64 x11)), (AV.v (Value.int IntKind.i64 x12)), (AV.v (Value.int IntKind.i64 x13)), (AV.lst (4 : Nat) (List.map clA cs) Tip.no)]), ((39 : Nat), [(AV.v (Value.string t)), (AV.v (Value.string w)), (AV.lst (1 : Nat) (List.map sv ns) Tip.no)]), ((26 : Nat), [(AV.v (Value.int IntKind.i64 (HI (0 : Nat) t))), (AV.v (Value.int IntKind.i64 (HI (1 : Nat) t))), (AV.v (Value.int IntKind.i64 (HI (2 : Nat) t))), (AV.v (Value.int IntKind.i64 (HI (3 : Nat) t))), (AV.v (Value.int IntKind.i64 (HI (4 : Nat) t))), (AV.v (Value.int IntKind.i64 (HI (5 : Nat) t))), (AV.v (Value.int IntKind.i64 (HI (6 : Nat) t))), (AV.v (Value.int IntKind.i64 (HI (7 : Nat) t))), (AV.v (Value.int IntKind.i64 (HI (8 : Nat) t))), (AV.v (Value.int IntKind.i64 (HI (9 : Nat) t))), (AV.v (Value.int IntKind.i64 (HI (10 : Nat) t))), (AV.v (Value.int IntKind.i64 (HI (11 : Nat) t))), (AV.v (Value.int IntKind.i64 (HI (12 : Nat) t))), (AV.v (Value.slice none (0 : Nat) (0 : Nat)))]), ((26 : Nat), [(AV.v (Value.int IntKind.i64 (HI (0 : Nat) t))), (AV.v (Value.int IntKind.i64 (HI (1 : Nat) t))), (AV.v (Value.int IntKind.i64 (HI (2 : Nat) t))), (AV.v (Value.int IntKind.i64 (HI (3 : Nat) t))), (AV.v (Value.int IntKind.i64 (HI (4 : Nat) t))), (AV.v (Value.int IntKind.i64 (HI (5 : Nat) t))), (AV.v (Value.int IntKind.i64 (HI (6 : Nat) t))), (AV.v (Value.int IntKind.i64 (HI (7 : Nat) t))), (AV.v (Value.int IntKind.i64 (HI (8 : Nat) t))), (AV.v (Value.int IntKind.i64 (HI (9 : Nat) t))), (AV.v (Value.int IntKind.i64 (HI (10 : Nat) t))), (AV.v (Value.int IntKind.i64 (HI (11 : Nat) t))), (AV.v (Value.int IntKind.i64 (HI (12 : Nat) t))), (AV.v (Value.slice none (0 : Nat) (0 : Nat)))]), ((47 : Nat), [(AV.v (Value.int IntKind.i64 (CI (0 : Nat) t))), (AV.v (Value.int IntKind.i64 (CI (1 : Nat) t))), (AV.v (Value.int IntKind.i64 (CI (2 : Nat) t))), (AV.v (Value.int IntKind.i64 (CI (3 : Nat) t)))]), ((47 : Nat), [(AV.v (Value.int IntKind.i64 (CI (0 : Nat) t))), (AV.v (Value.int IntKind.i64 (CI (1 : Nat) t))), (AV.v (Value.int IntKind.i64 (CI (2 : Nat) t))), (AV.v (Value.int IntKind.i64 (CI (3 : Nat) t)))])] (@List.nil Nat) (0 : Nat) (0 : Nat) true (@List.nil (Prod Nat Bool)) True))))) else (some ((cdb (cdb (cdb (cdb (cdb (cdb (cdb (cdb (cdb (cdb (cdb (cdb True (numOk [(AV.v (Value.string t)), (AV.v (Value.string w)), (AV.lst (1 : Nat) (List.map sv ns) Tip.no)])) (numOk [(AV.v (Value.string t)), (AV.v (Value.string w)), (AV.lst (1 : Nat) (List.map sv ns) Tip.no)])) (decide ((ByteArray.size t) ≤ (100000 : Nat)))) (decide ((ByteArray.size t) ≤ (100000 : Nat)))) (decide ((ByteArray.size t) ≤ (100000 : Nat)))) (decide ((ByteArray.size t) ≤ (100000 : Nat)))) (linOk [(AV.agg [(AV.v (Value.int IntKind.i64 x1)), (AV.v (Value.int IntKind.i64 x2)), (AV.v (Value.int IntKind.i64 x3)), (AV.v (Value.int IntKind.i64 x4)), (AV.v (Value.int IntKind.i64 x5)), (AV.v (Value.int IntKind.i64 x6)), (AV.v (Value.int IntKind.i64 x7)), (AV.v (Value.int IntKind.i64 x8)), (AV.v (Value.int IntKind.i64 x9)), (AV.v (Value.int IntKind.i64 x10)), (AV.v (Value.int IntKind.i64 x11)), (AV.v (Value.int IntKind.i64 x12)), (AV.v (Value.int IntKind.i64 x13)), (AV.lst (4 : Nat) (List.map clA cs) Tip.no)])])) (linOk [(AV.agg [(AV.v (Value.int IntKind.i64 x1)), (AV.v (Value.int IntKind.i64 x2)), (AV.v (Value.int IntKind.i64 x3)), (AV.v (Value.int IntKind.i64 x4)), (AV.v (Value.int IntKind.i64 x5)), (AV.v (Value.int IntKind.i64 x6)), (AV.v (Value.int IntKind.i64 x7)), (AV.v (Value.int IntKind.i64 x8)), (AV.v (Value.int IntKind.i64 x9)), (AV.v (Value.int IntKind.i64 x10)), (AV.v (Value.int IntKind.i64 x11)), (AV.v (Value.int IntKind.i64 x12)), (AV.v (Value.int IntKind.i64 x13)), (AV.lst (4 : Nat) (List.map clA cs) Tip.no)])])) (sameOk [(AV.lst (1 : Nat) (List.map sv (LN (AV.agg [(AV.v (Value.int IntKind.i64 x1)), (AV.v (Value.int IntKind.i64 x2)), (AV.v (Value.int IntKind.i64 x3)), (AV.v (Value.int IntKind.i64 x4)), (AV.v (Value.int IntKind.i64 x5)), (AV.v (Value.int IntKind.i64 x6)), (AV.v (Value.int IntKind.i64 x7)), (AV.v (Value.int IntKind.i64 x8)), (AV.v (Value.int IntKind.i64 x9)), (AV.v (Value.int IntKind.i64 x10)), (AV.v (Value.int IntKind.i64 x11)), (AV.v (Value.int IntKind.i64 x12)), (AV.v (Value.int IntKind.i64 x13)), (AV.lst (4 : Nat) (List.map clA cs) Tip.no)]))) Tip.no), (AV.lst (1 : Nat) (List.map sv (LN (AV.agg [(AV.v (Value.int IntKind.i64 x1)), (AV.v (Value.int IntKind.i64 x2)), (AV.v (Value.int IntKind.i64 x3)), (AV.v (Value.int IntKind.i64 x4)), (AV.v (Value.int IntKind.i64 x5)), (AV.v (Value.int IntKind.i64 x6)), (AV.v (Value.int IntKind.i64 x7)), (AV.v (Value.int IntKind.i64 x8)), (AV.v (Value.int IntKind.i64 x9)), (AV.v (Value.int IntKind.i64 x10)), (AV.v (Value.int IntKind.i64 x11)), (AV.v (Value.int IntKind.i64 x12)), (AV.v (Value.int IntKind.i64 x13)), (AV.lst (4 : Nat) (List.map clA cs) Tip.no)]))) Tip.no)])) (rowOk [(AV.v (Value.string w)), (AV.lst (1 : Nat) (List.map sv ns) Tip.no), (AV.lst (1 : Nat) (List.map gi zs) Tip.no)])) (rowOk [(AV.v (Value.string w)), (AV.lst (1 : Nat) (List.map sv ns) Tip.no), (AV.lst (1 : Nat) (List.map gi zs) Tip.no)])) (sameIOk [(AV.lst (1 : Nat) (List.map gi (NX t w (AV.lst (1 : Nat) (List.map sv ns) Tip.no))) Tip.no), (AV.lst (1 : Nat) (List.map gi (NX t w (AV.lst (1 : Nat) (List.map sv ns) Tip.no))) Tip.no)])) ∧ (R Exit.ret [AV.dead, AV.dead, AV.dead, AV.dead, AV.dead, AV.dead, (AV.v (Value.bool false)), AV.dead, AV.dead, AV.dead, AV.dead, AV.dead, AV.dead, AV.dead, AV.dead, AV.dead, AV.dead, AV.dead, AV.dead, AV.dead, AV.dead, AV.dead, AV.dead, AV.dead, AV.dead, AV.dead, AV.dead, AV.dead, AV.dead, AV.dead, AV.dead, AV.dead, AV.dead, AV.dead, AV.dead, AV.dead, AV.dead, AV.dead, AV.dead, AV.dead, AV.dead, AV.dead, AV.dead, AV.dead, AV.dead, AV.dead, AV.dead, AV.dead, AV.dead, AV.dead, AV.dead, AV.dead, AV.dead, AV.dead, AV.dead, AV.dead, AV.dead, AV.dead, AV.dead, AV.dead, AV.dead, AV.dead, AV.dead, AV.dead, AV.dead, AV.dead, AV.dead, AV.dead, AV.dead, AV.dead, AV.dead, AV.dead, AV.dead, AV.dead, AV.dead, AV.dead, AV.dead, AV.dead, AV.dead, AV.dead, AV.dead, AV.dead, AV.dead, AV.dead, AV.dead, AV.dead, AV.dead, AV.dead, AV.dead, AV.dead, AV.dead, AV.dead, AV.dead, AV.dead, AV.dead, AV.dead, AV.dead, AV.dead, AV.dead, AV.dead, AV.dead, AV.dead, AV.dead, AV.dead, AV.dead, AV.dead, AV.dead, AV.dead, AV.dead, AV.dead, AV.dead, AV.dead, AV.dead, AV.dead, AV.dead, AV.dead, AV.dead, AV.dead, AV.dead, AV.dead, AV.dead, AV.dead, AV.dead, AV.dead, AV.dead, AV.dead, AV.dead, AV.dead, AV.dead, AV.dead, AV.dead, AV.dead, AV.dead, AV.dead, AV.dead, AV.dead, AV.dead, AV.dead, AV.dead, AV.dead, AV.dead, AV.dead, AV.dead, AV.dead, AV.dead, AV.dead, AV.dead, AV.dead, AV.dead, AV.dead, AV.dead, AV.dead, AV.dead, AV.dead, AV.dead, AV.dead, AV.dead, AV.dead, AV.dead, AV.dead] (AH.mk [((26 : Nat), [(AV.v (Value.int IntKind.i64 x1)), (AV.v (Value.int IntKind.i64 x2)), (AV.v (Value.int IntKind.i64 x3)), (AV.v (Value.int IntKind.i64 x4)), (AV.v (Value.int IntKind.i64 x5)), (AV.v (Value.int IntKind.i64 x6)), (AV.v (Value.int IntKind.i64 x7)), (AV.v (Value.int IntKind.i64 x8)), (AV.v (Value.int IntKind.i64 x9)), (AV.v (Value.int IntKind.i64 x10)), (AV.v (Value.int IntKind.i64 x11)), (AV.v (Value.int IntKind.i64 x12)), (AV.v (Value.int IntKind.i64 x13)), (AV.lst (4 : Nat) (List.map clA cs) Tip.no)]), ((39 : Nat), [(AV.v (Value.string t)), (AV.v (Value.string w)), (AV.lst (1 : Nat) (List.map sv ns) Tip.no)]), ((26 : Nat), [(AV.v (Value.int IntKind.i64 (HI (0 : Nat) t))), (AV.v (Value.int IntKind.i64 (HI (1 : Nat) t))), (AV.v (Value.int IntKind.i64 (HI (2 : Nat) t))), (AV.v (Value.int IntKind.i64 (HI (3 : Nat) t))), (AV.v (Value.int IntKind.i64 (HI (4 : Nat) t))), (AV.v (Value.int IntKind.i64 (HI (5 : Nat) t))), (AV.v (Value.int IntKind.i64 (HI (6 : Nat) t))), (AV.v (Value.int IntKind.i64 (HI (7 : Nat) t))), (AV.v (Value.int IntKind.i64 (HI (8 : Nat) t))), (AV.v (Value.int IntKind.i64 (HI (9 : Nat) t))), (AV.v (Value.int IntKind.i64 (HI (10 : Nat) t))), (AV.v (Value.int IntKind.i64 (HI (11 : Nat) t))), (AV.v (Value.int IntKind.i64 (HI (12 : Nat) t))), (AV.v (Value.slice none (0 : Nat) (0 : Nat)))]), ((26 : Nat), [(AV.v (Value.int IntKind.i64 (HI (0 : Nat) t))), (AV.v (Value.int IntKind.i64 (HI (1 : Nat) t))), (AV.v (Value.int IntKind.i64 (HI (2 : Nat) t))), (AV.v (Value.int IntKind.i64 (HI (3 : Nat) t))), (AV.v (Value.int IntKind.i64 (HI (4 : Nat) t))), (AV.v (Value.int IntKind.i64 (HI (5 : Nat) t))), (AV.v (Value.int IntKind.i64 (HI (6 : Nat) t))), (AV.v (Value.int IntKind.i64 (HI (7 : Nat) t))), (AV.v (Value.int IntKind.i64 (HI (8 : Nat) t))), (AV.v (Value.int IntKind.i64 (HI (9 : Nat) t))), (AV.v (Value.int IntKind.i64 (HI (10 : Nat) t))), (AV.v (Value.int IntKind.i64 (HI (11 : Nat) t))), (AV.v (Value.int IntKind.i64 (HI (12 : Nat) t))), (AV.v (Value.slice none (0 : Nat) (0 : Nat)))]), ((47 : Nat), [(AV.v (Value.int IntKind.i64 (CI (0 : Nat) t))), (AV.v (Value.int IntKind.i64 (CI (1 : Nat) t))), (AV.v (Value.int IntKind.i64 (CI (2 : Nat) t))), (AV.v (Value.int IntKind.i64 (CI (3 : Nat) t)))]), ((47 : Nat), [(AV.v (Value.int IntKind.i64 (CI (0 : Nat) t))), (AV.v (Value.int IntKind.i64 (CI (1 : Nat) t))), (AV.v (Value.int IntKind.i64 (CI (2 : Nat) t))), (AV.v (Value.int IntKind.i64 (CI (3 : Nat) t)))])] (@List.nil Nat) (0 : Nat) (0 : Nat) true (@List.nil (Prod Nat Bool)) True))))) else (some ((cdb (cdb (cdb (cdb (cdb (cdb (cdb (cdb (cdb (cdb (cdb (cdb True (numOk [(AV.v (Value.string t)), (AV.v (Value.string w)), (AV.lst (1 : Nat) (List.map sv ns) Tip.no)])) (numOk [(AV.v (Value.string t)), (AV.v (Value.string w)), (AV.lst (1 : Nat) (List.map sv ns) Tip.no)])) (decide ((ByteArray.size t) ≤ (100000 : Nat)))) (decide ((ByteArray.size t) ≤ (100000 : Nat)))) (decide ((ByteArray.size t) ≤ (100000 : Nat)))) (decide ((ByteArray.size t) ≤ (100000 : Nat)))) (linOk [(AV.agg [(AV.v (Value.int IntKind.i64 x1)), (AV.v (Value.int IntKind.i64 x2)), (AV.v (Value.int IntKind.i64 x3)), (AV.v (Value.int IntKind.i64 x4)), (AV.v (Value.int IntKind.i64 x5)), (AV.v (Value.int IntKind.i64 x6)), (AV.v (Value.int IntKind.i64 x7)), (AV.v (Value.int IntKind.i64 x8)), (AV.v (Value.int IntKind.i64 x9)), (AV.v (Value.int IntKind.i64 x10)), (AV.v (Value.int IntKind.i64 x11)), (AV.v (Value.int IntKind.i64 x12)), (AV.v (Value.int IntKind.i64 x13)), (AV.lst (4 : Nat) (List.map clA cs) Tip.no)])])) (linOk [(AV.agg [(AV.v (Value.int IntKind.i64 x1)), (AV.v (Value.int IntKind.i64 x2)), (AV.v (Value.int IntKind.i64 x3)), (AV.v (Value.int IntKind.i64 x4)), (AV.v (Value.int IntKind.i64 x5)), (AV.v (Value.int IntKind.i64 x6)), (AV.v (Value.int IntKind.i64 x7)), (AV.v (Value.int IntKind.i64 x8)), (AV.v (Value.int IntKind.i64 x9)), (AV.v (Value.int IntKind.i64 x10)), (AV.v (Value.int IntKind.i64 x11)), (AV.v (Value.int IntKind.i64 x12)), (AV.v (Value.int IntKind.i64 x13)), (AV.lst (4 : Nat) (List.map clA cs) Tip.no)])])) (sameOk [(AV.lst (1 : Nat) (List.map sv (LN (AV.agg [(AV.v (Value.int IntKind.i64 x1)), (AV.v (Value.int IntKind.i64 x2)), (AV.v (Value.int IntKind.i64 x3)), (AV.v (Value.int IntKind.i64 x4)), (AV.v (Value.int IntKind.i64 x5)), (AV.v (Value.int IntKind.i64 x6)), (AV.v (Value.int IntKind.i64 x7)), (AV.v (Value.int IntKind.i64 x8)), (AV.v (Value.int IntKind.i64 x9)), (AV.v (Value.int IntKind.i64 x10)), (AV.v (Value.int IntKind.i64 x11)), (AV.v (Value.int IntKind.i64 x12)), (AV.v (Value.int IntKind.i64 x13)), (AV.lst (4 : Nat) (List.map clA cs) Tip.no)]))) Tip.no), (AV.lst (1 : Nat) (List.map sv (LN (AV.agg [(AV.v (Value.int IntKind.i64 x1)), (AV.v (Value.int IntKind.i64 x2)), (AV.v (Value.int IntKind.i64 x3)), (AV.v (Value.int IntKind.i64 x4)), (AV.v (Value.int IntKind.i64 x5)), (AV.v (Value.int IntKind.i64 x6)), (AV.v (Value.int IntKind.i64 x7)), (AV.v (Value.int IntKind.i64 x8)), (AV.v (Value.int IntKind.i64 x9)), (AV.v (Value.int IntKind.i64 x10)), (AV.v (Value.int IntKind.i64 x11)), (AV.v (Value.int IntKind.i64 x12)), (AV.v (Value.int IntKind.i64 x13)), (AV.lst (4 : Nat) (List.map clA cs) Tip.no)]))) Tip.no)])) (rowOk [(AV.v (Value.string w)), (AV.lst (1 : Nat) (List.map sv ns) Tip.no), (AV.lst (1 : Nat) (List.map gi zs) Tip.no)])) (rowOk [(AV.v (Value.string w)), (AV.lst (1 : Nat) (List.map sv ns) Tip.no), (AV.lst (1 : Nat) (List.map gi zs) Tip.no)])) (sameIOk [(AV.lst (1 : Nat) (List.map gi (NX t w (AV.lst (1 : Nat) (List.map sv ns) Tip.no))) Tip.no), (AV.lst (1 : Nat) (List.map gi (NX t w (AV.lst (1 : Nat) (List.map sv ns) Tip.no))) Tip.no)])) ∧ (R Exit.ret [AV.dead, AV.dead, AV.dead, AV.dead, AV.dead, AV.dead, (AV.v (Value.bool false)), AV.dead, AV.dead, AV.dead, AV.dead, AV.dead, AV.dead, AV.dead, AV.dead, AV.dead, AV.dead, AV.dead, AV.dead, AV.dead, AV.dead, AV.dead, AV.dead, AV.dead, AV.dead, AV.dead, AV.dead, AV.dead, AV.dead, AV.dead, AV.dead, AV.dead, AV.dead, AV.dead, AV.dead, AV.dead, AV.dead, AV.dead, AV.dead, AV.dead, AV.dead, AV.dead, AV.dead, AV.dead, AV.dead, AV.dead, AV.dead, AV.dead, AV.dead, AV.dead, AV.dead, AV.dead, AV.dead, AV.dead, AV.dead, AV.dead, AV.dead, AV.dead, AV.dead, AV.dead, AV.dead, AV.dead, AV.dead, AV.dead, AV.dead, AV.dead, AV.dead, AV.dead, AV.dead, AV.dead, AV.dead, AV.dead, AV.dead, AV.dead, AV.dead, AV.dead, AV.dead, AV.dead, AV.dead, AV.dead, AV.dead, AV.dead, AV.dead, AV.dead, AV.dead, AV.dead, AV.dead, AV.dead, AV.dead, AV.dead, AV.dead, AV.dead, AV.dead, AV.dead, AV.dead, AV.dead, AV.dead, AV.dead, AV.dead, AV.dead, AV.dead, AV.dead, AV.dead, AV.dead, AV.dead, AV.dead, AV.dead, AV.dead, AV.dead, AV.dead, AV.dead, AV.dead, AV.dead, AV.dead, AV.dead, AV.dead, AV.dead, AV.dead, AV.dead, AV.dead, AV.dead, AV.dead, AV.dead, AV.dead, AV.dead, AV.dead, AV.dead, AV.dead, AV.dead, AV.dead, AV.dead, AV.dead, AV.dead, AV.dead, AV.dead, AV.dead, AV.dead, AV.dead, AV.dead, AV.dead, AV.dead, AV.dead, AV.dead, AV.dead, AV.dead, AV.dead, AV.dead, AV.dead, AV.dead, AV.dead, AV.dead, AV.dead, AV.dead, AV.dead, AV.dead, AV.dead, AV.dead, AV.dead, AV.dead, AV.dead] (AH.mk [((26 : Nat), [(AV.v (Value.int IntKind.i64 x1)), (AV.v (Value.int IntKind.i64 x2)), (AV.v (Value.int IntKind.i64 x3)), (AV.v (Value.int IntKind.i64 x4)), (AV.v (Value.int IntKind.i64 x5)), (AV.v (Value.int IntKind.i64 x6)), (AV.v (Value.int IntKind.i64 x7)), (AV.v (Value.int IntKind.i64 x8)), (AV.v (Value.int IntKind.i64 x9)), (AV.v (Value.int IntKind.i64 x10)), (AV.v (Value.int IntKind.i64 x11)), (AV.v (Value.int IntKind.i64 x12)), (AV.v (Value.int IntKind.i64 x13)), (AV.lst (4 : Nat) (List.map clA cs) Tip.no)]), ((39 : Nat), [(AV.v (Value.string t)), (AV.v (Value.string w)), (AV.lst (1 : Nat) (List.map sv ns) Tip.no)]), ((26 : Nat), [(AV.v (Value.int IntKind.i64 (HI (0 : Nat) t))), (AV.v (Value.int IntKind.i64 (HI (1 : Nat) t))), (AV.v (Value.int IntKind.i64 (HI (2 : Nat) t))), (AV.v (Value.int IntKind.i64 (HI (3 : Nat) t))), (AV.v (Value.int IntKind.i64 (HI (4 : Nat) t))), (AV.v (Value.int IntKind.i64 (HI (5 : Nat) t))), (AV.v (Value.int IntKind.i64 (HI (6 : Nat) t))), (AV.v (Value.int IntKind.i64 (HI (7 : Nat) t))), (AV.v (Value.int IntKind.i64 (HI (8 : Nat) t))), (AV.v (Value.int IntKind.i64 (HI (9 : Nat) t))), (AV.v (Value.int IntKind.i64 (HI (10 : Nat) t))), (AV.v (Value.int IntKind.i64 (HI (11 : Nat) t))), (AV.v (Value.int IntKind.i64 (HI (12 : Nat) t))), (AV.v (Value.slice none (0 : Nat) (0 : Nat)))]), ((26 : Nat), [(AV.v (Value.int IntKind.i64 (HI (0 : Nat) t))), (AV.v (Value.int IntKind.i64 (HI (1 : Nat) t))), (AV.v (Value.int IntKind.i64 (HI (2 : Nat) t))), (AV.v (Value.int IntKind.i64 (HI (3 : Nat) t))), (AV.v (Value.int IntKind.i64 (HI (4 : Nat) t))), (AV.v (Value.int IntKind.i64 (HI (5 : Nat) t))), (AV.v (Value.int IntKind.i64 (HI (6 : Nat) t))), (AV.v (Value.int IntKind.i64 (HI (7 : Nat) t))), (AV.v (Value.int IntKind.i64 (HI (8 : Nat) t))), (AV.v (Value.int IntKind.i64 (HI (9 : Nat) t))), (AV.v (Value.int IntKind.i64 (HI (10 : Nat) t))), (AV.v (Value.int IntKind.i64 (HI (11 : Nat) t))), (AV.v (Value.int IntKind.i64 (HI (12 : Nat) t))), (AV.v (Value.slice none (0 : Nat) (0 : Nat)))]), ((47 : Nat), [(AV.v (Value.int IntKind.i64 (CI (0 : Nat) t))), (AV.v (Value.int IntKind.i64 (CI (1 : Nat) t))), (AV.v (Value.int IntKind.i64 (CI (2 : Nat) t))), (AV.v (Value.int IntKind.i64 (CI (3 : Nat) t)))]), ((47 : Nat), [(AV.v (Value.int IntKind.i64 (CI (0 : Nat) t))), (AV.v (Value.int IntKind.i64 (CI (1 : Nat) t))), (AV.v (Value.int IntKind.i64 (CI (2 : Nat) t))), (AV.v (Value.int IntKind.i64 (CI (3 : Nat) t)))])] (@List.nil Nat) (0 : Nat) (0 : Nat) true (@List.nil (Prod Nat Bool)) True))))) else (some ((cdb (cdb (cdb (cdb (cdb (cdb (cdb (cdb (cdb (cdb (cdb (cdb True (numOk [(AV.v (Value.string t)), (AV.v (Value.string w)), (AV.lst (1 : Nat) (List.map sv ns) Tip.no)])) (numOk [(AV.v (Value.string t)), (AV.v (Value.string w)), (AV.lst (1 : Nat) (List.map sv ns) Tip.no)])) (decide ((ByteArray.size t) ≤ (100000 : Nat)))) (decide ((ByteArray.size t) ≤ (100000 : Nat)))) (decide ((ByteArray.size t) ≤ (100000 : Nat)))) (decide ((ByteArray.size t) ≤ (100000 : Nat)))) (linOk [(AV.agg [(AV.v (Value.int IntKind.i64 x1)), (AV.v (Value.int IntKind.i64 x2)), (AV.v (Value.int IntKind.i64 x3)), (AV.v (Value.int IntKind.i64 x4)), (AV.v (Value.int IntKind.i64 x5)), (AV.v (Value.int IntKind.i64 x6)), (AV.v (Value.int IntKind.i64 x7)), (AV.v (Value.int IntKind.i64 x8)), (AV.v (Value.int IntKind.i64 x9)), (AV.v (Value.int IntKind.i64 x10)), (AV.v (Value.int IntKind.i64 x11)), (AV.v (Value.int IntKind.i64 x12)), (AV.v (Value.int IntKind.i64 x13)), (AV.lst (4 : Nat) (List.map clA cs) Tip.no)])])) (linOk [(AV.agg [(AV.v (Value.int IntKind.i64 x1)), (AV.v (Value.int IntKind.i64 x2)), (AV.v (Value.int IntKind.i64 x3)), (AV.v (Value.int IntKind.i64 x4)), (AV.v (Value.int IntKind.i64 x5)), (AV.v (Value.int IntKind.i64 x6)), (AV.v (Value.int IntKind.i64 x7)), (AV.v (Value.int IntKind.i64 x8)), (AV.v (Value.int IntKind.i64 x9)), (AV.v (Value.int IntKind.i64 x10)), (AV.v (Value.int IntKind.i64 x11)), (AV.v (Value.int IntKind.i64 x12)), (AV.v (Value.int IntKind.i64 x13)), (AV.lst (4 : Nat) (List.map clA cs) Tip.no)])])) (sameOk [(AV.lst (1 : Nat) (List.map sv (LN (AV.agg [(AV.v (Value.int IntKind.i64 x1)), (AV.v (Value.int IntKind.i64 x2)), (AV.v (Value.int IntKind.i64 x3)), (AV.v (Value.int IntKind.i64 x4)), (AV.v (Value.int IntKind.i64 x5)), (AV.v (Value.int IntKind.i64 x6)), (AV.v (Value.int IntKind.i64 x7)), (AV.v (Value.int IntKind.i64 x8)), (AV.v (Value.int IntKind.i64 x9)), (AV.v (Value.int IntKind.i64 x10)), (AV.v (Value.int IntKind.i64 x11)), (AV.v (Value.int IntKind.i64 x12)), (AV.v (Value.int IntKind.i64 x13)), (AV.lst (4 : Nat) (List.map clA cs) Tip.no)]))) Tip.no), (AV.lst (1 : Nat) (List.map sv (LN (AV.agg [(AV.v (Value.int IntKind.i64 x1)), (AV.v (Value.int IntKind.i64 x2)), (AV.v (Value.int IntKind.i64 x3)), (AV.v (Value.int IntKind.i64 x4)), (AV.v (Value.int IntKind.i64 x5)), (AV.v (Value.int IntKind.i64 x6)), (AV.v (Value.int IntKind.i64 x7)), (AV.v (Value.int IntKind.i64 x8)), (AV.v (Value.int IntKind.i64 x9)), (AV.v (Value.int IntKind.i64 x10)), (AV.v (Value.int IntKind.i64 x11)), (AV.v (Value.int IntKind.i64 x12)), (AV.v (Value.int IntKind.i64 x13)), (AV.lst (4 : Nat) (List.map clA cs) Tip.no)]))) Tip.no)])) (rowOk [(AV.v (Value.string w)), (AV.lst (1 : Nat) (List.map sv ns) Tip.no), (AV.lst (1 : Nat) (List.map gi zs) Tip.no)])) (rowOk [(AV.v (Value.string w)), (AV.lst (1 : Nat) (List.map sv ns) Tip.no), (AV.lst (1 : Nat) (List.map gi zs) Tip.no)])) (sameIOk [(AV.lst (1 : Nat) (List.map gi (NX t w (AV.lst (1 : Nat) (List.map sv ns) Tip.no))) Tip.no), (AV.lst (1 : Nat) (List.map gi (NX t w (AV.lst (1 : Nat) (List.map sv ns) Tip.no))) Tip.no)])) ∧ (R Exit.ret [AV.dead, AV.dead, AV.dead, AV.dead, AV.dead, AV.dead, (AV.v (Value.bool false)), AV.dead, AV.dead, AV.dead, AV.dead, AV.dead, AV.dead, AV.dead, AV.dead, AV.dead, AV.dead, AV.dead, AV.dead, AV.dead, AV.dead, AV.dead, AV.dead, AV.dead, AV.dead, AV.dead, AV.dead, AV.dead, AV.dead, AV.dead, AV.dead, AV.dead, AV.dead, AV.dead, AV.dead, AV.dead, AV.dead, AV.dead, AV.dead, AV.dead, AV.dead, AV.dead, AV.dead, AV.dead, AV.dead, AV.dead, AV.dead, AV.dead, AV.dead, AV.dead, AV.dead, AV.dead, AV.dead, AV.dead, AV.dead, AV.dead, AV.dead, AV.dead, AV.dead, AV.dead, AV.dead, AV.dead, AV.dead, AV.dead, AV.dead, AV.dead, AV.dead, AV.dead, AV.dead, AV.dead, AV.dead, AV.dead, AV.dead, AV.dead, AV.dead, AV.dead, AV.dead, AV.dead, AV.dead, AV.dead, AV.dead, AV.dead, AV.dead, AV.dead, AV.dead, AV.dead, AV.dead, AV.dead, AV.dead, AV.dead, AV.dead, AV.dead, AV.dead, AV.dead, AV.dead, AV.dead, AV.dead, AV.dead, AV.dead, AV.dead, AV.dead, AV.dead, AV.dead, AV.dead, AV.dead, AV.dead, AV.dead, AV.dead, AV.dead, AV.dead, AV.dead, AV.dead, AV.dead, AV.dead, AV.dead, AV.dead, AV.dead, AV.dead, AV.dead, AV.dead, AV.dead, AV.dead, AV.dead, AV.dead, AV.dead, AV.dead, AV.dead, AV.dead, AV.dead, AV.dead, AV.dead, AV.dead, AV.dead, AV.dead, AV.dead, AV.dead, AV.dead, AV.dead, AV.dead, AV.dead, AV.dead, AV.dead, AV.dead, AV.dead, AV.dead, AV.dead, AV.dead, AV.dead, AV.dead, AV.dead, AV.dead, AV.dead, AV.dead, AV.dead, AV.dead, AV.dead, AV.dead, AV.dead, AV.dead, AV.dead] (AH.mk [((26 : Nat), [(AV.v (Value.int IntKind.i64 x1)), (AV.v (Value.int IntKind.i64 x2)), (AV.v (Value.int IntKind.i64 x3)), (AV.v (Value.int IntKind.i64 x4)), (AV.v (Value.int IntKind.i64 x5)), (AV.v (Value.int IntKind.i64 x6)), (AV.v (Value.int IntKind.i64 x7)), (AV.v (Value.int IntKind.i64 x8)), (AV.v (Value.int IntKind.i64 x9)), (AV.v (Value.int IntKind.i64 x10)), (AV.v (Value.int IntKind.i64 x11)), (AV.v (Value.int IntKind.i64 x12)), (AV.v (Value.int IntKind.i64 x13)), (AV.lst (4 : Nat) (List.map clA cs) Tip.no)]), ((39 : Nat), [(AV.v (Value.string t)), (AV.v (Value.string w)), (AV.lst (1 : Nat) (List.map sv ns) Tip.no)]), ((26 : Nat), [(AV.v (Value.int IntKind.i64 (HI (0 : Nat) t))), (AV.v (Value.int IntKind.i64 (HI (1 : Nat) t))), (AV.v (Value.int IntKind.i64 (HI (2 : Nat) t))), (AV.v (Value.int IntKind.i64 (HI (3 : Nat) t))), (AV.v (Value.int IntKind.i64 (HI (4 : Nat) t))), (AV.v (Value.int IntKind.i64 (HI (5 : Nat) t))), (AV.v (Value.int IntKind.i64 (HI (6 : Nat) t))), (AV.v (Value.int IntKind.i64 (HI (7 : Nat) t))), (AV.v (Value.int IntKind.i64 (HI (8 : Nat) t))), (AV.v (Value.int IntKind.i64 (HI (9 : Nat) t))), (AV.v (Value.int IntKind.i64 (HI (10 : Nat) t))), (AV.v (Value.int IntKind.i64 (HI (11 : Nat) t))), (AV.v (Value.int IntKind.i64 (HI (12 : Nat) t))), (AV.v (Value.slice none (0 : Nat) (0 : Nat)))]), ((26 : Nat), [(AV.v (Value.int IntKind.i64 (HI (0 : Nat) t))), (AV.v (Value.int IntKind.i64 (HI (1 : Nat) t))), (AV.v (Value.int IntKind.i64 (HI (2 : Nat) t))), (AV.v (Value.int IntKind.i64 (HI (3 : Nat) t))), (AV.v (Value.int IntKind.i64 (HI (4 : Nat) t))), (AV.v (Value.int IntKind.i64 (HI (5 : Nat) t))), (AV.v (Value.int IntKind.i64 (HI (6 : Nat) t))), (AV.v (Value.int IntKind.i64 (HI (7 : Nat) t))), (AV.v (Value.int IntKind.i64 (HI (8 : Nat) t))), (AV.v (Value.int IntKind.i64 (HI (9 : Nat) t))), (AV.v (Value.int IntKind.i64 (HI (10 : Nat) t))), (AV.v (Value.int IntKind.i64 (HI (11 : Nat) t))), (AV.v (Value.int IntKind.i64 (HI (12 : Nat) t))), (AV.v (Value.slice none (0 : Nat) (0 : Nat)))]), ((47 : Nat), [(AV.v (Value.int IntKind.i64 (CI (0 : Nat) t))), (AV.v (Value.int IntKind.i64 (CI (1 : Nat) t))), (AV.v (Value.int IntKind.i64 (CI (2 : Nat) t))), (AV.v (Value.int IntKind.i64 (CI (3 : Nat) t)))]), ((47 : Nat), [(AV.v (Value.int IntKind.i64 (CI (0 : Nat) t))), (AV.v (Value.int IntKind.i64 (CI (1 : Nat) t))), (AV.v (Value.int IntKind.i64 (CI (2 : Nat) t))), (AV.v (Value.int IntKind.i64 (CI (3 : Nat) t)))])] (@List.nil Nat) (0 : Nat) (0 : Nat) true (@List.nil (Prod Nat Bool)) True))))) else (some ((cdb (cdb (cdb (cdb (cdb (cdb (cdb (cdb (cdb (cdb (cdb (cdb True (numOk [(AV.v (Value.string t)), (AV.v (Value.string w)), (AV.lst (1 : Nat) (List.map sv ns) Tip.no)])) (numOk [(AV.v (Value.string t)), (AV.v (Value.string w)), (AV.lst (1 : Nat) (List.map sv ns) Tip.no)])) (decide ((ByteArray.size t) ≤ (100000 : Nat)))) (decide ((ByteArray.size t) ≤ (100000 : Nat)))) (decide ((ByteArray.size t) ≤ (100000 : Nat)))) (decide ((ByteArray.size t) ≤ (100000 : Nat)))) (linOk [(AV.agg [(AV.v (Value.int IntKind.i64 x1)), (AV.v (Value.int IntKind.i64 x2)), (AV.v (Value.int IntKind.i64 x3)), (AV.v (Value.int IntKind.i64 x4)), (AV.v (Value.int IntKind.i64 x5)), (AV.v (Value.int IntKind.i64 x6)), (AV.v (Value.int IntKind.i64 x7)), (AV.v (Value.int IntKind.i64 x8)), (AV.v (Value.int IntKind.i64 x9)), (AV.v (Value.int IntKind.i64 x10)), (AV.v (Value.int IntKind.i64 x11)), (AV.v (Value.int IntKind.i64 x12)), (AV.v (Value.int IntKind.i64 x13)), (AV.lst (4 : Nat) (List.map clA cs) Tip.no)])])) (linOk [(AV.agg [(AV.v (Value.int IntKind.i64 x1)), (AV.v (Value.int IntKind.i64 x2)), (AV.v (Value.int IntKind.i64 x3)), (AV.v (Value.int IntKind.i64 x4)), (AV.v (Value.int IntKind.i64 x5)), (AV.v (Value.int IntKind.i64 x6)), (AV.v (Value.int IntKind.i64 x7)), (AV.v (Value.int IntKind.i64 x8)), (AV.v (Value.int IntKind.i64 x9)), (AV.v (Value.int IntKind.i64 x10)), (AV.v (Value.int IntKind.i64 x11)), (AV.v (Value.int IntKind.i64 x12)), (AV.v (Value.int IntKind.i64 x13)), (AV.lst (4 : Nat) (List.map clA cs) Tip.no)])])) (sameOk [(AV.lst (1 : Nat) (List.map sv (LN (AV.agg [(AV.v (Value.int IntKind.i64 x1)), (AV.v (Value.int IntKind.i64 x2)), (AV.v (Value.int IntKind.i64 x3)), (AV.v (Value.int IntKind.i64 x4)), (AV.v (Value.int IntKind.i64 x5)), (AV.v (Value.int IntKind.i64 x6)), (AV.v (Value.int IntKind.i64 x7)), (AV.v (Value.int IntKind.i64 x8)), (AV.v (Value.int IntKind.i64 x9)), (AV.v (Value.int IntKind.i64 x10)), (AV.v (Value.int IntKind.i64 x11)), (AV.v (Value.int IntKind.i64 x12)), (AV.v (Value.int IntKind.i64 x13)), (AV.lst (4 : Nat) (List.map clA cs) Tip.no)]))) Tip.no), (AV.lst (1 : Nat) (List.map sv (LN (AV.agg [(AV.v (Value.int IntKind.i64 x1)), (AV.v (Value.int IntKind.i64 x2)), (AV.v (Value.int IntKind.i64 x3)), (AV.v (Value.int IntKind.i64 x4)), (AV.v (Value.int IntKind.i64 x5)), (AV.v (Value.int IntKind.i64 x6)), (AV.v (Value.int IntKind.i64 x7)), (AV.v (Value.int IntKind.i64 x8)), (AV.v (Value.int IntKind.i64 x9)), (AV.v (Value.int IntKind.i64 x10)), (AV.v (Value.int IntKind.i64 x11)), (AV.v (Value.int IntKind.i64 x12)), (AV.v (Value.int IntKind.i64 x13)), (AV.lst (4 : Nat) (List.map clA cs) Tip.no)]))) Tip.no)])) (rowOk [(AV.v (Value.string w)), (AV.lst (1 : Nat) (List.map sv ns) Tip.no), (AV.lst (1 : Nat) (List.map gi zs) Tip.no)])) (rowOk [(AV.v (Value.string w)), (AV.lst (1 : Nat) (List.map sv ns) Tip.no), (AV.lst (1 : Nat) (List.map gi zs) Tip.no)])) (sameIOk [(AV.lst (1 : Nat) (List.map gi (NX t w (AV.lst (1 : Nat) (List.map sv ns) Tip.no))) Tip.no), (AV.lst (1 : Nat) (List.map gi (NX t w (AV.lst (1 : Nat) (List.map sv ns) Tip.no))) Tip.no)])) ∧ (R Exit.ret [AV.dead, AV.dead, AV.dead, AV.dead, AV.dead, AV.dead, (AV.v (Value.bool false)), AV.dead, AV.dead, AV.dead, AV.dead, AV.dead, AV.dead, AV.dead, AV.dead, AV.dead, AV.dead, AV.dead, AV.dead, AV.dead, AV.dead, AV.dead, AV.dead, AV.dead, AV.dead, AV.dead, AV.dead, AV.dead, AV.dead, AV.dead, AV.dead, AV.dead, AV.dead, AV.dead, AV.dead, AV.dead, AV.dead, AV.dead, AV.dead, AV.dead, AV.dead, AV.dead, AV.dead, AV.dead, AV.dead, AV.dead, AV.dead, AV.dead, AV.dead, AV.dead, AV.dead, AV.dead, AV.dead, AV.dead, AV.dead, AV.dead, AV.dead, AV.dead, AV.dead, AV.dead, AV.dead, AV.dead, AV.dead, AV.dead, AV.dead, AV.dead, AV.dead, AV.dead, AV.dead, AV.dead, AV.dead, AV.dead, AV.dead, AV.dead, AV.dead, AV.dead, AV.dead, AV.dead, AV.dead, AV.dead, AV.dead, AV.dead, AV.dead, AV.dead, AV.dead, AV.dead, AV.dead, AV.dead, AV.dead, AV.dead, AV.dead, AV.dead, AV.dead, AV.dead, AV.dead, AV.dead, AV.dead, AV.dead, AV.dead, AV.dead, AV.dead, AV.dead, AV.dead, AV.dead, AV.dead, AV.dead, AV.dead, AV.dead, AV.dead, AV.dead, AV.dead, AV.dead, AV.dead, AV.dead, AV.dead, AV.dead, AV.dead, AV.dead, AV.dead, AV.dead, AV.dead, AV.dead, AV.dead, AV.dead, AV.dead, AV.dead, AV.dead, AV.dead, AV.dead, AV.dead, AV.dead, AV.dead, AV.dead, AV.dead, AV.dead, AV.dead, AV.dead, AV.dead, AV.dead, AV.dead, AV.dead, AV.dead, AV.dead, AV.dead, AV.dead, AV.dead, AV.dead, AV.dead, AV.dead, AV.dead, AV.dead, AV.dead, AV.dead, AV.dead, AV.dead, AV.dead, AV.dead, AV.dead, AV.dead, AV.dead] (AH.mk [((26 : Nat), [(AV.v (Value.int IntKind.i64 x1)), (AV.v (Value.int IntKind.i64 x2)), (AV.v (Value.int IntKind.i64 x3)), (AV.v (Value.int IntKind.i64 x4)), (AV.v (Value.int IntKind.i64 x5)), (AV.v (Value.int IntKind.i64 x6)), (AV.v (Value.int IntKind.i64 x7)), (AV.v (Value.int IntKind.i64 x8)), (AV.v (Value.int IntKind.i64 x9)), (AV.v (Value.int IntKind.i64 x10)), (AV.v (Value.int IntKind.i64 x11)), (AV.v (Value.int IntKind.i64 x12)), (AV.v (Value.int IntKind.i64 x13)), (AV.lst (4 : Nat) (List.map clA cs) Tip.no)]), ((39 : Nat), [(AV.v (Value.string t)), (AV.v (Value.string w)), (AV.lst (1 : Nat) (List.map sv ns) Tip.no)]), ((26 : Nat), [(AV.v (Value.int IntKind.i64 (HI (0 : Nat) t))), (AV.v (Value.int IntKind.i64 (HI (1 : Nat) t))), (AV.v (Value.int IntKind.i64 (HI (2 : Nat) t))), (AV.v (Value.int IntKind.i64 (HI (3 : Nat) t))), (AV.v (Value.int IntKind.i64 (HI (4 : Nat) t))), (AV.v (Value.int IntKind.i64 (HI (5 : Nat) t))), (AV.v (Value.int IntKind.i64 (HI (6 : Nat) t))), (AV.v (Value.int IntKind.i64 (HI (7 : Nat) t))), (AV.v (Value.int IntKind.i64 (HI (8 : Nat) t))), (AV.v (Value.int IntKind.i64 (HI (9 : Nat) t))), (AV.v (Value.int IntKind.i64 (HI (10 : Nat) t))), (AV.v (Value.int IntKind.i64 (HI (11 : Nat) t))), (AV.v (Value.int IntKind.i64 (HI (12 : Nat) t))), (AV.v (Value.slice none (0 : Nat) (0 : Nat)))]), ((26 : Nat), [(AV.v (Value.int IntKind.i64 (HI (0 : Nat) t))), (AV.v (Value.int IntKind.i64 (HI (1 : Nat) t))), (AV.v (Value.int IntKind.i64 (HI (2 : Nat) t))), (AV.v (Value.int IntKind.i64 (HI (3 : Nat) t))), (AV.v (Value.int IntKind.i64 (HI (4 : Nat) t))), (AV.v (Value.int IntKind.i64 (HI (5 : Nat) t))), (AV.v (Value.int IntKind.i64 (HI (6 : Nat) t))), (AV.v (Value.int IntKind.i64 (HI (7 : Nat) t))), (AV.v (Value.int IntKind.i64 (HI (8 : Nat) t))), (AV.v (Value.int IntKind.i64 (HI (9 : Nat) t))), (AV.v (Value.int IntKind.i64 (HI (10 : Nat) t))), (AV.v (Value.int IntKind.i64 (HI (11 : Nat) t))), (AV.v (Value.int IntKind.i64 (HI (12 : Nat) t))), (AV.v (Value.slice none (0 : Nat) (0 : Nat)))]), ((47 : Nat), [(AV.v (Value.int IntKind.i64 (CI (0 : Nat) t))), (AV.v (Value.int IntKind.i64 (CI (1 : Nat) t))), (AV.v (Value.int IntKind.i64 (CI (2 : Nat) t))), (AV.v (Value.int IntKind.i64 (CI (3 : Nat) t)))]), ((47 : Nat), [(AV.v (Value.int IntKind.i64 (CI (0 : Nat) t))), (AV.v (Value.int IntKind.i64 (CI (1 : Nat) t))), (AV.v (Value.int IntKind.i64 (CI (2 : Nat) t))), (AV.v (Value.int IntKind.i64 (CI (3 : Nat) t)))])] (@List.nil Nat) (0 : Nat) (0 : Nat) true (@List.nil (Prod Nat Bool)) True))))) else (some ((cdb (cdb (cdb (cdb (cdb (cdb (cdb (cdb (cdb (cdb (cdb True (numOk [(AV.v (Value.string t)), (AV.v (Value.string w)), (AV.lst (1 : Nat) (List.map sv ns) Tip.no)])) (numOk [(AV.v (Value.string t)), (AV.v (Value.string w)), (AV.lst (1 : Nat) (List.map sv ns) Tip.no)])) (decide ((ByteArray.size t) ≤ (100000 : Nat)))) (decide ((ByteArray.size t) ≤ (100000 : Nat)))) (decide ((ByteArray.size t) ≤ (100000 : Nat)))) (decide ((ByteArray.size t) ≤ (100000 : Nat)))) (linOk [(AV.agg [(AV.v (Value.int IntKind.i64 x1)), (AV.v (Value.int IntKind.i64 x2)), (AV.v (Value.int IntKind.i64 x3)), (AV.v (Value.int IntKind.i64 x4)), (AV.v (Value.int IntKind.i64 x5)), (AV.v (Value.int IntKind.i64 x6)), (AV.v (Value.int IntKind.i64 x7)), (AV.v (Value.int IntKind.i64 x8)), (AV.v (Value.int IntKind.i64 x9)), (AV.v (Value.int IntKind.i64 x10)), (AV.v (Value.int IntKind.i64 x11)), (AV.v (Value.int IntKind.i64 x12)), (AV.v (Value.int IntKind.i64 x13)), (AV.lst (4 : Nat) (List.map clA cs) Tip.no)])])) (linOk [(AV.agg [(AV.v (Value.int IntKind.i64 x1)), (AV.v (Value.int IntKind.i64 x2)), (AV.v (Value.int IntKind.i64 x3)), (AV.v (Value.int IntKind.i64 x4)), (AV.v (Value.int IntKind.i64 x5)), (AV.v (Value.int IntKind.i64 x6)), (AV.v (Value.int IntKind.i64 x7)), (AV.v (Value.int IntKind.i64 x8)), (AV.v (Value.int IntKind.i64 x9)), (AV.v (Value.int IntKind.i64 x10)), (AV.v (Value.int IntKind.i64 x11)), (AV.v (Value.int IntKind.i64 x12)), (AV.v (Value.int IntKind.i64 x13)), (AV.lst (4 : Nat) (List.map clA cs) Tip.no)])])) (sameOk [(AV.lst (1 : Nat) (List.map sv (LN (AV.agg [(AV.v (Value.int IntKind.i64 x1)), (AV.v (Value.int IntKind.i64 x2)), (AV.v (Value.int IntKind.i64 x3)), (AV.v (Value.int IntKind.i64 x4)), (AV.v (Value.int IntKind.i64 x5)), (AV.v (Value.int IntKind.i64 x6)), (AV.v (Value.int IntKind.i64 x7)), (AV.v (Value.int IntKind.i64 x8)), (AV.v (Value.int IntKind.i64 x9)), (AV.v (Value.int IntKind.i64 x10)), (AV.v (Value.int IntKind.i64 x11)), (AV.v (Value.int IntKind.i64 x12)), (AV.v (Value.int IntKind.i64 x13)), (AV.lst (4 : Nat) (List.map clA cs) Tip.no)]))) Tip.no), (AV.lst (1 : Nat) (List.map sv (LN (AV.agg [(AV.v (Value.int IntKind.i64 x1)), (AV.v (Value.int IntKind.i64 x2)), (AV.v (Value.int IntKind.i64 x3)), (AV.v (Value.int IntKind.i64 x4)), (AV.v (Value.int IntKind.i64 x5)), (AV.v (Value.int IntKind.i64 x6)), (AV.v (Value.int IntKind.i64 x7)), (AV.v (Value.int IntKind.i64 x8)), (AV.v (Value.int IntKind.i64 x9)), (AV.v (Value.int IntKind.i64 x10)), (AV.v (Value.int IntKind.i64 x11)), (AV.v (Value.int IntKind.i64 x12)), (AV.v (Value.int IntKind.i64 x13)), (AV.lst (4 : Nat) (List.map clA cs) Tip.no)]))) Tip.no)])) (rowOk [(AV.v (Value.string w)), (AV.lst (1 : Nat) (List.map sv ns) Tip.no), (AV.lst (1 : Nat) (List.map gi zs) Tip.no)])) (rowOk [(AV.v (Value.string w)), (AV.lst (1 : Nat) (List.map sv ns) Tip.no), (AV.lst (1 : Nat) (List.map gi zs) Tip.no)])) ∧ (R Exit.ret [AV.dead, AV.dead, AV.dead, AV.dead, AV.dead, AV.dead, (AV.v (Value.bool false)), AV.dead, AV.dead, AV.dead, AV.dead, AV.dead, AV.dead, AV.dead, AV.dead, AV.dead, AV.dead, AV.dead, AV.dead, AV.dead, AV.dead, AV.dead, AV.dead, AV.dead, AV.dead, AV.dead, AV.dead, AV.dead, AV.dead, AV.dead, AV.dead, AV.dead, AV.dead, AV.dead, AV.dead, AV.dead, AV.dead, AV.dead, AV.dead, AV.dead, AV.dead, AV.dead, AV.dead, AV.dead, AV.dead, AV.dead, AV.dead, AV.dead, AV.dead, AV.dead, AV.dead, AV.dead, AV.dead, AV.dead, AV.dead, AV.dead, AV.dead, AV.dead, AV.dead, AV.dead, AV.dead, AV.dead, AV.dead, AV.dead, AV.dead, AV.dead, AV.dead, AV.dead, AV.dead, AV.dead, AV.dead, AV.dead, AV.dead, AV.dead, AV.dead, AV.dead, AV.dead, AV.dead, AV.dead, AV.dead, AV.dead, AV.dead, AV.dead, AV.dead, AV.dead, AV.dead, AV.dead, AV.dead, AV.dead, AV.dead, AV.dead, AV.dead, AV.dead, AV.dead, AV.dead, AV.dead, AV.dead, AV.dead, AV.dead, AV.dead, AV.dead, AV.dead, AV.dead, AV.dead, AV.dead, AV.dead, AV.dead, AV.dead, AV.dead, AV.dead, AV.dead, AV.dead, AV.dead, AV.dead, AV.dead, AV.dead, AV.dead, AV.dead, AV.dead, AV.dead, AV.dead, AV.dead, AV.dead, AV.dead, AV.dead, AV.dead, AV.dead, AV.dead, AV.dead, AV.dead, AV.dead, AV.dead, AV.dead, AV.dead, AV.dead, AV.dead, AV.dead, AV.dead, AV.dead, AV.dead, AV.dead, AV.dead, AV.dead, AV.dead, AV.dead, AV.dead, AV.dead, AV.dead, AV.dead, AV.dead, AV.dead, AV.dead, AV.dead, AV.dead, AV.dead, AV.dead, AV.dead, AV.dead, AV.dead, AV.dead] (AH.mk [((26 : Nat), [(AV.v (Value.int IntKind.i64 x1)), (AV.v (Value.int IntKind.i64 x2)), (AV.v (Value.int IntKind.i64 x3)), (AV.v (Value.int IntKind.i64 x4)), (AV.v (Value.int IntKind.i64 x5)), (AV.v (Value.int IntKind.i64 x6)), (AV.v (Value.int IntKind.i64 x7)), (AV.v (Value.int IntKind.i64 x8)), (AV.v (Value.int IntKind.i64 x9)), (AV.v (Value.int IntKind.i64 x10)), (AV.v (Value.int IntKind.i64 x11)), (AV.v (Value.int IntKind.i64 x12)), (AV.v (Value.int IntKind.i64 x13)), (AV.lst (4 : Nat) (List.map clA cs) Tip.no)]), ((39 : Nat), [(AV.v (Value.string t)), (AV.v (Value.string w)), (AV.lst (1 : Nat) (List.map sv ns) Tip.no)]), ((26 : Nat), [(AV.v (Value.int IntKind.i64 (HI (0 : Nat) t))), (AV.v (Value.int IntKind.i64 (HI (1 : Nat) t))), (AV.v (Value.int IntKind.i64 (HI (2 : Nat) t))), (AV.v (Value.int IntKind.i64 (HI (3 : Nat) t))), (AV.v (Value.int IntKind.i64 (HI (4 : Nat) t))), (AV.v (Value.int IntKind.i64 (HI (5 : Nat) t))), (AV.v (Value.int IntKind.i64 (HI (6 : Nat) t))), (AV.v (Value.int IntKind.i64 (HI (7 : Nat) t))), (AV.v (Value.int IntKind.i64 (HI (8 : Nat) t))), (AV.v (Value.int IntKind.i64 (HI (9 : Nat) t))), (AV.v (Value.int IntKind.i64 (HI (10 : Nat) t))), (AV.v (Value.int IntKind.i64 (HI (11 : Nat) t))), (AV.v (Value.int IntKind.i64 (HI (12 : Nat) t))), (AV.v (Value.slice none (0 : Nat) (0 : Nat)))]), ((26 : Nat), [(AV.v (Value.int IntKind.i64 (HI (0 : Nat) t))), (AV.v (Value.int IntKind.i64 (HI (1 : Nat) t))), (AV.v (Value.int IntKind.i64 (HI (2 : Nat) t))), (AV.v (Value.int IntKind.i64 (HI (3 : Nat) t))), (AV.v (Value.int IntKind.i64 (HI (4 : Nat) t))), (AV.v (Value.int IntKind.i64 (HI (5 : Nat) t))), (AV.v (Value.int IntKind.i64 (HI (6 : Nat) t))), (AV.v (Value.int IntKind.i64 (HI (7 : Nat) t))), (AV.v (Value.int IntKind.i64 (HI (8 : Nat) t))), (AV.v (Value.int IntKind.i64 (HI (9 : Nat) t))), (AV.v (Value.int IntKind.i64 (HI (10 : Nat) t))), (AV.v (Value.int IntKind.i64 (HI (11 : Nat) t))), (AV.v (Value.int IntKind.i64 (HI (12 : Nat) t))), (AV.v (Value.slice none (0 : Nat) (0 : Nat)))]), ((47 : Nat), [(AV.v (Value.int IntKind.i64 (CI (0 : Nat) t))), (AV.v (Value.int IntKind.i64 (CI (1 : Nat) t))), (AV.v (Value.int IntKind.i64 (CI (2 : Nat) t))), (AV.v (Value.int IntKind.i64 (CI (3 : Nat) t)))]), ((47 : Nat), [(AV.v (Value.int IntKind.i64 (CI (0 : Nat) t))), (AV.v (Value.int IntKind.i64 (CI (1 : Nat) t))), (AV.v (Value.int IntKind.i64 (CI (2 : Nat) t))), (AV.v (Value.int IntKind.i64 (CI (3 : Nat) t)))])] (@List.nil Nat) (0 : Nat) (0 : Nat) true (@List.nil (Prod Nat Bool)) True))))) else (some ((cdb (cdb (cdb (cdb (cdb (cdb (cdb (cdb (cdb True (numOk [(AV.v (Value.string t)), (AV.v (Value.string w)), (AV.lst (1 : Nat) (List.map sv ns) Tip.no)])) (numOk [(AV.v (Value.string t)), (AV.v (Value.string w)), (AV.lst (1 : Nat) (List.map sv ns) Tip.no)])) (decide ((ByteArray.size t) ≤ (100000 : Nat)))) (decide ((ByteArray.size t) ≤ (100000 : Nat)))) (decide ((ByteArray.size t) ≤ (100000 : Nat)))) (decide ((ByteArray.size t) ≤ (100000 : Nat)))) (linOk [(AV.agg [(AV.v (Value.int IntKind.i64 x1)), (AV.v (Value.int IntKind.i64 x2)), (AV.v (Value.int IntKind.i64 x3)), (AV.v (Value.int IntKind.i64 x4)), (AV.v (Value.int IntKind.i64 x5)), (AV.v (Value.int IntKind.i64 x6)), (AV.v (Value.int IntKind.i64 x7)), (AV.v (Value.int IntKind.i64 x8)), (AV.v (Value.int IntKind.i64 x9)), (AV.v (Value.int IntKind.i64 x10)), (AV.v (Value.int IntKind.i64 x11)), (AV.v (Value.int IntKind.i64 x12)), (AV.v (Value.int IntKind.i64 x13)), (AV.lst (4 : Nat) (List.map clA cs) Tip.no)])])) (linOk [(AV.agg [(AV.v (Value.int IntKind.i64 x1)), (AV.v (Value.int IntKind.i64 x2)), (AV.v (Value.int IntKind.i64 x3)), (AV.v (Value.int IntKind.i64 x4)), (AV.v (Value.int IntKind.i64 x5)), (AV.v (Value.int IntKind.i64 x6)), (AV.v (Value.int IntKind.i64 x7)), (AV.v (Value.int IntKind.i64 x8)), (AV.v (Value.int IntKind.i64 x9)), (AV.v (Value.int IntKind.i64 x10)), (AV.v (Value.int IntKind.i64 x11)), (AV.v (Value.int IntKind.i64 x12)), (AV.v (Value.int IntKind.i64 x13)), (AV.lst (4 : Nat) (List.map clA cs) Tip.no)])])) (sameOk [(AV.lst (1 : Nat) (List.map sv (LN (AV.agg [(AV.v (Value.int IntKind.i64 x1)), (AV.v (Value.int IntKind.i64 x2)), (AV.v (Value.int IntKind.i64 x3)), (AV.v (Value.int IntKind.i64 x4)), (AV.v (Value.int IntKind.i64 x5)), (AV.v (Value.int IntKind.i64 x6)), (AV.v (Value.int IntKind.i64 x7)), (AV.v (Value.int IntKind.i64 x8)), (AV.v (Value.int IntKind.i64 x9)), (AV.v (Value.int IntKind.i64 x10)), (AV.v (Value.int IntKind.i64 x11)), (AV.v (Value.int IntKind.i64 x12)), (AV.v (Value.int IntKind.i64 x13)), (AV.lst (4 : Nat) (List.map clA cs) Tip.no)]))) Tip.no), (AV.lst (1 : Nat) (List.map sv (LN (AV.agg [(AV.v (Value.int IntKind.i64 x1)), (AV.v (Value.int IntKind.i64 x2)), (AV.v (Value.int IntKind.i64 x3)), (AV.v (Value.int IntKind.i64 x4)), (AV.v (Value.int IntKind.i64 x5)), (AV.v (Value.int IntKind.i64 x6)), (AV.v (Value.int IntKind.i64 x7)), (AV.v (Value.int IntKind.i64 x8)), (AV.v (Value.int IntKind.i64 x9)), (AV.v (Value.int IntKind.i64 x10)), (AV.v (Value.int IntKind.i64 x11)), (AV.v (Value.int IntKind.i64 x12)), (AV.v (Value.int IntKind.i64 x13)), (AV.lst (4 : Nat) (List.map clA cs) Tip.no)]))) Tip.no)])) ∧ (R Exit.ret [AV.dead, AV.dead, AV.dead, AV.dead, AV.dead, AV.dead, (AV.v (Value.bool false)), AV.dead, AV.dead, AV.dead, AV.dead, AV.dead, AV.dead, AV.dead, AV.dead, AV.dead, AV.dead, AV.dead, AV.dead, AV.dead, AV.dead, AV.dead, AV.dead, AV.dead, AV.dead, AV.dead, AV.dead, AV.dead, AV.dead, AV.dead, AV.dead, AV.dead, AV.dead, AV.dead, AV.dead, AV.dead, AV.dead, AV.dead, AV.dead, AV.dead, AV.dead, AV.dead, AV.dead, AV.dead, AV.dead, AV.dead, AV.dead, AV.dead, AV.dead, AV.dead, AV.dead, AV.dead, AV.dead, AV.dead, AV.dead, AV.dead, AV.dead, AV.dead, AV.dead, AV.dead, AV.dead, AV.dead, AV.dead, AV.dead, AV.dead, AV.dead, AV.dead, AV.dead, AV.dead, AV.dead, AV.dead, AV.dead, AV.dead, AV.dead, AV.dead, AV.dead, AV.dead, AV.dead, AV.dead, AV.dead, AV.dead, AV.dead, AV.dead, AV.dead, AV.dead, AV.dead, AV.dead, AV.dead, AV.dead, AV.dead, AV.dead, AV.dead, AV.dead, AV.dead, AV.dead, AV.dead, AV.dead, AV.dead, AV.dead, AV.dead, AV.dead, AV.dead, AV.dead, AV.dead, AV.dead, AV.dead, AV.dead, AV.dead, AV.dead, AV.dead, AV.dead, AV.dead, AV.dead, AV.dead, AV.dead, AV.dead, AV.dead, AV.dead, AV.dead, AV.dead, AV.dead, AV.dead, AV.dead, AV.dead, AV.dead, AV.dead, AV.dead, AV.dead, AV.dead, AV.dead, AV.dead, AV.dead, AV.dead, AV.dead, AV.dead, AV.dead, AV.dead, AV.dead, AV.dead, AV.dead, AV.dead, AV.dead, AV.dead, AV.dead, AV.dead, AV.dead, AV.dead, AV.dead, AV.dead, AV.dead, AV.dead, AV.dead, AV.dead, AV.dead, AV.dead, AV.dead, AV.dead, AV.dead, AV.dead, AV.dead] (AH.mk [((26 : Nat), [(AV.v (Value.int IntKind.i64 x1)), (AV.v (Value.int IntKind.i64 x2)), (AV.v (Value.int IntKind.i64 x3)), (AV.v (Value.int IntKind.i64 x4)), (AV.v (Value.int IntKind.i64 x5)), (AV.v (Value.int IntKind.i64 x6)), (AV.v (Value.int IntKind.i64 x7)), (AV.v (Value.int IntKind.i64 x8)), (AV.v (Value.int IntKind.i64 x9)), (AV.v (Value.int IntKind.i64 x10)), (AV.v (Value.int IntKind.i64 x11)), (AV.v (Value.int IntKind.i64 x12)), (AV.v (Value.int IntKind.i64 x13)), (AV.lst (4 : Nat) (List.map clA cs) Tip.no)]), ((39 : Nat), [(AV.v (Value.string t)), (AV.v (Value.string w)), (AV.lst (1 : Nat) (List.map sv ns) Tip.no)]), ((26 : Nat), [(AV.v (Value.int IntKind.i64 (HI (0 : Nat) t))), (AV.v (Value.int IntKind.i64 (HI (1 : Nat) t))), (AV.v (Value.int IntKind.i64 (HI (2 : Nat) t))), (AV.v (Value.int IntKind.i64 (HI (3 : Nat) t))), (AV.v (Value.int IntKind.i64 (HI (4 : Nat) t))), (AV.v (Value.int IntKind.i64 (HI (5 : Nat) t))), (AV.v (Value.int IntKind.i64 (HI (6 : Nat) t))), (AV.v (Value.int IntKind.i64 (HI (7 : Nat) t))), (AV.v (Value.int IntKind.i64 (HI (8 : Nat) t))), (AV.v (Value.int IntKind.i64 (HI (9 : Nat) t))), (AV.v (Value.int IntKind.i64 (HI (10 : Nat) t))), (AV.v (Value.int IntKind.i64 (HI (11 : Nat) t))), (AV.v (Value.int IntKind.i64 (HI (12 : Nat) t))), (AV.v (Value.slice none (0 : Nat) (0 : Nat)))]), ((26 : Nat), [(AV.v (Value.int IntKind.i64 (HI (0 : Nat) t))), (AV.v (Value.int IntKind.i64 (HI (1 : Nat) t))), (AV.v (Value.int IntKind.i64 (HI (2 : Nat) t))), (AV.v (Value.int IntKind.i64 (HI (3 : Nat) t))), (AV.v (Value.int IntKind.i64 (HI (4 : Nat) t))), (AV.v (Value.int IntKind.i64 (HI (5 : Nat) t))), (AV.v (Value.int IntKind.i64 (HI (6 : Nat) t))), (AV.v (Value.int IntKind.i64 (HI (7 : Nat) t))), (AV.v (Value.int IntKind.i64 (HI (8 : Nat) t))), (AV.v (Value.int IntKind.i64 (HI (9 : Nat) t))), (AV.v (Value.int IntKind.i64 (HI (10 : Nat) t))), (AV.v (Value.int IntKind.i64 (HI (11 : Nat) t))), (AV.v (Value.int IntKind.i64 (HI (12 : Nat) t))), (AV.v (Value.slice none (0 : Nat) (0 : Nat)))]), ((47 : Nat), [(AV.v (Value.int IntKind.i64 (CI (0 : Nat) t))), (AV.v (Value.int IntKind.i64 (CI (1 : Nat) t))), (AV.v (Value.int IntKind.i64 (CI (2 : Nat) t))), (AV.v (Value.int IntKind.i64 (CI (3 : Nat) t)))]), ((47 : Nat), [(AV.v (Value.int IntKind.i64 (CI (0 : Nat) t))), (AV.v (Value.int IntKind.i64 (CI (1 : Nat) t))), (AV.v (Value.int IntKind.i64 (CI (2 : Nat) t))), (AV.v (Value.int IntKind.i64 (CI (3 : Nat) t)))])] (@List.nil Nat) (0 : Nat) (0 : Nat) true (@List.nil (Prod Nat Bool)) True))))) := by kernel_rfl
end Go.Proofs.YtkienkbaiejdmaaDoor.AE
namespace Go.Proofs.YtkienkbaiejdmaaDoor.AE
open Go.RowKit
theorem rows_sl : slotsOf 4 = 160 := by kernel_rfl
theorem rows_re : resultsOf 4 = [.tmp 6] := by kernel_rfl
theorem rows_fl : (flatten (bodyOf 4)).drop 4 = .block 0 (.loop (sub (bodyOf 4) [1, 1, 0, 1, 0, 0])) :: (flatten (bodyOf 4)).drop 5 := by kernel_rfl
theorem ssX_refl (x : AV) : ssX x x = true := by
  unfold ssX svcE
  simp
theorem sameIX_refl (x : AV) : sameIX x x = true := by
  unfold sameIX; simp
theorem sameX_refl (x : AV) : sameX x x = true := by
  unfold sameX; simp
theorem nmX_len (s w : ByteArray) (ns : List ByteArray) : (nmX s w (.lst 1 (ns.map sv) .no)).length ≤ ns.length := by
  unfold nmX
  rw [strsX_lst]
  unfold numX
  split
  · rw [List.length_map]
    unfold prsN
    rw [List.length_zip]
    exact Nat.min_le_left _ _
  · exact Nat.zero_le _
section
variable {tS tR : TypeId} {pS pR : Value}
set_option maxHeartbeats 1000000 in
set_option maxRecDepth 100000 in
theorem fs_crows {x1 x2 x3 x4 x5 x6 x7 x8 x9 x10 x11 x12 x13 : Int} {cs : List Cl} {t w : ByteArray} {ns : List ByteArray} {zs : List Int} (hx : ∀ z ∈ [x1, x2, x3, x4, x5, x6, x7, x8, x9, x10, x11, x12, x13], w64 z) (hc : ∀ c ∈ cs, clOk c) (hz : ∀ z ∈ zs, w64 z) : Fs Tryd.prog (roN tS pS tR pR) 4 [svcA x1 x2 x3 x4 x5 x6 x7 x8 x9 x10 x11 x12 x13 cs, lineA t w ns, .lst 1 (zs.map gi) .no] (hp [] []) fun r _ => r = .v (.bool true) := by
  refine Fs.of_body (has_fn (by kernel_rfl)) ?_
  rw [rows_sl, rows_re]
  have pre := fun R => cr_pre linX headI hdK callI caK ssX rowX nmX nmB sameIX sameX tS tR pS pR x1 x2 x3 x4 x5 x6 x7 x8 x9 x10 x11 x12 x13 cs t w ns zs R
  rw [cll, svl, gil] at pre
  refine Tr.of_flat (Trl.split 4 (Trl.of_code knownR (ne_nil (by kernel_rfl)) (pre _) (holds_bif (fun _ => ⟨trivial, .inr rfl, trivial, rfl⟩) fun h1 => holds_bif (fun _ => ⟨trivial, .inr rfl, trivial, rfl⟩) fun h2 => holds_bif (fun _ => ⟨trivial, .inr rfl, trivial, rfl⟩) fun h3 => holds_bif (fun _ => ⟨trivial, .inr rfl, trivial, rfl⟩) fun h4 => holds_bif (fun _ => ⟨trivial, .inr rfl, trivial, rfl⟩) fun h5 => ⟨trivial, ?_⟩)))
  have h1 : cs.length ≤ 20 := by have := of_decide_eq_false h1; omega
  have h2 : t.size ≤ 400 := by have := of_decide_eq_false h2; omega
  have h3 : w.size ≤ 400 := by have := of_decide_eq_false h3; omega
  have h4 : ns.length ≤ 20 := by have := of_decide_eq_false h4; omega
  have h5 : zs.length ≤ 20 := by have := of_decide_eq_false h5; omega
  show Trl _ _ ((flatten (bodyOf 4)).drop 4) _ _ _
  rw [rows_fl]
  refine Tr.keepL [2, 3, 4, 7] rfl ?_
  show Trl _ _ _ (rowsA zs ((0 : Nat) : Int)) (rowsH x1 x2 x3 x4 x5 x6 x7 x8 x9 x10 x11 x12 x13 cs t w ns) _
  let I : Nat → List AV → AH → Prop := fun m act H => ∃ i : Nat, i ≤ ns.length ∧ m = ns.length - i ∧ act = rowsA zs (i : Int) ∧ H = rowsH x1 x2 x3 x4 x5 x6 x7 x8 x9 x10 x11 x12 x13 cs t w ns ∧ ∀ n ∈ ns.take i, n.size ≤ 400
  refine Tr.block (Tr.loop I ?_ (m := ns.length) ⟨0, Nat.zero_le _, rfl, rfl, rfl, fun n h => by cases h⟩)
  rintro m act H ⟨i, hi, rfl, rfl, rfl, hp⟩
  have body := fun R => cr_in linX headI hdK callI caK ssX rowX nmX nmB sameIX sameX tS tR pS pR x1 x2 x3 x4 x5 x6 x7 x8 x9 x10 x11 x12 x13 cs t w ns zs i R
  rw [svl, inc64 i (by omega)] at body
  refine Tr.of_code knownR (body _) (holds_bif (fun k1 => ?_) fun k1 => ⟨trivial, ?_⟩)
  · have k1 : i < ns.length := by have := of_decide_eq_true k1; omega
    have g1 : (0 : Int) ≤ (i : Int) ∧ (ns.map sv)[Int.toNat (i : Int)]? = some (.v (.string ns[i])) := sv_el k1
    have g2 : exStr ((ns.map sv).getD (Int.toNat (i : Int)) .dead) = ns[i] := sv_ex k1
    rw [g2]
    refine holds_bif (fun _ => ⟨cds_of trivial g1, .inr rfl, trivial, rfl⟩) fun k2 => ⟨cds_of trivial g1, ns.length - (i + 1), by omega, i + 1, k1, rfl, rfl, rfl, ?_⟩
    have k2 : ns[i].size ≤ 400 := by have := of_decide_eq_false k2; omega
    intro n hn
    rw [take_snoc k1, List.mem_append] at hn
    rcases hn with hn | hn
    · exact hp n hn
    · have : n = ns[i] := by simpa using hn
      rw [this]; exact k2
  · have hi : i = ns.length := by have := of_decide_eq_false k1; omega
    rw [hi, List.take_length] at hp
    show Trl _ _ ((flatten (bodyOf 4)).drop 5) _ _ _
    have o1 : numOk [.v (.string t), .v (.string w), .lst 1 (ns.map sv) .no] = true := by
      show (match strsA? (.lst 1 (ns.map sv) .no) with | some ns => decide (t.size ≤ 100000) && decide (ns.length ≤ 1000) && ns.all (fun n => decide (n.size ≤ 1000)) | none => false) = true
      rw [strsA_lst]
      simp only [Bool.and_eq_true, decide_eq_true_eq, List.all_eq_true]
      exact ⟨⟨by omega, by omega⟩, fun n hn => by have := hp n hn; omega⟩
    have o2 : decide (t.size ≤ 100000) = true := decide_eq_true (by omega)
    have o3 : linOk [svcA x1 x2 x3 x4 x5 x6 x7 x8 x9 x10 x11 x12 x13 cs] = true := by
      show (match svc? (svcA x1 x2 x3 x4 x5 x6 x7 x8 x9 x10 x11 x12 x13 cs) with | some p => p.1.all in64 && (p.2.all clOkB && decide (p.2.length ≤ 1000)) | none => false) = true
      rw [svc_A]
      simp only [Bool.and_eq_true, decide_eq_true_eq, List.all_eq_true]
      refine ⟨fun z hz => in64_to (hx z hz), fun c h => ?_, by omega⟩
      obtain ⟨k1, k2, k3, k4⟩ := hc c h
      unfold clOkB
      rw [in64_to k1, in64_to k2, in64_to k3, in64_to k4]; rfl
    have o4 : sameOk [.lst 1 ((linX (svcA x1 x2 x3 x4 x5 x6 x7 x8 x9 x10 x11 x12 x13 cs)).map sv) .no, .lst 1 ((linX (svcA x1 x2 x3 x4 x5 x6 x7 x8 x9 x10 x11 x12 x13 cs)).map sv) .no] = true := by
      refine sameOk_of _ _ _ _ ?_
      unfold linX
      rw [svcN_some (svc_A x1 x2 x3 x4 x5 x6 x7 x8 x9 x10 x11 x12 x13 cs), svcK_some (svc_A x1 x2 x3 x4 x5 x6 x7 x8 x9 x10 x11 x12 x13 cs)]
      unfold linesL
      rw [List.length_cons, List.length_map]
      show cs.length + 1 ≤ _
      omega
    have o5 : rowOk [.v (.string w), .lst 1 (ns.map sv) .no, .lst 1 (zs.map gi) .no] = true := rowOk_of ⟨by omega, fun n hn => by have := hp n hn; omega, by omega, by omega, hz⟩ _ _
    have o6 : sameIOk [.lst 1 ((nmX t w (.lst 1 (ns.map sv) .no)).map gi) .no, .lst 1 ((nmX t w (.lst 1 (ns.map sv) .no)).map gi) .no] = true := sameIOk_of _ _ _ _ (by have := nmX_len t w ns; omega)
    dsimp only [svcA, gi] at o3 o4
    have post := fun R => cr_post linX headI hdK callI caK ssX rowX nmX nmB sameIX sameX tS tR pS pR x1 x2 x3 x4 x5 x6 x7 x8 x9 x10 x11 x12 x13 cs t w ns zs i R
    refine Trl.of_code knownR (ne_nil (by kernel_rfl)) (post _) (holds_bif (fun _ => holds_bif (fun _ => holds_bif (fun _ => holds_bif (fun _ => holds_bif (fun _ => holds_bif (fun _ => holds_bif (fun _ => holds_bif (fun _ => ⟨?_, .inr rfl, trivial, rfl⟩) (fun h => ?_)) (fun h => ?_)) (fun h => ?_)) (fun h => ?_)) (fun h => ?_)) (fun h => ?_)) (fun h => ?_)) (fun h => ?_))
    · repeat' first
        | with_reducible exact trivial
        | with_reducible refine cdb_iff.2 ⟨?_, ?_⟩
        | with_reducible exact o1
        | with_reducible exact o2
        | with_reducible exact o3
        | with_reducible exact o4
        | with_reducible exact o5
        | with_reducible exact o6
        | exact rfl
        | fail
    · exact absurd h (by simp)
    · exact absurd h (by simp)
    · exact absurd h (by simp)
    · exact absurd h (by rw [ssX_refl]; simp)
    · exact absurd h (by simp)
    · exact absurd h (by rw [sameIX_refl]; simp)
    · exact absurd h (by simp)
    · exact absurd h (by rw [sameX_refl]; simp)
end
end Go.Proofs.YtkienkbaiejdmaaDoor.AE
namespace Go.Proofs.YtkienkbaiejdmaaDoor
open Go.RowKit
theorem strs_in {H : Type} {enc : TypeId × Value → H} {w : World} {t e : TypeId} {a : Option Addr} {len cap : Nat} {d : DataW H} {p : List MemPlace}
    (ht : Tryd.prog.underlying t = some (.slice e)) (he : Tryd.prog.underlying e = some .string) (hC : Tryd.prog.cellsOf e = 1)
    (h : DataW.Trod enc Tryd.prog w 0 (fun _ => true) true t (.slice a len cap) d p) :
    ∃ l : List ByteArray, l.length = len ∧ RowAt w a (l.map Value.string) ∧ len ≤ cap ∧ cap ≤ maxLen ∧ ∀ s ∈ l, s.size ≤ maxLen := by
  obtain ⟨fuel, hf⟩ := h
  rcases Deep.open_slice ht hf with ⟨hcs, _⟩ | ⟨x, l, c, m, n, D, Pl, hcs, hb, hl, hm, hmm, hx, hi⟩
  · simp [Value.cells] at hcs
    obtain ⟨rfl, rfl, rfl⟩ := hcs
    exact ⟨[], rfl, RowAt.nil_ _ _, Nat.le_refl _, Nat.zero_le _, by simp⟩
  · simp [Value.cells] at hcs
    obtain ⟨rfl, rfl, rfl⟩ := hcs
    have hmc : m = cap := by simpa using hmm
    subst hmc
    have cell : ∀ i, i < len → ∃ s : ByteArray, w.cell? (x.add i) = some (.string s) ∧ s.size ≤ maxLen := by
      intro i hil
      obtain ⟨cs', hc, ht'⟩ := hi i (by omega)
      rw [hC, Nat.mul_one] at hc
      obtain ⟨_, hcl, hat⟩ := World.cells?_some hc
      obtain ⟨z, hz, _, hwf⟩ := DataW.trod_string he ht'
      subst hz
      have h0 := hat 0 (by simp)
      refine ⟨z, ?_, hwf⟩
      simpa [Addr.add] using h0
    let f : Nat → ByteArray := fun i => if h : i < len then Classical.choose (cell i h) else ByteArray.empty
    have hf : ∀ i, i < len → w.cell? (x.add i) = some (.string (f i)) ∧ (f i).size ≤ maxLen := fun i h => by
      show _ = some (Value.string (if h : i < len then Classical.choose (cell i h) else ByteArray.empty)) ∧ (if h : i < len then Classical.choose (cell i h) else ByteArray.empty).size ≤ maxLen
      rw [dif_pos h]
      exact Classical.choose_spec (cell i h)
    refine ⟨(List.range len).map f, by simp, fun hne => ?_, hl, hm, fun s hs => ?_⟩
    · have hlen0 : 0 < len := by
        rcases Nat.eq_zero_or_pos len with h | h
        · subst h; simp at hne
        · exact h
      have h0 := (hf 0 hlen0).1
      obtain ⟨b, off, spot⟩ := x
      have hspot : spot = none := by simpa [Addr.add] using World.cell?_spot h0
      subst hspot
      refine ⟨b, off, rfl, fun j u hu => ?_⟩
      have hj : j < len := by have := (List.getElem?_eq_some_iff.1 hu).1; simpa using this
      have h1 := (hf j hj).1
      rw [List.getElem?_map, List.getElem?_map, List.getElem?_range hj] at hu
      cases hu
      cases j with
      | zero => simpa [Addr.add] using h1
      | succ j => simpa [Addr.add] using h1
    · obtain ⟨i, hi, rfl⟩ := List.mem_map.1 hs
      exact (hf i (List.mem_range.1 hi)).2
end Go.Proofs.YtkienkbaiejdmaaDoor
namespace Go.Proofs.YtkienkbaiejdmaaDoor
open Go.RowKit AE
theorem list3v (l : List Value) (h : l.length = 3) : ∃ a b c, l = [a, b, c] := by
  match l, h with
  | [a, b, c], _ => exact ⟨_, _, _, rfl⟩
theorem strs_rv {w : World} {a : Option Addr} {l : List ByteArray} {cap : Nat} (h : RowAt w a (l.map Value.string)) (hc : l.length ≤ cap) (hx : cap ≤ maxLen) : RV (G0 w) w (.lst 1 (l.map sv) .no) (.slice a l.length cap) := by
  have := row_rv h (fun u hu => by obtain ⟨z, _, rfl⟩ := List.mem_map.1 hu; rfl) (fun u hu => by obtain ⟨z, _, rfl⟩ := List.mem_map.1 hu; rfl) (by rw [List.length_map]; exact hc) hx
  rwa [List.map_map, List.length_map] at this
set_option maxRecDepth 100000 in
theorem line_in {H : Type} {enc : TypeId × Value → H} {w : World} {base : Nat} {v : Value} {d : DataW H} {p : List MemPlace}
    (hv : Value.okWide Tryd.prog w .any base 39 v) (h : DataW.Trod enc Tryd.prog w 0 (fun _ => true) true 39 v d p) :
    ∃ (t u : ByteArray) (ns : List ByteArray), RV (G0 w) w (lineA t u ns) v := by
  obtain ⟨cs, rfl, hsz⟩ := WideShapes.okWide_struct Tryd.underlying39 hv
  have hsz : cs.toList.length = 3 := by rw [Array.length_toList, hsz]; kernel_rfl
  obtain ⟨fuel, hf⟩ := h
  obtain ⟨xs, m, _, _, _, hxl, hx⟩ := DataW.trod_struct Tryd.underlying39 hf
  have hcc : (Value.agg cs).cells.toList = cs.toList := rfl
  rw [hcc] at hx
  obtain ⟨a1, a2, a3, hl⟩ := list3v cs.toList hsz
  rw [hl] at hx
  have c3 : Tryd.prog.cellsOf 9 = 1 := by kernel_rfl
  have c24 : Tryd.prog.cellsOf 37 = 1 := by kernel_rfl
  have g0 : DataW.trod enc Tryd.prog w 0 (fun _ => true) true m 9 (List.take (Tryd.prog.cellsOf 9) (List.drop 0 [a1, a2, a3])) = xs[0]? := hx 0 _ rfl
  rw [c3, List.getElem?_eq_getElem (by rw [hxl]; decide)] at g0
  have g0 : DataW.trod enc Tryd.prog w 0 (fun _ => true) true m 9 [a1] = some _ := g0
  obtain ⟨t, q0, _, w1⟩ := DataW.trod_string Tryd.underlying9 g0
  have q0 := (List.cons.inj q0).1
  have g1 : DataW.trod enc Tryd.prog w 0 (fun _ => true) true m 9 (List.take (Tryd.prog.cellsOf 9) (List.drop 1 [a1, a2, a3])) = xs[1]? := hx 1 _ rfl
  rw [c3, List.getElem?_eq_getElem (by rw [hxl]; decide)] at g1
  have g1 : DataW.trod enc Tryd.prog w 0 (fun _ => true) true m 9 [a2] = some _ := g1
  obtain ⟨u, q1, _, w2⟩ := DataW.trod_string Tryd.underlying9 g1
  have q1 := (List.cons.inj q1).1
  have g2 : DataW.trod enc Tryd.prog w 0 (fun _ => true) true m 37 (List.take (Tryd.prog.cellsOf 37) (List.drop 2 [a1, a2, a3])) = xs[2]? := hx 2 _ rfl
  rw [c24, List.getElem?_eq_getElem (by rw [hxl]; decide)] at g2
  have g2 : DataW.trod enc Tryd.prog w 0 (fun _ => true) true m 37 [a3] = some _ := g2
  subst q0 q1
  obtain ⟨a, len, cap, rfl⟩ : ∃ a len cap, a3 = .slice a len cap := by
    rcases Deep.open_slice Tryd.underlying37 g2 with ⟨hcs, _⟩ | ⟨x, l, c, m', n, D, Pl, hcs, _⟩
    · exact ⟨_, _, _, (List.cons.inj hcs).1⟩
    · exact ⟨_, _, _, (List.cons.inj hcs).1⟩
  obtain ⟨ns, rfl, hr, lc, cm, wf⟩ := strs_in Tryd.underlying37 Tryd.underlying9 (by kernel_rfl) ⟨m, g2⟩
  refine ⟨t, u, ns, ?_⟩
  refine .agg ?_
  rw [hl]
  exact .cons (.v _) (.cons (.v _) (.cons (strs_rv hr lc cm) .nil))
end Go.Proofs.YtkienkbaiejdmaaDoor
namespace Go.Proofs.YtkienkbaiejdmaaDoor.AE
open Go.RowKit
theorem laid_mem {P : Program} {W : World} : ∀ {l : List (String × DataW Unit)} {ps : List MemPlace}, DataW.LaidVars P W l ps → ∀ {n : String} {d : DataW Unit}, (n, d) ∈ l →
    ∃ g t cs fuel p, P.globalNamed n = some g ∧ (P.globals[g]?).map (·.type) = some t ∧ W.var? P n = some cs ∧ DataW.trod (fun _ => ()) P W 0 (fun _ => true) false fuel t cs.toList = some (d, p) ∧ ∀ x ∈ MemPlace.row ⟨g, 0, none⟩ cs.size, x ∈ ps
  | [], _, _, _, _, h => by cases h
  | (n0, d0) :: l, ps, hv, n, d, h => by
    obtain ⟨g, t, cs, fuel, p, q, h1, h2, h3, h4, h5, h6⟩ := hv
    rcases List.mem_cons.1 h with h | h
    · cases h
      exact ⟨g, t, cs, fuel, p, h1, h2, h3, h4, fun x hx => by rw [h6]; simp [hx]⟩
    · obtain ⟨g', t', cs', fuel', p', k1, k2, k3, k4, k5⟩ := laid_mem h5 h
      exact ⟨g', t', cs', fuel', p', k1, k2, k3, k4, fun x hx => by rw [h6]; simp [k5 x hx]⟩
/-- The block of a variable on the list. -/
theorem laid_block {P : Program} {W : World} {l : List (String × DataW Unit)} (hL : laidMet P l W) {n : String} {d : DataW Unit} (h : (n, d) ∈ l) {g : Nat} (hg : P.globalNamed n = some g) :
    ∃ t cs fuel p, (P.globals[g]?).map (·.type) = some t ∧ W.var? P n = some cs ∧ DataW.trod (fun _ => ()) P W 0 (fun _ => true) false fuel t cs.toList = some (d, p) ∧ (0 < cs.size → ∃ e, W.heap[g]? = some (.cells cs e (0, 0))) := by
  obtain ⟨ps, hv, _, hc⟩ := hL
  obtain ⟨g', t, cs, fuel, p, h1, h2, h3, h4, h5⟩ := laid_mem hv h
  rw [hg] at h1
  cases h1
  refine ⟨t, cs, fuel, p, h2, h3, h4, fun h0 => ?_⟩
  have hm : MemPlace.cell g 0 ∈ ps := h5 _ (by unfold MemPlace.row; simp; exact h0)
  obtain ⟨⟨c, e, he⟩, _⟩ := hc g 0 hm
  have hv3 := h3
  unfold World.var? at hv3
  rw [hg] at hv3
  simp only [Option.bind_some, he, Option.some.injEq] at hv3
  rw [hv3] at he
  exact ⟨e, he⟩
/-- A table of numbers, wherever it stands on the list. -/
theorem laid_table {P : Program} {W : World} {l : List (String × DataW Unit)} (hL : laidMet P l W) {name : String} {k : IntKind} {zs : List Int} (h : (name, Lib.tabData k zs) ∈ l) {g : Nat} {t e : TypeId} {n : Nat} (hg : P.globalNamed name = some g)
    (hty : (P.globals[g]?).map (·.type) = some t) (ht : P.underlying t = some (.array n e)) (he : P.underlying e = some (.int k)) (hce : P.cellsOf e = 1) (hct : P.cellsOf t = n) (h0 : 0 < zs.length) :
    (∀ (j : Nat) (u : Value), (zs.map fun z => Value.int k z)[j]? = some u → (G0 W).prot g j ∧ W.cell? ⟨g, j, none⟩ = some u) ∧ ¬ (G0 W).own g ∧ ∃ t, W.heap[g]? = some (.cells (zs.map fun z => Value.int k z).toArray t (0, 0)) := by
  obtain ⟨t', cs, fuel, p, h2, h3, h4, h5⟩ := laid_block hL h hg
  rw [hty] at h2
  cases h2
  have hcs := Lib.cells_of_tab ht he hce hct h4
  have hsz : cs.size = zs.length := by
    have := congrArg List.length hcs
    simpa using this
  obtain ⟨e', hb⟩ := h5 (by omega)
  have ha : cs = (zs.map fun z => Value.int k z).toArray := by rw [← hcs]
  rw [ha] at hb
  refine ⟨fun j u hu => ⟨?_, ?_⟩, fun o => o, e', hb⟩
  · show g < W.heap.size
    by_cases hlt : g < W.heap.size
    · exact hlt
    · rw [Array.getElem?_eq_none (by omega)] at hb; cases hb
  · simp only [World.cell?, hb]
    simpa using hu
theorem trod_iface {P : Program} {W : World} {t m : _} (hu : P.underlying t = some (.interface m)) {fuel : Nat} {cs : List Value} {nm : String} {d : DataW Unit} {p : List MemPlace} (h : DataW.trod (fun _ => ()) P W 0 (fun _ => true) false fuel t cs = some (.iface nm d, p)) : ∃ u v, cs = [.iface u v] := by
  cases fuel with
  | zero => simp [DataW.trod] at h
  | succ fuel =>
    rcases cs with _ | ⟨c, _ | ⟨c2, r⟩⟩
    · simp [DataW.trod, hu] at h
    · cases c <;> first
        | exact ⟨_, _, rfl⟩
        | (simp [DataW.trod, hu] at h)
    · cases c <;> simp [DataW.trod, hu] at h
/-- A variable that holds an error. -/
theorem laid_error {P : Program} {W : World} {l : List (String × DataW Unit)} (hL : laidMet P l W) {name nm : String} {d : DataW Unit} (h : (name, .iface nm d) ∈ l) {g : Nat} {t m : _} (hg : P.globalNamed name = some g)
    (hty : (P.globals[g]?).map (·.type) = some t) (ht : P.underlying t = some (.interface m)) :
    ∃ u v, (∀ (j : Nat) (x : Value), [Value.iface u v][j]? = some x → (G0 W).prot g j ∧ W.cell? ⟨g, j, none⟩ = some x) ∧ ¬ (G0 W).own g ∧ ∃ t, W.heap[g]? = some (.cells [Value.iface u v].toArray t (0, 0)) := by
  obtain ⟨t', cs, fuel, p, h2, h3, h4, h5⟩ := laid_block hL h hg
  rw [hty] at h2
  cases h2
  obtain ⟨u, v, hcs⟩ := trod_iface ht h4
  have ha : cs = [Value.iface u v].toArray := by rw [← hcs]
  have hsz : 0 < cs.size := by rw [ha]; exact Nat.zero_lt_one
  obtain ⟨e', hb⟩ := h5 hsz
  rw [ha] at hb
  refine ⟨u, v, fun j x hx => ⟨?_, ?_⟩, fun o => o, e', hb⟩
  · show g < W.heap.size
    by_cases hlt : g < W.heap.size
    · exact hlt
    · rw [Array.getElem?_eq_none (by omega)] at hb; cases hb
  · simp only [World.cell?, hb]
    simpa using hx
end Go.Proofs.YtkienkbaiejdmaaDoor.AE
namespace Go.Proofs.YtkienkbaiejdmaaDoor.AE
open Go.RowKit
theorem cells_of_strs {P : Program} {w : World} {base : Nat} {sp : Nat → Bool} {held : Bool} {fuel : Nat} {t e : TypeId} {n : Nat} {cs : List Value} {zs : List (List UInt8)} {p : List MemPlace}
    (ht : P.underlying t = some (.array n e)) (he : P.underlying e = some .string) (hce : P.cellsOf e = 1) (hct : P.cellsOf t = n)
    (h : DataW.trod (fun _ => ()) P w base sp held fuel t cs = some (.agg (zs.map fun z => .lit (.string z)), p)) : cs = zs.map fun z => Value.string ⟨z.toArray⟩ := by
  cases fuel with
  | zero => simp [DataW.trod] at h
  | succ fuel =>
    simp only [DataW.trod, ht, hce, hct, Nat.mul_one] at h
    split at h
    · rename_i hl
      obtain ⟨xs, hm, hx⟩ := Option.map_eq_some_iff.1 h
      have hxs : xs.map (·.1) = zs.map fun z => (DataW.lit (.string z) : DataW Unit) := by
        have := congrArg Prod.fst hx
        simpa using this
      have hxl : xs.length = n := by simpa using Lib.mapM_length hm
      have hzl : zs.length = n := by
        have := congrArg List.length hxs
        simp at this
        omega
      apply List.ext_getElem?
      intro i
      by_cases hi : i < n
      · obtain ⟨b, hb, hf⟩ := Lib.mapM_at hm i i (by simp [hi])
        obtain ⟨s, hc, rfl, _⟩ := DataW.trod_string he hf
        have h1 : cs[i]? = some (.string s) := by
          have := congrArg (·[0]?) hc
          simpa [List.getElem?_take, List.getElem?_drop] using this
        have h2 : (xs.map (·.1))[i]? = some (DataW.lit (.string s.data.toList) : DataW Unit) := by simp [hb]
        rw [hxs] at h2
        simp only [List.getElem?_map, Option.map_eq_some_iff, DataW.lit.injEq, Lit.string.injEq] at h2
        obtain ⟨z', hz', h3⟩ := h2
        have h4 : s = ⟨z'.toArray⟩ := by
          rw [h3]
        rw [h1, List.getElem?_map, hz', h4]; rfl
      · rw [List.getElem?_eq_none (by omega), List.getElem?_eq_none (by simp; omega)]
    · cases h
theorem laid_strs {P : Program} {W : World} {l : List (String × DataW Unit)} (hL : laidMet P l W) {name : String} {zs : List (List UInt8)} (h : (name, .agg (zs.map fun z => .lit (.string z))) ∈ l) {g : Nat} {t e : TypeId} {n : Nat} (hg : P.globalNamed name = some g)
    (hty : (P.globals[g]?).map (·.type) = some t) (ht : P.underlying t = some (.array n e)) (he : P.underlying e = some .string) (hce : P.cellsOf e = 1) (hct : P.cellsOf t = n) (h0 : 0 < zs.length) :
    (∀ (j : Nat) (u : Value), (zs.map fun z => Value.string ⟨z.toArray⟩)[j]? = some u → (G0 W).prot g j ∧ W.cell? ⟨g, j, none⟩ = some u) ∧ ¬ (G0 W).own g ∧ ∃ t, W.heap[g]? = some (.cells (zs.map fun z => Value.string ⟨z.toArray⟩).toArray t (0, 0)) := by
  obtain ⟨t', cs, fuel, p, h2, h3, h4, h5⟩ := laid_block hL h hg
  rw [hty] at h2
  cases h2
  have hcs := cells_of_strs ht he hce hct h4
  have hsz : cs.size = zs.length := by
    have := congrArg List.length hcs
    simpa using this
  obtain ⟨e', hb⟩ := h5 (by omega)
  have ha : cs = (zs.map fun z => Value.string ⟨z.toArray⟩).toArray := by rw [← hcs]
  rw [ha] at hb
  refine ⟨fun j u hu => ⟨?_, ?_⟩, fun o => o, e', hb⟩
  · show g < W.heap.size
    by_cases hlt : g < W.heap.size
    · exact hlt
    · rw [Array.getElem?_eq_none (by omega)] at hb; cases hb
  · simp only [World.cell?, hb]
    simpa using hu
end Go.Proofs.YtkienkbaiejdmaaDoor.AE
namespace Go.Proofs.YtkienkbaiejdmaaDoor
open Go.RowKit
set_option maxRecDepth 100000 in
theorem arr_cells {H : Type} {enc : TypeId × Value → H} {w : World} {base : Nat} {k : IntKind} {n : Nat} {t e : TypeId} {v : Value} {d : DataW H} {p : List MemPlace}
    (ht : Tryd.prog.underlying t = some (.array n e)) (he : Tryd.prog.underlying e = some (.int k)) (hC : Tryd.prog.cellsOf e = 1) (hT : Tryd.prog.cellsOf t = n)
    (hv : Value.okWide Tryd.prog w .any base t v) (h : DataW.Trod enc Tryd.prog w 0 (fun _ => true) true t v d p) :
    ∃ cs : Array Value, v = .agg cs ∧ cs.size = n ∧ ∀ i, i < n → ∃ z : Int, cs[i]? = some (.int k z) ∧ (Lit.int k z).wf = true := by
  obtain ⟨cs, rfl, hsz⟩ : ∃ cs, v = .agg cs ∧ cs.size = Tryd.prog.cellsOf t := by
    simp only [Value.okWide, ht] at hv
    obtain ⟨cs, h1, h2, _⟩ := hv
    exact ⟨cs, h1, h2⟩
  rw [hT] at hsz
  refine ⟨cs, rfl, hsz, fun i hi => ?_⟩
  obtain ⟨fuel, hf⟩ := h
  obtain ⟨xs, m, _, _, _, hxl, hx⟩ := DataW.trod_array ht hf
  have h1 := hx i hi
  rw [hC, Nat.mul_one] at h1
  have hil : i < cs.toList.length := by simpa [hsz] using hi
  have hdrop : ((Value.agg cs).cells.toList.drop i).take 1 = [cs.toList[i]] := by
    show (cs.toList.drop i).take 1 = _
    rw [List.drop_eq_getElem_cons hil]
    rfl
  rw [hdrop, List.getElem?_eq_getElem (by omega)] at h1
  obtain ⟨z, hz, _, hwf⟩ := DataW.trod_int he h1
  refine ⟨z, ?_, hwf⟩
  simp at hz
  rw [Array.getElem?_eq_getElem (by omega), hz]
set_option maxRecDepth 100000 in
theorem arr2_of {k : IntKind} {cs : Array Value} (hs : cs.size = 2) (h : ∀ i, i < 2 → ∃ z : Int, cs[i]? = some (.int k z) ∧ (Lit.int k z).wf = true) :
    ∃ a b : Int, cs = #[.int k a, .int k b] ∧ (Lit.int k a).wf = true ∧ (Lit.int k b).wf = true := by
  obtain ⟨a, ha, wa⟩ := h 0 (by omega)
  obtain ⟨b, hb, wb⟩ := h 1 (by omega)
  refine ⟨a, b, ?_, wa, wb⟩
  apply Array.ext_getElem?
  intro i
  match i with
  | 0 => rw [ha]; rfl
  | 1 => rw [hb]; rfl
  | i + 2 => rw [Array.getElem?_eq_none (by omega), Array.getElem?_eq_none (by simp)]
set_option maxRecDepth 100000 in
theorem arr3_of {k : IntKind} {cs : Array Value} (hs : cs.size = 3) (h : ∀ i, i < 3 → ∃ z : Int, cs[i]? = some (.int k z) ∧ (Lit.int k z).wf = true) :
    ∃ a b c : Int, cs = #[.int k a, .int k b, .int k c] ∧ (Lit.int k a).wf = true ∧ (Lit.int k b).wf = true ∧ (Lit.int k c).wf = true := by
  obtain ⟨a, ha, wa⟩ := h 0 (by omega)
  obtain ⟨b, hb, wb⟩ := h 1 (by omega)
  obtain ⟨c, hc, wc⟩ := h 2 (by omega)
  refine ⟨a, b, c, ?_, wa, wb, wc⟩
  apply Array.ext_getElem?
  intro i
  match i with
  | 0 => rw [ha]; rfl
  | 1 => rw [hb]; rfl
  | 2 => rw [hc]; rfl
  | i + 3 => rw [Array.getElem?_eq_none (by omega), Array.getElem?_eq_none (by simp)]
set_option maxRecDepth 100000 in
theorem arr2_in {H : Type} {enc : TypeId × Value → H} {w : World} {base : Nat} {k : IntKind} {t e : TypeId} {v : Value} {d : DataW H} {p : List MemPlace}
    (ht : Tryd.prog.underlying t = some (.array 2 e)) (he : Tryd.prog.underlying e = some (.int k)) (hC : Tryd.prog.cellsOf e = 1) (hT : Tryd.prog.cellsOf t = 2)
    (hv : Value.okWide Tryd.prog w .any base t v) (h : DataW.Trod enc Tryd.prog w 0 (fun _ => true) true t v d p) :
    ∃ a b : Int, v = .agg #[.int k a, .int k b] ∧ (Lit.int k a).wf = true ∧ (Lit.int k b).wf = true := by
  obtain ⟨cs, rfl, hs, hc⟩ := arr_cells ht he hC hT hv h
  obtain ⟨a, b, rfl, wa, wb⟩ := arr2_of hs hc
  exact ⟨a, b, rfl, wa, wb⟩
set_option maxRecDepth 100000 in
theorem arr3_in {H : Type} {enc : TypeId × Value → H} {w : World} {base : Nat} {k : IntKind} {t e : TypeId} {v : Value} {d : DataW H} {p : List MemPlace}
    (ht : Tryd.prog.underlying t = some (.array 3 e)) (he : Tryd.prog.underlying e = some (.int k)) (hC : Tryd.prog.cellsOf e = 1) (hT : Tryd.prog.cellsOf t = 3)
    (hv : Value.okWide Tryd.prog w .any base t v) (h : DataW.Trod enc Tryd.prog w 0 (fun _ => true) true t v d p) :
    ∃ a b c : Int, v = .agg #[.int k a, .int k b, .int k c] ∧ (Lit.int k a).wf = true ∧ (Lit.int k b).wf = true ∧ (Lit.int k c).wf = true := by
  obtain ⟨cs, rfl, hs, hc⟩ := arr_cells ht he hC hT hv h
  obtain ⟨a, b, c, rfl, wa, wb, wc⟩ := arr3_of hs hc
  exact ⟨a, b, c, rfl, wa, wb, wc⟩
set_option maxRecDepth 100000 in
/-- A struct of ints by value: its cells. -/
theorem str_cells {H : Type} {enc : TypeId × Value → H} {w : World} {base : Nat} {fs : Array Field} {t : TypeId} {v : Value} {d : DataW H} {p : List MemPlace}
    (ht : Tryd.prog.underlying t = some (.struct fs)) (hone : Deep.oneCellFields Tryd.prog fs = true) (hT : Tryd.prog.cellsOf t = fs.size) (hint : fs.toList.all (fun f => f.type == 3) = true)
    (hv : Value.okWide Tryd.prog w .any base t v) (h : DataW.Trod enc Tryd.prog w 0 (fun _ => true) true t v d p) :
    ∃ f : Nat → Int, v = .agg ((List.range fs.size).map fun i => Value.int .i64 (f i)).toArray ∧ ∀ i, i < fs.size → (Lit.int .i64 (f i)).wf = true := by
  obtain ⟨cs, rfl, hsz⟩ := WideShapes.okWide_struct ht hv
  rw [hT] at hsz
  obtain ⟨fuel, hf⟩ := h
  obtain ⟨xs, m, _, _, _, hxl, hx⟩ := DataW.trod_struct ht hf
  have cell : ∀ i, i < fs.size → ∃ z : Int, cs[i]? = some (.int .i64 z) ∧ (Lit.int .i64 z).wf = true := by
    intro i hi
    have hfi : fs[i]? = some fs[i] := Array.getElem?_eq_getElem hi
    obtain ⟨ho, hk⟩ := Deep.hone_of hone i _ hfi
    have h1 := hx i _ hfi
    have hty : fs[i].type = 3 := by
      have := List.all_eq_true.1 hint fs[i] (by simp)
      simpa using this
    have hil : i < cs.toList.length := by simpa [hsz] using hi
    have hdrop : ((Value.agg cs).cells.toList.drop i).take 1 = [cs.toList[i]] := by
      show (cs.toList.drop i).take 1 = _
      rw [List.drop_eq_getElem_cons hil]
      rfl
    rw [ho, hk, hdrop, hty, List.getElem?_eq_getElem (by omega)] at h1
    obtain ⟨z, hz, _, hwf⟩ := DataW.trod_int Tryd.underlying3 h1
    refine ⟨z, ?_, hwf⟩
    simp at hz
    rw [Array.getElem?_eq_getElem (by omega), hz]
  refine ⟨fun i => if h : i < fs.size then Classical.choose (cell i h) else 0, ?_, fun i hi => ?_⟩
  · congr 1
    apply Array.ext_getElem?
    intro i
    by_cases hi : i < fs.size
    · have h1 := (Classical.choose_spec (cell i hi)).1
      rw [h1]
      simp [hi]
    · rw [Array.getElem?_eq_none (by omega)]
      symm
      apply Array.getElem?_eq_none
      simp
      omega
  · dsimp only
    rw [dif_pos hi]
    exact (Classical.choose_spec (cell i hi)).2
set_option maxRecDepth 100000 in
theorem str7_in {H : Type} {enc : TypeId × Value → H} {w : World} {base : Nat} {fs : Array Field} {t : TypeId} {v : Value} {d : DataW H} {p : List MemPlace}
    (ht : Tryd.prog.underlying t = some (.struct fs)) (hone : Deep.oneCellFields Tryd.prog fs = true) (hT : Tryd.prog.cellsOf t = fs.size) (hint : fs.toList.all (fun f => f.type == 3) = true) (h7 : fs.size = 7)
    (hv : Value.okWide Tryd.prog w .any base t v) (h : DataW.Trod enc Tryd.prog w 0 (fun _ => true) true t v d p) :
    ∃ f : Nat → Int, v = .agg #[.int .i64 (f 0), .int .i64 (f 1), .int .i64 (f 2), .int .i64 (f 3), .int .i64 (f 4), .int .i64 (f 5), .int .i64 (f 6)] ∧ ∀ i, i < 7 → (Lit.int .i64 (f i)).wf = true := by
  obtain ⟨f, hv', hw⟩ := str_cells ht hone hT hint hv h
  rw [h7] at hv' hw
  exact ⟨f, hv', hw⟩
set_option maxRecDepth 100000 in
theorem str2_in {H : Type} {enc : TypeId × Value → H} {w : World} {base : Nat} {fs : Array Field} {t : TypeId} {v : Value} {d : DataW H} {p : List MemPlace}
    (ht : Tryd.prog.underlying t = some (.struct fs)) (hone : Deep.oneCellFields Tryd.prog fs = true) (hT : Tryd.prog.cellsOf t = fs.size) (hint : fs.toList.all (fun f => f.type == 3) = true) (h7 : fs.size = 2)
    (hv : Value.okWide Tryd.prog w .any base t v) (h : DataW.Trod enc Tryd.prog w 0 (fun _ => true) true t v d p) :
    ∃ f : Nat → Int, v = .agg #[.int .i64 (f 0), .int .i64 (f 1)] ∧ ∀ i, i < 2 → (Lit.int .i64 (f i)).wf = true := by
  obtain ⟨f, hv', hw⟩ := str_cells ht hone hT hint hv h
  rw [h7] at hv' hw
  exact ⟨f, hv', hw⟩
set_option maxRecDepth 100000 in
theorem str3_in {H : Type} {enc : TypeId × Value → H} {w : World} {base : Nat} {fs : Array Field} {t : TypeId} {v : Value} {d : DataW H} {p : List MemPlace}
    (ht : Tryd.prog.underlying t = some (.struct fs)) (hone : Deep.oneCellFields Tryd.prog fs = true) (hT : Tryd.prog.cellsOf t = fs.size) (hint : fs.toList.all (fun f => f.type == 3) = true) (h7 : fs.size = 3)
    (hv : Value.okWide Tryd.prog w .any base t v) (h : DataW.Trod enc Tryd.prog w 0 (fun _ => true) true t v d p) :
    ∃ f : Nat → Int, v = .agg #[.int .i64 (f 0), .int .i64 (f 1), .int .i64 (f 2)] ∧ ∀ i, i < 3 → (Lit.int .i64 (f i)).wf = true := by
  obtain ⟨f, hv', hw⟩ := str_cells ht hone hT hint hv h
  rw [h7] at hv' hw
  exact ⟨f, hv', hw⟩
set_option maxRecDepth 100000 in
theorem str4_in {H : Type} {enc : TypeId × Value → H} {w : World} {base : Nat} {fs : Array Field} {t : TypeId} {v : Value} {d : DataW H} {p : List MemPlace}
    (ht : Tryd.prog.underlying t = some (.struct fs)) (hone : Deep.oneCellFields Tryd.prog fs = true) (hT : Tryd.prog.cellsOf t = fs.size) (hint : fs.toList.all (fun f => f.type == 3) = true) (h7 : fs.size = 4)
    (hv : Value.okWide Tryd.prog w .any base t v) (h : DataW.Trod enc Tryd.prog w 0 (fun _ => true) true t v d p) :
    ∃ f : Nat → Int, v = .agg #[.int .i64 (f 0), .int .i64 (f 1), .int .i64 (f 2), .int .i64 (f 3)] ∧ ∀ i, i < 4 → (Lit.int .i64 (f i)).wf = true := by
  obtain ⟨f, hv', hw⟩ := str_cells ht hone hT hint hv h
  rw [h7] at hv' hw
  exact ⟨f, hv', hw⟩
set_option maxRecDepth 100000 in
theorem str5_in {H : Type} {enc : TypeId × Value → H} {w : World} {base : Nat} {fs : Array Field} {t : TypeId} {v : Value} {d : DataW H} {p : List MemPlace}
    (ht : Tryd.prog.underlying t = some (.struct fs)) (hone : Deep.oneCellFields Tryd.prog fs = true) (hT : Tryd.prog.cellsOf t = fs.size) (hint : fs.toList.all (fun f => f.type == 3) = true) (h7 : fs.size = 5)
    (hv : Value.okWide Tryd.prog w .any base t v) (h : DataW.Trod enc Tryd.prog w 0 (fun _ => true) true t v d p) :
    ∃ f : Nat → Int, v = .agg #[.int .i64 (f 0), .int .i64 (f 1), .int .i64 (f 2), .int .i64 (f 3), .int .i64 (f 4)] ∧ ∀ i, i < 5 → (Lit.int .i64 (f i)).wf = true := by
  obtain ⟨f, hv', hw⟩ := str_cells ht hone hT hint hv h
  rw [h7] at hv' hw
  exact ⟨f, hv', hw⟩
set_option maxRecDepth 100000 in
theorem str6_in {H : Type} {enc : TypeId × Value → H} {w : World} {base : Nat} {fs : Array Field} {t : TypeId} {v : Value} {d : DataW H} {p : List MemPlace}
    (ht : Tryd.prog.underlying t = some (.struct fs)) (hone : Deep.oneCellFields Tryd.prog fs = true) (hT : Tryd.prog.cellsOf t = fs.size) (hint : fs.toList.all (fun f => f.type == 3) = true) (h7 : fs.size = 6)
    (hv : Value.okWide Tryd.prog w .any base t v) (h : DataW.Trod enc Tryd.prog w 0 (fun _ => true) true t v d p) :
    ∃ f : Nat → Int, v = .agg #[.int .i64 (f 0), .int .i64 (f 1), .int .i64 (f 2), .int .i64 (f 3), .int .i64 (f 4), .int .i64 (f 5)] ∧ ∀ i, i < 6 → (Lit.int .i64 (f i)).wf = true := by
  obtain ⟨f, hv', hw⟩ := str_cells ht hone hT hint hv h
  rw [h7] at hv' hw
  exact ⟨f, hv', hw⟩
set_option maxRecDepth 100000 in
theorem str8_in {H : Type} {enc : TypeId × Value → H} {w : World} {base : Nat} {fs : Array Field} {t : TypeId} {v : Value} {d : DataW H} {p : List MemPlace}
    (ht : Tryd.prog.underlying t = some (.struct fs)) (hone : Deep.oneCellFields Tryd.prog fs = true) (hT : Tryd.prog.cellsOf t = fs.size) (hint : fs.toList.all (fun f => f.type == 3) = true) (h7 : fs.size = 8)
    (hv : Value.okWide Tryd.prog w .any base t v) (h : DataW.Trod enc Tryd.prog w 0 (fun _ => true) true t v d p) :
    ∃ f : Nat → Int, v = .agg #[.int .i64 (f 0), .int .i64 (f 1), .int .i64 (f 2), .int .i64 (f 3), .int .i64 (f 4), .int .i64 (f 5), .int .i64 (f 6), .int .i64 (f 7)] ∧ ∀ i, i < 8 → (Lit.int .i64 (f i)).wf = true := by
  obtain ⟨f, hv', hw⟩ := str_cells ht hone hT hint hv h
  rw [h7] at hv' hw
  exact ⟨f, hv', hw⟩
set_option maxRecDepth 100000 in
theorem str9_in {H : Type} {enc : TypeId × Value → H} {w : World} {base : Nat} {fs : Array Field} {t : TypeId} {v : Value} {d : DataW H} {p : List MemPlace}
    (ht : Tryd.prog.underlying t = some (.struct fs)) (hone : Deep.oneCellFields Tryd.prog fs = true) (hT : Tryd.prog.cellsOf t = fs.size) (hint : fs.toList.all (fun f => f.type == 3) = true) (h7 : fs.size = 9)
    (hv : Value.okWide Tryd.prog w .any base t v) (h : DataW.Trod enc Tryd.prog w 0 (fun _ => true) true t v d p) :
    ∃ f : Nat → Int, v = .agg #[.int .i64 (f 0), .int .i64 (f 1), .int .i64 (f 2), .int .i64 (f 3), .int .i64 (f 4), .int .i64 (f 5), .int .i64 (f 6), .int .i64 (f 7), .int .i64 (f 8)] ∧ ∀ i, i < 9 → (Lit.int .i64 (f i)).wf = true := by
  obtain ⟨f, hv', hw⟩ := str_cells ht hone hT hint hv h
  rw [h7] at hv' hw
  exact ⟨f, hv', hw⟩
set_option maxRecDepth 100000 in
theorem str10_in {H : Type} {enc : TypeId × Value → H} {w : World} {base : Nat} {fs : Array Field} {t : TypeId} {v : Value} {d : DataW H} {p : List MemPlace}
    (ht : Tryd.prog.underlying t = some (.struct fs)) (hone : Deep.oneCellFields Tryd.prog fs = true) (hT : Tryd.prog.cellsOf t = fs.size) (hint : fs.toList.all (fun f => f.type == 3) = true) (h7 : fs.size = 10)
    (hv : Value.okWide Tryd.prog w .any base t v) (h : DataW.Trod enc Tryd.prog w 0 (fun _ => true) true t v d p) :
    ∃ f : Nat → Int, v = .agg #[.int .i64 (f 0), .int .i64 (f 1), .int .i64 (f 2), .int .i64 (f 3), .int .i64 (f 4), .int .i64 (f 5), .int .i64 (f 6), .int .i64 (f 7), .int .i64 (f 8), .int .i64 (f 9)] ∧ ∀ i, i < 10 → (Lit.int .i64 (f i)).wf = true := by
  obtain ⟨f, hv', hw⟩ := str_cells ht hone hT hint hv h
  rw [h7] at hv' hw
  exact ⟨f, hv', hw⟩
end Go.Proofs.YtkienkbaiejdmaaDoor
namespace Go.Proofs.YtkienkbaiejdmaaDoor
open Go.RowKit AE
theorem AE.ro28r_of {W : World} (h : laidMet Tryd.prog Rows.confRowsRow.laid W) : ∃ tS pS tR pR, Ro (roN tS pS tR pR) (G0 W) W := by
  obtain ⟨tS, pS, hS⟩ := laid_error h (name := "strconv.ErrSyntax") (nm := "*errors.errorString") (d := _) (List.mem_of_getElem? (i := 4) rfl) (g := 1) (by kernel_rfl) (t := 80) (by kernel_rfl) Tryd.underlying80
  obtain ⟨tR, pR, hR⟩ := laid_error h (name := "strconv.ErrRange") (nm := "*errors.errorString") (d := _) (List.mem_of_getElem? (i := 3) rfl) (g := 2) (by kernel_rfl) (t := 80) (by kernel_rfl) Tryd.underlying80
  have hT := laid_table h (name := "internal/strconv.uint64pow10") (k := .u64) (zs := Lib.pow10Tab) (List.mem_of_getElem? (i := 2) (by kernel_rfl)) (g := 3) (by kernel_rfl) (t := 127) (by kernel_rfl) Tryd.underlying127 Tryd.underlying104 (by kernel_rfl) (by kernel_rfl) (by decide)
  have hK := laid_strs h (name := "lockkeeper/knob.names") (zs := [[108, 111, 119], [104, 105, 103, 104], [99, 117, 116], [108, 105, 102, 116], [102, 108, 111, 111, 114], [116, 117, 114, 110], [100, 119, 101, 108, 108]]) (List.mem_of_getElem? (i := 5) (by kernel_rfl)) (g := 0) (by kernel_rfl) (t := 83) (by kernel_rfl) Tryd.underlying83 Tryd.underlying9 (by kernel_rfl) (by kernel_rfl) (by decide)
  refine ⟨tS, pS, tR, pR, fun b cs hb => ?_⟩
  unfold roN roM at hb
  split at hb
  · rename_i e; subst e; cases hb; exact hK
  · unfold ro05 at hb
    split at hb
    · cases hb; exact hT
    · cases hb; exact hS
    · cases hb; exact hR
    · cases hb
theorem w_ConfRows (w : World) (hR : ∃ tS pS tR pR, Ro (roN tS pS tR pR) (G0 w) w) {v : Value} (x1 x2 x3 x4 x5 x6 x7 x8 x9 x10 x11 x12 x13 : Int) (cs : List Cl) (hv : RV (G0 w) w (svcA x1 x2 x3 x4 x5 x6 x7 x8 x9 x10 x11 x12 x13 cs) v) (hx : ∀ z ∈ [x1, x2, x3, x4, x5, x6, x7, x8, x9, x10, x11, x12, x13], w64 z) (hc : ∀ c ∈ cs, clOk c)
    {v2 : Value} (t u : ByteArray) (ns : List ByteArray) (hv2 : RV (G0 w) w (lineA t u ns) v2) (a : Option Addr) (cap : Nat) (zs : List Int) (hz : Ints w .i64 a zs) (_ : zs.length ≤ maxLen) (hw : ∀ n ∈ zs, (Lit.int .i64 n).wf = true) (hcz : zs.length ≤ cap) (hm : cap ≤ maxLen) :
    Calls Tryd.prog 4 #[v, v2, .slice a zs.length cap] w fun e w' => e = .returned (.bool true) ∧ Below w.heap.size w w' := by
  obtain ⟨tS, pS, tR, pR, hR⟩ := hR
  exact law_true (fs_crows hx hc fun z h => wf64 (hw z h)) w _ hR (.cons hv (.cons hv2 (.cons (ints_rv hz hcz hm) .nil)))
end Go.Proofs.YtkienkbaiejdmaaDoor
