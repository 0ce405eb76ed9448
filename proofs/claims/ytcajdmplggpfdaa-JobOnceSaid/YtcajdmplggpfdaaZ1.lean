
/-
  Layer 32: a row that is sorted, and made compact: what is known; Done, as trees.
-/
import Derived.Test.YtcajdmplggpfdaaAEForget
import Derived.Test.YtcajdmplggpfdaaAEList
import Derived.Lib.SlicesCompact
import Derived.Test.YtcajdmplggpfdaaAEFrzV
import Derived.Test.YtcajdmplggpfdaaShelf
import Derived.Sort.OwnSortedInts
import Derived.Test.YtcajdmplggpfdaaAECall
import Derived.Test.YtcajdmplggpfdaaAEAll
namespace Go.Proofs.Ytcajdmplggpfdaa.AE
open Go.RowKit
def rhA (x : List Int) (id i : Int) : List AV := [.lst 1 (x.map gi) .no, gi id, .dead, .dead, .dead, gi i] ++ List.replicate 12 .dead
theorem rh_pre (x : List Int) (id : Int) (R : Exit → List AV → AH → Prop) : codeL nro (fun _ => false) (fun _ => none) 8 ((flatten (bodyOf 17)).take 2) ([.lst 1 (x.map gi) .no, gi id] ++ List.replicate 16 (.v undef)) (hp [] []) (kp [0, 1, 4, 5] R) =
    (some (True ∧ (R Exit.normal [(AV.lst (1 : Nat) (List.map gi x) Tip.no), (AV.v (Value.int IntKind.i64 id)), AV.dead, AV.dead, (AV.v (Value.bool false)), (AV.v (Value.int IntKind.i64 (0 : Int))), AV.dead, AV.dead, AV.dead, AV.dead, AV.dead, AV.dead, AV.dead, AV.dead, AV.dead, AV.dead, AV.dead, AV.dead] (AH.mk (@List.nil (Prod Go.TypeId (List AV))) (@List.nil Nat) (0 : Nat) (0 : Nat) true (@List.nil (Prod Nat Bool)) True)))) := by kernel_rfl
theorem rh_in (x : List Int) (id i : Int) (R : Exit → List AV → AH → Prop) : code nro (fun _ => false) (fun _ => none) 8 (sub (bodyOf 17) [1, 0, 1, 0, 0]) (rhA x id i) (hp [] []) (kp [0, 1, 4, 5] R) =
    (bif (decide (i < ((List.length (List.map gi x)) : Int))) then (bif ((exInt (List.getD (List.map gi x) (Int.toNat i) AV.dead)) == id) then (some ((cds True (elemB Try.prog (3 : Nat) (List.map gi x) i) (((0 : Int) ≤ i) ∧ (((List.map gi x)[(Int.toNat i)]?) = (some (AV.v (Value.int IntKind.i64 (exInt (List.getD (List.map gi x) (Int.toNat i) AV.dead)))))))) ∧ (R Exit.ret [(AV.lst (1 : Nat) (List.map gi x) Tip.no), (AV.v (Value.int IntKind.i64 id)), AV.dead, AV.dead, (AV.v (Value.bool true)), (AV.v (Value.int IntKind.i64 i)), AV.dead, AV.dead, AV.dead, AV.dead, AV.dead, AV.dead, AV.dead, AV.dead, AV.dead, AV.dead, AV.dead, AV.dead] (AH.mk (@List.nil (Prod Go.TypeId (List AV))) (@List.nil Nat) (0 : Nat) (0 : Nat) true (@List.nil (Prod Nat Bool)) True)))) else (some ((cds True (elemB Try.prog (3 : Nat) (List.map gi x) i) (((0 : Int) ≤ i) ∧ (((List.map gi x)[(Int.toNat i)]?) = (some (AV.v (Value.int IntKind.i64 (exInt (List.getD (List.map gi x) (Int.toNat i) AV.dead)))))))) ∧ (R Exit.normal [(AV.lst (1 : Nat) (List.map gi x) Tip.no), (AV.v (Value.int IntKind.i64 id)), AV.dead, AV.dead, AV.dead, (AV.v (Value.int IntKind.i64 (IntKind.wrap IntKind.i64 (i + (1 : Int))))), AV.dead, AV.dead, AV.dead, AV.dead, AV.dead, AV.dead, AV.dead, AV.dead, AV.dead, AV.dead, AV.dead, AV.dead] (AH.mk (@List.nil (Prod Go.TypeId (List AV))) (@List.nil Nat) (0 : Nat) (0 : Nat) true (@List.nil (Prod Nat Bool)) True))))) else (some (True ∧ (R (Exit.exit (0 : Nat)) [(AV.lst (1 : Nat) (List.map gi x) Tip.no), (AV.v (Value.int IntKind.i64 id)), AV.dead, AV.dead, AV.dead, (AV.v (Value.int IntKind.i64 i)), AV.dead, AV.dead, AV.dead, AV.dead, AV.dead, AV.dead, AV.dead, AV.dead, AV.dead, AV.dead, AV.dead, AV.dead] (AH.mk (@List.nil (Prod Go.TypeId (List AV))) (@List.nil Nat) (0 : Nat) (0 : Nat) true (@List.nil (Prod Nat Bool)) True))))) := by kernel_rfl
theorem rh_post (x : List Int) (id i : Int) (R : Exit → List AV → AH → Prop) : codeL nro (fun _ => false) (fun _ => none) 8 ((flatten (bodyOf 17)).drop 3) (rhA x id i) (hp [] []) (kp [4] R) =
    (some (True ∧ (R Exit.ret [AV.dead, AV.dead, AV.dead, AV.dead, (AV.v (Value.bool false)), AV.dead, AV.dead, AV.dead, AV.dead, AV.dead, AV.dead, AV.dead, AV.dead, AV.dead, AV.dead, AV.dead, AV.dead, AV.dead] (AH.mk (@List.nil (Prod Go.TypeId (List AV))) (@List.nil Nat) (0 : Nat) (0 : Nat) true (@List.nil (Prod Nat Bool)) True)))) := by kernel_rfl
end Go.Proofs.Ytcajdmplggpfdaa.AE
namespace Go.Proofs.Ytcajdmplggpfdaa.AE
open Go.RowKit
theorem ne_nil {α : Type} {l : List α} (h : l.isEmpty = false) : l ≠ [] := by cases l <;> simp_all
theorem gil (l : List Int) : (l.map gi).length = l.length := List.length_map ..
theorem gi_el {l : List Int} {i : Nat} (h : i < l.length) : (0 : Int) ≤ (i : Int) ∧ (l.map gi)[Int.toNat (i : Int)]? = some (.v (.int .i64 l[i])) := ⟨Int.natCast_nonneg i, gi_get h⟩
/-- What is told by a is told by b. -/
def Les (a b : List AV) : Prop := ∀ G W cs, RVs G W a cs → RVs G W b cs
theorem Les.refl (a : List AV) : Les a a := fun _ _ _ h => h
theorem Les.set {a : List AV} (k : Nat) {x y : AV} (hx : a[k]? = some x) (h : Le x y) : Les a (a.set k y) := fun G W cs ha => RVs.setL k ha fun c hc => by
  obtain ⟨c', hc', hr⟩ := ha.get k x hx
  rw [hc] at hc'
  cases hc'
  exact h _ _ _ hr
theorem Tr.weak {P : Program} {ro : Nat → Option (List Value)} {c : Code} {act : List AV} {H : AH} {Q : Exit → List AV → AH → Prop} (h : Tr P ro c act H fun e a h => ∃ b, Les a b ∧ Q e b h) : Tr P ro c act H Q := fun G W a hI hR hA =>
  wp_mono (h G W a hI hR hA) fun _ _ _ ⟨_, H', G', ⟨b, hl, q⟩, h1, h2, h3, h4⟩ => ⟨b, H', G', q, h1, h2, hl _ _ _ h3, h4⟩
theorem Le.no {sz : Nat} {xs : List AV} {t : Tip} : Le (.lst sz xs t) (.lst sz xs .no) := fun _ _ _ h => nrm_rv (x := .lst sz xs t) h
def intsY (x : AV) : List Int := match intsA? x with
  | some l => l
  | none => []
theorem intsY_some {x : AV} {l : List Int} (h : intsA? x = some l) : intsY x = l := by unfold intsY; rw [h]
theorem intsY_lst (l : List Int) (tip : Tip) : intsY (.lst 1 (l.map gi) tip) = l := intsY_some (intsA_lst l tip)
theorem rh_sl : slotsOf 17 = 18 := by kernel_rfl
theorem rh_re : resultsOf 17 = [.tmp 4] := by kernel_rfl
theorem rh_fl : (flatten (bodyOf 17)).drop 2 = .block 0 (.loop (sub (bodyOf 17) [1, 0, 1, 0, 0])) :: (flatten (bodyOf 17)).drop 3 := by kernel_rfl
set_option maxRecDepth 100000 in
theorem fs_rhas (x : List Int) (id : Int) (hx : x.length ≤ 1000000) : Fs Try.prog nro 17 [.lst 1 (x.map gi) .no, gi id] (hp [] []) fun r _ => r = .v (.bool (decide (id ∈ x))) := by
  refine Fs.of_body (has_fn (by kernel_rfl)) ?_
  rw [rh_sl, rh_re]
  refine Tr.of_flat (Trl.split 2 (Trl.of_code (known_none _) (ne_nil (by kernel_rfl)) (rh_pre _ _ _) ⟨trivial, ?_⟩))
  show Trl _ _ ((flatten (bodyOf 17)).drop 2) _ _ _
  rw [rh_fl]
  refine Tr.keepL [0, 1, 5] rfl ?_
  let I : Nat → List AV → AH → Prop := fun t act H => ∃ i : Nat, i ≤ x.length ∧ t = x.length - i ∧ act = rhA x id (i : Int) ∧ H = hp [] [] ∧ id ∉ x.take i
  refine Tr.block (Tr.loop I ?_ (m := x.length) ⟨0, Nat.zero_le _, rfl, rfl, rfl, by simp⟩)
  rintro t act H ⟨i, hi, rfl, rfl, rfl, hn⟩
  have body := fun R => rh_in x id (i : Int) R
  rw [gil, inc64 i (by omega)] at body
  refine Tr.of_code (known_none _) (body _) (holds_bif (fun h1 => ?_) fun h1 => ⟨trivial, ?_⟩)
  · have h1 : i < x.length := by have := of_decide_eq_true h1; omega
    rw [gi_ex h1]
    refine holds_bif (fun h2 => ⟨cds_of trivial (gi_el h1), .inr rfl, trivial, ?_⟩) fun h2 => ⟨cds_of trivial (gi_el h1), x.length - (i + 1), by omega, i + 1, h1, rfl, rfl, rfl, ?_⟩
    · have h2 : x[i] = id := by simpa using h2
      rw [decide_eq_true (by rw [← h2]; exact List.getElem_mem h1)]; rfl
    · have h2 : ¬ x[i] = id := by simpa using h2
      rw [take_snoc h1, List.mem_append]
      rintro (h | h)
      · exact hn h
      · simp at h; exact h2 h.symm
  · have h1 : i = x.length := by have := of_decide_eq_false h1; omega
    rw [h1, List.take_length] at hn
    show Trl _ _ ((flatten (bodyOf 17)).drop 3) _ _ _
    refine Trl.of_code (known_none _) (ne_nil (by kernel_rfl)) (rh_post _ _ _ _) ⟨trivial, .inr rfl, trivial, ?_⟩
    rw [decide_eq_false hn]; rfl
/-! The document's answer. -/
def rhV (HX : AV → AV → Bool) (args : List AV) : AV := .v (.bool (HX (args.headD .dead) (args.tail.headD .dead)))
def rhOk (args : List AV) : Bool := match args with
  | [x, .v (.int .i64 _)] => (match intsA? x with | some l => decide (l.length ≤ 1000000) | none => false)
  | _ => false
def rhX (x id : AV) : Bool := decide (exInt id ∈ intsY x)
theorem rhOk_of (l : List Int) (t : Tip) (id : Int) (h : l.length ≤ 1000000) : rhOk [.lst 1 (l.map gi) t, gi id] = true := by
  show (match intsA? (.lst 1 (l.map gi) t) with | some l => decide (l.length ≤ 1000000) | none => false) = true
  rw [intsA_lst]; exact decide_eq_true h
theorem rhas_ok : ∀ args H r H', tot? (rhV rhX) rhOk args H = some (r, H') → HSound1 Try.prog nro 17 args H r H' := by
  refine tot_nrm (has_fn (by kernel_rfl)) fun args hok => ?_
  unfold rhOk at hok
  split at hok
  · rename_i x id
    split at hok
    · rename_i l hl
      obtain ⟨a4, a5⟩ := intsA_nrm hl
      refine ⟨by rw [List.all_cons, a4]; rfl, ?_⟩
      rw [List.map_cons, List.map_cons, List.map_nil, a5]
      refine (fs_rhas l id (of_decide_eq_true hok)).mono fun r _ h => ?_
      subst h
      refine ⟨_, rfl, ?_⟩
      show Le _ (.v (.bool (decide (id ∈ intsY x))))
      rw [intsY_some hl]
      exact Le.refl _
    · cases hok
  · cases hok
noncomputable def prH (HX : AV → AV → Bool) : FuncId → Option (List AV → AH → Ans) := fun g => match g with
  | 17 => some (tot? (rhV HX) rhOk)
  | _ => none
theorem knownH : Known nro (prH rhX) := by
  intro g p h
  unfold prH at h
  split at h
  · cases h; exact rhas_ok
  · cases h
end Go.Proofs.Ytcajdmplggpfdaa.AE
namespace Go.Proofs.Ytcajdmplggpfdaa.AE
open Go.RowKit
def riA (x : List Int) (out : AV) (i : Int) : List AV := [.lst 1 (x.map gi) .no, .dead, .dead, out, gi i] ++ List.replicate 49 .dead
def riB (x : List Int) (out : AV) (i k : Int) (n : AV) : List AV := [.lst 1 (x.map gi) .no, .dead, .dead, out, gi i, gi k, n] ++ List.replicate 47 .dead
theorem ri_pre (HX : AV → AV → Bool) (x : List Int) (R : Exit → List AV → AH → Prop) : codeL nro (fun _ => false) (prH HX) 8 ((flatten (bodyOf 6)).take 3) ([.lst 1 (x.map gi) .no] ++ List.replicate 53 (.v undef)) (hp [] []) (kp [0, 3, 4] R) =
    (some (True ∧ (R Exit.normal [(AV.lst (1 : Nat) (List.map gi x) Tip.no), AV.dead, AV.dead, (AV.v (Value.slice none (0 : Nat) (0 : Nat))), (AV.v (Value.int IntKind.i64 (0 : Int))), AV.dead, AV.dead, AV.dead, AV.dead, AV.dead, AV.dead, AV.dead, AV.dead, AV.dead, AV.dead, AV.dead, AV.dead, AV.dead, AV.dead, AV.dead, AV.dead, AV.dead, AV.dead, AV.dead, AV.dead, AV.dead, AV.dead, AV.dead, AV.dead, AV.dead, AV.dead, AV.dead, AV.dead, AV.dead, AV.dead, AV.dead, AV.dead, AV.dead, AV.dead, AV.dead, AV.dead, AV.dead, AV.dead, AV.dead, AV.dead, AV.dead, AV.dead, AV.dead, AV.dead, AV.dead, AV.dead, AV.dead, AV.dead, AV.dead] (AH.mk (@List.nil (Prod Go.TypeId (List AV))) (@List.nil Nat) (0 : Nat) (0 : Nat) true (@List.nil (Prod Nat Bool)) True)))) := by kernel_rfl
theorem ri_h (HX : AV → AV → Bool) (x out : List Int) (i : Int) (R : Exit → List AV → AH → Prop) : codeL nro (fun _ => false) (prH HX) 8 ((flatten (sub (bodyOf 6) [1, 1, 0, 1, 0, 0])).take 2) (riA x (.lst 1 (out.map gi) .no) i) (hp [] []) (kp [0, 3, 4] R) =
    (bif (decide (i < ((List.length (List.map gi x)) : Int))) then (some (True ∧ (R Exit.normal [(AV.lst (1 : Nat) (List.map gi x) Tip.no), AV.dead, AV.dead, (AV.lst (1 : Nat) (List.map gi out) Tip.no), (AV.v (Value.int IntKind.i64 i)), AV.dead, AV.dead, AV.dead, AV.dead, AV.dead, AV.dead, AV.dead, AV.dead, AV.dead, AV.dead, AV.dead, AV.dead, AV.dead, AV.dead, AV.dead, AV.dead, AV.dead, AV.dead, AV.dead, AV.dead, AV.dead, AV.dead, AV.dead, AV.dead, AV.dead, AV.dead, AV.dead, AV.dead, AV.dead, AV.dead, AV.dead, AV.dead, AV.dead, AV.dead, AV.dead, AV.dead, AV.dead, AV.dead, AV.dead, AV.dead, AV.dead, AV.dead, AV.dead, AV.dead, AV.dead, AV.dead, AV.dead, AV.dead, AV.dead] (AH.mk (@List.nil (Prod Go.TypeId (List AV))) (@List.nil Nat) (0 : Nat) (0 : Nat) true (@List.nil (Prod Nat Bool)) True)))) else (some (True ∧ (R (Exit.exit (0 : Nat)) [(AV.lst (1 : Nat) (List.map gi x) Tip.no), AV.dead, AV.dead, (AV.lst (1 : Nat) (List.map gi out) Tip.no), (AV.v (Value.int IntKind.i64 i)), AV.dead, AV.dead, AV.dead, AV.dead, AV.dead, AV.dead, AV.dead, AV.dead, AV.dead, AV.dead, AV.dead, AV.dead, AV.dead, AV.dead, AV.dead, AV.dead, AV.dead, AV.dead, AV.dead, AV.dead, AV.dead, AV.dead, AV.dead, AV.dead, AV.dead, AV.dead, AV.dead, AV.dead, AV.dead, AV.dead, AV.dead, AV.dead, AV.dead, AV.dead, AV.dead, AV.dead, AV.dead, AV.dead, AV.dead, AV.dead, AV.dead, AV.dead, AV.dead, AV.dead, AV.dead, AV.dead, AV.dead, AV.dead, AV.dead] (AH.mk (@List.nil (Prod Go.TypeId (List AV))) (@List.nil Nat) (0 : Nat) (0 : Nat) true (@List.nil (Prod Nat Bool)) True))))) := by kernel_rfl
theorem ri_a (HX : AV → AV → Bool) (x out : List Int) (i : Int) (R : Exit → List AV → AH → Prop) : codeL nro (fun _ => false) (prH HX) 8 ((flatten (sub (bodyOf 6) [1, 1, 0, 1, 0, 0, 1, 0, 0])).take 3) (riA x (.lst 1 (out.map gi) .no) i) (hp [] []) (kp [0, 3, 4, 5] R) =
    (bif (HX (AV.lst (1 : Nat) (List.map gi out) Tip.no) (AV.v (Value.int IntKind.i64 (exInt (List.getD (List.map gi x) (Int.toNat i) AV.dead))))) then (some ((cdb (cds True (elemB Try.prog (3 : Nat) (List.map gi x) i) (((0 : Int) ≤ i) ∧ (((List.map gi x)[(Int.toNat i)]?) = (some (AV.v (Value.int IntKind.i64 (exInt (List.getD (List.map gi x) (Int.toNat i) AV.dead)))))))) (rhOk [(AV.lst (1 : Nat) (List.map gi out) Tip.no), (AV.v (Value.int IntKind.i64 (exInt (List.getD (List.map gi x) (Int.toNat i) AV.dead))))])) ∧ (R (Exit.exit (1 : Nat)) [(AV.lst (1 : Nat) (List.map gi x) Tip.no), AV.dead, AV.dead, (AV.lst (1 : Nat) (List.map gi out) Tip.no), (AV.v (Value.int IntKind.i64 i)), AV.dead, AV.dead, AV.dead, AV.dead, AV.dead, AV.dead, AV.dead, AV.dead, AV.dead, AV.dead, AV.dead, AV.dead, AV.dead, AV.dead, AV.dead, AV.dead, AV.dead, AV.dead, AV.dead, AV.dead, AV.dead, AV.dead, AV.dead, AV.dead, AV.dead, AV.dead, AV.dead, AV.dead, AV.dead, AV.dead, AV.dead, AV.dead, AV.dead, AV.dead, AV.dead, AV.dead, AV.dead, AV.dead, AV.dead, AV.dead, AV.dead, AV.dead, AV.dead, AV.dead, AV.dead, AV.dead, AV.dead, AV.dead, AV.dead] (AH.mk (@List.nil (Prod Go.TypeId (List AV))) (@List.nil Nat) (0 : Nat) (0 : Nat) true (@List.nil (Prod Nat Bool)) True)))) else (some ((cdb (cds True (elemB Try.prog (3 : Nat) (List.map gi x) i) (((0 : Int) ≤ i) ∧ (((List.map gi x)[(Int.toNat i)]?) = (some (AV.v (Value.int IntKind.i64 (exInt (List.getD (List.map gi x) (Int.toNat i) AV.dead)))))))) (rhOk [(AV.lst (1 : Nat) (List.map gi out) Tip.no), (AV.v (Value.int IntKind.i64 (exInt (List.getD (List.map gi x) (Int.toNat i) AV.dead))))])) ∧ (R Exit.normal [(AV.lst (1 : Nat) (List.map gi x) Tip.no), AV.dead, AV.dead, (AV.lst (1 : Nat) (List.map gi out) Tip.no), (AV.v (Value.int IntKind.i64 i)), (AV.v (Value.int IntKind.i64 (0 : Int))), AV.dead, AV.dead, AV.dead, AV.dead, AV.dead, AV.dead, AV.dead, AV.dead, AV.dead, AV.dead, AV.dead, AV.dead, AV.dead, AV.dead, AV.dead, AV.dead, AV.dead, AV.dead, AV.dead, AV.dead, AV.dead, AV.dead, AV.dead, AV.dead, AV.dead, AV.dead, AV.dead, AV.dead, AV.dead, AV.dead, AV.dead, AV.dead, AV.dead, AV.dead, AV.dead, AV.dead, AV.dead, AV.dead, AV.dead, AV.dead, AV.dead, AV.dead, AV.dead, AV.dead, AV.dead, AV.dead, AV.dead, AV.dead] (AH.mk (@List.nil (Prod Go.TypeId (List AV))) (@List.nil Nat) (0 : Nat) (0 : Nat) true (@List.nil (Prod Nat Bool)) True))))) := by kernel_rfl
theorem ri_in (HX : AV → AV → Bool) (x out : List Int) (i k : Int) (R : Exit → List AV → AH → Prop) : code nro (fun _ => false) (prH HX) 8 (sub (bodyOf 6) [1, 1, 0, 1, 0, 0, 1, 0, 0, 1, 1, 0, 0, 0]) (riB x (.lst 1 (out.map gi) .no) i k .dead) (hp [] []) (kp [0, 3, 4, 5] R) =
    (bif (decide (k < ((List.length (List.map gi out)) : Int))) then (bif (decide ((exInt (List.getD (List.map gi out) (Int.toNat k) AV.dead)) < (exInt (List.getD (List.map gi x) (Int.toNat i) AV.dead)))) then (some ((cds (cds True (elemB Try.prog (3 : Nat) (List.map gi out) k) (((0 : Int) ≤ k) ∧ (((List.map gi out)[(Int.toNat k)]?) = (some (AV.v (Value.int IntKind.i64 (exInt (List.getD (List.map gi out) (Int.toNat k) AV.dead)))))))) (elemB Try.prog (3 : Nat) (List.map gi x) i) (((0 : Int) ≤ i) ∧ (((List.map gi x)[(Int.toNat i)]?) = (some (AV.v (Value.int IntKind.i64 (exInt (List.getD (List.map gi x) (Int.toNat i) AV.dead)))))))) ∧ (R Exit.normal [(AV.lst (1 : Nat) (List.map gi x) Tip.no), AV.dead, AV.dead, (AV.lst (1 : Nat) (List.map gi out) Tip.no), (AV.v (Value.int IntKind.i64 i)), (AV.v (Value.int IntKind.i64 (IntKind.wrap IntKind.i64 (k + (1 : Int))))), AV.dead, AV.dead, AV.dead, AV.dead, AV.dead, AV.dead, AV.dead, AV.dead, AV.dead, AV.dead, AV.dead, AV.dead, AV.dead, AV.dead, AV.dead, AV.dead, AV.dead, AV.dead, AV.dead, AV.dead, AV.dead, AV.dead, AV.dead, AV.dead, AV.dead, AV.dead, AV.dead, AV.dead, AV.dead, AV.dead, AV.dead, AV.dead, AV.dead, AV.dead, AV.dead, AV.dead, AV.dead, AV.dead, AV.dead, AV.dead, AV.dead, AV.dead, AV.dead, AV.dead, AV.dead, AV.dead, AV.dead, AV.dead] (AH.mk (@List.nil (Prod Go.TypeId (List AV))) (@List.nil Nat) (0 : Nat) (0 : Nat) true (@List.nil (Prod Nat Bool)) True)))) else (some ((cds (cds True (elemB Try.prog (3 : Nat) (List.map gi out) k) (((0 : Int) ≤ k) ∧ (((List.map gi out)[(Int.toNat k)]?) = (some (AV.v (Value.int IntKind.i64 (exInt (List.getD (List.map gi out) (Int.toNat k) AV.dead)))))))) (elemB Try.prog (3 : Nat) (List.map gi x) i) (((0 : Int) ≤ i) ∧ (((List.map gi x)[(Int.toNat i)]?) = (some (AV.v (Value.int IntKind.i64 (exInt (List.getD (List.map gi x) (Int.toNat i) AV.dead)))))))) ∧ (R (Exit.exit (2 : Nat)) [(AV.lst (1 : Nat) (List.map gi x) Tip.no), AV.dead, AV.dead, (AV.lst (1 : Nat) (List.map gi out) Tip.no), (AV.v (Value.int IntKind.i64 i)), (AV.v (Value.int IntKind.i64 k)), AV.dead, AV.dead, AV.dead, AV.dead, AV.dead, AV.dead, AV.dead, AV.dead, AV.dead, AV.dead, AV.dead, AV.dead, AV.dead, AV.dead, AV.dead, AV.dead, AV.dead, AV.dead, AV.dead, AV.dead, AV.dead, AV.dead, AV.dead, AV.dead, AV.dead, AV.dead, AV.dead, AV.dead, AV.dead, AV.dead, AV.dead, AV.dead, AV.dead, AV.dead, AV.dead, AV.dead, AV.dead, AV.dead, AV.dead, AV.dead, AV.dead, AV.dead, AV.dead, AV.dead, AV.dead, AV.dead, AV.dead, AV.dead] (AH.mk (@List.nil (Prod Go.TypeId (List AV))) (@List.nil Nat) (0 : Nat) (0 : Nat) true (@List.nil (Prod Nat Bool)) True))))) else (some (True ∧ (R (Exit.exit (2 : Nat)) [(AV.lst (1 : Nat) (List.map gi x) Tip.no), AV.dead, AV.dead, (AV.lst (1 : Nat) (List.map gi out) Tip.no), (AV.v (Value.int IntKind.i64 i)), (AV.v (Value.int IntKind.i64 k)), AV.dead, AV.dead, AV.dead, AV.dead, AV.dead, AV.dead, AV.dead, AV.dead, AV.dead, AV.dead, AV.dead, AV.dead, AV.dead, AV.dead, AV.dead, AV.dead, AV.dead, AV.dead, AV.dead, AV.dead, AV.dead, AV.dead, AV.dead, AV.dead, AV.dead, AV.dead, AV.dead, AV.dead, AV.dead, AV.dead, AV.dead, AV.dead, AV.dead, AV.dead, AV.dead, AV.dead, AV.dead, AV.dead, AV.dead, AV.dead, AV.dead, AV.dead, AV.dead, AV.dead, AV.dead, AV.dead, AV.dead, AV.dead] (AH.mk (@List.nil (Prod Go.TypeId (List AV))) (@List.nil Nat) (0 : Nat) (0 : Nat) true (@List.nil (Prod Nat Bool)) True))))) := by kernel_rfl
theorem ri_n (HX : AV → AV → Bool) (x out : List Int) (i k : Int) (R : Exit → List AV → AH → Prop) : codeL nro (fun _ => false) (prH HX) 8 (((flatten (sub (bodyOf 6) [1, 1, 0, 1, 0, 0, 1, 0, 0])).drop 4).take 1) (riB x (.lst 1 (out.map gi) .no) i k .dead) (hp [] []) (kp [0, 3, 4, 5, 6] R) =
    (some (True ∧ (R Exit.normal [(AV.lst (1 : Nat) (List.map gi x) Tip.no), AV.dead, AV.dead, (AV.lst (1 : Nat) (List.map gi out) Tip.no), (AV.v (Value.int IntKind.i64 i)), (AV.v (Value.int IntKind.i64 k)), (AV.v (Value.slice none (0 : Nat) (0 : Nat))), AV.dead, AV.dead, AV.dead, AV.dead, AV.dead, AV.dead, AV.dead, AV.dead, AV.dead, AV.dead, AV.dead, AV.dead, AV.dead, AV.dead, AV.dead, AV.dead, AV.dead, AV.dead, AV.dead, AV.dead, AV.dead, AV.dead, AV.dead, AV.dead, AV.dead, AV.dead, AV.dead, AV.dead, AV.dead, AV.dead, AV.dead, AV.dead, AV.dead, AV.dead, AV.dead, AV.dead, AV.dead, AV.dead, AV.dead, AV.dead, AV.dead, AV.dead, AV.dead, AV.dead, AV.dead, AV.dead, AV.dead] (AH.mk (@List.nil (Prod Go.TypeId (List AV))) (@List.nil Nat) (0 : Nat) (0 : Nat) true (@List.nil (Prod Nat Bool)) True)))) := by kernel_rfl
theorem ri_b (HX : AV → AV → Bool) (x out : List Int) (i k : Int) (R : Exit → List AV → AH → Prop) : codeL nro (fun _ => false) (prH HX) 8 ((flatten (sub (bodyOf 6) [1, 1, 0, 1, 0, 0, 1, 0, 0])).drop 5) (riB x (.lst 1 (out.map gi) .no) i k (.lst 1 [] (.tp 0 0))) (hp [] [0]) (kp [0, 3, 4] R) =
    (some ((cdb (cdb (cdb (cds (cdb (cdb True (decide (((0 : Int) ≤ (0 : Int)) ∧ (((0 : Int) ≤ k) ∧ (k ≤ ((List.length (List.map gi out)) : Int)))))) (decide ((((((0 : Nat) + (List.length (List.drop (0 : Nat) (List.take (Int.toNat k) (List.map gi out))))) * (8 : Nat)) ≤ (140737488355328 : Nat)) ∧ (((0 : Nat) + (List.length (List.drop (0 : Nat) (List.take (Int.toNat k) (List.map gi out))))) ≤ (9223372036854775807 : Nat))) ∧ ((0 : Nat) = (0 : Nat))))) (elemB Try.prog (3 : Nat) (List.map gi x) i) (((0 : Int) ≤ i) ∧ (((List.map gi x)[(Int.toNat i)]?) = (some (AV.v (Value.int IntKind.i64 (exInt (List.getD (List.map gi x) (Int.toNat i) AV.dead)))))))) (decide ((((((List.length ((@List.nil AV) ++ (List.drop (0 : Nat) (List.take (Int.toNat k) (List.map gi out))))) + (List.length [(AV.v (Value.int IntKind.i64 (exInt (List.getD (List.map gi x) (Int.toNat i) AV.dead))))])) * (8 : Nat)) ≤ (140737488355328 : Nat)) ∧ (((List.length ((@List.nil AV) ++ (List.drop (0 : Nat) (List.take (Int.toNat k) (List.map gi out))))) + (List.length [(AV.v (Value.int IntKind.i64 (exInt (List.getD (List.map gi x) (Int.toNat i) AV.dead))))])) ≤ (9223372036854775807 : Nat))) ∧ ((1 : Nat) = (1 : Nat))))) (decide (((0 : Int) ≤ k) ∧ ((k ≤ ((List.length (List.map gi out)) : Int)) ∧ (((List.length (List.map gi out)) : Int) ≤ ((List.length (List.map gi out)) : Int)))))) (decide ((((((List.length (((@List.nil AV) ++ (List.drop (0 : Nat) (List.take (Int.toNat k) (List.map gi out)))) ++ [(AV.v (Value.int IntKind.i64 (exInt (List.getD (List.map gi x) (Int.toNat i) AV.dead))))])) + (List.length (List.drop (Int.toNat k) (List.take (Int.toNat ((List.length (List.map gi out)) : Int)) (List.map gi out))))) * (8 : Nat)) ≤ (140737488355328 : Nat)) ∧ (((List.length (((@List.nil AV) ++ (List.drop (0 : Nat) (List.take (Int.toNat k) (List.map gi out)))) ++ [(AV.v (Value.int IntKind.i64 (exInt (List.getD (List.map gi x) (Int.toNat i) AV.dead))))])) + (List.length (List.drop (Int.toNat k) (List.take (Int.toNat ((List.length (List.map gi out)) : Int)) (List.map gi out))))) ≤ (9223372036854775807 : Nat))) ∧ ((2 : Nat) = (2 : Nat))))) ∧ (R Exit.normal [(AV.lst (1 : Nat) (List.map gi x) Tip.no), AV.dead, AV.dead, (AV.lst (1 : Nat) ((((@List.nil AV) ++ (List.drop (0 : Nat) (List.take (Int.toNat k) (List.map gi out)))) ++ [(AV.v (Value.int IntKind.i64 (exInt (List.getD (List.map gi x) (Int.toNat i) AV.dead))))]) ++ (List.drop (Int.toNat k) (List.take (Int.toNat ((List.length (List.map gi out)) : Int)) (List.map gi out)))) (Tip.tp (0 : Nat) (3 : Nat))), (AV.v (Value.int IntKind.i64 i)), AV.dead, AV.dead, AV.dead, AV.dead, AV.dead, AV.dead, AV.dead, AV.dead, AV.dead, AV.dead, AV.dead, AV.dead, AV.dead, AV.dead, AV.dead, AV.dead, AV.dead, AV.dead, AV.dead, AV.dead, AV.dead, AV.dead, AV.dead, AV.dead, AV.dead, AV.dead, AV.dead, AV.dead, AV.dead, AV.dead, AV.dead, AV.dead, AV.dead, AV.dead, AV.dead, AV.dead, AV.dead, AV.dead, AV.dead, AV.dead, AV.dead, AV.dead, AV.dead, AV.dead, AV.dead, AV.dead, AV.dead, AV.dead, AV.dead] (AH.mk (@List.nil (Prod Go.TypeId (List AV))) [(3 : Nat)] (0 : Nat) (0 : Nat) true (@List.nil (Prod Nat Bool)) True)))) := by kernel_rfl
theorem ri_4 (HX : AV → AV → Bool) (x out : List Int) (i : Int) (R : Exit → List AV → AH → Prop) : code nro (fun _ => false) (prH HX) 8 (sub (bodyOf 6) [1, 1, 0, 1, 0, 0, 1, 1]) (riA x (.lst 1 (out.map gi) .no) i) (hp [] []) (kp [0, 3, 4] R) =
    (some (True ∧ (R Exit.normal [(AV.lst (1 : Nat) (List.map gi x) Tip.no), AV.dead, AV.dead, (AV.lst (1 : Nat) (List.map gi out) Tip.no), (AV.v (Value.int IntKind.i64 (IntKind.wrap IntKind.i64 (i + (1 : Int))))), AV.dead, AV.dead, AV.dead, AV.dead, AV.dead, AV.dead, AV.dead, AV.dead, AV.dead, AV.dead, AV.dead, AV.dead, AV.dead, AV.dead, AV.dead, AV.dead, AV.dead, AV.dead, AV.dead, AV.dead, AV.dead, AV.dead, AV.dead, AV.dead, AV.dead, AV.dead, AV.dead, AV.dead, AV.dead, AV.dead, AV.dead, AV.dead, AV.dead, AV.dead, AV.dead, AV.dead, AV.dead, AV.dead, AV.dead, AV.dead, AV.dead, AV.dead, AV.dead, AV.dead, AV.dead, AV.dead, AV.dead, AV.dead, AV.dead] (AH.mk (@List.nil (Prod Go.TypeId (List AV))) (@List.nil Nat) (0 : Nat) (0 : Nat) true (@List.nil (Prod Nat Bool)) True)))) := by kernel_rfl
theorem ri_post (HX : AV → AV → Bool) (x out : List Int) (i : Int) (R : Exit → List AV → AH → Prop) : codeL nro (fun _ => false) (prH HX) 8 ((flatten (bodyOf 6)).drop 4) (riA x (.lst 1 (out.map gi) .no) i) (hp [] []) (kp [2] R) =
    (some (True ∧ (R Exit.ret [AV.dead, AV.dead, (AV.lst (1 : Nat) (List.map gi out) Tip.no), AV.dead, AV.dead, AV.dead, AV.dead, AV.dead, AV.dead, AV.dead, AV.dead, AV.dead, AV.dead, AV.dead, AV.dead, AV.dead, AV.dead, AV.dead, AV.dead, AV.dead, AV.dead, AV.dead, AV.dead, AV.dead, AV.dead, AV.dead, AV.dead, AV.dead, AV.dead, AV.dead, AV.dead, AV.dead, AV.dead, AV.dead, AV.dead, AV.dead, AV.dead, AV.dead, AV.dead, AV.dead, AV.dead, AV.dead, AV.dead, AV.dead, AV.dead, AV.dead, AV.dead, AV.dead, AV.dead, AV.dead, AV.dead, AV.dead, AV.dead, AV.dead] (AH.mk (@List.nil (Prod Go.TypeId (List AV))) (@List.nil Nat) (0 : Nat) (0 : Nat) true (@List.nil (Prod Nat Bool)) True)))) := by kernel_rfl
end Go.Proofs.Ytcajdmplggpfdaa.AE
namespace Go.Proofs.Ytcajdmplggpfdaa.AE
/-- The first k are less, and the one behind them is not. -/
def insI (x : Int) : List Int → List Int
  | [] => [x]
  | y :: l => if y < x then y :: insI x l else x :: y :: l
def riseL (L : List Int) : List Int := L.foldl (fun out x => if x ∈ out then out else insI x out) []
theorem insI_cut (x : Int) : ∀ (l : List Int) (k : Nat), k ≤ l.length → (∀ j (h : j < l.length), j < k → l[j] < x) → (∀ h : k < l.length, ¬ l[k] < x) → l.take k ++ [x] ++ l.drop k = insI x l
  | [], k, hk, _, _ => by
    have : k = 0 := by simpa using hk
    subst this; rfl
  | y :: l, 0, _, _, h2 => by
    have : ¬ y < x := h2 (by simp)
    unfold insI
    rw [if_neg this]; rfl
  | y :: l, k + 1, hk, h1, h2 => by
    have hy : y < x := h1 0 (by simp) (by omega)
    unfold insI
    rw [if_pos hy]
    have := insI_cut x l k (by simpa using hk) (fun j h hj => h1 (j + 1) (by simpa using h) (by omega)) (fun h => h2 (by simpa using h))
    rw [← this]; rfl
theorem mem_insI (x z : Int) : ∀ l : List Int, z ∈ insI x l ↔ z = x ∨ z ∈ l
  | [] => by simp [insI]
  | y :: l => by
    unfold insI
    split
    · rw [List.mem_cons, mem_insI x z l, List.mem_cons]
      constructor
      · rintro (h | h | h)
        · exact .inr (.inl h)
        · exact .inl h
        · exact .inr (.inr h)
      · rintro (h | h | h)
        · exact .inr (.inl h)
        · exact .inl h
        · exact .inr (.inr h)
    · rw [List.mem_cons]
theorem insI_rises {x : Int} : ∀ {l : List Int}, l.Pairwise (· < ·) → x ∉ l → (insI x l).Pairwise (· < ·)
  | [], _, _ => by simp [insI]
  | y :: l, h, hx => by
    rw [List.pairwise_cons] at h
    rw [List.mem_cons] at hx
    unfold insI
    split
    · rename_i hy
      rw [List.pairwise_cons]
      refine ⟨fun z hz => ?_, insI_rises h.2 (fun e => hx (.inr e))⟩
      rw [mem_insI] at hz
      rcases hz with rfl | hz
      · exact hy
      · exact h.1 z hz
    · rename_i hy
      have hxy : x < y := by
        rcases Int.lt_trichotomy x y with h1 | h1 | h1
        · exact h1
        · exact absurd (.inl h1) hx
        · exact absurd h1 hy
      rw [List.pairwise_cons]
      refine ⟨fun z hz => ?_, List.pairwise_cons.2 h⟩
      rw [List.mem_cons] at hz
      rcases hz with rfl | hz
      · exact hxy
      · exact Int.lt_trans hxy (h.1 z hz)
theorem insI_len (x : Int) : ∀ l : List Int, (insI x l).length = l.length + 1
  | [] => rfl
  | y :: l => by
    unfold insI
    split
    · rw [List.length_cons, insI_len x l, List.length_cons]
    · simp
def riseStep (out : List Int) (x : Int) : List Int := if x ∈ out then out else insI x out
theorem rise_snoc (L : List Int) (x : Int) : riseL (L ++ [x]) = riseStep (riseL L) x := by
  unfold riseL
  rw [List.foldl_append]; rfl
theorem rise_inv (L : List Int) : (riseL L).Pairwise (· < ·) ∧ ∀ z, z ∈ riseL L ↔ z ∈ L := by
  have key : ∀ (L out : List Int), out.Pairwise (· < ·) → (L.foldl (fun out x => if x ∈ out then out else insI x out) out).Pairwise (· < ·) ∧ ∀ z, z ∈ L.foldl (fun out x => if x ∈ out then out else insI x out) out ↔ z ∈ L ∨ z ∈ out := by
    intro L
    induction L with
    | nil => intro out h; exact ⟨h, fun z => by simp⟩
    | cons x L ih =>
      intro out h
      rw [List.foldl_cons]
      by_cases hx : x ∈ out
      · rw [if_pos hx]
        obtain ⟨h1, h2⟩ := ih out h
        refine ⟨h1, fun z => ?_⟩
        rw [h2, List.mem_cons]
        constructor
        · rintro (h | h)
          · exact .inl (.inr h)
          · exact .inr h
        · rintro ((rfl | h) | h)
          · exact .inr hx
          · exact .inl h
          · exact .inr h
      · rw [if_neg hx]
        obtain ⟨h1, h2⟩ := ih (insI x out) (insI_rises h hx)
        refine ⟨h1, fun z => ?_⟩
        rw [h2, mem_insI, List.mem_cons]
        constructor
        · rintro (h | h | h)
          · exact .inl (.inr h)
          · exact .inl (.inl h)
          · exact .inr h
        · rintro ((h | h) | h)
          · exact .inr (.inl h)
          · exact .inl h
          · exact .inr (.inr h)
  obtain ⟨h1, h2⟩ := key L [] List.Pairwise.nil
  exact ⟨h1, fun z => (h2 z).trans (by simp)⟩
theorem mem_rise {L : List Int} {z : Int} : z ∈ riseL L ↔ z ∈ L := (rise_inv L).2 z
theorem rises_ext : ∀ {a b : List Int}, a.Pairwise (· < ·) → b.Pairwise (· < ·) → (∀ z, z ∈ a ↔ z ∈ b) → a = b
  | [], b, _, _, h => by
    cases b with
    | nil => rfl
    | cons y b => exact absurd ((h y).2 (List.mem_cons_self ..)) (by simp)
  | x :: a, [], _, _, h => absurd ((h x).1 (List.mem_cons_self ..)) (by simp)
  | x :: a, y :: b, ha, hb, h => by
    rw [List.pairwise_cons] at ha hb
    have e : x = y := by
      have h1 := (h x).1 (List.mem_cons_self ..)
      have h2 := (h y).2 (List.mem_cons_self ..)
      rw [List.mem_cons] at h1 h2
      rcases h1 with h1 | h1
      · exact h1
      · rcases h2 with h2 | h2
        · exact h2.symm
        · have := hb.1 x h1; have := ha.1 y h2; omega
    subst e
    refine congrArg (x :: ·) (rises_ext ha.2 hb.2 fun z => ?_)
    have hz := h z
    rw [List.mem_cons, List.mem_cons] at hz
    constructor
    · intro m
      rcases hz.1 (.inr m) with e | m2
      · have := ha.1 z m; omega
      · exact m2
    · intro m
      rcases hz.2 (.inr m) with e | m2
      · have := hb.1 z m; omega
      · exact m2
theorem rise_of {L l : List Int} (h : l.Pairwise (· < ·)) (hm : ∀ z, z ∈ l ↔ z ∈ L) : l = riseL L := rises_ext h (rise_inv L).1 fun z => (hm z).trans mem_rise.symm
theorem rise_self {l : List Int} (h : l.Pairwise (· < ·)) : riseL l = l := (rise_of h fun _ => Iff.rfl).symm
theorem rise_len (L : List Int) : (riseL L).length ≤ L.length := by
  have key : ∀ (L out : List Int), (L.foldl (fun out x => if x ∈ out then out else insI x out) out).length ≤ L.length + out.length := by
    intro L
    induction L with
    | nil => intro out; simp
    | cons x L ih =>
      intro out
      rw [List.foldl_cons, List.length_cons]
      split
      · have := ih out; omega
      · have := ih (insI x out); rw [insI_len] at this; omega
  have := key L []
  rw [List.length_nil, Nat.add_zero] at this
  exact this
/-! Made compact. -/
theorem compact_succ (d : Array Int) (m : Nat) : Lib.compactUpTo d (m + 1) = Lib.compactUpTo d m ++ (if Lib.keeps d m then [d[m]!] else []) := by
  unfold Lib.compactUpTo
  rw [List.range_succ, List.filter_append, List.map_append]
  congr 1
  simp only [List.filter_cons, List.filter_nil]
  split <;> rfl
theorem compact_rises (d : Array Int) (hs : ∀ j, j + 1 < d.size → d[j]! ≤ d[j + 1]!) : ∀ m, m ≤ d.size → (Lib.compactUpTo d m).Pairwise (· < ·) ∧ (∀ z ∈ Lib.compactUpTo d m, z ≤ d[m - 1]!) ∧ (∀ j, j < m → d[j]! ∈ Lib.compactUpTo d m) ∧ ∀ z ∈ Lib.compactUpTo d m, ∃ j, j < m ∧ d[j]! = z := by
  intro m
  induction m with
  | zero => intro _; exact ⟨List.Pairwise.nil, fun z h => by simp [Lib.compactUpTo] at h, fun j h => by omega, fun z h => by simp [Lib.compactUpTo] at h⟩
  | succ m ih =>
    intro hm
    obtain ⟨h1, h2, h3, h4⟩ := ih (by omega)
    rw [compact_succ]
    have hle : ∀ z ∈ Lib.compactUpTo d m, z ≤ d[m]! := fun z hz => by
      have := h2 z hz
      cases m with
      | zero => simp [Lib.compactUpTo] at hz
      | succ k =>
        have h0 := hs k (by omega)
        rw [Nat.add_sub_cancel] at this
        omega
    by_cases hk : Lib.keeps d m = true
    · rw [if_pos hk]
      have hlt : ∀ z ∈ Lib.compactUpTo d m, z < d[m]! := fun z hz => by
        have := h2 z hz
        cases m with
        | zero => simp [Lib.compactUpTo] at hz
        | succ k =>
          have h0 := hs k (by omega)
          rw [Nat.add_sub_cancel] at this
          have hne : d[k + 1]! ≠ d[k]! := by
            unfold Lib.keeps at hk
            simp at hk
            intro e
            exact hk e
          omega
      refine ⟨?_, fun z hz => ?_, fun j hj => ?_, fun z hz => ?_⟩
      · rw [List.pairwise_append]
        exact ⟨h1, by simp, fun a ha b hb => by
          have : b = d[m]! := by simpa using hb
          subst this
          exact hlt a ha⟩
      · rw [List.mem_append] at hz
        rw [Nat.add_sub_cancel]
        rcases hz with hz | hz
        · exact hle z hz
        · have : z = d[m]! := by simpa using hz
          omega
      · rw [List.mem_append]
        by_cases hjm : j = m
        · subst hjm; exact .inr (by simp)
        · exact .inl (h3 j (by omega))
      · rw [List.mem_append] at hz
        rcases hz with hz | hz
        · obtain ⟨j, a, b⟩ := h4 z hz; exact ⟨j, by omega, b⟩
        · have : z = d[m]! := by simpa using hz
          exact ⟨m, by omega, this.symm⟩
    · rw [if_neg hk, List.append_nil]
      refine ⟨h1, fun z hz => by rw [Nat.add_sub_cancel]; exact hle z hz, fun j hj => ?_, fun z hz => by obtain ⟨j, a, b⟩ := h4 z hz; exact ⟨j, by omega, b⟩⟩
      by_cases hjm : j = m
      · subst hjm
        cases j with
        | zero => exact absurd (by unfold Lib.keeps; simp) hk
        | succ k =>
          have he : d[k + 1]! = d[k]! := by
            unfold Lib.keeps at hk
            simp at hk
            exact hk
          rw [he]
          exact h3 k (by omega)
      · exact h3 j (by omega)
theorem compact_rise {L zs : List Int} (hs : zs.Pairwise (· ≤ ·)) (hm : ∀ z, z ∈ zs ↔ z ∈ L) : Lib.compact zs = riseL L := by
  have get : ∀ j, j < zs.length → zs.toArray[j]! = zs[j]! := fun j hj => by simp
  obtain ⟨h1, _, h3, h4⟩ := compact_rises zs.toArray (fun j hj => by
    have hj : j + 1 < zs.length := by simpa using hj
    rw [List.pairwise_iff_getElem] at hs
    have := hs j (j + 1) (by omega) hj (by omega)
    simpa [getElem!_pos, hj, (show j < zs.length by omega)] using this) zs.length (by simp)
  refine rise_of h1 fun z => ?_
  rw [← hm]
  constructor
  · intro hz
    obtain ⟨j, hj, e⟩ := h4 z hz
    rw [← e]
    have : zs.toArray[j]! = zs[j] := by simp [getElem!_pos, hj]
    rw [this]
    exact List.getElem_mem hj
  · intro hz
    obtain ⟨j, hj, e⟩ := List.getElem_of_mem hz
    have := h3 j hj
    have e2 : zs.toArray[j]! = zs[j] := by simp [getElem!_pos, hj]
    rw [e2, e] at this
    exact this
theorem sort_rise (L : List Int) : Lib.compact (L.mergeSort fun x y => decide (x ≤ y)) = riseL L := by
  refine compact_rise ?_ fun z => List.mem_mergeSort
  have := List.pairwise_mergeSort (le := fun x y : Int => decide (x ≤ y)) (fun a b c h1 h2 => by simp at *; omega) (fun a b => by simp; omega) L
  exact this.imp fun h => by simpa using h
end Go.Proofs.Ytcajdmplggpfdaa.AE
namespace Go.Proofs.Ytcajdmplggpfdaa.AE
open Go.RowKit
theorem Tr.from {P : Program} {ro : Nat → Option (List Value)} {c : Code} {a b : List AV} {H : AH} {Q : Exit → List AV → AH → Prop} (hl : Les a b) (h : Tr P ro c b H Q) : Tr P ro c a H Q := fun G W x hI hR hA => h G W x hI hR (hl _ _ _ hA)
theorem Le.nil : Le nilS (.lst 1 (([] : List Int).map gi) .no) := fun _ _ _ h => nrm_rv (x := nilS) h
theorem ri_sl : slotsOf 6 = 54 := by kernel_rfl
theorem ri_re : resultsOf 6 = [.tmp 2] := by kernel_rfl
theorem ri_fl : (flatten (bodyOf 6)).drop 3 = .block 0 (.loop (sub (bodyOf 6) [1, 1, 0, 1, 0, 0])) :: (flatten (bodyOf 6)).drop 4 := by kernel_rfl
theorem ri_f2 : (flatten (sub (bodyOf 6) [1, 1, 0, 1, 0, 0])).drop 2 = [.block 1 (sub (bodyOf 6) [1, 1, 0, 1, 0, 0, 1, 0, 0]), sub (bodyOf 6) [1, 1, 0, 1, 0, 0, 1, 1]] := by kernel_rfl
theorem ri_f3 : (flatten (sub (bodyOf 6) [1, 1, 0, 1, 0, 0, 1, 0, 0])).drop 3 = .block 2 (.loop (sub (bodyOf 6) [1, 1, 0, 1, 0, 0, 1, 0, 0, 1, 1, 0, 0, 0])) :: (flatten (sub (bodyOf 6) [1, 1, 0, 1, 0, 0, 1, 0, 0])).drop 4 := by kernel_rfl
set_option maxHeartbeats 4000000 in
set_option maxRecDepth 100000 in
theorem ri_mid (x : List Int) (hx : x.length ≤ 1000) (i : Nat) (hi : i < x.length) : Tr Try.prog nro (sub (bodyOf 6) [1, 1, 0, 1, 0, 0, 1, 0, 0]) (riA x (.lst 1 ((riseL (x.take i)).map gi) .no) (i : Int)) (hp [] [])
    fun e a h => (e = .normal ∨ e = .exit 1) ∧ a = riA x (.lst 1 ((riseL (x.take (i + 1))).map gi) .no) (i : Int) ∧ h = hp [] [] := by
  refine Tr.forget 0 0 (Nat.le_refl _) (Nat.le_refl _) (Tr.weak ?_)
  have hlen : (riseL (x.take i)).length ≤ 1000 := by have := rise_len (x.take i); rw [List.length_take] at this; omega
  have hstep : riseL (x.take (i + 1)) = riseStep (riseL (x.take i)) x[i] := by rw [take_snoc hi, rise_snoc]
  generalize riseL (x.take i) = out at hlen hstep
  have ta := fun R => ri_a rhX x out (i : Int) R
  rw [gi_ex hi] at ta
  have hX : rhX (.lst 1 (out.map gi) .no) (.v (.int .i64 x[i])) = decide (x[i] ∈ out) := by
    unfold rhX
    rw [intsY_lst]; rfl
  rw [hX] at ta
  have hok : rhOk [.lst 1 (out.map gi) .no, .v (.int .i64 x[i])] = true := rhOk_of out .no x[i] (by omega)
  refine Tr.of_flat (Trl.split 3 (Trl.of_code knownH (ne_nil (by kernel_rfl)) (ta _) (holds_bif (fun h1 => ⟨cdb_iff.2 ⟨cds_of trivial (gi_el hi), hok⟩, ?_⟩) fun h1 => ⟨cdb_iff.2 ⟨cds_of trivial (gi_el hi), hok⟩, ?_⟩)))
  · refine ⟨_, Les.refl _, rfl, rfl, .inr rfl, ?_, rfl⟩
    rw [hstep]
    unfold riseStep
    rw [if_pos (of_decide_eq_true h1)]; rfl
  have hno : x[i] ∉ out := of_decide_eq_false h1
  have hs : riseL (x.take (i + 1)) = insI x[i] out := by rw [hstep]; unfold riseStep; rw [if_neg hno]
  show Trl _ _ ((flatten (sub (bodyOf 6) [1, 1, 0, 1, 0, 0, 1, 0, 0])).drop 3) _ _ _
  rw [ri_f3]
  let I : Nat → List AV → AH → Prop := fun t act H => ∃ k : Nat, k ≤ out.length ∧ t = out.length - k ∧ act = riB x (.lst 1 (out.map gi) .no) (i : Int) (k : Int) .dead ∧ H = hp [] [] ∧ ∀ j (h : j < out.length), j < k → out[j] < x[i]
  refine Tr.block (Tr.loop I ?_ (m := out.length) ⟨0, Nat.zero_le _, rfl, rfl, rfl, fun j h hj => by omega⟩)
  rintro t act H ⟨k, hk, rfl, rfl, rfl, hlow⟩
  have body := fun R => ri_in rhX x out (i : Int) (k : Int) R
  rw [gil, gi_ex hi, inc64 k (by omega)] at body
  have last : (∀ h : k < out.length, ¬ out[k] < x[i]) → Trl Try.prog nro ((flatten (sub (bodyOf 6) [1, 1, 0, 1, 0, 0, 1, 0, 0])).drop 4) (riB x (.lst 1 (out.map gi) .no) (i : Int) (k : Int) .dead) (hp [] [])
      fun e a h => ∃ b, Les a b ∧ lows 0 0 b = true ∧ (h.blks.take 0).all (fun b => lows 0 0 b.2) = true ∧ (e = .normal ∨ e = .exit 1) ∧ b = riA x (.lst 1 ((riseL (x.take (i + 1))).map gi) .no) (i : Int) ∧ trimH 0 0 h = hp [] [] := by
    intro hup
    refine Trl.split 1 (Trl.of_code knownH (ne_nil (by kernel_rfl)) (ri_n rhX x out (i : Int) (k : Int) _) ⟨trivial, ?_⟩)
    refine Trl.nilTip 6 1 (by kernel_rfl) rfl ?_
    show Trl _ _ ((flatten (sub (bodyOf 6) [1, 1, 0, 1, 0, 0, 1, 0, 0])).drop 5) _ _ _
    have tb := fun R => ri_b rhX x out (i : Int) (k : Int) R
    have tk : (out.map gi).take (Int.toNat ((out.length : Nat) : Int)) = out.map gi := List.take_of_length_le (by rw [List.length_map]; exact Nat.le_refl _)
    rw [gi_ex hi, gil, tk] at tb
    have cut : ([] ++ ((out.map gi).take k).drop 0) ++ [gi x[i]] ++ (out.map gi).drop k = (insI x[i] out).map gi := by
      rw [← insI_cut x[i] out k hk hlow hup, List.nil_append, List.drop_zero, List.map_append, List.map_append, List.map_take, List.map_drop]; rfl
    refine Trl.of_code knownH (ne_nil (by kernel_rfl)) (tb _) ⟨?_, ?_⟩
    · repeat' first
        | with_reducible exact trivial
        | with_reducible refine cdb_iff.2 ⟨?_, ?_⟩
        | with_reducible refine cds_of ?_ (gi_el hi)
        | with_reducible refine decide_eq_true ?_
        | fail
      all_goals
        try simp only [Int.toNat_natCast, List.drop_zero, List.length_take, List.length_drop, List.length_map, List.nil_append, List.length_append, List.length_cons, List.length_nil]
        first
          | omega
          | (refine ⟨⟨?_, ?_⟩, by first | trivial | rfl⟩ <;> omega)
    · refine ⟨(riA x (.lst 1 ((riseL (x.take (i + 1))).map gi) .no) (i : Int)), ?_, rfl, rfl, .inl rfl, rfl, rfl⟩
      have e : ([] ++ ((out.map gi).take (Int.toNat (k : Int))).drop 0) ++ [AV.v (.int .i64 x[i])] ++ (out.map gi).drop (Int.toNat (k : Int)) = (riseL (x.take (i + 1))).map gi := by
        rw [hs]; exact cut
      rw [e]
      exact Les.set 3 (x := .lst 1 ((riseL (x.take (i + 1))).map gi) (.tp 0 3)) rfl Le.no
  refine Tr.of_code knownH (body _) (holds_bif (fun h1 => ?_) fun h1 => ⟨trivial, ?_⟩)
  · have h1 : k < out.length := by have := of_decide_eq_true h1; omega
    rw [gi_ex h1]
    refine holds_bif (fun h2 => ⟨cds_of (cds_of trivial (gi_el h1)) (gi_el hi), out.length - (k + 1), by omega, k + 1, h1, rfl, rfl, rfl, fun j h hj => ?_⟩) fun h2 => ⟨cds_of (cds_of trivial (gi_el h1)) (gi_el hi), ?_⟩
    · by_cases hjk : j = k
      · subst hjk; exact of_decide_eq_true h2
      · exact hlow j h (by omega)
    · exact last fun _ => of_decide_eq_false h2
  · exact last fun h => by have := of_decide_eq_false h1; omega
set_option maxHeartbeats 4000000 in
set_option maxRecDepth 100000 in
theorem fs_rising (x : List Int) (hx : x.length ≤ 1000) : Fs Try.prog nro 6 [.lst 1 (x.map gi) .no] (hp [] []) fun r _ => r = .lst 1 ((riseL x).map gi) .no := by
  refine Fs.of_body (has_fn (by kernel_rfl)) ?_
  rw [ri_sl, ri_re]
  refine Tr.of_flat (Trl.split 3 (Trl.of_code knownH (ne_nil (by kernel_rfl)) (ri_pre rhX x _) ⟨trivial, ?_⟩))
  show Trl _ _ ((flatten (bodyOf 6)).drop 3) _ _ _
  rw [ri_fl]
  refine Tr.from (b := riA x (.lst 1 (([] : List Int).map gi) .no) 0) (Les.set 3 (x := nilS) rfl Le.nil) ?_
  let I : Nat → List AV → AH → Prop := fun t act H => ∃ i : Nat, i ≤ x.length ∧ t = x.length - i ∧ act = riA x (.lst 1 ((riseL (x.take i)).map gi) .no) (i : Int) ∧ H = hp [] []
  refine Tr.block (Tr.loop I ?_ (m := x.length) ⟨0, Nat.zero_le _, rfl, rfl, rfl⟩)
  rintro t act H ⟨i, hi, rfl, rfl, rfl⟩
  have body := fun R => ri_h rhX x (riseL (x.take i)) (i : Int) R
  rw [gil] at body
  refine Tr.of_flat (Trl.split 2 (Trl.of_code knownH (ne_nil (by kernel_rfl)) (body _) (holds_bif (fun h1 => ⟨trivial, ?_⟩) fun h1 => ⟨trivial, ?_⟩)))
  · have h1 : i < x.length := by have := of_decide_eq_true h1; omega
    show Trl _ _ ((flatten (sub (bodyOf 6) [1, 1, 0, 1, 0, 0])).drop 2) _ _ _
    rw [ri_f2]
    refine Tr.block (Tr.mono (ri_mid x hx i h1) fun e a h q => ?_)
    obtain ⟨he, rfl, rfl⟩ := q
    have post := fun R => ri_4 rhX x (riseL (x.take (i + 1))) (i : Int) R
    rw [inc64 i (by omega)] at post
    have key : Trl Try.prog nro [sub (bodyOf 6) [1, 1, 0, 1, 0, 0, 1, 1]] (riA x (.lst 1 ((riseL (x.take (i + 1))).map gi) .no) (i : Int)) (hp [] []) fun e a h => match e with
        | .normal => ∃ m', m' < x.length - i ∧ I m' a h
        | e => leave 0 (fun e a h => match e with
          | .normal => Trl Try.prog nro ((flatten (bodyOf 6)).drop 4) a h fun e a h => (e = .normal ∨ e = .ret) ∧ ansOk (fun r _ => r = .lst 1 ((riseL x).map gi) .no) (resOf Try.prog nro [.tmp 2] a h)
          | e => (e = .normal ∨ e = .ret) ∧ ansOk (fun r _ => r = .lst 1 ((riseL x).map gi) .no) (resOf Try.prog nro [.tmp 2] a h)) e a h :=
      Tr.of_code knownH (post _) ⟨trivial, x.length - (i + 1), by omega, i + 1, h1, rfl, rfl, rfl⟩
    rcases he with rfl | rfl
    · exact key
    · exact key
  · have h1 : i = x.length := by have := of_decide_eq_false h1; omega
    show Trl _ _ ((flatten (bodyOf 6)).drop 4) _ _ _
    rw [h1, List.take_length]
    exact Trl.of_code knownH (ne_nil (by kernel_rfl)) (ri_post rhX x (riseL x) _ _) ⟨trivial, .inr rfl, trivial, rfl⟩
end Go.Proofs.Ytcajdmplggpfdaa.AE
namespace Go.Proofs.Ytcajdmplggpfdaa.AE
open Go.RowKit
/-- A list of numbers in a world. -/
theorem lst_ints {G : Gh} {W : World} {l : List Int} {tip : Tip} {c : Value} (h : RV G W (.lst 1 (l.map gi) tip) c) : ∃ a cap, c = .slice a l.length cap ∧ l.length ≤ cap ∧ cap ≤ maxLen ∧ (l ≠ [] → ∃ b off, a = some ⟨b, off, none⟩ ∧ b < W.heap.size ∧ ∀ j, j < l.length → W.cell? ⟨b, off + j, none⟩ = some (.int .i64 (l.getD j 0))) := by
  cases h with
  | @lst _ _ _ a n cap cs hn hp hs hm hc hx ht =>
    rw [List.length_map] at hn
    subst hn
    have e : (l.map gi).flatMap AV.cells = (l.map (Value.int .i64)).map AV.v := by
      rw [show l.map gi = (l.map (Value.int .i64)).map AV.v by rw [List.map_map]; rfl, flat_v _ (fun u hu => by obtain ⟨z, _, rfl⟩ := List.mem_map.1 hu; rfl)]
    rw [e] at hp
    have hcs : cs = l.map (Value.int .i64) := vals_rel hp.rvs (vals_mapV _)
    subst hcs
    refine ⟨a, cap, rfl, hc, hx, fun hne => ?_⟩
    obtain ⟨b, off, rfl, hcell⟩ := hm.2 (by cases l with
      | nil => exact absurd rfl hne
      | cons z l => simp)
    have key : ∀ j, j < l.length → W.cell? ⟨b, off + j, none⟩ = some (.int .i64 (l.getD j 0)) := fun j hj => (hcell j _ (by rw [List.getElem?_map, List.getElem?_eq_getElem hj, List.getD_eq_getElem?_getD, List.getElem?_eq_getElem hj]; rfl)).2
    refine ⟨b, off, rfl, ?_, key⟩
    have h0 : 0 < l.length := List.length_pos_iff.2 hne
    exact cell_lt (key 0 h0)
theorem below_fsI {ro : Nat → Option (List Value)} {g : FuncId} {args : List AV} {u : Value} (hf : ∃ fn, Try.prog.funcs[g]? = some fn ∧ fn.body.isSome = true)
    (h : ∀ G W (cargs : Array Value), Inv G (hp [] []) W → Ro ro G W → RVs G W args cargs.toList → Calls Try.prog g cargs W fun e W' => e = .returned u ∧ Below W.heap.size W W') : Fs Try.prog ro g args (hp [] []) fun r _ => r = .v u :=
  fun G W cargs hI hR hA => ⟨hf, (h G W cargs hI hR hA).mono fun e W' ⟨he, hb⟩ => ⟨u, G, _, _, he, rfl, (hI.below hb).1, (hI.below hb).2, .v _⟩⟩
theorem arg1 {G : Gh} {W : World} {x : AV} {cargs : Array Value} (h : RVs G W [x] cargs.toList) : ∃ c, cargs = #[c] ∧ RV G W x c := by
  obtain ⟨cl⟩ := cargs
  cases h with
  | cons h t => cases t; exact ⟨_, rfl, h⟩
theorem arg2 {G : Gh} {W : World} {x y : AV} {cargs : Array Value} (h : RVs G W [x, y] cargs.toList) : ∃ c d, cargs = #[c, d] ∧ RV G W x c ∧ RV G W y d := by
  obtain ⟨cl⟩ := cargs
  cases h with
  | cons h t => cases t with | cons h2 t => cases t; exact ⟨_, _, rfl, h, h2⟩
def oneI (args : List AV) : Bool := match args with
  | [x] => (match intsA? x with | some l => decide (l.length ≤ 1000000) | none => false)
  | _ => false
theorem oneI_of (l : List Int) (t : Tip) (h : l.length ≤ 1000000) : oneI [.lst 1 (l.map gi) t] = true := by
  show (match intsA? (.lst 1 (l.map gi) t) with | some l => decide (l.length ≤ 1000000) | none => false) = true
  rw [intsA_lst]; exact decide_eq_true h
def cloV (args : List AV) : AV := .lst 1 ((intsY (args.headD .dead)).map gi) .no
theorem fs_clone (l : List Int) (hl : l.length ≤ 1000000) (ro : Nat → Option (List Value)) : Fs Try.prog ro 18 [.lst 1 (l.map gi) .no] (hp [] []) fun r _ => r = .lst 1 (l.map gi) .no := by
  have := fresh_fs (ro := ro) (g := 18) (args := [.lst 1 (l.map gi) .no]) (us := l.map (Value.int .i64)) (has_fn (by kernel_rfl)) (fun u hu => by obtain ⟨z, _, rfl⟩ := List.mem_map.1 hu; rfl) fun G W cargs hI hR hA => by
    obtain ⟨c, rfl, hc⟩ := arg1 hA
    obtain ⟨a, cap, rfl, h1, h2, h3⟩ := lst_ints hc
    cases l with
    | nil =>
      cases a with
      | none =>
        refine (Try.slices_Clone_int_nil 0 cap W).mono ?_
        rintro e W' ⟨rfl, rfl⟩
        exact ⟨_, 0, 0, 0, rfl, .inl ⟨rfl, rfl⟩, Below.refl _ _⟩
      | some a =>
        refine (Try.slices_Clone_int_zero a cap W).mono ?_
        rintro e W' ⟨v', rfl, hown, hne, hB⟩
        rcases hown.2 with ⟨rfl, _⟩ | ⟨g, cap', cur, rfl, k1, k2, k3, k4, k5, k6⟩
        · exact absurd rfl hne
        · exact ⟨_, g, 0, cap', rfl, .inr ⟨rfl, k1, (Array.getElem?_eq_some_iff.1 k2).1, k3, k4, fun j u hu => by simp at hu⟩, hB⟩
    | cons z l =>
      obtain ⟨b, off, rfl, hb, hcell⟩ := h3 (by simp)
      refine (Try.slices_Clone_int b off (z :: l).length cap (z :: l) W (Nat.le_refl _) (by omega) hcell).mono ?_
      rintro e W' ⟨v', rfl, hown, hne, hB⟩
      rcases hown.2 with ⟨rfl, _⟩ | ⟨g, cap', cur, rfl, k1, k2, k3, k4, k5, k6⟩
      · exact absurd rfl hne
      · refine ⟨_, g, 0, cap', rfl, .inr ⟨by rw [List.length_map], k1, (Array.getElem?_eq_some_iff.1 k2).1, by rw [List.length_map]; exact k3, k4, fun j u hu => ?_⟩, hB⟩
        rw [Nat.mul_one, List.take_length] at k6
        rw [← k6] at hu
        rw [Nat.zero_add]
        simp only [World.cell?, k2]
        rw [List.getElem?_take] at hu
        split at hu
        · simpa using hu
        · cases hu
  refine this.mono fun r _ h => ?_
  rw [h, List.map_map]; rfl
theorem clone_ok (ro : Nat → Option (List Value)) : ∀ args H r H', tot? cloV oneI args H = some (r, H') → HSound1 Try.prog ro 18 args H r H' := by
  refine tot_nrm (has_fn (by kernel_rfl)) fun args hok => ?_
  unfold oneI at hok
  split at hok
  · rename_i x
    split at hok
    · rename_i l hl
      obtain ⟨a1, a2⟩ := intsA_nrm hl
      refine ⟨by rw [List.all_cons, a1]; rfl, ?_⟩
      rw [List.map_cons, List.map_nil, a2]
      refine (fs_clone l (of_decide_eq_true hok) ro).mono fun r _ h => ?_
      subst h
      refine ⟨_, rfl, ?_⟩
      show Le _ (.lst 1 ((intsY x).map gi) .no)
      rw [intsY_some hl]; exact Le.refl _
    · cases hok
  · cases hok
theorem ctn_ok (ro : Nat → Option (List Value)) : ∀ args H r H', tot? (rhV rhX) rhOk args H = some (r, H') → HSound1 Try.prog ro 22 args H r H' := by
  refine tot_nrm (has_fn (by kernel_rfl)) fun args hok => ?_
  unfold rhOk at hok
  split at hok
  · rename_i x id
    split at hok
    · rename_i l hl
      obtain ⟨a4, a5⟩ := intsA_nrm hl
      refine ⟨by rw [List.all_cons, a4]; rfl, ?_⟩
      rw [List.map_cons, List.map_cons, List.map_nil, a5]
      have hb := of_decide_eq_true hok
      refine Fs.mono (below_fsI (u := .bool (decide (id ∈ l))) (has_fn (by kernel_rfl)) fun G W cargs hI hR hA => ?_) fun r _ h => ?_
      · obtain ⟨c, d, rfl, hc, hd⟩ := arg2 hA
        cases hd
        obtain ⟨a, cap, rfl, h1, h2, h3⟩ := lst_ints hc
        cases l with
        | nil =>
          refine (Try.slices_Contains_int_empty a cap id W).mono ?_
          rintro e W' ⟨rfl, rfl⟩
          exact ⟨by simp, Below.refl _ _⟩
        | cons z l =>
          obtain ⟨b, off, rfl, _, hcell⟩ := h3 (by simp)
          refine (Try.slices_Contains_int b off (z :: l).length cap (z :: l) id W (Nat.le_refl _) (by omega) hcell).mono ?_
          rintro e W' ⟨rfl, rfl⟩
          refine ⟨?_, Below.refl _ _⟩
          rw [List.take_length, List.contains_eq_mem]
      · subst h
        refine ⟨_, rfl, ?_⟩
        show Le _ (.v (.bool (decide (id ∈ intsY x))))
        rw [intsY_some hl]
        exact Le.refl _
    · cases hok
  · cases hok
def eqI (args : List AV) : Bool := match args with
  | [x, y] => (match intsA? x with | some l => decide (l.length ≤ 1000000) | none => false) && (match intsA? y with | some l => decide (l.length ≤ 1000000) | none => false)
  | _ => false
def eqV (args : List AV) : AV := .v (.bool (decide (intsY (args.headD .dead) = intsY (args.tail.headD .dead))))
theorem eq_ok (ro : Nat → Option (List Value)) : ∀ args H r H', tot? eqV eqI args H = some (r, H') → HSound1 Try.prog ro 24 args H r H' := by
  refine tot_nrm (has_fn (by kernel_rfl)) fun args hok => ?_
  unfold eqI at hok
  split at hok
  · rename_i x y
    rw [Bool.and_eq_true] at hok
    obtain ⟨hx, hy⟩ := hok
    split at hx
    · rename_i l hl
      split at hy
      · rename_i m hm
        obtain ⟨a4, a5⟩ := intsA_nrm hl
        obtain ⟨b4, b5⟩ := intsA_nrm hm
        refine ⟨by rw [List.all_cons, List.all_cons, a4, b4]; rfl, ?_⟩
        rw [List.map_cons, List.map_cons, List.map_nil, a5, b5]
        have hb := of_decide_eq_true hx
        have hb2 := of_decide_eq_true hy
        refine Fs.mono (below_fsI (u := .bool (decide (l = m))) (has_fn (by kernel_rfl)) fun G W cargs hI hR hA => ?_) fun r _ h => ?_
        · obtain ⟨c, d, rfl, hc, hd⟩ := arg2 hA
          obtain ⟨a, cap, rfl, h1, h2, h3⟩ := lst_ints hc
          obtain ⟨a2, cap2, rfl, k1, k2, k3⟩ := lst_ints hd
          by_cases hlm : l.length = m.length
          · cases l with
            | nil =>
              have hm0 : m = [] := List.eq_nil_of_length_eq_zero hlm.symm
              subst hm0
              refine (Try.slices_Equal_int_empty a a2 cap 0 cap2 W (by omega)).mono ?_
              rintro e W' ⟨rfl, rfl⟩
              exact ⟨by simp, Below.refl _ _⟩
            | cons z l =>
              have hmne : m ≠ [] := by rintro rfl; simp at hlm
              obtain ⟨b, off, rfl, _, hcell⟩ := h3 (by simp)
              obtain ⟨b2, off2, rfl, _, hcell2⟩ := k3 hmne
              refine (Try.slices_Equal_int b off (z :: l).length cap b2 off2 m.length cap2 (z :: l) m W (Nat.le_refl _) (Nat.le_refl _) (by omega) (by omega) hcell hcell2).mono ?_
              rintro e W' ⟨rfl, q, rfl⟩
              refine ⟨?_, below_drewN (Below.refl _ _) q⟩
              rw [List.take_length, List.take_length]
              congr 2
              rw [Bool.eq_iff_iff, beq_iff_eq, decide_eq_true_eq]
          · refine (Try.slices_Equal_int_lens a a2 l.length cap m.length cap2 W hlm).mono ?_
            rintro e W' ⟨rfl, rfl⟩
            have : ¬ l = m := fun e => hlm (by rw [e])
            exact ⟨by rw [decide_eq_false this], Below.refl _ _⟩
        · subst h
          refine ⟨_, rfl, ?_⟩
          show Le _ (.v (.bool (decide (intsY x = intsY y))))
          rw [intsY_some hl, intsY_some hm]
          exact Le.refl _
      · cases hy
    · cases hx
  · cases hok
end Go.Proofs.Ytcajdmplggpfdaa.AE
namespace Go.Proofs.Ytcajdmplggpfdaa.AE
open Go.RowKit
def rowI (x : List AV) : List Int := intsY (.lst 1 x .no)
theorem rowI_gi (L : List Int) : rowI (L.map gi) = L := intsY_lst L .no
def rowOk (n : Nat) (C : List AV) : Bool := match ints? C with
  | some zs => decide (zs.length = n ∧ 0 < n ∧ n ≤ 1000000)
  | none => false
theorem rowOk_of (L : List Int) (h : L ≠ []) (hl : L.length ≤ 1000000) : rowOk L.length (L.map gi) = true := by
  unfold rowOk
  rw [ints_map]
  exact decide_eq_true ⟨rfl, List.length_pos_iff.2 h, hl⟩
def srtS (SO : List AV → List Int) (SK : Nat → List AV → Bool) : ObjS where
  pick := fun args _ => match args with
    | [.sl id _ _ _] => some [id]
    | _ => none
  mask := [true]
  maskB := [true]
  spec := fun args bs => match args with
    | [.sl 0 0 n _] => match bs with
      | [(999997, C)] => some (.v (.tuple #[]), [(999997, (SO C).map gi)], SK n C)
      | _ => none
    | _ => none
def cmpS (CO : List AV → List Int) (SK : Nat → List AV → Bool) : ObjS where
  pick := fun args _ => match args with
    | [.sl id _ _ _] => some [id]
    | _ => none
  mask := [true]
  maskB := [true]
  spec := fun args bs => match args with
    | [.sl 0 0 n cap] => match bs with
      | [(999997, C)] => some (.sl 0 0 (CO C).length cap, [(999997, (CO C).map gi)], SK n C && decide (n ≤ cap))
      | _ => none
    | _ => none
def srtX (C : List AV) : List Int := (rowI C).mergeSort fun x y => decide (x ≤ y)
def cmpX (C : List AV) : List Int := Lib.compact (rowI C)
theorem raw_in {G : Gh} {W : World} {zs : List Int} (hI : Inv G (hp [(999997, zs.map gi)] []) W) : ∃ b cur e, G.δ 0 = some b ∧ W.heap[b]? = some (.cells cur e (0, 0)) ∧ zs.length ≤ cur.size ∧ cur.toList.take zs.length = zs.map (Value.int .i64) := by
  obtain ⟨b, vs, e1, e2, e3, _⟩ := hI.blk 0 999997 (zs.map gi) rfl
  obtain ⟨cur, e, h1, h2, h3⟩ := e2.raw
  have hvs : vs.toList = zs.map (Value.int .i64) := vals_rel e3 (by rw [show zs.map gi = (zs.map (Value.int .i64)).map AV.v by rw [List.map_map]; rfl]; exact vals_mapV _)
  have hsz : vs.size = zs.length := by rw [← Array.length_toList, hvs, List.length_map]
  rw [hsz, hvs] at h3
  rw [hsz] at h2
  exact ⟨b, cur, e, e1, h1, h2, h3⟩
/-- The first cells are other numbers now. -/
theorem raw_out {G : Gh} {W : World} {zs ys : List Int} (hI : Inv G (hp [(999997, zs.map gi)] []) W) {b : Nat} {cur : Array Value} {e : TypeId} (hd : G.δ 0 = some b) (hb : W.heap[b]? = some (.cells cur e (0, 0))) (n : Nat) (os : Array Obj) (d : List Int) (hdl : d.length ≤ cur.size) (hy : ys.length ≤ d.length) (hyd : d.take ys.length = ys) :
    Ext G W G (Sort.grow (Sort.putRow (Value.int .i64) (Sort.ahead W n) b 0 d.toArray) os) ∧ Inv G (hp [(999997, ys.map gi)] []) (Sort.grow (Sort.putRow (Value.int .i64) (Sort.ahead W n) b 0 d.toArray) os) := by
  have hh := heap_sortedI (n := n) (os := os) d.toArray hb
  have ht := take_putCellsI cur d hdl
  have := hI.turned (id := 0) (b := b) (t := 999997) (cs := zs.map gi) rfl hd (grownBy_sortedI (n := n) (os := os) d.toArray) (t' := 999997) (cs' := ys.map gi) (vs' := (ys.map (Value.int .i64)).toArray)
    (.inr (.inr ⟨rfl, _, e, hh, by simp [Sort.putCells]; omega, by
      have h2 : ((Sort.putCells (Value.int .i64) 0 d.toArray cur).toList.take d.length).take ys.length = (d.map (Value.int .i64)).take ys.length := by rw [ht]
      rw [List.take_take, Nat.min_eq_left hy, ← List.map_take, hyd] at h2
      simpa using h2⟩)) (by rw [show ys.map gi = (ys.map (Value.int .i64)).map AV.v by rw [List.map_map]; rfl]; exact RVs.map_v _) (fun h => absurd rfl h.2)
  exact this
theorem srt_ok (ro : Nat → Option (List Value)) : ∀ args H r H', obj? (srtS srtX rowOk) args H = some (r, H') → HSound1 Try.prog ro 19 args H r H' := by
  refine obj_ok (has_fn (by kernel_rfl)) fun args bs r bs2 h => ?_
  unfold srtS at h
  simp only at h
  split at h
  · rename_i n cap
    split at h
    · rename_i C
      simp only [Option.some.injEq, Prod.mk.injEq] at h
      obtain ⟨rfl, rfl, hok⟩ := h
      unfold rowOk at hok
      split at hok
      · rename_i zs hz
        obtain ⟨rfl, h1, h2⟩ := of_decide_eq_true hok
        have hC := ints_eq hz
        subst hC
        refine fun G W cargs hI hR hA => ⟨has_fn (by kernel_rfl), ?_⟩
        obtain ⟨c, rfl, hc⟩ := arg1 hA
        obtain ⟨b, cur, e, hd, hb, hl, ht⟩ := raw_in hI
        cases hc with
        | sl hd2 =>
          rw [hd] at hd2
          cases hd2
          refine (Try.slices_Sort_int b 0 cap zs W (holds_of_blockI hb ht) (Array.getElem?_eq_some_iff.1 hb).1 (by omega)).mono ?_
          rintro e W' ⟨rfl, q, os, rfl⟩
          have hlen : (zs.mergeSort fun x y => decide (x ≤ y)).length = zs.length := List.length_mergeSort _
          have hx : srtX (zs.map gi) = zs.mergeSort fun x y => decide (x ≤ y) := by unfold srtX; rw [rowI_gi]
          obtain ⟨x1, x2⟩ := raw_out (ys := zs.mergeSort fun x y => decide (x ≤ y)) hI hd hb q os (zs.mergeSort fun x y => decide (x ≤ y)) (by omega) (Nat.le_refl _) (List.take_length ..)
          exact ⟨_, G, _, _, rfl, ⟨.inl rfl, [], [], by rw [hx]; rfl⟩, x1, x2, .v _⟩
      · cases hok
    · cases h
  · cases h
theorem cmp_ok (ro : Nat → Option (List Value)) : ∀ args H r H', obj? (cmpS cmpX rowOk) args H = some (r, H') → HSound1 Try.prog ro 20 args H r H' := by
  refine obj_ok (has_fn (by kernel_rfl)) fun args bs r bs2 h => ?_
  unfold cmpS at h
  simp only at h
  split at h
  · rename_i n cap
    split at h
    · rename_i C
      simp only [Option.some.injEq, Prod.mk.injEq, Bool.and_eq_true] at h
      obtain ⟨rfl, rfl, hok, hcap⟩ := h
      unfold rowOk at hok
      split at hok
      · rename_i zs hz
        obtain ⟨rfl, h1, h2⟩ := of_decide_eq_true hok
        have hcap := of_decide_eq_true hcap
        have hC := ints_eq hz
        subst hC
        refine fun G W cargs hI hR hA => ⟨has_fn (by kernel_rfl), ?_⟩
        obtain ⟨c, rfl, hc⟩ := arg1 hA
        obtain ⟨b, cur, e, hd, hb, hl, ht⟩ := raw_in hI
        cases hc with
        | sl hd2 =>
          rw [hd] at hd2
          cases hd2
          refine (Try.slices_Compact_int b 0 cap zs W (holds_of_blockI hb ht) (by omega) hcap).mono ?_
          rintro e W' ⟨rfl, q, rfl⟩
          have hx : cmpX (zs.map gi) = Lib.compact zs := by unfold cmpX; rw [rowI_gi]
          have hle : (Lib.compact zs).length ≤ zs.length := by
            unfold Lib.compact Lib.compactUpTo
            rw [List.length_map]
            exact Nat.le_trans (List.length_filter_le ..) (by simp)
          obtain ⟨x1, x2⟩ := raw_out (ys := Lib.compact zs) hI hd hb q #[] (Lib.compact zs ++ List.replicate (zs.length - (Lib.compact zs).length) 0) (by rw [List.length_append, List.length_replicate]; omega) (by rw [List.length_append]; omega) (List.take_left' rfl)
          rw [Sort.grow_empty] at x1 x2
          rw [hx]
          exact ⟨_, G, _, _, rfl, ⟨.inl rfl, [], [], rfl⟩, x1, x2, .sl hd⟩
      · cases hok
    · cases h
  · cases h
/-- A row of its own, of which the first cells are told. -/
theorem fs_cloneR {H : AH} (l : List Int) (hne : l ≠ []) (hl : l.length ≤ 1000000) (ro : Nat → Option (List Value)) : Fs Try.prog ro 18 [.lst 1 (l.map gi) .no] H fun r h => ∃ cap, l.length ≤ cap ∧ cap ≤ maxLen ∧ r = .sl H.blks.length 0 l.length cap ∧ h = { H with blks := H.blks ++ [(999997, l.map gi)] } := by
  refine fun G W cargs hI hR hA => ⟨has_fn (by kernel_rfl), ?_⟩
  obtain ⟨c, rfl, hc⟩ := arg1 hA
  obtain ⟨a, cap, rfl, h1, h2, h3⟩ := lst_ints hc
  obtain ⟨b, off, rfl, hb, hcell⟩ := h3 hne
  refine (Try.slices_Clone_int b off l.length cap l W (Nat.le_refl _) (by omega) hcell).mono ?_
  rintro e W' ⟨v', rfl, hown, hne2, hB⟩
  rcases hown.2 with ⟨rfl, _⟩ | ⟨g, cap', cur, rfl, k1, k2, k3, k4, k5, k6⟩
  · exact absurd rfl hne2
  · rw [Nat.mul_one, List.take_length] at k6
    have hul : (l.map (Value.int .i64)).length = l.length := List.length_map ..
    obtain ⟨G', x1, x2, x3⟩ := hI.rawNew hB k1 k2 (us := l.map (Value.int .i64)) (by rw [hul, k5]; omega) (by rw [hul]; exact k6)
    have e : (l.map (Value.int .i64)).map AV.v = l.map gi := by rw [List.map_map]; rfl
    rw [e] at x2
    exact ⟨_, G', _, _, rfl, ⟨cap', k3, k4, rfl, rfl⟩, x1, x2, .sl x3⟩
end Go.Proofs.Ytcajdmplggpfdaa.AE
