/-
  Texts put together, and taken apart: by the library's contracts.
-/
import Derived.Test.YtlonpmcgejdkkaaGreatDoorAEList
import Derived.Test.YtlonpmcgejdkkaaGreatDoorShelf
import Derived.Lib.SplitLaws
namespace Go.Proofs.YtlonpmcgejdkkaaGreatDoor.AE
set_option maxRecDepth 100000
open Go.RowKit
def strs? : List AV → Option (List ByteArray)
  | [] => some []
  | .v (.string s) :: l => match strs? l with
    | some r => some (s :: r)
    | none => none
  | _ => none
theorem strs_map : ∀ l : List ByteArray, strs? (l.map sv) = some l
  | [] => rfl
  | s :: l => by show (match strs? (l.map sv) with | some r => some (s :: r) | none => none) = _; rw [strs_map l]
theorem strs_eq : ∀ {xs : List AV} {l : List ByteArray}, strs? xs = some l → xs = l.map sv
  | [], l, h => by cases h; rfl
  | .v (.string s) :: xs, l, h => by
    have h : (match strs? xs with | some r => some (s :: r) | none => none) = some l := h
    split at h
    · rename_i r hr
      cases h
      rw [strs_eq hr]; rfl
    · cases h
def joinB (l : List ByteArray) (sep : ByteArray) : ByteArray := ⟨(Lib.join (l.map (·.data.toList)) sep.data.toList).toArray⟩
def joinP (args : List AV) : Option (ByteArray × Bool) := match args with
  | [.lst 1 xs _, .v (.string sep)] => match strs? xs with
    | some l => some (joinB l sep, decide (l.length ≤ 140737488355328 ∧ (joinB l sep).size ≤ 140737488355328))
    | none => none
  | _ => none
def joinV (args : List AV) : AV := .v (.string (match joinP args with
  | some r => r.1
  | none => ByteArray.empty))
def joinOk (args : List AV) : Bool := match joinP args with
  | some r => r.2
  | none => false
theorem below_fs {ro : Nat → Option (List Value)} {g : FuncId} {args : List AV} {u : Value} (hf : ∃ fn, Tryz.prog.funcs[g]? = some fn ∧ fn.body.isSome = true)
    (h : ∀ G W (cargs : Array Value), Inv G (hp [] []) W → Ro ro G W → RVs G W args cargs.toList → Calls Tryz.prog g cargs W fun e W' => e = .returned u ∧ Below W.heap.size W W') : Fs Tryz.prog ro g args (hp [] []) fun r _ => r = .v u :=
  fun G W cargs hI hR hA => ⟨hf, (h G W cargs hI hR hA).mono fun e W' ⟨he, hb⟩ => ⟨u, G, _, _, he, rfl, (hI.below hb).1, (hI.below hb).2, .v _⟩⟩
theorem join_ok (ro : Nat → Option (List Value)) : ∀ args H r H', tot? joinV joinOk args H = some (r, H') → HSound1 Tryz.prog ro 125 args H r H' := by
  refine tot_ok (has_fn (by kernel_rfl)) fun args hok => ?_
  unfold joinOk at hok
  unfold joinV
  split at hok
  · rename_i rb hj
    unfold joinP at hj
    split at hj
    · rename_i xs tip sep
      split at hj
      · rename_i l hl
        cases hj
        have hx := strs_eq hl
        subst hx
        obtain ⟨hn, hz⟩ := of_decide_eq_true hok
        have hcl : ∃ tip', cleans [AV.lst 1 (l.map sv) tip, .v (.string sep)] = some [.lst 1 (l.map sv) tip', .v (.string sep)] := by
          cases tip <;> exact ⟨_, rfl⟩
        obtain ⟨tip', hcl⟩ := hcl
        refine ⟨_, hcl, Fs.mono (below_fs (u := .string (joinB l sep)) (has_fn (by kernel_rfl)) fun G W cargs hI hR hA => ?_) fun r _ h => by subst h; exact ⟨_, rfl, Le.refl _⟩⟩
        obtain ⟨cl⟩ := cargs
        cases hA with
        | cons h1 h2 =>
          cases h2 with
          | cons h2 h3 =>
            cases h3
            cases h2
            cases h1 with
            | @lst _ _ _ a n cap cs hl1 hp hs hm hc hx ht =>
              rw [List.length_map] at hl1
              subst hl1
              have hcs : cs = l.map Value.string := by
                have : (l.map sv).flatMap AV.cells = (l.map Value.string).map AV.v := by
                  rw [show l.map sv = (l.map Value.string).map AV.v by rw [List.map_map]; rfl, flat_v _ (fun u hu => by obtain ⟨z, _, rfl⟩ := List.mem_map.1 hu; rfl)]
                rw [this] at hp
                exact vals_rel hp.rvs (by
                  generalize l.map Value.string = us
                  induction us with
                  | nil => rfl
                  | cons u l ih => simp [vals?, AV.val?, ih])
              subst hcs
              cases l with
              | nil =>
                refine (Tryz.strings_Join_none a cap sep W).mono ?_
                rintro e w' ⟨rfl, rfl⟩
                exact ⟨rfl, Below.refl _ _⟩
              | cons x l =>
                obtain ⟨b, off, rfl, hcell⟩ := hm.2 (by simp)
                have hz' : (Lib.join ((x :: l).map (·.data.toList)) sep.data.toList).length ≤ 140737488355328 := by
                  have : (joinB (x :: l) sep).size = (Lib.join ((x :: l).map (·.data.toList)) sep.data.toList).length := by show (List.toArray _).size = _; simp
                  rw [this] at hz; exact hz
                refine Tryz.strings_Join b off cap (x :: l) sep W (fun j y hj => (hcell j _ (by rw [List.getElem?_map, hj]; rfl)).2) ?_ hn hc hz'
                have := (hcell 0 (.string x) rfl).2
                exact cell_lt this
      · cases hj
    · cases hj
  · cases hok
def splitL (s sep : ByteArray) : List ByteArray := Lib.splitB sep 0 (Lib.countB s sep) s
def splitP (args : List AV) : Option (List ByteArray × Bool) := match args with
  | [.v (.string s), .v (.string sep)] => some (splitL s sep, decide (s.size < 4294967281 ∧ 1 ≤ sep.size))
  | _ => none
def splitV (args : List AV) : AV := .lst 1 ((match splitP args with
  | some r => r.1
  | none => []).map sv) .exact
def splitOk (args : List AV) : Bool := match splitP args with
  | some r => r.2
  | none => false
end Go.Proofs.YtlonpmcgejdkkaaGreatDoor.AE
