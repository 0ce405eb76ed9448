/-
  The walk of the law UserClasses, and the contracts of the plain answers of layer 9.
-/
import Derived.Test.YtjppoiplcfifcaaL09Law
import Derived.Deep.Fields
namespace Go.Proofs.Ytjppoiplcfifcaa
open Go.RowKit Bd Us
open Mx (M In)
theorem nat_of (z : Int) (h : (Lit.int .u64 z).wf = true) : ∃ n : Nat, z = (n : Int) ∧ n < M := by
  simp only [Lit.wf, Bool.and_eq_true, decide_eq_true_eq] at h
  have h1 : 0 ≤ z := h.1
  have h2 : z ≤ 18446744073709551615 := h.2
  exact ⟨z.toNat, by omega, by unfold M; omega⟩
theorem of_in {H : Type} {enc : TypeId × Value → H} {w : World} {base : Nat} {fs : Array Field} {t : TypeId} {v : Value} {d : DataW H} {p : List MemPlace}
    (ht : Try.prog.underlying t = some (.struct fs)) (hone : Deep.oneCellFields Try.prog fs = true) (hT : Try.prog.cellsOf t = fs.size) (hty : fs.toList.map (·.type) = [22, 3, 3])
    (hv : Value.okWide Try.prog w .any base t v) (h : DataW.Trod enc Try.prog w 0 (fun _ => true) true t v d p) :
    ∃ k c r : Int, v = .agg #[.int .u64 k, .int .i64 c, .int .i64 r] ∧ (Lit.int .u64 k).wf = true ∧ (Lit.int .i64 c).wf = true ∧ (Lit.int .i64 r).wf = true := by
  have h3 : fs.size = 3 := by have := congrArg List.length hty; simpa using this
  obtain ⟨cs, rfl, hsz⟩ := WideShapes.okWide_struct ht hv
  rw [hT] at hsz
  obtain ⟨fuel, hf⟩ := h
  obtain ⟨xs, m, _, _, _, hxl, hx⟩ := DataW.trod_struct ht hf
  have cell : ∀ (i : Nat) (T : TypeId) (K : IntKind), (fs.toList.map (·.type))[i]? = some T → Try.prog.underlying T = some (.int K) → ∃ z : Int, cs[i]? = some (.int K z) ∧ (Lit.int K z).wf = true := by
    intro i T K hi hK
    rw [List.getElem?_map, Option.map_eq_some_iff] at hi
    obtain ⟨f, hfi, hfT⟩ := hi
    have hil : i < fs.size := by have := (List.getElem?_eq_some_iff.1 hfi).1; simpa using this
    have hfi' : fs[i]? = some f := by simpa using hfi
    obtain ⟨ho, hk⟩ := Deep.hone_of hone i _ hfi'
    have h1 := hx i _ hfi'
    have hil2 : i < cs.toList.length := by simpa [hsz] using hil
    have hdrop : ((Value.agg cs).cells.toList.drop i).take 1 = [cs.toList[i]] := by
      show (cs.toList.drop i).take 1 = _
      rw [List.drop_eq_getElem_cons hil2]
      rfl
    rw [ho, hk, hdrop, hfT, List.getElem?_eq_getElem (by omega)] at h1
    obtain ⟨z, hz, _, hwf⟩ := DataW.trod_int hK h1
    refine ⟨z, ?_, hwf⟩
    simp at hz
    rw [Array.getElem?_eq_getElem (by omega), hz]
  rw [hty] at cell
  obtain ⟨k, hk, wk⟩ := cell 0 _ .u64 rfl Try.underlying22
  obtain ⟨c, hc, wc⟩ := cell 1 _ .i64 rfl Try.underlying3
  obtain ⟨r, hr, wr⟩ := cell 2 _ .i64 rfl Try.underlying3
  refine ⟨k, c, r, ?_, wk, wc, wr⟩
  congr 1
  apply Array.ext_getElem?
  intro i
  match i with
  | 0 => rw [hk]; rfl
  | 1 => rw [hc]; rfl
  | 2 => rw [hr]; rfl
  | i + 3 => rw [Array.getElem?_eq_none (by omega), Array.getElem?_eq_none (by simp)]
def rightB (c r : Int) : Bool := decide (1 ≤ c) && decide (c ≤ 16) && decide (1 ≤ r) && decide (r ≤ 1099511627776)
theorem rightB_iff (c r : Int) : rightB c r = true ↔ 1 ≤ c ∧ c ≤ 16 ∧ 1 ≤ r ∧ r ≤ 1099511627776 := by
  unfold rightB; simp [Bool.and_eq_true, and_assoc]
theorem rright_yes (c r : Int) (w : World) (h1 : 1 ≤ c) (h2 : c ≤ 16) (h3 : 1 ≤ r) (h4 : r ≤ 1099511627776) :
    Calls Try.prog 7 #[.int .i64 c, .int .i64 r] w fun e w' => e = .returned (.bool true) ∧ w = w' := by
  go_enter Try.func7, Try.ntmps7
  go_wp2_with fail
  go_ret
  exact ⟨ret_bool (by first | rfl | exact decide_eq_true h4), rfl⟩
theorem rright_no (c r : Int) (w : World) (h : ¬ (1 ≤ c ∧ c ≤ 16 ∧ 1 ≤ r ∧ r ≤ 1099511627776)) :
    Calls Try.prog 7 #[.int .i64 c, .int .i64 r] w fun e w' => e = .returned (.bool false) ∧ w = w' := by
  by_cases h1 : 1 ≤ c
  · by_cases h2 : c ≤ 16
    · by_cases h3 : 1 ≤ r
      · have h4 : 1099511627776 < r := by omega
        clear h
        go_enter Try.func7, Try.ntmps7
        go_wp2_with fail
        go_ret
        first | exact ⟨rfl, rfl⟩ | exact ⟨ret_bool (by first | rfl | exact decide_eq_false (by omega)), rfl⟩
      · have h3 : r < 1 := by omega
        clear h
        go_enter Try.func7, Try.ntmps7
        go_wp2_with fail
        go_ret
        first | exact ⟨rfl, rfl⟩ | exact ⟨ret_bool (by first | rfl | exact decide_eq_false (by omega)), rfl⟩
    · have h2 : 16 < c := by omega
      clear h
      go_enter Try.func7, Try.ntmps7
      go_wp2_with fail
      go_ret
      first | exact ⟨rfl, rfl⟩ | exact ⟨ret_bool (by first | rfl | exact decide_eq_false (by omega)), rfl⟩
  · have h1 : c < 1 := by omega
    clear h
    go_enter Try.func7, Try.ntmps7
    go_wp2_with fail
    go_ret
    first | exact ⟨rfl, rfl⟩ | exact ⟨ret_bool (by first | rfl | exact decide_eq_false (by omega)), rfl⟩
theorem rturn09 (r now : Int) (w : World) (h3 : 1 ≤ r) :
    Calls Try.prog 13 #[.int .i64 r, .int .i64 now] w fun e w' => e = .returned (.int .i64 (trn r now)) ∧ w = w' := by
  have E := Lib.hid (show trn r now = kp now tMost / r from rfl)
  have hk := kt now
  have hk1 := hk.1
  have hk2 := hk.2
  have hz : (r == 0) = false := by simp; omega
  clear hk
  go_enter Try.func13, Try.ntmps13
  go_wp2_with fail
  refine (rtick_any _ _).mono ?_; rintro e w' ⟨rfl, rfl⟩
  go_wp2_with fail
  go_ret
  exact ⟨ret_int E.out.symm, rfl⟩
theorem rclass09 (k u : Nat) (c r now : Int) (w : World) (h1 : 1 ≤ c) (h2 : c ≤ 16) (h3 : 1 ≤ r) (h4 : r ≤ 1099511627776) (hk : k < M) (hu : u < M) :
    Calls Try.prog 15 #[.int .u64 k, .int .i64 c, .int .i64 r, .int .u64 u, .int .i64 now] w fun e w' => e = .returned (.int .i64 (cls k (trn r now).toNat u c)) ∧ w = w' := by
  have PT := Lib.hid (fun w => rturn09 r now w h3)
  obtain ⟨t1, t2, _⟩ := trn_b r now h3 h4
  have hw := wn (trn r now) t1 (by omega)
  generalize trn r now = tr at *
  obtain ⟨x, rfl⟩ : ∃ x : Nat, tr = (x : Int) := ⟨tr.toNat, by omega⟩
  rw [Int.toNat_natCast]
  have PC := Lib.hid (fun w => rclass_any k x u c w ⟨by unfold M; omega, hu⟩ hk (by omega))
  go_enter Try.func15, Try.ntmps15
  go_wp2_with fail
  refine (PT.out _).mono ?_; rintro e w' ⟨rfl, rfl⟩
  go_wp2_with fail
  refine (PC.out _).mono ?_; rintro e w' ⟨rfl, rfl⟩
  go_wp2_with fail
  go_ret
  exact ⟨rfl, rfl⟩
/-- What UserClasses holds: what it was handed, and the users. -/
structure Ou (w0 : World) (g : Nat) (k c r k' c' r' : Int) (W : World) : Prop where
  bl : Below w0.heap.size w0 W
  ob : Bk W w0.heap.size 24 #[.int .u64 k, .int .i64 c, .int .i64 r]
  ub : Bk W g 26 #[.int .u64 k', .int .i64 c', .int .i64 r']
theorem Ou.below {w0 W W' : World} {g : Nat} {k c r k' c' r' : Int} (h : Ou w0 g k c r k' c' r' W) (b : Below W.heap.size W W') : Ou w0 g k c r k' c' r' W' := ⟨h.bl.trans (b.mono h.bl.size), h.ob.below b, h.ub.below b⟩
def OuC (w0 : World) (g : Nat) (k c r k' c' r' : Int) (W : World) : Prop :=
  W.cell? ⟨w0.heap.size, 0, none⟩ = some (.int .u64 k) ∧ W.cell? ⟨w0.heap.size, 1, none⟩ = some (.int .i64 c) ∧ W.cell? ⟨w0.heap.size, 2, none⟩ = some (.int .i64 r) ∧ W.cell? ⟨g, 0, none⟩ = some (.int .u64 k') ∧ W.cell? ⟨g, 1, none⟩ = some (.int .i64 c') ∧ W.cell? ⟨g, 2, none⟩ = some (.int .i64 r')
theorem Ou.cells {w0 W : World} {g : Nat} {k c r k' c' r' : Int} (h : Ou w0 g k c r k' c' r' W) : OuC w0 g k c r k' c' r' W := ⟨h.ob.cell 0, h.ob.cell 1, h.ob.cell 2, h.ub.cell 0, h.ub.cell 1, h.ub.cell 2⟩
end Go.Proofs.Ytjppoiplcfifcaa
