
/-
  Layer 28: a line's numbers come back: plain facts.
-/
import Derived.Test.YtkienkbaiejdmaaDoorZ2
namespace Go.Proofs.YtkienkbaiejdmaaDoor.AE
open Go.RowKit
def hdB : List ByteArray := [⟨#[119, 111, 114, 107, 101, 114, 115]⟩, ⟨#[113, 117, 101, 117, 101]⟩, ⟨#[119, 105, 110, 100, 111, 119]⟩, ⟨#[116, 105, 101, 114, 115]⟩, ⟨#[115, 101, 101, 110]⟩, ⟨#[116, 116, 108]⟩, ⟨#[108, 111, 119]⟩, ⟨#[104, 105, 103, 104]⟩, ⟨#[99, 117, 116]⟩, ⟨#[108, 105, 102, 116]⟩, ⟨#[102, 108, 111, 111, 114]⟩, ⟨#[116, 117, 114, 110]⟩, ⟨#[100, 119, 101, 108, 108]⟩]
def tlB : List ByteArray := [⟨#[116, 111]⟩, ⟨#[116, 105, 101, 114]⟩, ⟨#[119, 101, 105, 103, 104, 116]⟩, ⟨#[109, 111, 115, 116]⟩]
def svW : ByteArray := ⟨#[115, 101, 114, 118, 105, 99, 101]⟩
def clW : ByteArray := ⟨#[99, 97, 108, 108]⟩
def clineS (c : Cl) : ByteArray := rowS clW tlB [c.to, c.tier, c.weight, c.most]
def linesL (xs : List Int) (cs : List Cl) : List ByteArray := rowS svW hdB xs :: cs.map clineS
def clOk (c : Cl) : Prop := w64 c.to ∧ w64 c.tier ∧ w64 c.weight ∧ w64 c.most
theorem rowX_of (w : ByteArray) (ns : List ByteArray) (zs : List Int) (t u : Tip) : rowX w (.lst 1 (ns.map sv) t) (.lst 1 (zs.map gi) u) = rowS w ns zs := by unfold rowX; rw [strsX_lst, intsX_lst]
theorem Le.noTip (sz : Nat) (xs : List AV) (t : Tip) : Le (.lst sz xs t) (.lst sz xs .no) := fun G W c h => by
  cases h with
  | lst hn hr hs hm hc hx ht => exact .lst hn hr hs hm hc hx trivial
theorem hd_ok {x1 x2 x3 x4 x5 x6 x7 x8 x9 x10 x11 x12 x13 : Int} (hx : ∀ z ∈ [x1, x2, x3, x4, x5, x6, x7, x8, x9, x10, x11, x12, x13], w64 z) : RowOk svW hdB [x1, x2, x3, x4, x5, x6, x7, x8, x9, x10, x11, x12, x13] := ⟨by decide, by decide, by decide, by show 13 ≤ 100; omega, hx⟩
theorem tl_ok {c : Cl} (h : clOk c) : RowOk clW tlB [c.to, c.tier, c.weight, c.most] := ⟨by decide, by decide, by decide, by show 4 ≤ 100; omega, fun z hz => by
  obtain ⟨h1, h2, h3, h4⟩ := h
  simp only [List.mem_cons, List.not_mem_nil, or_false] at hz
  rcases hz with rfl | rfl | rfl | rfl <;> assumption⟩
theorem cl_get {cs : List Cl} {i : Nat} (h : i < cs.length) : (cs.map clA).getD (Int.toNat (i : Int)) .dead = clA cs[i] := by
  show (cs.map clA).getD i .dead = _
  rw [List.getD_eq_getElem?_getD]
  simp [h]
theorem cl_el {cs : List Cl} {i : Nat} (h : i < cs.length) : (0 : Int) ≤ (i : Int) ∧ (cs.map clA)[Int.toNat (i : Int)]? = some (clA cs[i]) := ⟨Int.natCast_nonneg i, by
  show (cs.map clA)[i]? = _
  simp [h]⟩
theorem take_one {cs : List Cl} (h : 0 < cs.length) : (cs.map clineS).take 1 = [clineS cs[0]] := by
  match cs, h with
  | c :: l, _ => rfl
theorem l_post (RW : ByteArray → AV → AV → ByteArray) (NX : ByteArray → ByteArray → AV → List Int) (NB : ByteArray → ByteArray → AV → Bool) (tS tR : TypeId) (pS pR : Value) (x1 x2 x3 x4 x5 x6 x7 x8 x9 x10 x11 x12 x13 : Int) (row : AV) (ts : List Nat) (cs : List Cl) (m i : Int) (R : Exit → List AV → AH → Prop) : codeL (roN tS pS tR pR) (fun _ => false) (prG RW NX NB) 8 ((flatten (bodyOf 22)).drop 5) (linA row cs m i) (hp [(26, svcC x1 x2 x3 x4 x5 x6 x7 x8 x9 x10 x11 x12 x13 cs), (83, namesV.map AV.v)] ts) (kp [2] R) =
    (some (True ∧ (R Exit.ret [AV.dead, AV.dead, row, AV.dead, AV.dead, AV.dead, AV.dead, AV.dead, AV.dead, AV.dead, AV.dead, AV.dead, AV.dead, AV.dead, AV.dead, AV.dead, AV.dead, AV.dead, AV.dead, AV.dead, AV.dead, AV.dead, AV.dead, AV.dead, AV.dead, AV.dead, AV.dead, AV.dead, AV.dead, AV.dead, AV.dead, AV.dead, AV.dead, AV.dead, AV.dead, AV.dead, AV.dead, AV.dead, AV.dead, AV.dead, AV.dead, AV.dead, AV.dead, AV.dead, AV.dead, AV.dead, AV.dead, AV.dead, AV.dead, AV.dead, AV.dead] (AH.mk [((26 : Nat), [(AV.v (Value.int IntKind.i64 x1)), (AV.v (Value.int IntKind.i64 x2)), (AV.v (Value.int IntKind.i64 x3)), (AV.v (Value.int IntKind.i64 x4)), (AV.v (Value.int IntKind.i64 x5)), (AV.v (Value.int IntKind.i64 x6)), (AV.v (Value.int IntKind.i64 x7)), (AV.v (Value.int IntKind.i64 x8)), (AV.v (Value.int IntKind.i64 x9)), (AV.v (Value.int IntKind.i64 x10)), (AV.v (Value.int IntKind.i64 x11)), (AV.v (Value.int IntKind.i64 x12)), (AV.v (Value.int IntKind.i64 x13)), (AV.lst (4 : Nat) (List.map (fun (c : Cl) => (AV.v (Value.agg #[(Value.int IntKind.i64 (c).1), (Value.int IntKind.i64 (c).2), (Value.int IntKind.i64 (c).3), (Value.int IntKind.i64 (c).4)]))) cs) Tip.no)]), ((83 : Nat), [(AV.v (Value.string (ByteArray.mk #[(@OfNat.ofNat UInt8 (108 : Nat) (@UInt8.instOfNat 108)), (@OfNat.ofNat UInt8 (111 : Nat) (@UInt8.instOfNat 111)), (@OfNat.ofNat UInt8 (119 : Nat) (@UInt8.instOfNat 119))]))), (AV.v (Value.string (ByteArray.mk #[(@OfNat.ofNat UInt8 (104 : Nat) (@UInt8.instOfNat 104)), (@OfNat.ofNat UInt8 (105 : Nat) (@UInt8.instOfNat 105)), (@OfNat.ofNat UInt8 (103 : Nat) (@UInt8.instOfNat 103)), (@OfNat.ofNat UInt8 (104 : Nat) (@UInt8.instOfNat 104))]))), (AV.v (Value.string (ByteArray.mk #[(@OfNat.ofNat UInt8 (99 : Nat) (@UInt8.instOfNat 99)), (@OfNat.ofNat UInt8 (117 : Nat) (@UInt8.instOfNat 117)), (@OfNat.ofNat UInt8 (116 : Nat) (@UInt8.instOfNat 116))]))), (AV.v (Value.string (ByteArray.mk #[(@OfNat.ofNat UInt8 (108 : Nat) (@UInt8.instOfNat 108)), (@OfNat.ofNat UInt8 (105 : Nat) (@UInt8.instOfNat 105)), (@OfNat.ofNat UInt8 (102 : Nat) (@UInt8.instOfNat 102)), (@OfNat.ofNat UInt8 (116 : Nat) (@UInt8.instOfNat 116))]))), (AV.v (Value.string (ByteArray.mk #[(@OfNat.ofNat UInt8 (102 : Nat) (@UInt8.instOfNat 102)), (@OfNat.ofNat UInt8 (108 : Nat) (@UInt8.instOfNat 108)), (@OfNat.ofNat UInt8 (111 : Nat) (@UInt8.instOfNat 111)), (@OfNat.ofNat UInt8 (111 : Nat) (@UInt8.instOfNat 111)), (@OfNat.ofNat UInt8 (114 : Nat) (@UInt8.instOfNat 114))]))), (AV.v (Value.string (ByteArray.mk #[(@OfNat.ofNat UInt8 (116 : Nat) (@UInt8.instOfNat 116)), (@OfNat.ofNat UInt8 (117 : Nat) (@UInt8.instOfNat 117)), (@OfNat.ofNat UInt8 (114 : Nat) (@UInt8.instOfNat 114)), (@OfNat.ofNat UInt8 (110 : Nat) (@UInt8.instOfNat 110))]))), (AV.v (Value.string (ByteArray.mk #[(@OfNat.ofNat UInt8 (100 : Nat) (@UInt8.instOfNat 100)), (@OfNat.ofNat UInt8 (119 : Nat) (@UInt8.instOfNat 119)), (@OfNat.ofNat UInt8 (101 : Nat) (@UInt8.instOfNat 101)), (@OfNat.ofNat UInt8 (108 : Nat) (@UInt8.instOfNat 108)), (@OfNat.ofNat UInt8 (108 : Nat) (@UInt8.instOfNat 108))])))])] ts (0 : Nat) (0 : Nat) true (@List.nil (Prod Nat Bool)) True)))) := by kernel_rfl
theorem rl_post (RW : ByteArray → AV → AV → ByteArray) (NX : ByteArray → ByteArray → AV → List Int) (NB : ByteArray → ByteArray → AV → Bool) (tS tR : TypeId) (pS pR : Value) (x1 x2 x3 x4 x5 x6 x7 x8 x9 x10 x11 x12 x13 : Int) (row : AV) (ts : List Nat) (cs : List Cl) (i : Int) (R : Exit → List AV → AH → Prop) : codeL (roN tS pS tR pR) (fun _ => false) (prG RW NX NB) 8 ((flatten (bodyOf 23)).drop 4) (rlinA row i) (hp [(26, svcC x1 x2 x3 x4 x5 x6 x7 x8 x9 x10 x11 x12 x13 cs)] ts) (kp [2] R) =
    (some (True ∧ (R Exit.ret [AV.dead, AV.dead, row, AV.dead, AV.dead, AV.dead, AV.dead, AV.dead, AV.dead, AV.dead, AV.dead, AV.dead, AV.dead, AV.dead, AV.dead, AV.dead, AV.dead, AV.dead, AV.dead, AV.dead, AV.dead, AV.dead, AV.dead, AV.dead, AV.dead, AV.dead, AV.dead, AV.dead, AV.dead, AV.dead, AV.dead, AV.dead, AV.dead, AV.dead, AV.dead, AV.dead, AV.dead, AV.dead] (AH.mk [((26 : Nat), [(AV.v (Value.int IntKind.i64 x1)), (AV.v (Value.int IntKind.i64 x2)), (AV.v (Value.int IntKind.i64 x3)), (AV.v (Value.int IntKind.i64 x4)), (AV.v (Value.int IntKind.i64 x5)), (AV.v (Value.int IntKind.i64 x6)), (AV.v (Value.int IntKind.i64 x7)), (AV.v (Value.int IntKind.i64 x8)), (AV.v (Value.int IntKind.i64 x9)), (AV.v (Value.int IntKind.i64 x10)), (AV.v (Value.int IntKind.i64 x11)), (AV.v (Value.int IntKind.i64 x12)), (AV.v (Value.int IntKind.i64 x13)), (AV.lst (4 : Nat) (List.map (fun (c : Cl) => (AV.v (Value.agg #[(Value.int IntKind.i64 (c).1), (Value.int IntKind.i64 (c).2), (Value.int IntKind.i64 (c).3), (Value.int IntKind.i64 (c).4)]))) cs) Tip.no)])] ts (0 : Nat) (0 : Nat) true (@List.nil (Prod Nat Bool)) True)))) := by kernel_rfl
section
variable {tS tR : TypeId} {pS pR : Value}
theorem lines_sl : slotsOf 22 = 51 := by kernel_rfl
theorem lines_re : resultsOf 22 = [.tmp 2] := by kernel_rfl
theorem lines_fl : (flatten (bodyOf 22)).drop 4 = .block 0 (.loop (sub (bodyOf 22) [1, 1, 1, 0, 1, 0, 0])) :: (flatten (bodyOf 22)).drop 5 := by kernel_rfl
set_option maxHeartbeats 4000000 in
set_option maxRecDepth 100000 in
theorem fs_lines {x1 x2 x3 x4 x5 x6 x7 x8 x9 x10 x11 x12 x13 : Int} {cs : List Cl} (hx : ∀ z ∈ [x1, x2, x3, x4, x5, x6, x7, x8, x9, x10, x11, x12, x13], w64 z) (hc : ∀ c ∈ cs, clOk c) (hl : cs.length ≤ 1000) : Fs Tryd.prog (roN tS pS tR pR) 22 [svcA x1 x2 x3 x4 x5 x6 x7 x8 x9 x10 x11 x12 x13 cs] (hp [] []) fun r _ => ∃ y, clean r = some y ∧ Le y (.lst 1 ((linesL [x1, x2, x3, x4, x5, x6, x7, x8, x9, x10, x11, x12, x13] cs).map sv) .no) := by
  have rk := hd_ok hx
  refine Fs.of_body (has_fn (by kernel_rfl)) ?_
  rw [lines_sl, lines_re]
  refine Tr.of_flat (Trl.split 4 (Trl.of_code knownG (ne_nil (by kernel_rfl)) (l_preK rowX nmX nmB tS tR pS pR x1 x2 x3 x4 x5 x6 x7 x8 x9 x10 x11 x12 x13 cs _) ⟨?_, ?_⟩))
  · with_reducible refine cdb_iff.2 ⟨trivial, ?_⟩
    exact Eq.trans (by kernel_rfl) (rowOk_of rk .no .no)
  obtain ⟨h, hh⟩ : ∃ h, h = rowS svW hdB [x1, x2, x3, x4, x5, x6, x7, x8, x9, x10, x11, x12, x13] := ⟨_, rfl⟩
  have row0 : ∀ t u, rowX svW (.lst 1 (hdB.map sv) t) (.lst 1 ([x1, x2, x3, x4, x5, x6, x7, x8, x9, x10, x11, x12, x13].map gi) u) = h := fun t u => (rowX_of _ _ _ t u).trans hh.symm
  let M := (cs.map clA).length
  have hM : M = cs.length := List.length_map ..
  show Trl _ _ ((flatten (bodyOf 22)).drop 4) (linA (.lst 1 [sv (rowX svW (.lst 1 (hdB.map sv) _) (.lst 1 ([x1, x2, x3, x4, x5, x6, x7, x8, x9, x10, x11, x12, x13].map gi) _))] .exact) cs M (0 : Int)) (hp [(26, svcC x1 x2 x3 x4 x5 x6 x7 x8 x9 x10 x11 x12 x13 cs), (83, namesV.map AV.v)] [0, 0]) _
  rw [row0, lines_fl]
  let I : Nat → List AV → AH → Prop := fun m act H => ∃ i : Nat, i ≤ M ∧ m = M - i ∧ ((i = 0 ∧ act = linA (.lst 1 [sv h] .exact) cs M 0 ∧ H = hp [(26, svcC x1 x2 x3 x4 x5 x6 x7 x8 x9 x10 x11 x12 x13 cs), (83, namesV.map AV.v)] [0, 0]) ∨ ∃ v, act = linA (.lst 1 ((h :: (cs.map clineS).take i).map sv) (.tp 2 v)) cs M i ∧ H = hp [(26, svcC x1 x2 x3 x4 x5 x6 x7 x8 x9 x10 x11 x12 x13 cs), (83, namesV.map AV.v)] [0, 0, v])
  refine Tr.block (Tr.loop I ?_ (m := M) ⟨0, Nat.zero_le _, rfl, .inl ⟨rfl, rfl, rfl⟩⟩)
  rintro m act H ⟨i, hi, rfl, hcase⟩
  have out : ∀ row H, i = M → Le row (.lst 1 ((linesL [x1, x2, x3, x4, x5, x6, x7, x8, x9, x10, x11, x12, x13] cs).map sv) .no) → (∃ y, clean row = some y ∧ Le y (.lst 1 ((linesL [x1, x2, x3, x4, x5, x6, x7, x8, x9, x10, x11, x12, x13] cs).map sv) .no)) → Trl Tryd.prog (roN tS pS tR pR) ((flatten (bodyOf 22)).drop 5) (linA row cs M i) (hp [(26, svcC x1 x2 x3 x4 x5 x6 x7 x8 x9 x10 x11 x12 x13 cs), (83, namesV.map AV.v)] H) fun e a h => (e = .normal ∨ e = .ret) ∧ ansOk (fun r _ => ∃ y, clean r = some y ∧ Le y (.lst 1 ((linesL [x1, x2, x3, x4, x5, x6, x7, x8, x9, x10, x11, x12, x13] cs).map sv) .no)) (resOf Tryd.prog (roN tS pS tR pR) [.tmp 2] a h) := by
    intro row H _ _ h2
    exact Trl.of_code knownG (ne_nil (by kernel_rfl)) (l_post rowX nmX nmB tS tR pS pR x1 x2 x3 x4 x5 x6 x7 x8 x9 x10 x11 x12 x13 row H cs M i _) ⟨trivial, .inr rfl, trivial, h2⟩
  rcases hcase with ⟨rfl, rfl, rfl⟩ | ⟨v, rfl, rfl⟩
  · refine Tr.forget 2 3 (Nat.le_refl _) (Nat.le_of_ble_eq_true rfl) (Tr.of_code knownG (l_in0 rowX nmX nmB tS tR pS pR x1 x2 x3 x4 x5 x6 x7 x8 x9 x10 x11 x12 x13 h cs M (0 : Nat) _) (holds_bif (fun h1 => ?_) fun h1 => ⟨trivial, by kernel_rfl, by kernel_rfl, ?_⟩))
    · have h1 : 0 < cs.length := by have := of_decide_eq_true h1; omega
      rw [cl_get h1]
      refine ⟨?_, by kernel_rfl, by kernel_rfl, M - 1, by omega, 1, by omega, rfl, .inr ⟨0, ?_, rfl⟩⟩
      · have rk2 := tl_ok (hc _ (List.getElem_mem h1))
        have e1 := cl_el h1
        with_reducible refine cdb_iff.2 ⟨?_, ?_⟩
        · exact cds_of trivial e1
        · exact Eq.trans (by kernel_rfl) (rowOk_of rk2 .no .no)
      · rw [show (cs.map clineS).take 1 = [clineS cs[0]] from take_one h1]
        have e2 : clineS cs[0] = rowX clW (.lst 1 (tlB.map sv) .no) (.lst 1 ([cs[0].to, cs[0].tier, cs[0].weight, cs[0].most].map gi) .exact) := (rowX_of _ _ _ _ _).symm
        rw [e2]; rfl
    · have h1 : 0 = M := by have := of_decide_eq_false h1; omega
      have hn : cs = [] := List.length_eq_zero_iff.1 (by omega)
      have hle : Le (.lst 1 [sv h] .exact) (.lst 1 ((linesL [x1, x2, x3, x4, x5, x6, x7, x8, x9, x10, x11, x12, x13] cs).map sv) .no) := by
        rw [hn, hh]; exact Le.noTip _ _ _
      exact out (.lst 1 [sv h] .exact) [0, 0] h1 hle ⟨_, rfl, hle⟩
  · refine Tr.forget 2 3 (Nat.le_refl _) (Nat.le_refl _) (Tr.of_code knownG (l_in rowX nmX nmB tS tR pS pR x1 x2 x3 x4 x5 x6 x7 x8 x9 x10 x11 x12 x13 (h :: (cs.map clineS).take i) v cs M i _) (holds_bif (fun h1 => ?_) fun h1 => ⟨trivial, by kernel_rfl, by kernel_rfl, ?_⟩))
    · have h1 : i < cs.length := by have := of_decide_eq_true h1; omega
      rw [cl_get h1, inc64 i (by omega)]
      refine ⟨?_, by kernel_rfl, by kernel_rfl, M - (i + 1), by omega, i + 1, by omega, rfl, .inr ⟨v + 1, ?_, rfl⟩⟩
      · have rk2 := tl_ok (hc _ (List.getElem_mem h1))
        have e1 := cl_el h1
        with_reducible refine cdb_iff.2 ⟨?_, ?_⟩
        · with_reducible refine cdb_iff.2 ⟨?_, ?_⟩
          · exact cds_of trivial e1
          · exact Eq.trans (by kernel_rfl) (rowOk_of rk2 .no .no)
        · exact decide_eq_true (room (by rw [List.length_cons, List.length_take, List.length_map]; omega))
      · rw [take_snoc (show i < (cs.map clineS).length by rw [List.length_map]; omega), List.getElem_map, ← List.cons_append, List.map_append]
        have e2 : clineS cs[i] = rowX clW (.lst 1 (tlB.map sv) .no) (.lst 1 ([cs[i].to, cs[i].tier, cs[i].weight, cs[i].most].map gi) .exact) := (rowX_of _ _ _ _ _).symm
        rw [e2]; rfl
    · have h1 : i = M := by have := of_decide_eq_false h1; omega
      have hle : Le (.lst 1 ((h :: (cs.map clineS).take i).map sv) (.tp 2 v)) (.lst 1 ((linesL [x1, x2, x3, x4, x5, x6, x7, x8, x9, x10, x11, x12, x13] cs).map sv) .no) := by
        rw [List.take_of_length_le (by rw [List.length_map]; omega), hh]; exact Le.noTip _ _ _
      have hle2 : Le (.lst 1 ((h :: (cs.map clineS).take i).map sv) .no) (.lst 1 ((linesL [x1, x2, x3, x4, x5, x6, x7, x8, x9, x10, x11, x12, x13] cs).map sv) .no) := by
        rw [List.take_of_length_le (by rw [List.length_map]; omega), hh]; exact Le.noTip _ _ _
      exact out _ [0, 0, v] h1 hle ⟨_, rfl, hle2⟩
theorem rlines_sl : slotsOf 23 = 38 := by kernel_rfl
theorem rlines_re : resultsOf 23 = [.tmp 2] := by kernel_rfl
theorem rlines_fl : (flatten (bodyOf 23)).drop 3 = .block 0 (.loop (sub (bodyOf 23) [1, 1, 0, 1, 0, 0])) :: (flatten (bodyOf 23)).drop 4 := by kernel_rfl
set_option maxHeartbeats 4000000 in
set_option maxRecDepth 100000 in
theorem fs_rlines {x1 x2 x3 x4 x5 x6 x7 x8 x9 x10 x11 x12 x13 : Int} {cs : List Cl} (hx : ∀ z ∈ [x1, x2, x3, x4, x5, x6, x7, x8, x9, x10, x11, x12, x13], w64 z) (hc : ∀ c ∈ cs, clOk c) (hl : cs.length ≤ 1000) : Fs Tryd.prog (roN tS pS tR pR) 23 [svcA x1 x2 x3 x4 x5 x6 x7 x8 x9 x10 x11 x12 x13 cs] (hp [] []) fun r _ => ∃ y, clean r = some y ∧ Le y (.lst 1 ((linesL [x1, x2, x3, x4, x5, x6, x7, x8, x9, x10, x11, x12, x13] cs).map sv) .no) := by
  have rk := hd_ok hx
  refine Fs.of_body (has_fn (by kernel_rfl)) ?_
  rw [rlines_sl, rlines_re]
  refine Tr.of_flat (Trl.split 3 (Trl.of_code knownG (ne_nil (by kernel_rfl)) (rl_pre rowX nmX nmB tS tR pS pR x1 x2 x3 x4 x5 x6 x7 x8 x9 x10 x11 x12 x13 cs _) ⟨?_, ?_⟩))
  · with_reducible refine cdb_iff.2 ⟨trivial, ?_⟩
    exact Eq.trans (by kernel_rfl) (rowOk_of rk .no .no)
  obtain ⟨h, hh⟩ : ∃ h, h = rowS svW hdB [x1, x2, x3, x4, x5, x6, x7, x8, x9, x10, x11, x12, x13] := ⟨_, rfl⟩
  have row0 : ∀ t u, rowX svW (.lst 1 (hdB.map sv) t) (.lst 1 ([x1, x2, x3, x4, x5, x6, x7, x8, x9, x10, x11, x12, x13].map gi) u) = h := fun t u => (rowX_of _ _ _ t u).trans hh.symm
  let M := (cs.map clA).length
  have hM : M = cs.length := List.length_map ..
  show Trl _ _ ((flatten (bodyOf 23)).drop 3) (rlinA (.lst 1 [sv (rowX svW (.lst 1 (hdB.map sv) _) (.lst 1 ([x1, x2, x3, x4, x5, x6, x7, x8, x9, x10, x11, x12, x13].map gi) _))] .exact) (0 : Int)) (hp [(26, svcC x1 x2 x3 x4 x5 x6 x7 x8 x9 x10 x11 x12 x13 cs)] []) _
  rw [row0, rlines_fl]
  let I : Nat → List AV → AH → Prop := fun m act H => ∃ i : Nat, i ≤ M ∧ m = M - i ∧ ((i = 0 ∧ act = rlinA (.lst 1 [sv h] .exact) 0 ∧ H = hp [(26, svcC x1 x2 x3 x4 x5 x6 x7 x8 x9 x10 x11 x12 x13 cs)] []) ∨ ∃ v, act = rlinA (.lst 1 ((h :: (cs.map clineS).take i).map sv) (.tp 0 v)) i ∧ H = hp [(26, svcC x1 x2 x3 x4 x5 x6 x7 x8 x9 x10 x11 x12 x13 cs)] [v])
  refine Tr.block (Tr.loop I ?_ (m := M) ⟨0, Nat.zero_le _, rfl, .inl ⟨rfl, rfl, rfl⟩⟩)
  rintro m act H ⟨i, hi, rfl, hcase⟩
  have out : ∀ row H, i = M → Le row (.lst 1 ((linesL [x1, x2, x3, x4, x5, x6, x7, x8, x9, x10, x11, x12, x13] cs).map sv) .no) → (∃ y, clean row = some y ∧ Le y (.lst 1 ((linesL [x1, x2, x3, x4, x5, x6, x7, x8, x9, x10, x11, x12, x13] cs).map sv) .no)) → Trl Tryd.prog (roN tS pS tR pR) ((flatten (bodyOf 23)).drop 4) (rlinA row i) (hp [(26, svcC x1 x2 x3 x4 x5 x6 x7 x8 x9 x10 x11 x12 x13 cs)] H) fun e a h => (e = .normal ∨ e = .ret) ∧ ansOk (fun r _ => ∃ y, clean r = some y ∧ Le y (.lst 1 ((linesL [x1, x2, x3, x4, x5, x6, x7, x8, x9, x10, x11, x12, x13] cs).map sv) .no)) (resOf Tryd.prog (roN tS pS tR pR) [.tmp 2] a h) := by
    intro row H _ _ h2
    exact Trl.of_code knownG (ne_nil (by kernel_rfl)) (rl_post rowX nmX nmB tS tR pS pR x1 x2 x3 x4 x5 x6 x7 x8 x9 x10 x11 x12 x13 row H cs i _) ⟨trivial, .inr rfl, trivial, h2⟩
  rcases hcase with ⟨rfl, rfl, rfl⟩ | ⟨v, rfl, rfl⟩
  · refine Tr.forget 1 1 (Nat.le_refl _) (Nat.le_of_ble_eq_true rfl) (Tr.of_code knownG (rl_in0 rowX nmX nmB tS tR pS pR x1 x2 x3 x4 x5 x6 x7 x8 x9 x10 x11 x12 x13 h cs (0 : Nat) _) (holds_bif (fun h1 => ?_) fun h1 => ⟨trivial, by kernel_rfl, by kernel_rfl, ?_⟩))
    · have h1 : 0 < cs.length := by have := of_decide_eq_true h1; omega
      rw [cl_get h1]
      refine ⟨?_, by kernel_rfl, by kernel_rfl, M - 1, by omega, 1, by omega, rfl, .inr ⟨0, ?_, rfl⟩⟩
      · have rk2 := tl_ok (hc _ (List.getElem_mem h1))
        have e1 := cl_el h1
        with_reducible refine cdb_iff.2 ⟨?_, ?_⟩
        · exact cds_of trivial e1
        · exact Eq.trans (by kernel_rfl) (rowOk_of rk2 .no .no)
      · rw [show (cs.map clineS).take 1 = [clineS cs[0]] from take_one h1]
        have e2 : clineS cs[0] = rowX clW (.lst 1 (tlB.map sv) .no) (.lst 1 ([cs[0].to, cs[0].tier, cs[0].weight, cs[0].most].map gi) .exact) := (rowX_of _ _ _ _ _).symm
        rw [e2]; rfl
    · have h1 : 0 = M := by have := of_decide_eq_false h1; omega
      have hn : cs = [] := List.length_eq_zero_iff.1 (by omega)
      have hle : Le (.lst 1 [sv h] .exact) (.lst 1 ((linesL [x1, x2, x3, x4, x5, x6, x7, x8, x9, x10, x11, x12, x13] cs).map sv) .no) := by
        rw [hn, hh]; exact Le.noTip _ _ _
      exact out (.lst 1 [sv h] .exact) [] h1 hle ⟨_, rfl, hle⟩
  · refine Tr.forget 1 1 (Nat.le_refl _) (Nat.le_refl _) (Tr.of_code knownG (rl_in rowX nmX nmB tS tR pS pR x1 x2 x3 x4 x5 x6 x7 x8 x9 x10 x11 x12 x13 (h :: (cs.map clineS).take i) v cs i _) (holds_bif (fun h1 => ?_) fun h1 => ⟨trivial, by kernel_rfl, by kernel_rfl, ?_⟩))
    · have h1 : i < cs.length := by have := of_decide_eq_true h1; omega
      rw [cl_get h1, inc64 i (by omega)]
      refine ⟨?_, by kernel_rfl, by kernel_rfl, M - (i + 1), by omega, i + 1, by omega, rfl, .inr ⟨v + 1, ?_, rfl⟩⟩
      · have rk2 := tl_ok (hc _ (List.getElem_mem h1))
        have e1 := cl_el h1
        with_reducible refine cdb_iff.2 ⟨?_, ?_⟩
        · with_reducible refine cdb_iff.2 ⟨?_, ?_⟩
          · exact cds_of trivial e1
          · exact Eq.trans (by kernel_rfl) (rowOk_of rk2 .no .no)
        · exact decide_eq_true (room (by rw [List.length_cons, List.length_take, List.length_map]; omega))
      · rw [take_snoc (show i < (cs.map clineS).length by rw [List.length_map]; omega), List.getElem_map, ← List.cons_append, List.map_append]
        have e2 : clineS cs[i] = rowX clW (.lst 1 (tlB.map sv) .no) (.lst 1 ([cs[i].to, cs[i].tier, cs[i].weight, cs[i].most].map gi) .exact) := (rowX_of _ _ _ _ _).symm
        rw [e2]; rfl
    · have h1 : i = M := by have := of_decide_eq_false h1; omega
      have hle : Le (.lst 1 ((h :: (cs.map clineS).take i).map sv) (.tp 0 v)) (.lst 1 ((linesL [x1, x2, x3, x4, x5, x6, x7, x8, x9, x10, x11, x12, x13] cs).map sv) .no) := by
        rw [List.take_of_length_le (by rw [List.length_map]; omega), hh]; exact Le.noTip _ _ _
      have hle2 : Le (.lst 1 ((h :: (cs.map clineS).take i).map sv) .no) (.lst 1 ((linesL [x1, x2, x3, x4, x5, x6, x7, x8, x9, x10, x11, x12, x13] cs).map sv) .no) := by
        rw [List.take_of_length_le (by rw [List.length_map]; omega), hh]; exact Le.noTip _ _ _
      exact out _ [v] h1 hle ⟨_, rfl, hle2⟩
end
end Go.Proofs.YtkienkbaiejdmaaDoor.AE
namespace Go.Proofs.YtkienkbaiejdmaaDoor.AE
open Go.RowKit
theorem tot_at {ro : Nat → Option (List Value)} {g : FuncId} {val : List AV → AV} {ok O : List AV → Bool} {c : AV} (hk : ∀ args H r H', tot? val ok args H = some (r, H') → HSound1 Tryd.prog ro g args H r H') (hO : ∀ args, O args = true → ok args = true ∧ val args = c) :
    ∀ args H r H', tot? (fun _ => c) O args H = some (r, H') → HSound1 Tryd.prog ro g args H r H' := by
  intro args H r H' hd
  unfold tot? at hd
  cases hd
  refine ⟨⟨fun x => (cdb_iff.1 x).1, rfl, rfl, rfl, Nat.le_refl _, Nat.le_refl _, fun _ _ _ => rfl, fun _ _ _ => rfl⟩, fun hcd G W cargs hI hR hA => ?_⟩
  have ho := cdb_iff.1 hcd
  obtain ⟨h3, h4⟩ := hO args ho.2
  obtain ⟨h1, h2⟩ := (hk args H _ _ rfl).2 (cdb_iff.2 ⟨ho.1, h3⟩) G W cargs hI hR hA
  refine ⟨h1, h2.mono ?_⟩
  rintro e W' ⟨c', G', rfl, e1, e2, e3⟩
  rw [h4] at e3
  exact ⟨c', G', rfl, e1, e2.same rfl rfl, e3⟩
/-- A line's numbers are these; or there are none. -/
noncomputable def prO (O : List AV → Bool) (zs : List AV) (b : Bool) : FuncId → Option (List AV → AH → Ans) := fun g => match g with
  | 15 => some (tot? (fun _ => .tuple [.lst 1 zs .no, .v (.bool b)]) O)
  | 16 => some (tot? (fun _ => .tuple [.lst 1 zs .no, .v (.bool b)]) O)
  | _ => none
theorem k_heady (O : List AV → Bool) (tS tR : TypeId) (pS pR : Value) (z1 z2 z3 z4 z5 z6 z7 z8 z9 z10 z11 z12 z13 : Int) (s : ByteArray) (Φ : AV → Prop) : callK (roN tS pS tR pR) (fun _ => false) (prO O [gi z1, gi z2, gi z3, gi z4, gi z5, gi z6, gi z7, gi z8, gi z9, gi z10, gi z11, gi z12, gi z13] true) 8 17 [sv s] (hp [] []) (fun r h => some (h.cd ∧ Φ r)) =
    (some ((cdb True (O [(AV.v (Value.string s)), (AV.v (Value.string (ByteArray.mk #[(@OfNat.ofNat UInt8 (115 : Nat) (@UInt8.instOfNat 115)), (@OfNat.ofNat UInt8 (101 : Nat) (@UInt8.instOfNat 101)), (@OfNat.ofNat UInt8 (114 : Nat) (@UInt8.instOfNat 114)), (@OfNat.ofNat UInt8 (118 : Nat) (@UInt8.instOfNat 118)), (@OfNat.ofNat UInt8 (105 : Nat) (@UInt8.instOfNat 105)), (@OfNat.ofNat UInt8 (99 : Nat) (@UInt8.instOfNat 99)), (@OfNat.ofNat UInt8 (101 : Nat) (@UInt8.instOfNat 101))]))), (AV.lst (1 : Nat) [(AV.v (Value.string (ByteArray.mk #[(@OfNat.ofNat UInt8 (119 : Nat) (@UInt8.instOfNat 119)), (@OfNat.ofNat UInt8 (111 : Nat) (@UInt8.instOfNat 111)), (@OfNat.ofNat UInt8 (114 : Nat) (@UInt8.instOfNat 114)), (@OfNat.ofNat UInt8 (107 : Nat) (@UInt8.instOfNat 107)), (@OfNat.ofNat UInt8 (101 : Nat) (@UInt8.instOfNat 101)), (@OfNat.ofNat UInt8 (114 : Nat) (@UInt8.instOfNat 114)), (@OfNat.ofNat UInt8 (115 : Nat) (@UInt8.instOfNat 115))]))), (AV.v (Value.string (ByteArray.mk #[(@OfNat.ofNat UInt8 (113 : Nat) (@UInt8.instOfNat 113)), (@OfNat.ofNat UInt8 (117 : Nat) (@UInt8.instOfNat 117)), (@OfNat.ofNat UInt8 (101 : Nat) (@UInt8.instOfNat 101)), (@OfNat.ofNat UInt8 (117 : Nat) (@UInt8.instOfNat 117)), (@OfNat.ofNat UInt8 (101 : Nat) (@UInt8.instOfNat 101))]))), (AV.v (Value.string (ByteArray.mk #[(@OfNat.ofNat UInt8 (119 : Nat) (@UInt8.instOfNat 119)), (@OfNat.ofNat UInt8 (105 : Nat) (@UInt8.instOfNat 105)), (@OfNat.ofNat UInt8 (110 : Nat) (@UInt8.instOfNat 110)), (@OfNat.ofNat UInt8 (100 : Nat) (@UInt8.instOfNat 100)), (@OfNat.ofNat UInt8 (111 : Nat) (@UInt8.instOfNat 111)), (@OfNat.ofNat UInt8 (119 : Nat) (@UInt8.instOfNat 119))]))), (AV.v (Value.string (ByteArray.mk #[(@OfNat.ofNat UInt8 (116 : Nat) (@UInt8.instOfNat 116)), (@OfNat.ofNat UInt8 (105 : Nat) (@UInt8.instOfNat 105)), (@OfNat.ofNat UInt8 (101 : Nat) (@UInt8.instOfNat 101)), (@OfNat.ofNat UInt8 (114 : Nat) (@UInt8.instOfNat 114)), (@OfNat.ofNat UInt8 (115 : Nat) (@UInt8.instOfNat 115))]))), (AV.v (Value.string (ByteArray.mk #[(@OfNat.ofNat UInt8 (115 : Nat) (@UInt8.instOfNat 115)), (@OfNat.ofNat UInt8 (101 : Nat) (@UInt8.instOfNat 101)), (@OfNat.ofNat UInt8 (101 : Nat) (@UInt8.instOfNat 101)), (@OfNat.ofNat UInt8 (110 : Nat) (@UInt8.instOfNat 110))]))), (AV.v (Value.string (ByteArray.mk #[(@OfNat.ofNat UInt8 (116 : Nat) (@UInt8.instOfNat 116)), (@OfNat.ofNat UInt8 (116 : Nat) (@UInt8.instOfNat 116)), (@OfNat.ofNat UInt8 (108 : Nat) (@UInt8.instOfNat 108))]))), (AV.v (Value.string (ByteArray.mk #[(@OfNat.ofNat UInt8 (108 : Nat) (@UInt8.instOfNat 108)), (@OfNat.ofNat UInt8 (111 : Nat) (@UInt8.instOfNat 111)), (@OfNat.ofNat UInt8 (119 : Nat) (@UInt8.instOfNat 119))]))), (AV.v (Value.string (ByteArray.mk #[(@OfNat.ofNat UInt8 (104 : Nat) (@UInt8.instOfNat 104)), (@OfNat.ofNat UInt8 (105 : Nat) (@UInt8.instOfNat 105)), (@OfNat.ofNat UInt8 (103 : Nat) (@UInt8.instOfNat 103)), (@OfNat.ofNat UInt8 (104 : Nat) (@UInt8.instOfNat 104))]))), (AV.v (Value.string (ByteArray.mk #[(@OfNat.ofNat UInt8 (99 : Nat) (@UInt8.instOfNat 99)), (@OfNat.ofNat UInt8 (117 : Nat) (@UInt8.instOfNat 117)), (@OfNat.ofNat UInt8 (116 : Nat) (@UInt8.instOfNat 116))]))), (AV.v (Value.string (ByteArray.mk #[(@OfNat.ofNat UInt8 (108 : Nat) (@UInt8.instOfNat 108)), (@OfNat.ofNat UInt8 (105 : Nat) (@UInt8.instOfNat 105)), (@OfNat.ofNat UInt8 (102 : Nat) (@UInt8.instOfNat 102)), (@OfNat.ofNat UInt8 (116 : Nat) (@UInt8.instOfNat 116))]))), (AV.v (Value.string (ByteArray.mk #[(@OfNat.ofNat UInt8 (102 : Nat) (@UInt8.instOfNat 102)), (@OfNat.ofNat UInt8 (108 : Nat) (@UInt8.instOfNat 108)), (@OfNat.ofNat UInt8 (111 : Nat) (@UInt8.instOfNat 111)), (@OfNat.ofNat UInt8 (111 : Nat) (@UInt8.instOfNat 111)), (@OfNat.ofNat UInt8 (114 : Nat) (@UInt8.instOfNat 114))]))), (AV.v (Value.string (ByteArray.mk #[(@OfNat.ofNat UInt8 (116 : Nat) (@UInt8.instOfNat 116)), (@OfNat.ofNat UInt8 (117 : Nat) (@UInt8.instOfNat 117)), (@OfNat.ofNat UInt8 (114 : Nat) (@UInt8.instOfNat 114)), (@OfNat.ofNat UInt8 (110 : Nat) (@UInt8.instOfNat 110))]))), (AV.v (Value.string (ByteArray.mk #[(@OfNat.ofNat UInt8 (100 : Nat) (@UInt8.instOfNat 100)), (@OfNat.ofNat UInt8 (119 : Nat) (@UInt8.instOfNat 119)), (@OfNat.ofNat UInt8 (101 : Nat) (@UInt8.instOfNat 101)), (@OfNat.ofNat UInt8 (108 : Nat) (@UInt8.instOfNat 108)), (@OfNat.ofNat UInt8 (108 : Nat) (@UInt8.instOfNat 108))])))] (Tip.tp (List.length (@List.nil Nat)) (0 : Nat)))])) ∧ (Φ (AV.v (Value.tuple #[(Value.agg #[(Value.int IntKind.i64 z1), (Value.int IntKind.i64 z2), (Value.int IntKind.i64 z3), (Value.int IntKind.i64 z4), (Value.int IntKind.i64 z5), (Value.int IntKind.i64 z6), (Value.int IntKind.i64 z7), (Value.int IntKind.i64 z8), (Value.int IntKind.i64 z9), (Value.int IntKind.i64 z10), (Value.int IntKind.i64 z11), (Value.int IntKind.i64 z12), (Value.int IntKind.i64 z13), (Value.slice none (0 : Nat) (0 : Nat))]), (Value.bool true)]))))) := by kernel_rfl
theorem k_headn (O : List AV → Bool) (tS tR : TypeId) (pS pR : Value) (s : ByteArray) (Φ : AV → Prop) : callK (roN tS pS tR pR) (fun _ => false) (prO O [] false) 8 17 [sv s] (hp [] []) (fun r h => some (h.cd ∧ Φ r)) =
    (some ((cdb True (O [(AV.v (Value.string s)), (AV.v (Value.string (ByteArray.mk #[(@OfNat.ofNat UInt8 (115 : Nat) (@UInt8.instOfNat 115)), (@OfNat.ofNat UInt8 (101 : Nat) (@UInt8.instOfNat 101)), (@OfNat.ofNat UInt8 (114 : Nat) (@UInt8.instOfNat 114)), (@OfNat.ofNat UInt8 (118 : Nat) (@UInt8.instOfNat 118)), (@OfNat.ofNat UInt8 (105 : Nat) (@UInt8.instOfNat 105)), (@OfNat.ofNat UInt8 (99 : Nat) (@UInt8.instOfNat 99)), (@OfNat.ofNat UInt8 (101 : Nat) (@UInt8.instOfNat 101))]))), (AV.lst (1 : Nat) [(AV.v (Value.string (ByteArray.mk #[(@OfNat.ofNat UInt8 (119 : Nat) (@UInt8.instOfNat 119)), (@OfNat.ofNat UInt8 (111 : Nat) (@UInt8.instOfNat 111)), (@OfNat.ofNat UInt8 (114 : Nat) (@UInt8.instOfNat 114)), (@OfNat.ofNat UInt8 (107 : Nat) (@UInt8.instOfNat 107)), (@OfNat.ofNat UInt8 (101 : Nat) (@UInt8.instOfNat 101)), (@OfNat.ofNat UInt8 (114 : Nat) (@UInt8.instOfNat 114)), (@OfNat.ofNat UInt8 (115 : Nat) (@UInt8.instOfNat 115))]))), (AV.v (Value.string (ByteArray.mk #[(@OfNat.ofNat UInt8 (113 : Nat) (@UInt8.instOfNat 113)), (@OfNat.ofNat UInt8 (117 : Nat) (@UInt8.instOfNat 117)), (@OfNat.ofNat UInt8 (101 : Nat) (@UInt8.instOfNat 101)), (@OfNat.ofNat UInt8 (117 : Nat) (@UInt8.instOfNat 117)), (@OfNat.ofNat UInt8 (101 : Nat) (@UInt8.instOfNat 101))]))), (AV.v (Value.string (ByteArray.mk #[(@OfNat.ofNat UInt8 (119 : Nat) (@UInt8.instOfNat 119)), (@OfNat.ofNat UInt8 (105 : Nat) (@UInt8.instOfNat 105)), (@OfNat.ofNat UInt8 (110 : Nat) (@UInt8.instOfNat 110)), (@OfNat.ofNat UInt8 (100 : Nat) (@UInt8.instOfNat 100)), (@OfNat.ofNat UInt8 (111 : Nat) (@UInt8.instOfNat 111)), (@OfNat.ofNat UInt8 (119 : Nat) (@UInt8.instOfNat 119))]))), (AV.v (Value.string (ByteArray.mk #[(@OfNat.ofNat UInt8 (116 : Nat) (@UInt8.instOfNat 116)), (@OfNat.ofNat UInt8 (105 : Nat) (@UInt8.instOfNat 105)), (@OfNat.ofNat UInt8 (101 : Nat) (@UInt8.instOfNat 101)), (@OfNat.ofNat UInt8 (114 : Nat) (@UInt8.instOfNat 114)), (@OfNat.ofNat UInt8 (115 : Nat) (@UInt8.instOfNat 115))]))), (AV.v (Value.string (ByteArray.mk #[(@OfNat.ofNat UInt8 (115 : Nat) (@UInt8.instOfNat 115)), (@OfNat.ofNat UInt8 (101 : Nat) (@UInt8.instOfNat 101)), (@OfNat.ofNat UInt8 (101 : Nat) (@UInt8.instOfNat 101)), (@OfNat.ofNat UInt8 (110 : Nat) (@UInt8.instOfNat 110))]))), (AV.v (Value.string (ByteArray.mk #[(@OfNat.ofNat UInt8 (116 : Nat) (@UInt8.instOfNat 116)), (@OfNat.ofNat UInt8 (116 : Nat) (@UInt8.instOfNat 116)), (@OfNat.ofNat UInt8 (108 : Nat) (@UInt8.instOfNat 108))]))), (AV.v (Value.string (ByteArray.mk #[(@OfNat.ofNat UInt8 (108 : Nat) (@UInt8.instOfNat 108)), (@OfNat.ofNat UInt8 (111 : Nat) (@UInt8.instOfNat 111)), (@OfNat.ofNat UInt8 (119 : Nat) (@UInt8.instOfNat 119))]))), (AV.v (Value.string (ByteArray.mk #[(@OfNat.ofNat UInt8 (104 : Nat) (@UInt8.instOfNat 104)), (@OfNat.ofNat UInt8 (105 : Nat) (@UInt8.instOfNat 105)), (@OfNat.ofNat UInt8 (103 : Nat) (@UInt8.instOfNat 103)), (@OfNat.ofNat UInt8 (104 : Nat) (@UInt8.instOfNat 104))]))), (AV.v (Value.string (ByteArray.mk #[(@OfNat.ofNat UInt8 (99 : Nat) (@UInt8.instOfNat 99)), (@OfNat.ofNat UInt8 (117 : Nat) (@UInt8.instOfNat 117)), (@OfNat.ofNat UInt8 (116 : Nat) (@UInt8.instOfNat 116))]))), (AV.v (Value.string (ByteArray.mk #[(@OfNat.ofNat UInt8 (108 : Nat) (@UInt8.instOfNat 108)), (@OfNat.ofNat UInt8 (105 : Nat) (@UInt8.instOfNat 105)), (@OfNat.ofNat UInt8 (102 : Nat) (@UInt8.instOfNat 102)), (@OfNat.ofNat UInt8 (116 : Nat) (@UInt8.instOfNat 116))]))), (AV.v (Value.string (ByteArray.mk #[(@OfNat.ofNat UInt8 (102 : Nat) (@UInt8.instOfNat 102)), (@OfNat.ofNat UInt8 (108 : Nat) (@UInt8.instOfNat 108)), (@OfNat.ofNat UInt8 (111 : Nat) (@UInt8.instOfNat 111)), (@OfNat.ofNat UInt8 (111 : Nat) (@UInt8.instOfNat 111)), (@OfNat.ofNat UInt8 (114 : Nat) (@UInt8.instOfNat 114))]))), (AV.v (Value.string (ByteArray.mk #[(@OfNat.ofNat UInt8 (116 : Nat) (@UInt8.instOfNat 116)), (@OfNat.ofNat UInt8 (117 : Nat) (@UInt8.instOfNat 117)), (@OfNat.ofNat UInt8 (114 : Nat) (@UInt8.instOfNat 114)), (@OfNat.ofNat UInt8 (110 : Nat) (@UInt8.instOfNat 110))]))), (AV.v (Value.string (ByteArray.mk #[(@OfNat.ofNat UInt8 (100 : Nat) (@UInt8.instOfNat 100)), (@OfNat.ofNat UInt8 (119 : Nat) (@UInt8.instOfNat 119)), (@OfNat.ofNat UInt8 (101 : Nat) (@UInt8.instOfNat 101)), (@OfNat.ofNat UInt8 (108 : Nat) (@UInt8.instOfNat 108)), (@OfNat.ofNat UInt8 (108 : Nat) (@UInt8.instOfNat 108))])))] (Tip.tp (List.length (@List.nil Nat)) (0 : Nat)))])) ∧ (Φ (AV.v (Value.tuple #[(Value.agg #[(Value.int IntKind.i64 (0 : Int)), (Value.int IntKind.i64 (0 : Int)), (Value.int IntKind.i64 (0 : Int)), (Value.int IntKind.i64 (0 : Int)), (Value.int IntKind.i64 (0 : Int)), (Value.int IntKind.i64 (0 : Int)), (Value.int IntKind.i64 (0 : Int)), (Value.int IntKind.i64 (0 : Int)), (Value.int IntKind.i64 (0 : Int)), (Value.int IntKind.i64 (0 : Int)), (Value.int IntKind.i64 (0 : Int)), (Value.int IntKind.i64 (0 : Int)), (Value.int IntKind.i64 (0 : Int)), (Value.slice none (0 : Nat) (0 : Nat))]), (Value.bool false)]))))) := by kernel_rfl
theorem k_rheady (O : List AV → Bool) (tS tR : TypeId) (pS pR : Value) (z1 z2 z3 z4 z5 z6 z7 z8 z9 z10 z11 z12 z13 : Int) (s : ByteArray) (Φ : AV → Prop) : callK (roN tS pS tR pR) (fun _ => false) (prO O [gi z1, gi z2, gi z3, gi z4, gi z5, gi z6, gi z7, gi z8, gi z9, gi z10, gi z11, gi z12, gi z13] true) 8 18 [sv s] (hp [] []) (fun r h => some (h.cd ∧ Φ r)) =
    (some ((cdb True (O [(AV.v (Value.string s)), (AV.v (Value.string (ByteArray.mk #[(@OfNat.ofNat UInt8 (115 : Nat) (@UInt8.instOfNat 115)), (@OfNat.ofNat UInt8 (101 : Nat) (@UInt8.instOfNat 101)), (@OfNat.ofNat UInt8 (114 : Nat) (@UInt8.instOfNat 114)), (@OfNat.ofNat UInt8 (118 : Nat) (@UInt8.instOfNat 118)), (@OfNat.ofNat UInt8 (105 : Nat) (@UInt8.instOfNat 105)), (@OfNat.ofNat UInt8 (99 : Nat) (@UInt8.instOfNat 99)), (@OfNat.ofNat UInt8 (101 : Nat) (@UInt8.instOfNat 101))]))), (AV.lst (1 : Nat) [(AV.v (Value.string (ByteArray.mk #[(@OfNat.ofNat UInt8 (119 : Nat) (@UInt8.instOfNat 119)), (@OfNat.ofNat UInt8 (111 : Nat) (@UInt8.instOfNat 111)), (@OfNat.ofNat UInt8 (114 : Nat) (@UInt8.instOfNat 114)), (@OfNat.ofNat UInt8 (107 : Nat) (@UInt8.instOfNat 107)), (@OfNat.ofNat UInt8 (101 : Nat) (@UInt8.instOfNat 101)), (@OfNat.ofNat UInt8 (114 : Nat) (@UInt8.instOfNat 114)), (@OfNat.ofNat UInt8 (115 : Nat) (@UInt8.instOfNat 115))]))), (AV.v (Value.string (ByteArray.mk #[(@OfNat.ofNat UInt8 (113 : Nat) (@UInt8.instOfNat 113)), (@OfNat.ofNat UInt8 (117 : Nat) (@UInt8.instOfNat 117)), (@OfNat.ofNat UInt8 (101 : Nat) (@UInt8.instOfNat 101)), (@OfNat.ofNat UInt8 (117 : Nat) (@UInt8.instOfNat 117)), (@OfNat.ofNat UInt8 (101 : Nat) (@UInt8.instOfNat 101))]))), (AV.v (Value.string (ByteArray.mk #[(@OfNat.ofNat UInt8 (119 : Nat) (@UInt8.instOfNat 119)), (@OfNat.ofNat UInt8 (105 : Nat) (@UInt8.instOfNat 105)), (@OfNat.ofNat UInt8 (110 : Nat) (@UInt8.instOfNat 110)), (@OfNat.ofNat UInt8 (100 : Nat) (@UInt8.instOfNat 100)), (@OfNat.ofNat UInt8 (111 : Nat) (@UInt8.instOfNat 111)), (@OfNat.ofNat UInt8 (119 : Nat) (@UInt8.instOfNat 119))]))), (AV.v (Value.string (ByteArray.mk #[(@OfNat.ofNat UInt8 (116 : Nat) (@UInt8.instOfNat 116)), (@OfNat.ofNat UInt8 (105 : Nat) (@UInt8.instOfNat 105)), (@OfNat.ofNat UInt8 (101 : Nat) (@UInt8.instOfNat 101)), (@OfNat.ofNat UInt8 (114 : Nat) (@UInt8.instOfNat 114)), (@OfNat.ofNat UInt8 (115 : Nat) (@UInt8.instOfNat 115))]))), (AV.v (Value.string (ByteArray.mk #[(@OfNat.ofNat UInt8 (115 : Nat) (@UInt8.instOfNat 115)), (@OfNat.ofNat UInt8 (101 : Nat) (@UInt8.instOfNat 101)), (@OfNat.ofNat UInt8 (101 : Nat) (@UInt8.instOfNat 101)), (@OfNat.ofNat UInt8 (110 : Nat) (@UInt8.instOfNat 110))]))), (AV.v (Value.string (ByteArray.mk #[(@OfNat.ofNat UInt8 (116 : Nat) (@UInt8.instOfNat 116)), (@OfNat.ofNat UInt8 (116 : Nat) (@UInt8.instOfNat 116)), (@OfNat.ofNat UInt8 (108 : Nat) (@UInt8.instOfNat 108))]))), (AV.v (Value.string (ByteArray.mk #[(@OfNat.ofNat UInt8 (108 : Nat) (@UInt8.instOfNat 108)), (@OfNat.ofNat UInt8 (111 : Nat) (@UInt8.instOfNat 111)), (@OfNat.ofNat UInt8 (119 : Nat) (@UInt8.instOfNat 119))]))), (AV.v (Value.string (ByteArray.mk #[(@OfNat.ofNat UInt8 (104 : Nat) (@UInt8.instOfNat 104)), (@OfNat.ofNat UInt8 (105 : Nat) (@UInt8.instOfNat 105)), (@OfNat.ofNat UInt8 (103 : Nat) (@UInt8.instOfNat 103)), (@OfNat.ofNat UInt8 (104 : Nat) (@UInt8.instOfNat 104))]))), (AV.v (Value.string (ByteArray.mk #[(@OfNat.ofNat UInt8 (99 : Nat) (@UInt8.instOfNat 99)), (@OfNat.ofNat UInt8 (117 : Nat) (@UInt8.instOfNat 117)), (@OfNat.ofNat UInt8 (116 : Nat) (@UInt8.instOfNat 116))]))), (AV.v (Value.string (ByteArray.mk #[(@OfNat.ofNat UInt8 (108 : Nat) (@UInt8.instOfNat 108)), (@OfNat.ofNat UInt8 (105 : Nat) (@UInt8.instOfNat 105)), (@OfNat.ofNat UInt8 (102 : Nat) (@UInt8.instOfNat 102)), (@OfNat.ofNat UInt8 (116 : Nat) (@UInt8.instOfNat 116))]))), (AV.v (Value.string (ByteArray.mk #[(@OfNat.ofNat UInt8 (102 : Nat) (@UInt8.instOfNat 102)), (@OfNat.ofNat UInt8 (108 : Nat) (@UInt8.instOfNat 108)), (@OfNat.ofNat UInt8 (111 : Nat) (@UInt8.instOfNat 111)), (@OfNat.ofNat UInt8 (111 : Nat) (@UInt8.instOfNat 111)), (@OfNat.ofNat UInt8 (114 : Nat) (@UInt8.instOfNat 114))]))), (AV.v (Value.string (ByteArray.mk #[(@OfNat.ofNat UInt8 (116 : Nat) (@UInt8.instOfNat 116)), (@OfNat.ofNat UInt8 (117 : Nat) (@UInt8.instOfNat 117)), (@OfNat.ofNat UInt8 (114 : Nat) (@UInt8.instOfNat 114)), (@OfNat.ofNat UInt8 (110 : Nat) (@UInt8.instOfNat 110))]))), (AV.v (Value.string (ByteArray.mk #[(@OfNat.ofNat UInt8 (100 : Nat) (@UInt8.instOfNat 100)), (@OfNat.ofNat UInt8 (119 : Nat) (@UInt8.instOfNat 119)), (@OfNat.ofNat UInt8 (101 : Nat) (@UInt8.instOfNat 101)), (@OfNat.ofNat UInt8 (108 : Nat) (@UInt8.instOfNat 108)), (@OfNat.ofNat UInt8 (108 : Nat) (@UInt8.instOfNat 108))])))] (Tip.tp (List.length (@List.nil Nat)) (0 : Nat)))])) ∧ (Φ (AV.v (Value.tuple #[(Value.agg #[(Value.int IntKind.i64 z1), (Value.int IntKind.i64 z2), (Value.int IntKind.i64 z3), (Value.int IntKind.i64 z4), (Value.int IntKind.i64 z5), (Value.int IntKind.i64 z6), (Value.int IntKind.i64 z7), (Value.int IntKind.i64 z8), (Value.int IntKind.i64 z9), (Value.int IntKind.i64 z10), (Value.int IntKind.i64 z11), (Value.int IntKind.i64 z12), (Value.int IntKind.i64 z13), (Value.slice none (0 : Nat) (0 : Nat))]), (Value.bool true)]))))) := by kernel_rfl
theorem k_rheadn (O : List AV → Bool) (tS tR : TypeId) (pS pR : Value) (s : ByteArray) (Φ : AV → Prop) : callK (roN tS pS tR pR) (fun _ => false) (prO O [] false) 8 18 [sv s] (hp [] []) (fun r h => some (h.cd ∧ Φ r)) =
    (some ((cdb True (O [(AV.v (Value.string s)), (AV.v (Value.string (ByteArray.mk #[(@OfNat.ofNat UInt8 (115 : Nat) (@UInt8.instOfNat 115)), (@OfNat.ofNat UInt8 (101 : Nat) (@UInt8.instOfNat 101)), (@OfNat.ofNat UInt8 (114 : Nat) (@UInt8.instOfNat 114)), (@OfNat.ofNat UInt8 (118 : Nat) (@UInt8.instOfNat 118)), (@OfNat.ofNat UInt8 (105 : Nat) (@UInt8.instOfNat 105)), (@OfNat.ofNat UInt8 (99 : Nat) (@UInt8.instOfNat 99)), (@OfNat.ofNat UInt8 (101 : Nat) (@UInt8.instOfNat 101))]))), (AV.lst (1 : Nat) [(AV.v (Value.string (ByteArray.mk #[(@OfNat.ofNat UInt8 (119 : Nat) (@UInt8.instOfNat 119)), (@OfNat.ofNat UInt8 (111 : Nat) (@UInt8.instOfNat 111)), (@OfNat.ofNat UInt8 (114 : Nat) (@UInt8.instOfNat 114)), (@OfNat.ofNat UInt8 (107 : Nat) (@UInt8.instOfNat 107)), (@OfNat.ofNat UInt8 (101 : Nat) (@UInt8.instOfNat 101)), (@OfNat.ofNat UInt8 (114 : Nat) (@UInt8.instOfNat 114)), (@OfNat.ofNat UInt8 (115 : Nat) (@UInt8.instOfNat 115))]))), (AV.v (Value.string (ByteArray.mk #[(@OfNat.ofNat UInt8 (113 : Nat) (@UInt8.instOfNat 113)), (@OfNat.ofNat UInt8 (117 : Nat) (@UInt8.instOfNat 117)), (@OfNat.ofNat UInt8 (101 : Nat) (@UInt8.instOfNat 101)), (@OfNat.ofNat UInt8 (117 : Nat) (@UInt8.instOfNat 117)), (@OfNat.ofNat UInt8 (101 : Nat) (@UInt8.instOfNat 101))]))), (AV.v (Value.string (ByteArray.mk #[(@OfNat.ofNat UInt8 (119 : Nat) (@UInt8.instOfNat 119)), (@OfNat.ofNat UInt8 (105 : Nat) (@UInt8.instOfNat 105)), (@OfNat.ofNat UInt8 (110 : Nat) (@UInt8.instOfNat 110)), (@OfNat.ofNat UInt8 (100 : Nat) (@UInt8.instOfNat 100)), (@OfNat.ofNat UInt8 (111 : Nat) (@UInt8.instOfNat 111)), (@OfNat.ofNat UInt8 (119 : Nat) (@UInt8.instOfNat 119))]))), (AV.v (Value.string (ByteArray.mk #[(@OfNat.ofNat UInt8 (116 : Nat) (@UInt8.instOfNat 116)), (@OfNat.ofNat UInt8 (105 : Nat) (@UInt8.instOfNat 105)), (@OfNat.ofNat UInt8 (101 : Nat) (@UInt8.instOfNat 101)), (@OfNat.ofNat UInt8 (114 : Nat) (@UInt8.instOfNat 114)), (@OfNat.ofNat UInt8 (115 : Nat) (@UInt8.instOfNat 115))]))), (AV.v (Value.string (ByteArray.mk #[(@OfNat.ofNat UInt8 (115 : Nat) (@UInt8.instOfNat 115)), (@OfNat.ofNat UInt8 (101 : Nat) (@UInt8.instOfNat 101)), (@OfNat.ofNat UInt8 (101 : Nat) (@UInt8.instOfNat 101)), (@OfNat.ofNat UInt8 (110 : Nat) (@UInt8.instOfNat 110))]))), (AV.v (Value.string (ByteArray.mk #[(@OfNat.ofNat UInt8 (116 : Nat) (@UInt8.instOfNat 116)), (@OfNat.ofNat UInt8 (116 : Nat) (@UInt8.instOfNat 116)), (@OfNat.ofNat UInt8 (108 : Nat) (@UInt8.instOfNat 108))]))), (AV.v (Value.string (ByteArray.mk #[(@OfNat.ofNat UInt8 (108 : Nat) (@UInt8.instOfNat 108)), (@OfNat.ofNat UInt8 (111 : Nat) (@UInt8.instOfNat 111)), (@OfNat.ofNat UInt8 (119 : Nat) (@UInt8.instOfNat 119))]))), (AV.v (Value.string (ByteArray.mk #[(@OfNat.ofNat UInt8 (104 : Nat) (@UInt8.instOfNat 104)), (@OfNat.ofNat UInt8 (105 : Nat) (@UInt8.instOfNat 105)), (@OfNat.ofNat UInt8 (103 : Nat) (@UInt8.instOfNat 103)), (@OfNat.ofNat UInt8 (104 : Nat) (@UInt8.instOfNat 104))]))), (AV.v (Value.string (ByteArray.mk #[(@OfNat.ofNat UInt8 (99 : Nat) (@UInt8.instOfNat 99)), (@OfNat.ofNat UInt8 (117 : Nat) (@UInt8.instOfNat 117)), (@OfNat.ofNat UInt8 (116 : Nat) (@UInt8.instOfNat 116))]))), (AV.v (Value.string (ByteArray.mk #[(@OfNat.ofNat UInt8 (108 : Nat) (@UInt8.instOfNat 108)), (@OfNat.ofNat UInt8 (105 : Nat) (@UInt8.instOfNat 105)), (@OfNat.ofNat UInt8 (102 : Nat) (@UInt8.instOfNat 102)), (@OfNat.ofNat UInt8 (116 : Nat) (@UInt8.instOfNat 116))]))), (AV.v (Value.string (ByteArray.mk #[(@OfNat.ofNat UInt8 (102 : Nat) (@UInt8.instOfNat 102)), (@OfNat.ofNat UInt8 (108 : Nat) (@UInt8.instOfNat 108)), (@OfNat.ofNat UInt8 (111 : Nat) (@UInt8.instOfNat 111)), (@OfNat.ofNat UInt8 (111 : Nat) (@UInt8.instOfNat 111)), (@OfNat.ofNat UInt8 (114 : Nat) (@UInt8.instOfNat 114))]))), (AV.v (Value.string (ByteArray.mk #[(@OfNat.ofNat UInt8 (116 : Nat) (@UInt8.instOfNat 116)), (@OfNat.ofNat UInt8 (117 : Nat) (@UInt8.instOfNat 117)), (@OfNat.ofNat UInt8 (114 : Nat) (@UInt8.instOfNat 114)), (@OfNat.ofNat UInt8 (110 : Nat) (@UInt8.instOfNat 110))]))), (AV.v (Value.string (ByteArray.mk #[(@OfNat.ofNat UInt8 (100 : Nat) (@UInt8.instOfNat 100)), (@OfNat.ofNat UInt8 (119 : Nat) (@UInt8.instOfNat 119)), (@OfNat.ofNat UInt8 (101 : Nat) (@UInt8.instOfNat 101)), (@OfNat.ofNat UInt8 (108 : Nat) (@UInt8.instOfNat 108)), (@OfNat.ofNat UInt8 (108 : Nat) (@UInt8.instOfNat 108))])))] (Tip.tp (List.length (@List.nil Nat)) (0 : Nat)))])) ∧ (Φ (AV.v (Value.tuple #[(Value.agg #[(Value.int IntKind.i64 (0 : Int)), (Value.int IntKind.i64 (0 : Int)), (Value.int IntKind.i64 (0 : Int)), (Value.int IntKind.i64 (0 : Int)), (Value.int IntKind.i64 (0 : Int)), (Value.int IntKind.i64 (0 : Int)), (Value.int IntKind.i64 (0 : Int)), (Value.int IntKind.i64 (0 : Int)), (Value.int IntKind.i64 (0 : Int)), (Value.int IntKind.i64 (0 : Int)), (Value.int IntKind.i64 (0 : Int)), (Value.int IntKind.i64 (0 : Int)), (Value.int IntKind.i64 (0 : Int)), (Value.slice none (0 : Nat) (0 : Nat))]), (Value.bool false)]))))) := by kernel_rfl
theorem k_cally (O : List AV → Bool) (tS tR : TypeId) (pS pR : Value) (z1 z2 z3 z4 : Int) (s : ByteArray) (Φ : AV → Prop) : callK (roN tS pS tR pR) (fun _ => false) (prO O [gi z1, gi z2, gi z3, gi z4] true) 8 19 [sv s] (hp [] []) (fun r h => some (h.cd ∧ Φ r)) =
    (some ((cdb True (O [(AV.v (Value.string s)), (AV.v (Value.string (ByteArray.mk #[(@OfNat.ofNat UInt8 (99 : Nat) (@UInt8.instOfNat 99)), (@OfNat.ofNat UInt8 (97 : Nat) (@UInt8.instOfNat 97)), (@OfNat.ofNat UInt8 (108 : Nat) (@UInt8.instOfNat 108)), (@OfNat.ofNat UInt8 (108 : Nat) (@UInt8.instOfNat 108))]))), (AV.lst (1 : Nat) [(AV.v (Value.string (ByteArray.mk #[(@OfNat.ofNat UInt8 (116 : Nat) (@UInt8.instOfNat 116)), (@OfNat.ofNat UInt8 (111 : Nat) (@UInt8.instOfNat 111))]))), (AV.v (Value.string (ByteArray.mk #[(@OfNat.ofNat UInt8 (116 : Nat) (@UInt8.instOfNat 116)), (@OfNat.ofNat UInt8 (105 : Nat) (@UInt8.instOfNat 105)), (@OfNat.ofNat UInt8 (101 : Nat) (@UInt8.instOfNat 101)), (@OfNat.ofNat UInt8 (114 : Nat) (@UInt8.instOfNat 114))]))), (AV.v (Value.string (ByteArray.mk #[(@OfNat.ofNat UInt8 (119 : Nat) (@UInt8.instOfNat 119)), (@OfNat.ofNat UInt8 (101 : Nat) (@UInt8.instOfNat 101)), (@OfNat.ofNat UInt8 (105 : Nat) (@UInt8.instOfNat 105)), (@OfNat.ofNat UInt8 (103 : Nat) (@UInt8.instOfNat 103)), (@OfNat.ofNat UInt8 (104 : Nat) (@UInt8.instOfNat 104)), (@OfNat.ofNat UInt8 (116 : Nat) (@UInt8.instOfNat 116))]))), (AV.v (Value.string (ByteArray.mk #[(@OfNat.ofNat UInt8 (109 : Nat) (@UInt8.instOfNat 109)), (@OfNat.ofNat UInt8 (111 : Nat) (@UInt8.instOfNat 111)), (@OfNat.ofNat UInt8 (115 : Nat) (@UInt8.instOfNat 115)), (@OfNat.ofNat UInt8 (116 : Nat) (@UInt8.instOfNat 116))])))] Tip.exact)])) ∧ (Φ (AV.v (Value.tuple #[(Value.agg #[(Value.int IntKind.i64 z1), (Value.int IntKind.i64 z2), (Value.int IntKind.i64 z3), (Value.int IntKind.i64 z4)]), (Value.bool true)]))))) := by kernel_rfl
theorem k_calln (O : List AV → Bool) (tS tR : TypeId) (pS pR : Value) (s : ByteArray) (Φ : AV → Prop) : callK (roN tS pS tR pR) (fun _ => false) (prO O [] false) 8 19 [sv s] (hp [] []) (fun r h => some (h.cd ∧ Φ r)) =
    (some ((cdb True (O [(AV.v (Value.string s)), (AV.v (Value.string (ByteArray.mk #[(@OfNat.ofNat UInt8 (99 : Nat) (@UInt8.instOfNat 99)), (@OfNat.ofNat UInt8 (97 : Nat) (@UInt8.instOfNat 97)), (@OfNat.ofNat UInt8 (108 : Nat) (@UInt8.instOfNat 108)), (@OfNat.ofNat UInt8 (108 : Nat) (@UInt8.instOfNat 108))]))), (AV.lst (1 : Nat) [(AV.v (Value.string (ByteArray.mk #[(@OfNat.ofNat UInt8 (116 : Nat) (@UInt8.instOfNat 116)), (@OfNat.ofNat UInt8 (111 : Nat) (@UInt8.instOfNat 111))]))), (AV.v (Value.string (ByteArray.mk #[(@OfNat.ofNat UInt8 (116 : Nat) (@UInt8.instOfNat 116)), (@OfNat.ofNat UInt8 (105 : Nat) (@UInt8.instOfNat 105)), (@OfNat.ofNat UInt8 (101 : Nat) (@UInt8.instOfNat 101)), (@OfNat.ofNat UInt8 (114 : Nat) (@UInt8.instOfNat 114))]))), (AV.v (Value.string (ByteArray.mk #[(@OfNat.ofNat UInt8 (119 : Nat) (@UInt8.instOfNat 119)), (@OfNat.ofNat UInt8 (101 : Nat) (@UInt8.instOfNat 101)), (@OfNat.ofNat UInt8 (105 : Nat) (@UInt8.instOfNat 105)), (@OfNat.ofNat UInt8 (103 : Nat) (@UInt8.instOfNat 103)), (@OfNat.ofNat UInt8 (104 : Nat) (@UInt8.instOfNat 104)), (@OfNat.ofNat UInt8 (116 : Nat) (@UInt8.instOfNat 116))]))), (AV.v (Value.string (ByteArray.mk #[(@OfNat.ofNat UInt8 (109 : Nat) (@UInt8.instOfNat 109)), (@OfNat.ofNat UInt8 (111 : Nat) (@UInt8.instOfNat 111)), (@OfNat.ofNat UInt8 (115 : Nat) (@UInt8.instOfNat 115)), (@OfNat.ofNat UInt8 (116 : Nat) (@UInt8.instOfNat 116))])))] Tip.exact)])) ∧ (Φ (AV.v (Value.tuple #[(Value.agg #[(Value.int IntKind.i64 (0 : Int)), (Value.int IntKind.i64 (0 : Int)), (Value.int IntKind.i64 (0 : Int)), (Value.int IntKind.i64 (0 : Int))]), (Value.bool false)]))))) := by kernel_rfl
theorem k_rcally (O : List AV → Bool) (tS tR : TypeId) (pS pR : Value) (z1 z2 z3 z4 : Int) (s : ByteArray) (Φ : AV → Prop) : callK (roN tS pS tR pR) (fun _ => false) (prO O [gi z1, gi z2, gi z3, gi z4] true) 8 20 [sv s] (hp [] []) (fun r h => some (h.cd ∧ Φ r)) =
    (some ((cdb True (O [(AV.v (Value.string s)), (AV.v (Value.string (ByteArray.mk #[(@OfNat.ofNat UInt8 (99 : Nat) (@UInt8.instOfNat 99)), (@OfNat.ofNat UInt8 (97 : Nat) (@UInt8.instOfNat 97)), (@OfNat.ofNat UInt8 (108 : Nat) (@UInt8.instOfNat 108)), (@OfNat.ofNat UInt8 (108 : Nat) (@UInt8.instOfNat 108))]))), (AV.lst (1 : Nat) [(AV.v (Value.string (ByteArray.mk #[(@OfNat.ofNat UInt8 (116 : Nat) (@UInt8.instOfNat 116)), (@OfNat.ofNat UInt8 (111 : Nat) (@UInt8.instOfNat 111))]))), (AV.v (Value.string (ByteArray.mk #[(@OfNat.ofNat UInt8 (116 : Nat) (@UInt8.instOfNat 116)), (@OfNat.ofNat UInt8 (105 : Nat) (@UInt8.instOfNat 105)), (@OfNat.ofNat UInt8 (101 : Nat) (@UInt8.instOfNat 101)), (@OfNat.ofNat UInt8 (114 : Nat) (@UInt8.instOfNat 114))]))), (AV.v (Value.string (ByteArray.mk #[(@OfNat.ofNat UInt8 (119 : Nat) (@UInt8.instOfNat 119)), (@OfNat.ofNat UInt8 (101 : Nat) (@UInt8.instOfNat 101)), (@OfNat.ofNat UInt8 (105 : Nat) (@UInt8.instOfNat 105)), (@OfNat.ofNat UInt8 (103 : Nat) (@UInt8.instOfNat 103)), (@OfNat.ofNat UInt8 (104 : Nat) (@UInt8.instOfNat 104)), (@OfNat.ofNat UInt8 (116 : Nat) (@UInt8.instOfNat 116))]))), (AV.v (Value.string (ByteArray.mk #[(@OfNat.ofNat UInt8 (109 : Nat) (@UInt8.instOfNat 109)), (@OfNat.ofNat UInt8 (111 : Nat) (@UInt8.instOfNat 111)), (@OfNat.ofNat UInt8 (115 : Nat) (@UInt8.instOfNat 115)), (@OfNat.ofNat UInt8 (116 : Nat) (@UInt8.instOfNat 116))])))] Tip.exact)])) ∧ (Φ (AV.v (Value.tuple #[(Value.agg #[(Value.int IntKind.i64 z1), (Value.int IntKind.i64 z2), (Value.int IntKind.i64 z3), (Value.int IntKind.i64 z4)]), (Value.bool true)]))))) := by kernel_rfl
theorem k_rcalln (O : List AV → Bool) (tS tR : TypeId) (pS pR : Value) (s : ByteArray) (Φ : AV → Prop) : callK (roN tS pS tR pR) (fun _ => false) (prO O [] false) 8 20 [sv s] (hp [] []) (fun r h => some (h.cd ∧ Φ r)) =
    (some ((cdb True (O [(AV.v (Value.string s)), (AV.v (Value.string (ByteArray.mk #[(@OfNat.ofNat UInt8 (99 : Nat) (@UInt8.instOfNat 99)), (@OfNat.ofNat UInt8 (97 : Nat) (@UInt8.instOfNat 97)), (@OfNat.ofNat UInt8 (108 : Nat) (@UInt8.instOfNat 108)), (@OfNat.ofNat UInt8 (108 : Nat) (@UInt8.instOfNat 108))]))), (AV.lst (1 : Nat) [(AV.v (Value.string (ByteArray.mk #[(@OfNat.ofNat UInt8 (116 : Nat) (@UInt8.instOfNat 116)), (@OfNat.ofNat UInt8 (111 : Nat) (@UInt8.instOfNat 111))]))), (AV.v (Value.string (ByteArray.mk #[(@OfNat.ofNat UInt8 (116 : Nat) (@UInt8.instOfNat 116)), (@OfNat.ofNat UInt8 (105 : Nat) (@UInt8.instOfNat 105)), (@OfNat.ofNat UInt8 (101 : Nat) (@UInt8.instOfNat 101)), (@OfNat.ofNat UInt8 (114 : Nat) (@UInt8.instOfNat 114))]))), (AV.v (Value.string (ByteArray.mk #[(@OfNat.ofNat UInt8 (119 : Nat) (@UInt8.instOfNat 119)), (@OfNat.ofNat UInt8 (101 : Nat) (@UInt8.instOfNat 101)), (@OfNat.ofNat UInt8 (105 : Nat) (@UInt8.instOfNat 105)), (@OfNat.ofNat UInt8 (103 : Nat) (@UInt8.instOfNat 103)), (@OfNat.ofNat UInt8 (104 : Nat) (@UInt8.instOfNat 104)), (@OfNat.ofNat UInt8 (116 : Nat) (@UInt8.instOfNat 116))]))), (AV.v (Value.string (ByteArray.mk #[(@OfNat.ofNat UInt8 (109 : Nat) (@UInt8.instOfNat 109)), (@OfNat.ofNat UInt8 (111 : Nat) (@UInt8.instOfNat 111)), (@OfNat.ofNat UInt8 (115 : Nat) (@UInt8.instOfNat 115)), (@OfNat.ofNat UInt8 (116 : Nat) (@UInt8.instOfNat 116))])))] Tip.exact)])) ∧ (Φ (AV.v (Value.tuple #[(Value.agg #[(Value.int IntKind.i64 (0 : Int)), (Value.int IntKind.i64 (0 : Int)), (Value.int IntKind.i64 (0 : Int)), (Value.int IntKind.i64 (0 : Int))]), (Value.bool false)]))))) := by kernel_rfl
end Go.Proofs.YtkienkbaiejdmaaDoor.AE
namespace Go.Proofs.YtkienkbaiejdmaaDoor.AE
open Go.RowKit
def OA (b : Bool) (zs : List Int) (args : List AV) : Bool := numOk args && (decide (nmB (exStr (args.headD .dead)) (exStr (args.tail.headD .dead)) (args.tail.tail.headD .dead) = b) && decide (nmX (exStr (args.headD .dead)) (exStr (args.tail.headD .dead)) (args.tail.tail.headD .dead) = zs))
theorem OA_of {s w : ByteArray} {ns : List ByteArray} (hs : s.size ≤ 100000) (hn : ns.length ≤ 1000) (hz : ∀ n ∈ ns, n.size ≤ 1000) (t : Tip) : OA (numB s w ns) (numX s w ns) [.v (.string s), .v (.string w), .lst 1 (ns.map sv) t] = true := by
  have h1 : numOk [.v (.string s), .v (.string w), .lst 1 (ns.map sv) t] = true := by
    show (match strsA? (.lst 1 (ns.map sv) t) with | some ns => decide (s.size ≤ 100000) && decide (ns.length ≤ 1000) && ns.all (fun n => decide (n.size ≤ 1000)) | none => false) = true
    rw [strsA_lst]
    simp only [Bool.and_eq_true, decide_eq_true_eq, List.all_eq_true]
    exact ⟨⟨hs, hn⟩, hz⟩
  unfold OA
  rw [h1]
  show (true && (decide (numB s w (strsX (.lst 1 (ns.map sv) t)) = numB s w ns) && decide (numX s w (strsX (.lst 1 (ns.map sv) t)) = numX s w ns))) = true
  rw [strsX_lst]
  simp
theorem numX_len {s w : ByteArray} {ns : List ByteArray} (h : numB s w ns = true) : (numX s w ns).length = ns.length := by
  unfold numX
  rw [if_pos h, List.length_map]
  unfold numB goodN at h
  simp only [Bool.and_eq_true, decide_eq_true_eq] at h
  exact prsN_len h.1.1
theorem numX_no {s w : ByteArray} {ns : List ByteArray} (h : numB s w ns = false) : numX s w ns = [] := by
  unfold numX
  rw [h]; rfl
def headI (i : Nat) (s : ByteArray) : Int := (numX s svW hdB).getD i 0
def headV (s : ByteArray) : Value := .tuple #[.agg #[.int .i64 (headI 0 s), .int .i64 (headI 1 s), .int .i64 (headI 2 s), .int .i64 (headI 3 s), .int .i64 (headI 4 s), .int .i64 (headI 5 s), .int .i64 (headI 6 s), .int .i64 (headI 7 s), .int .i64 (headI 8 s), .int .i64 (headI 9 s), .int .i64 (headI 10 s), .int .i64 (headI 11 s), .int .i64 (headI 12 s), .slice none 0 0], .bool (numB s svW hdB)]
def callI (i : Nat) (s : ByteArray) : Int := (numX s clW tlB).getD i 0
def callV (s : ByteArray) : Value := .tuple #[.agg #[.int .i64 (callI 0 s), .int .i64 (callI 1 s), .int .i64 (callI 2 s), .int .i64 (callI 3 s)], .bool (numB s clW tlB)]
section
variable {tS tR : TypeId} {pS pR : Value}
theorem knownO {b : Bool} {zs : List Int} : Known (roN tS pS tR pR) (prO (OA b zs) (zs.map gi) b) := by
  have hO : ∀ args, OA b zs args = true → numOk args = true ∧ numQ nmX nmB args = .tuple [.lst 1 (zs.map gi) .no, .v (.bool b)] := by
    intro args h
    unfold OA at h
    simp only [Bool.and_eq_true, decide_eq_true_eq] at h
    refine ⟨h.1, ?_⟩
    unfold numQ
    rw [h.2.1, h.2.2]
  intro g p h
  unfold prO at h
  split at h
  · cases h; exact tot_at (num_ok (has_fn (by kernel_rfl)) fun _ _ _ => fs_numbers (roN_le tS pS tR pR)) hO
  · cases h; exact tot_at (num_ok (has_fn (by kernel_rfl)) fun _ _ _ => fs_rnumbers (roN_le tS pS tR pR)) hO
  · cases h
set_option maxRecDepth 100000 in
theorem fs_head (s : ByteArray) (hs : s.size ≤ 100000) : Fs Tryd.prog (roN tS pS tR pR) 17 [sv s] (hp [] []) fun r _ => r = .v (headV s) := by
  have hO := OA_of (w := svW) (ns := hdB) hs (by decide) (by decide)
  cases hb : numB s svW hdB with
  | true =>
    have hl := numX_len hb
    obtain ⟨z1, z2, z3, z4, z5, z6, z7, z8, z9, z10, z11, z12, z13, hz⟩ : ∃ z1 z2 z3 z4 z5 z6 z7 z8 z9 z10 z11 z12 z13, numX s svW hdB = [z1, z2, z3, z4, z5, z6, z7, z8, z9, z10, z11, z12, z13] := by
      generalize numX s svW hdB = l at hl
      match l, hl with
      | [z1, z2, z3, z4, z5, z6, z7, z8, z9, z10, z11, z12, z13], _ => exact ⟨_, _, _, _, _, _, _, _, _, _, _, _, _, rfl⟩
    rw [hb, hz] at hO
    have e : headV s = .tuple #[.agg #[.int .i64 z1, .int .i64 z2, .int .i64 z3, .int .i64 z4, .int .i64 z5, .int .i64 z6, .int .i64 z7, .int .i64 z8, .int .i64 z9, .int .i64 z10, .int .i64 z11, .int .i64 z12, .int .i64 z13, .slice none 0 0], .bool true] := by
      unfold headV headI; rw [hb, hz]; rfl
    rw [e]
    refine Fs.of_call knownO (k_heady (OA true [z1, z2, z3, z4, z5, z6, z7, z8, z9, z10, z11, z12, z13]) tS tR pS pR z1 z2 z3 z4 z5 z6 z7 z8 z9 z10 z11 z12 z13 s fun r => r = .v (.tuple #[.agg #[.int .i64 z1, .int .i64 z2, .int .i64 z3, .int .i64 z4, .int .i64 z5, .int .i64 z6, .int .i64 z7, .int .i64 z8, .int .i64 z9, .int .i64 z10, .int .i64 z11, .int .i64 z12, .int .i64 z13, .slice none 0 0], .bool true])) ⟨?_, rfl⟩
    with_reducible refine cdb_iff.2 ⟨trivial, ?_⟩
    exact Eq.trans (by kernel_rfl) (hO .no)
  | false =>
    have hz := numX_no hb
    rw [hb, hz] at hO
    have e : headV s = .tuple #[.agg #[.int .i64 0, .int .i64 0, .int .i64 0, .int .i64 0, .int .i64 0, .int .i64 0, .int .i64 0, .int .i64 0, .int .i64 0, .int .i64 0, .int .i64 0, .int .i64 0, .int .i64 0, .slice none 0 0], .bool false] := by
      unfold headV headI; rw [hb, hz]; rfl
    rw [e]
    refine Fs.of_call knownO (k_headn (OA false []) tS tR pS pR s fun r => r = .v (.tuple #[.agg #[.int .i64 0, .int .i64 0, .int .i64 0, .int .i64 0, .int .i64 0, .int .i64 0, .int .i64 0, .int .i64 0, .int .i64 0, .int .i64 0, .int .i64 0, .int .i64 0, .int .i64 0, .slice none 0 0], .bool false])) ⟨?_, rfl⟩
    with_reducible refine cdb_iff.2 ⟨trivial, ?_⟩
    exact Eq.trans (by kernel_rfl) (hO .no)
set_option maxRecDepth 100000 in
theorem fs_rhead (s : ByteArray) (hs : s.size ≤ 100000) : Fs Tryd.prog (roN tS pS tR pR) 18 [sv s] (hp [] []) fun r _ => r = .v (headV s) := by
  have hO := OA_of (w := svW) (ns := hdB) hs (by decide) (by decide)
  cases hb : numB s svW hdB with
  | true =>
    have hl := numX_len hb
    obtain ⟨z1, z2, z3, z4, z5, z6, z7, z8, z9, z10, z11, z12, z13, hz⟩ : ∃ z1 z2 z3 z4 z5 z6 z7 z8 z9 z10 z11 z12 z13, numX s svW hdB = [z1, z2, z3, z4, z5, z6, z7, z8, z9, z10, z11, z12, z13] := by
      generalize numX s svW hdB = l at hl
      match l, hl with
      | [z1, z2, z3, z4, z5, z6, z7, z8, z9, z10, z11, z12, z13], _ => exact ⟨_, _, _, _, _, _, _, _, _, _, _, _, _, rfl⟩
    rw [hb, hz] at hO
    have e : headV s = .tuple #[.agg #[.int .i64 z1, .int .i64 z2, .int .i64 z3, .int .i64 z4, .int .i64 z5, .int .i64 z6, .int .i64 z7, .int .i64 z8, .int .i64 z9, .int .i64 z10, .int .i64 z11, .int .i64 z12, .int .i64 z13, .slice none 0 0], .bool true] := by
      unfold headV headI; rw [hb, hz]; rfl
    rw [e]
    refine Fs.of_call knownO (k_rheady (OA true [z1, z2, z3, z4, z5, z6, z7, z8, z9, z10, z11, z12, z13]) tS tR pS pR z1 z2 z3 z4 z5 z6 z7 z8 z9 z10 z11 z12 z13 s fun r => r = .v (.tuple #[.agg #[.int .i64 z1, .int .i64 z2, .int .i64 z3, .int .i64 z4, .int .i64 z5, .int .i64 z6, .int .i64 z7, .int .i64 z8, .int .i64 z9, .int .i64 z10, .int .i64 z11, .int .i64 z12, .int .i64 z13, .slice none 0 0], .bool true])) ⟨?_, rfl⟩
    with_reducible refine cdb_iff.2 ⟨trivial, ?_⟩
    exact Eq.trans (by kernel_rfl) (hO .no)
  | false =>
    have hz := numX_no hb
    rw [hb, hz] at hO
    have e : headV s = .tuple #[.agg #[.int .i64 0, .int .i64 0, .int .i64 0, .int .i64 0, .int .i64 0, .int .i64 0, .int .i64 0, .int .i64 0, .int .i64 0, .int .i64 0, .int .i64 0, .int .i64 0, .int .i64 0, .slice none 0 0], .bool false] := by
      unfold headV headI; rw [hb, hz]; rfl
    rw [e]
    refine Fs.of_call knownO (k_rheadn (OA false []) tS tR pS pR s fun r => r = .v (.tuple #[.agg #[.int .i64 0, .int .i64 0, .int .i64 0, .int .i64 0, .int .i64 0, .int .i64 0, .int .i64 0, .int .i64 0, .int .i64 0, .int .i64 0, .int .i64 0, .int .i64 0, .int .i64 0, .slice none 0 0], .bool false])) ⟨?_, rfl⟩
    with_reducible refine cdb_iff.2 ⟨trivial, ?_⟩
    exact Eq.trans (by kernel_rfl) (hO .no)
set_option maxRecDepth 100000 in
theorem fs_call (s : ByteArray) (hs : s.size ≤ 100000) : Fs Tryd.prog (roN tS pS tR pR) 19 [sv s] (hp [] []) fun r _ => r = .v (callV s) := by
  have hO := OA_of (w := clW) (ns := tlB) hs (by decide) (by decide)
  cases hb : numB s clW tlB with
  | true =>
    have hl := numX_len hb
    obtain ⟨z1, z2, z3, z4, hz⟩ : ∃ z1 z2 z3 z4, numX s clW tlB = [z1, z2, z3, z4] := by
      generalize numX s clW tlB = l at hl
      match l, hl with
      | [z1, z2, z3, z4], _ => exact ⟨_, _, _, _, rfl⟩
    rw [hb, hz] at hO
    have e : callV s = .tuple #[.agg #[.int .i64 z1, .int .i64 z2, .int .i64 z3, .int .i64 z4], .bool true] := by
      unfold callV callI; rw [hb, hz]; rfl
    rw [e]
    refine Fs.of_call knownO (k_cally (OA true [z1, z2, z3, z4]) tS tR pS pR z1 z2 z3 z4 s fun r => r = .v (.tuple #[.agg #[.int .i64 z1, .int .i64 z2, .int .i64 z3, .int .i64 z4], .bool true])) ⟨?_, rfl⟩
    with_reducible refine cdb_iff.2 ⟨trivial, ?_⟩
    exact Eq.trans (by kernel_rfl) (hO .no)
  | false =>
    have hz := numX_no hb
    rw [hb, hz] at hO
    have e : callV s = .tuple #[.agg #[.int .i64 0, .int .i64 0, .int .i64 0, .int .i64 0], .bool false] := by
      unfold callV callI; rw [hb, hz]; rfl
    rw [e]
    refine Fs.of_call knownO (k_calln (OA false []) tS tR pS pR s fun r => r = .v (.tuple #[.agg #[.int .i64 0, .int .i64 0, .int .i64 0, .int .i64 0], .bool false])) ⟨?_, rfl⟩
    with_reducible refine cdb_iff.2 ⟨trivial, ?_⟩
    exact Eq.trans (by kernel_rfl) (hO .no)
set_option maxRecDepth 100000 in
theorem fs_rcall (s : ByteArray) (hs : s.size ≤ 100000) : Fs Tryd.prog (roN tS pS tR pR) 20 [sv s] (hp [] []) fun r _ => r = .v (callV s) := by
  have hO := OA_of (w := clW) (ns := tlB) hs (by decide) (by decide)
  cases hb : numB s clW tlB with
  | true =>
    have hl := numX_len hb
    obtain ⟨z1, z2, z3, z4, hz⟩ : ∃ z1 z2 z3 z4, numX s clW tlB = [z1, z2, z3, z4] := by
      generalize numX s clW tlB = l at hl
      match l, hl with
      | [z1, z2, z3, z4], _ => exact ⟨_, _, _, _, rfl⟩
    rw [hb, hz] at hO
    have e : callV s = .tuple #[.agg #[.int .i64 z1, .int .i64 z2, .int .i64 z3, .int .i64 z4], .bool true] := by
      unfold callV callI; rw [hb, hz]; rfl
    rw [e]
    refine Fs.of_call knownO (k_rcally (OA true [z1, z2, z3, z4]) tS tR pS pR z1 z2 z3 z4 s fun r => r = .v (.tuple #[.agg #[.int .i64 z1, .int .i64 z2, .int .i64 z3, .int .i64 z4], .bool true])) ⟨?_, rfl⟩
    with_reducible refine cdb_iff.2 ⟨trivial, ?_⟩
    exact Eq.trans (by kernel_rfl) (hO .no)
  | false =>
    have hz := numX_no hb
    rw [hb, hz] at hO
    have e : callV s = .tuple #[.agg #[.int .i64 0, .int .i64 0, .int .i64 0, .int .i64 0], .bool false] := by
      unfold callV callI; rw [hb, hz]; rfl
    rw [e]
    refine Fs.of_call knownO (k_rcalln (OA false []) tS tR pS pR s fun r => r = .v (.tuple #[.agg #[.int .i64 0, .int .i64 0, .int .i64 0, .int .i64 0], .bool false])) ⟨?_, rfl⟩
    with_reducible refine cdb_iff.2 ⟨trivial, ?_⟩
    exact Eq.trans (by kernel_rfl) (hO .no)
end
end Go.Proofs.YtkienkbaiejdmaaDoor.AE
namespace Go.Proofs.YtkienkbaiejdmaaDoor.AE
open Go.RowKit
def scA (a b : List Cl) (i : Int) : List AV := [.lst 4 (a.map clA) .no, .lst 4 (b.map clA) .no, .dead, .dead, .dead, gi i] ++ List.replicate 26 .dead
theorem sc_pre (ro : Nat → Option (List Value)) (a b : List Cl) (R : Exit → List AV → AH → Prop) : codeL ro (fun _ => false) (fun _ => none) 8 ((flatten (bodyOf 9)).take 4) ([.lst 4 (a.map clA) .no, .lst 4 (b.map clA) .no] ++ List.replicate 30 (.v undef)) (hp [] []) (kp [0, 1, 4, 5] R) =
    (bif (((List.length (List.map clA a)) : Int) != ((List.length (List.map clA b)) : Int)) then (some (True ∧ (R Exit.ret [(AV.lst (4 : Nat) (List.map clA a) Tip.no), (AV.lst (4 : Nat) (List.map clA b) Tip.no), AV.dead, AV.dead, (AV.v (Value.bool false)), (AV.v (Value.tuple (Array.mk (@List.nil Go.Value)))), AV.dead, AV.dead, AV.dead, AV.dead, AV.dead, AV.dead, AV.dead, AV.dead, AV.dead, AV.dead, AV.dead, AV.dead, AV.dead, AV.dead, AV.dead, AV.dead, AV.dead, AV.dead, AV.dead, AV.dead, AV.dead, AV.dead, AV.dead, AV.dead, AV.dead, AV.dead] (AH.mk (@List.nil (Prod Go.TypeId (List AV))) (@List.nil Nat) (0 : Nat) (0 : Nat) true (@List.nil (Prod Nat Bool)) True)))) else (some (True ∧ (R Exit.normal [(AV.lst (4 : Nat) (List.map clA a) Tip.no), (AV.lst (4 : Nat) (List.map clA b) Tip.no), AV.dead, AV.dead, (AV.v (Value.bool false)), (AV.v (Value.int IntKind.i64 (0 : Int))), AV.dead, AV.dead, AV.dead, AV.dead, AV.dead, AV.dead, AV.dead, AV.dead, AV.dead, AV.dead, AV.dead, AV.dead, AV.dead, AV.dead, AV.dead, AV.dead, AV.dead, AV.dead, AV.dead, AV.dead, AV.dead, AV.dead, AV.dead, AV.dead, AV.dead, AV.dead] (AH.mk (@List.nil (Prod Go.TypeId (List AV))) (@List.nil Nat) (0 : Nat) (0 : Nat) true (@List.nil (Prod Nat Bool)) True))))) := by kernel_rfl
theorem sc_in (ro : Nat → Option (List Value)) (a b : List Cl) (i : Int) (R : Exit → List AV → AH → Prop) : code ro (fun _ => false) (fun _ => none) 8 (sub (bodyOf 9) [1, 1, 0, 1, 0, 0]) (scA a b i) (hp [] []) (kp [0, 1, 4, 5] R) =
    (bif (decide (i < ((List.length (List.map clA a)) : Int))) then (bif (decide (i < ((List.length (List.map clA b)) : Int))) then (bif (!(((exInt (List.getD (AV.cells.match_1 (fun (x : AV) => (List AV)) (List.getD (List.map clA a) (Int.toNat i) AV.dead) (fun (cs : (Array Go.Value)) => (List.map AV.v (Array.toList cs))) (fun (cs : (List AV)) => cs) (fun (x : AV) => [x])) (0 : Nat) AV.dead)) == (exInt (List.getD (AV.cells.match_1 (fun (x : AV) => (List AV)) (List.getD (List.map clA b) (Int.toNat i) AV.dead) (fun (cs : (Array Go.Value)) => (List.map AV.v (Array.toList cs))) (fun (cs : (List AV)) => cs) (fun (x : AV) => [x])) (0 : Nat) AV.dead))) && (((exInt (List.getD (AV.cells.match_1 (fun (x : AV) => (List AV)) (List.getD (List.map clA a) (Int.toNat i) AV.dead) (fun (cs : (Array Go.Value)) => (List.map AV.v (Array.toList cs))) (fun (cs : (List AV)) => cs) (fun (x : AV) => [x])) (1 : Nat) AV.dead)) == (exInt (List.getD (AV.cells.match_1 (fun (x : AV) => (List AV)) (List.getD (List.map clA b) (Int.toNat i) AV.dead) (fun (cs : (Array Go.Value)) => (List.map AV.v (Array.toList cs))) (fun (cs : (List AV)) => cs) (fun (x : AV) => [x])) (1 : Nat) AV.dead))) && (((exInt (List.getD (AV.cells.match_1 (fun (x : AV) => (List AV)) (List.getD (List.map clA a) (Int.toNat i) AV.dead) (fun (cs : (Array Go.Value)) => (List.map AV.v (Array.toList cs))) (fun (cs : (List AV)) => cs) (fun (x : AV) => [x])) (2 : Nat) AV.dead)) == (exInt (List.getD (AV.cells.match_1 (fun (x : AV) => (List AV)) (List.getD (List.map clA b) (Int.toNat i) AV.dead) (fun (cs : (Array Go.Value)) => (List.map AV.v (Array.toList cs))) (fun (cs : (List AV)) => cs) (fun (x : AV) => [x])) (2 : Nat) AV.dead))) && (((exInt (List.getD (AV.cells.match_1 (fun (x : AV) => (List AV)) (List.getD (List.map clA a) (Int.toNat i) AV.dead) (fun (cs : (Array Go.Value)) => (List.map AV.v (Array.toList cs))) (fun (cs : (List AV)) => cs) (fun (x : AV) => [x])) (3 : Nat) AV.dead)) == (exInt (List.getD (AV.cells.match_1 (fun (x : AV) => (List AV)) (List.getD (List.map clA b) (Int.toNat i) AV.dead) (fun (cs : (Array Go.Value)) => (List.map AV.v (Array.toList cs))) (fun (cs : (List AV)) => cs) (fun (x : AV) => [x])) (3 : Nat) AV.dead))) && true))))) then (some ((cds (cds True (elemB Tryd.prog (47 : Nat) (List.map clA a) i) (((0 : Int) ≤ i) ∧ (((List.map clA a)[(Int.toNat i)]?) = (some (AV.v (Value.agg #[(Value.int IntKind.i64 (exInt (List.getD (AV.cells.match_1 (fun (x : AV) => (List AV)) (List.getD (List.map clA a) (Int.toNat i) AV.dead) (fun (cs : (Array Go.Value)) => (List.map AV.v (Array.toList cs))) (fun (cs : (List AV)) => cs) (fun (x : AV) => [x])) (0 : Nat) AV.dead))), (Value.int IntKind.i64 (exInt (List.getD (AV.cells.match_1 (fun (x : AV) => (List AV)) (List.getD (List.map clA a) (Int.toNat i) AV.dead) (fun (cs : (Array Go.Value)) => (List.map AV.v (Array.toList cs))) (fun (cs : (List AV)) => cs) (fun (x : AV) => [x])) (1 : Nat) AV.dead))), (Value.int IntKind.i64 (exInt (List.getD (AV.cells.match_1 (fun (x : AV) => (List AV)) (List.getD (List.map clA a) (Int.toNat i) AV.dead) (fun (cs : (Array Go.Value)) => (List.map AV.v (Array.toList cs))) (fun (cs : (List AV)) => cs) (fun (x : AV) => [x])) (2 : Nat) AV.dead))), (Value.int IntKind.i64 (exInt (List.getD (AV.cells.match_1 (fun (x : AV) => (List AV)) (List.getD (List.map clA a) (Int.toNat i) AV.dead) (fun (cs : (Array Go.Value)) => (List.map AV.v (Array.toList cs))) (fun (cs : (List AV)) => cs) (fun (x : AV) => [x])) (3 : Nat) AV.dead)))])))))) (elemB Tryd.prog (47 : Nat) (List.map clA b) i) (((0 : Int) ≤ i) ∧ (((List.map clA b)[(Int.toNat i)]?) = (some (AV.v (Value.agg #[(Value.int IntKind.i64 (exInt (List.getD (AV.cells.match_1 (fun (x : AV) => (List AV)) (List.getD (List.map clA b) (Int.toNat i) AV.dead) (fun (cs : (Array Go.Value)) => (List.map AV.v (Array.toList cs))) (fun (cs : (List AV)) => cs) (fun (x : AV) => [x])) (0 : Nat) AV.dead))), (Value.int IntKind.i64 (exInt (List.getD (AV.cells.match_1 (fun (x : AV) => (List AV)) (List.getD (List.map clA b) (Int.toNat i) AV.dead) (fun (cs : (Array Go.Value)) => (List.map AV.v (Array.toList cs))) (fun (cs : (List AV)) => cs) (fun (x : AV) => [x])) (1 : Nat) AV.dead))), (Value.int IntKind.i64 (exInt (List.getD (AV.cells.match_1 (fun (x : AV) => (List AV)) (List.getD (List.map clA b) (Int.toNat i) AV.dead) (fun (cs : (Array Go.Value)) => (List.map AV.v (Array.toList cs))) (fun (cs : (List AV)) => cs) (fun (x : AV) => [x])) (2 : Nat) AV.dead))), (Value.int IntKind.i64 (exInt (List.getD (AV.cells.match_1 (fun (x : AV) => (List AV)) (List.getD (List.map clA b) (Int.toNat i) AV.dead) (fun (cs : (Array Go.Value)) => (List.map AV.v (Array.toList cs))) (fun (cs : (List AV)) => cs) (fun (x : AV) => [x])) (3 : Nat) AV.dead)))])))))) ∧ (R Exit.ret [(AV.lst (4 : Nat) (List.map clA a) Tip.no), (AV.lst (4 : Nat) (List.map clA b) Tip.no), AV.dead, AV.dead, (AV.v (Value.bool false)), (AV.v (Value.int IntKind.i64 i)), AV.dead, AV.dead, AV.dead, AV.dead, AV.dead, AV.dead, AV.dead, AV.dead, AV.dead, AV.dead, AV.dead, AV.dead, AV.dead, AV.dead, AV.dead, AV.dead, AV.dead, AV.dead, AV.dead, AV.dead, AV.dead, AV.dead, AV.dead, AV.dead, AV.dead, AV.dead] (AH.mk (@List.nil (Prod Go.TypeId (List AV))) (@List.nil Nat) (0 : Nat) (0 : Nat) true (@List.nil (Prod Nat Bool)) True)))) else (some ((cds (cds True (elemB Tryd.prog (47 : Nat) (List.map clA a) i) (((0 : Int) ≤ i) ∧ (((List.map clA a)[(Int.toNat i)]?) = (some (AV.v (Value.agg #[(Value.int IntKind.i64 (exInt (List.getD (AV.cells.match_1 (fun (x : AV) => (List AV)) (List.getD (List.map clA a) (Int.toNat i) AV.dead) (fun (cs : (Array Go.Value)) => (List.map AV.v (Array.toList cs))) (fun (cs : (List AV)) => cs) (fun (x : AV) => [x])) (0 : Nat) AV.dead))), (Value.int IntKind.i64 (exInt (List.getD (AV.cells.match_1 (fun (x : AV) => (List AV)) (List.getD (List.map clA a) (Int.toNat i) AV.dead) (fun (cs : (Array Go.Value)) => (List.map AV.v (Array.toList cs))) (fun (cs : (List AV)) => cs) (fun (x : AV) => [x])) (1 : Nat) AV.dead))), (Value.int IntKind.i64 (exInt (List.getD (AV.cells.match_1 (fun (x : AV) => (List AV)) (List.getD (List.map clA a) (Int.toNat i) AV.dead) (fun (cs : (Array Go.Value)) => (List.map AV.v (Array.toList cs))) (fun (cs : (List AV)) => cs) (fun (x : AV) => [x])) (2 : Nat) AV.dead))), (Value.int IntKind.i64 (exInt (List.getD (AV.cells.match_1 (fun (x : AV) => (List AV)) (List.getD (List.map clA a) (Int.toNat i) AV.dead) (fun (cs : (Array Go.Value)) => (List.map AV.v (Array.toList cs))) (fun (cs : (List AV)) => cs) (fun (x : AV) => [x])) (3 : Nat) AV.dead)))])))))) (elemB Tryd.prog (47 : Nat) (List.map clA b) i) (((0 : Int) ≤ i) ∧ (((List.map clA b)[(Int.toNat i)]?) = (some (AV.v (Value.agg #[(Value.int IntKind.i64 (exInt (List.getD (AV.cells.match_1 (fun (x : AV) => (List AV)) (List.getD (List.map clA b) (Int.toNat i) AV.dead) (fun (cs : (Array Go.Value)) => (List.map AV.v (Array.toList cs))) (fun (cs : (List AV)) => cs) (fun (x : AV) => [x])) (0 : Nat) AV.dead))), (Value.int IntKind.i64 (exInt (List.getD (AV.cells.match_1 (fun (x : AV) => (List AV)) (List.getD (List.map clA b) (Int.toNat i) AV.dead) (fun (cs : (Array Go.Value)) => (List.map AV.v (Array.toList cs))) (fun (cs : (List AV)) => cs) (fun (x : AV) => [x])) (1 : Nat) AV.dead))), (Value.int IntKind.i64 (exInt (List.getD (AV.cells.match_1 (fun (x : AV) => (List AV)) (List.getD (List.map clA b) (Int.toNat i) AV.dead) (fun (cs : (Array Go.Value)) => (List.map AV.v (Array.toList cs))) (fun (cs : (List AV)) => cs) (fun (x : AV) => [x])) (2 : Nat) AV.dead))), (Value.int IntKind.i64 (exInt (List.getD (AV.cells.match_1 (fun (x : AV) => (List AV)) (List.getD (List.map clA b) (Int.toNat i) AV.dead) (fun (cs : (Array Go.Value)) => (List.map AV.v (Array.toList cs))) (fun (cs : (List AV)) => cs) (fun (x : AV) => [x])) (3 : Nat) AV.dead)))])))))) ∧ (R Exit.normal [(AV.lst (4 : Nat) (List.map clA a) Tip.no), (AV.lst (4 : Nat) (List.map clA b) Tip.no), AV.dead, AV.dead, AV.dead, (AV.v (Value.int IntKind.i64 (IntKind.wrap IntKind.i64 (i + (1 : Int))))), AV.dead, AV.dead, AV.dead, AV.dead, AV.dead, AV.dead, AV.dead, AV.dead, AV.dead, AV.dead, AV.dead, AV.dead, AV.dead, AV.dead, AV.dead, AV.dead, AV.dead, AV.dead, AV.dead, AV.dead, AV.dead, AV.dead, AV.dead, AV.dead, AV.dead, AV.dead] (AH.mk (@List.nil (Prod Go.TypeId (List AV))) (@List.nil Nat) (0 : Nat) (0 : Nat) true (@List.nil (Prod Nat Bool)) True))))) else (some (True ∧ (R (Exit.exit (0 : Nat)) [(AV.lst (4 : Nat) (List.map clA a) Tip.no), (AV.lst (4 : Nat) (List.map clA b) Tip.no), AV.dead, AV.dead, AV.dead, (AV.v (Value.int IntKind.i64 i)), AV.dead, AV.dead, AV.dead, AV.dead, AV.dead, AV.dead, AV.dead, AV.dead, AV.dead, AV.dead, AV.dead, AV.dead, AV.dead, AV.dead, AV.dead, AV.dead, AV.dead, AV.dead, AV.dead, AV.dead, AV.dead, AV.dead, AV.dead, AV.dead, AV.dead, AV.dead] (AH.mk (@List.nil (Prod Go.TypeId (List AV))) (@List.nil Nat) (0 : Nat) (0 : Nat) true (@List.nil (Prod Nat Bool)) True))))) else (some (True ∧ (R (Exit.exit (0 : Nat)) [(AV.lst (4 : Nat) (List.map clA a) Tip.no), (AV.lst (4 : Nat) (List.map clA b) Tip.no), AV.dead, AV.dead, AV.dead, (AV.v (Value.int IntKind.i64 i)), AV.dead, AV.dead, AV.dead, AV.dead, AV.dead, AV.dead, AV.dead, AV.dead, AV.dead, AV.dead, AV.dead, AV.dead, AV.dead, AV.dead, AV.dead, AV.dead, AV.dead, AV.dead, AV.dead, AV.dead, AV.dead, AV.dead, AV.dead, AV.dead, AV.dead, AV.dead] (AH.mk (@List.nil (Prod Go.TypeId (List AV))) (@List.nil Nat) (0 : Nat) (0 : Nat) true (@List.nil (Prod Nat Bool)) True))))) := by kernel_rfl
theorem sc_post (ro : Nat → Option (List Value)) (a b : List Cl) (i : Int) (R : Exit → List AV → AH → Prop) : codeL ro (fun _ => false) (fun _ => none) 8 ((flatten (bodyOf 9)).drop 5) (scA a b i) (hp [] []) (kp [4] R) =
    (some (True ∧ (R Exit.ret [AV.dead, AV.dead, AV.dead, AV.dead, (AV.v (Value.bool true)), AV.dead, AV.dead, AV.dead, AV.dead, AV.dead, AV.dead, AV.dead, AV.dead, AV.dead, AV.dead, AV.dead, AV.dead, AV.dead, AV.dead, AV.dead, AV.dead, AV.dead, AV.dead, AV.dead, AV.dead, AV.dead, AV.dead, AV.dead, AV.dead, AV.dead, AV.dead, AV.dead] (AH.mk (@List.nil (Prod Go.TypeId (List AV))) (@List.nil Nat) (0 : Nat) (0 : Nat) true (@List.nil (Prod Nat Bool)) True)))) := by kernel_rfl
end Go.Proofs.YtkienkbaiejdmaaDoor.AE
namespace Go.Proofs.YtkienkbaiejdmaaDoor.AE
open Go.RowKit
theorem sc_sl : slotsOf 9 = 32 := by kernel_rfl
theorem sc_re : resultsOf 9 = [.tmp 4] := by kernel_rfl
theorem sc_fl : (flatten (bodyOf 9)).drop 4 = .block 0 (.loop (sub (bodyOf 9) [1, 1, 0, 1, 0, 0])) :: (flatten (bodyOf 9)).drop 5 := by kernel_rfl
theorem cll (l : List Cl) : (l.map clA).length = l.length := List.length_map ..
theorem cl_ext {a b : Cl} : (a.to == b.to && (a.tier == b.tier && (a.weight == b.weight && (a.most == b.most && true)))) = true ↔ a = b := by
  obtain ⟨a1, a2, a3, a4⟩ := a
  obtain ⟨b1, b2, b3, b4⟩ := b
  simp
instance : DecidableEq Cl := fun a b => decidable_of_iff _ (cl_ext (a := a) (b := b))
set_option maxRecDepth 100000 in
theorem fs_samec {ro : Nat → Option (List Value)} (a b : List Cl) (ha : a.length ≤ 1000000) : Fs Tryd.prog ro 9 [.lst 4 (a.map clA) .no, .lst 4 (b.map clA) .no] (hp [] []) fun r _ => r = .v (.bool (decide (a = b))) := by
  refine Fs.of_body (has_fn (by kernel_rfl)) ?_
  rw [sc_sl, sc_re]
  have pre := fun R => sc_pre ro a b R
  rw [cll, cll] at pre
  refine Tr.of_flat (Trl.split 4 (Trl.of_code (known_none _) (ne_nil (by kernel_rfl)) (pre _) (holds_bif (fun h => ⟨trivial, .inr rfl, trivial, ?_⟩) fun h => ⟨trivial, ?_⟩)))
  · have h : ¬ a = b := by rintro rfl; simp at h
    rw [decide_eq_false h]; rfl
  have hlen : a.length = b.length := by simp at h; omega
  show Trl _ _ ((flatten (bodyOf 9)).drop 4) _ _ _
  rw [sc_fl]
  refine Tr.keepL [0, 1, 5] rfl ?_
  let I : Nat → List AV → AH → Prop := fun m act H => ∃ i : Nat, i ≤ a.length ∧ m = a.length - i ∧ act = scA a b i ∧ H = hp [] [] ∧ a.take i = b.take i
  refine Tr.block (Tr.loop I ?_ (m := a.length) ⟨0, Nat.zero_le _, rfl, rfl, rfl, rfl⟩)
  rintro m act H ⟨i, hi, rfl, rfl, rfl, hp⟩
  have body := fun R => sc_in ro a b i R
  rw [cll, cll, inc64 i (by omega)] at body
  refine Tr.of_code (known_none _) (body _) (holds_bif (fun h1 => holds_bif (fun h2 => ?_) (fun h2 => ?_)) fun h1 => ⟨trivial, ?_⟩)
  · have h1 : i < a.length := by have := of_decide_eq_true h1; omega
    have h2 : i < b.length := by omega
    have g1 := cl_el h1
    have g2 := cl_el h2
    rw [cl_get h1, cl_get h2]
    refine holds_bif (fun h3 => ⟨cds_of (cds_of trivial g1) g2, .inr rfl, trivial, ?_⟩) (fun h3 => ⟨cds_of (cds_of trivial g1) g2, a.length - (i + 1), by omega, i + 1, h1, rfl, rfl, rfl, ?_⟩)
    · have h3 : (a[i].to == b[i].to && (a[i].tier == b[i].tier && (a[i].weight == b[i].weight && (a[i].most == b[i].most && true)))) = false := bn_t h3
      have : ¬ a = b := by
        rintro rfl
        rw [cl_ext.2 rfl] at h3; cases h3
      rw [decide_eq_false this]; rfl
    · have h3 : (a[i].to == b[i].to && (a[i].tier == b[i].tier && (a[i].weight == b[i].weight && (a[i].most == b[i].most && true)))) = true := bn_f h3
      rw [take_snoc h1, take_snoc h2, hp, cl_ext.1 h3]
  · have h1 := of_decide_eq_true h1
    have h2 := of_decide_eq_false h2
    omega
  · have h1 : i = a.length := by have := of_decide_eq_false h1; omega
    have hab : a = b := by
      rw [h1, List.take_length, hlen, List.take_length] at hp; exact hp
    show Trl _ _ ((flatten (bodyOf 9)).drop 5) _ _ _
    refine Trl.of_code (known_none _) (ne_nil (by kernel_rfl)) (sc_post ro _ _ _ _) ⟨trivial, .inr rfl, trivial, ?_⟩
    rw [decide_eq_true hab]; rfl
end Go.Proofs.YtkienkbaiejdmaaDoor.AE
namespace Go.Proofs.YtkienkbaiejdmaaDoor.AE
open Go.RowKit
def clOf? (x : AV) : Option Cl := match x with
  | .v (.agg a) => match vi? a.toList with
    | some [p, q, r, s] => some ⟨p, q, r, s⟩
    | _ => none
  | _ => none
theorem clOf_eq {x : AV} {c : Cl} (h : clOf? x = some c) : x = clA c := by
  unfold clOf? at h
  split at h
  · rename_i a
    split at h
    · rename_i p q r s hv
      cases h
      have : a = #[.int .i64 p, .int .i64 q, .int .i64 r, .int .i64 s] := Array.toList_inj.1 (vi_eq hv)
      subst this; rfl
    · cases h
  · cases h
def cls? : List AV → Option (List Cl)
  | [] => some []
  | x :: l => match clOf? x with
    | some c => match cls? l with
      | some r => some (c :: r)
      | none => none
    | none => none
theorem cls_map : ∀ l : List Cl, cls? (l.map clA) = some l
  | [] => rfl
  | c :: l => by
    show (match clOf? (clA c) with | some c => (match cls? (l.map clA) with | some r => some (c :: r) | none => none) | none => none) = _
    rw [cls_map l]; rfl
theorem cls_eq : ∀ {xs : List AV} {l : List Cl}, cls? xs = some l → xs = l.map clA
  | [], l, h => by cases h; rfl
  | x :: xs, l, h => by
    have h : (match clOf? x with | some c => (match cls? xs with | some r => some (c :: r) | none => none) | none => none) = some l := h
    split at h
    · rename_i c hc
      split at h
      · rename_i r hr
        cases h
        rw [List.map_cons, ← clOf_eq hc, ← cls_eq hr]
      · cases h
    · cases h
def clsA? (x : AV) : Option (List Cl) := match x with
  | .lst 4 xs _ => cls? xs
  | .v (.slice none 0 0) => some []
  | _ => none
def clsX (x : AV) : List Cl := match clsA? x with
  | some l => l
  | none => []
theorem clsX_some {x : AV} {l : List Cl} (h : clsA? x = some l) : clsX x = l := by unfold clsX; rw [h]
theorem clsA_lst (l : List Cl) (t : Tip) : clsA? (.lst 4 (l.map clA) t) = some l := cls_map l
theorem clsX_lst (l : List Cl) (t : Tip) : clsX (.lst 4 (l.map clA) t) = l := clsX_some (clsA_lst l t)
theorem clsA_le {x : AV} {l : List Cl} (h : clsA? x = some l) : Le x (.lst 4 (l.map clA) .no) := by
  unfold clsA? at h
  split at h
  · rw [cls_eq h]; exact Le.noTip _ _ _
  · cases h
    intro G W c hr
    cases hr
    exact .lst (cs := []) rfl .nil (fun x hx => by cases hx) ⟨by simp, fun hne => absurd rfl hne⟩ (Nat.le_refl _) (Nat.zero_le _) trivial
  · cases h
theorem clsA_clean {x : AV} {l : List Cl} (h : clsA? x = some l) : ∃ y, clean x = some y ∧ clsA? y = some l := by
  unfold clsA? at h
  split at h
  · exact ⟨_, rfl, h⟩
  · exact ⟨_, rfl, h⟩
  · cases h
theorem Fs.weak {P : Program} {ro : Nat → Option (List Value)} {g : FuncId} {args args' : List AV} {H : AH} {Φ : AV → AH → Prop} (h : Fs P ro g args' H Φ) (hw : ∀ G W cs, RVs G W args cs → RVs G W args' cs) : Fs P ro g args H Φ := fun G W cargs hI hR hA => h G W cargs hI hR (hw _ _ _ hA)
def sameCV (SC : AV → AV → Bool) (args : List AV) : AV := .v (.bool (SC (args.headD .dead) (args.tail.headD .dead)))
def scOk (args : List AV) : Bool := match args with
  | [x, y] => match clsA? x with
    | some l => (match clsA? y with | some _ => decide (l.length ≤ 1000000) | none => false)
    | none => false
  | _ => false
def scX (x y : AV) : Bool := decide (clsX x = clsX y)
theorem scOk_of (a b : List Cl) (t u : Tip) (h : a.length ≤ 1000000) : scOk [.lst 4 (a.map clA) t, .lst 4 (b.map clA) u] = true := by
  show (match clsA? (.lst 4 (a.map clA) t) with | some l => (match clsA? (.lst 4 (b.map clA) u) with | some _ => decide (l.length ≤ 1000000) | none => false) | none => false) = true
  rw [clsA_lst, clsA_lst]; exact decide_eq_true h
theorem samec_ok {ro : Nat → Option (List Value)} : ∀ args H r H', tot? (sameCV scX) scOk args H = some (r, H') → HSound1 Tryd.prog ro 9 args H r H' := by
  refine tot_ok (has_fn (by kernel_rfl)) fun args hok => ?_
  unfold scOk at hok
  split at hok
  · rename_i x y
    split at hok
    · rename_i a ha
      split at hok
      · rename_i b hb
        obtain ⟨x', h1, h2⟩ := clsA_clean ha
        obtain ⟨y', h3, h4⟩ := clsA_clean hb
        refine ⟨[x', y'], by simp only [cleans, h1, h3], ?_⟩
        refine Fs.weak ((fs_samec a b (of_decide_eq_true hok)).mono fun r _ h => ?_) fun G W cs h => ?_
        · subst h
          refine ⟨_, rfl, ?_⟩
          show Le _ (.v (.bool (decide (clsX x = clsX y))))
          rw [clsX_some ha, clsX_some hb]
          exact Le.refl _
        · cases h with
          | cons e1 t => cases t with
            | cons e2 t => exact .cons (clsA_le h2 _ _ _ e1) (.cons (clsA_le h4 _ _ _ e2) t)
      · cases hok
    · cases hok
  · cases hok
noncomputable def prS (SC : AV → AV → Bool) : FuncId → Option (List AV → AH → Ans) := fun g => match g with
  | 9 => some (tot? (sameCV SC) scOk)
  | _ => none
theorem knownS {ro : Nat → Option (List Value)} : Known ro (prS scX) := by
  intro g p h
  unfold prS at h
  split at h
  · cases h; exact samec_ok
  · cases h
theorem k_same (SC : AV → AV → Bool) (tS tR : TypeId) (pS pR : Value) (x1 x2 x3 x4 x5 x6 x7 x8 x9 x10 x11 x12 x13 y1 y2 y3 y4 y5 y6 y7 y8 y9 y10 y11 y12 y13 : Int) (cs ds : List Cl) (Φ : AV → Prop) : callK (roN tS pS tR pR) (fun _ => false) (prS SC) 8 14 [svcA x1 x2 x3 x4 x5 x6 x7 x8 x9 x10 x11 x12 x13 cs, svcA y1 y2 y3 y4 y5 y6 y7 y8 y9 y10 y11 y12 y13 ds] (hp [] []) (fun r h => some (h.cd ∧ Φ r)) =
    (bif (x1 != y1) then (some (True ∧ (Φ (AV.v (Value.bool false))))) else (bif (x2 != y2) then (some (True ∧ (Φ (AV.v (Value.bool false))))) else (bif (x3 != y3) then (some (True ∧ (Φ (AV.v (Value.bool false))))) else (bif (x4 != y4) then (some (True ∧ (Φ (AV.v (Value.bool false))))) else (bif (x5 != y5) then (some (True ∧ (Φ (AV.v (Value.bool false))))) else (bif (x6 != y6) then (some (True ∧ (Φ (AV.v (Value.bool false))))) else (bif (x7 != y7) then (some (True ∧ (Φ (AV.v (Value.bool false))))) else (bif (x8 != y8) then (some (True ∧ (Φ (AV.v (Value.bool false))))) else (bif (x9 != y9) then (some (True ∧ (Φ (AV.v (Value.bool false))))) else (bif (x10 != y10) then (some (True ∧ (Φ (AV.v (Value.bool false))))) else (bif (x11 != y11) then (some (True ∧ (Φ (AV.v (Value.bool false))))) else (bif (x12 != y12) then (some (True ∧ (Φ (AV.v (Value.bool false))))) else (bif (x13 != y13) then (some (True ∧ (Φ (AV.v (Value.bool false))))) else (some ((cdb True (scOk [(AV.lst (4 : Nat) (List.map clA cs) Tip.no), (AV.lst (4 : Nat) (List.map clA ds) Tip.no)])) ∧ (Φ (AV.v (Value.bool (SC (AV.lst (4 : Nat) (List.map clA cs) Tip.no) (AV.lst (4 : Nat) (List.map clA ds) Tip.no)))))))))))))))))))) := by kernel_rfl
end Go.Proofs.YtkienkbaiejdmaaDoor.AE
namespace Go.Proofs.YtkienkbaiejdmaaDoor.AE
open Go.RowKit
def svcE (xs : List Int) (cs : List Cl) (ys : List Int) (ds : List Cl) : Bool := (xs == ys) && decide (cs = ds)
theorem lists_eq {x1 x2 x3 x4 x5 x6 x7 x8 x9 x10 x11 x12 x13 y1 y2 y3 y4 y5 y6 y7 y8 y9 y10 y11 y12 y13 : Int} : ([x1, x2, x3, x4, x5, x6, x7, x8, x9, x10, x11, x12, x13] == [y1, y2, y3, y4, y5, y6, y7, y8, y9, y10, y11, y12, y13]) = (x1 == y1 && (x2 == y2 && (x3 == y3 && (x4 == y4 && (x5 == y5 && (x6 == y6 && (x7 == y7 && (x8 == y8 && (x9 == y9 && (x10 == y10 && (x11 == y11 && (x12 == y12 && (x13 == y13 && true))))))))))))) := rfl
theorem sv_no1 {x1 x2 x3 x4 x5 x6 x7 x8 x9 x10 x11 x12 x13 y1 y2 y3 y4 y5 y6 y7 y8 y9 y10 y11 y12 y13 : Int} {cs ds : List Cl} (h : (x1 == y1) = false) : AV.v (.bool false) = .v (.bool (svcE [x1, x2, x3, x4, x5, x6, x7, x8, x9, x10, x11, x12, x13] cs [y1, y2, y3, y4, y5, y6, y7, y8, y9, y10, y11, y12, y13] ds)) := by
  unfold svcE
  rw [lists_eq, h]
  simp only [Bool.false_and, Bool.and_false]
theorem sv_no2 {x1 x2 x3 x4 x5 x6 x7 x8 x9 x10 x11 x12 x13 y1 y2 y3 y4 y5 y6 y7 y8 y9 y10 y11 y12 y13 : Int} {cs ds : List Cl} (h : (x2 == y2) = false) : AV.v (.bool false) = .v (.bool (svcE [x1, x2, x3, x4, x5, x6, x7, x8, x9, x10, x11, x12, x13] cs [y1, y2, y3, y4, y5, y6, y7, y8, y9, y10, y11, y12, y13] ds)) := by
  unfold svcE
  rw [lists_eq, h]
  simp only [Bool.false_and, Bool.and_false]
theorem sv_no3 {x1 x2 x3 x4 x5 x6 x7 x8 x9 x10 x11 x12 x13 y1 y2 y3 y4 y5 y6 y7 y8 y9 y10 y11 y12 y13 : Int} {cs ds : List Cl} (h : (x3 == y3) = false) : AV.v (.bool false) = .v (.bool (svcE [x1, x2, x3, x4, x5, x6, x7, x8, x9, x10, x11, x12, x13] cs [y1, y2, y3, y4, y5, y6, y7, y8, y9, y10, y11, y12, y13] ds)) := by
  unfold svcE
  rw [lists_eq, h]
  simp only [Bool.false_and, Bool.and_false]
theorem sv_no4 {x1 x2 x3 x4 x5 x6 x7 x8 x9 x10 x11 x12 x13 y1 y2 y3 y4 y5 y6 y7 y8 y9 y10 y11 y12 y13 : Int} {cs ds : List Cl} (h : (x4 == y4) = false) : AV.v (.bool false) = .v (.bool (svcE [x1, x2, x3, x4, x5, x6, x7, x8, x9, x10, x11, x12, x13] cs [y1, y2, y3, y4, y5, y6, y7, y8, y9, y10, y11, y12, y13] ds)) := by
  unfold svcE
  rw [lists_eq, h]
  simp only [Bool.false_and, Bool.and_false]
theorem sv_no5 {x1 x2 x3 x4 x5 x6 x7 x8 x9 x10 x11 x12 x13 y1 y2 y3 y4 y5 y6 y7 y8 y9 y10 y11 y12 y13 : Int} {cs ds : List Cl} (h : (x5 == y5) = false) : AV.v (.bool false) = .v (.bool (svcE [x1, x2, x3, x4, x5, x6, x7, x8, x9, x10, x11, x12, x13] cs [y1, y2, y3, y4, y5, y6, y7, y8, y9, y10, y11, y12, y13] ds)) := by
  unfold svcE
  rw [lists_eq, h]
  simp only [Bool.false_and, Bool.and_false]
theorem sv_no6 {x1 x2 x3 x4 x5 x6 x7 x8 x9 x10 x11 x12 x13 y1 y2 y3 y4 y5 y6 y7 y8 y9 y10 y11 y12 y13 : Int} {cs ds : List Cl} (h : (x6 == y6) = false) : AV.v (.bool false) = .v (.bool (svcE [x1, x2, x3, x4, x5, x6, x7, x8, x9, x10, x11, x12, x13] cs [y1, y2, y3, y4, y5, y6, y7, y8, y9, y10, y11, y12, y13] ds)) := by
  unfold svcE
  rw [lists_eq, h]
  simp only [Bool.false_and, Bool.and_false]
theorem sv_no7 {x1 x2 x3 x4 x5 x6 x7 x8 x9 x10 x11 x12 x13 y1 y2 y3 y4 y5 y6 y7 y8 y9 y10 y11 y12 y13 : Int} {cs ds : List Cl} (h : (x7 == y7) = false) : AV.v (.bool false) = .v (.bool (svcE [x1, x2, x3, x4, x5, x6, x7, x8, x9, x10, x11, x12, x13] cs [y1, y2, y3, y4, y5, y6, y7, y8, y9, y10, y11, y12, y13] ds)) := by
  unfold svcE
  rw [lists_eq, h]
  simp only [Bool.false_and, Bool.and_false]
theorem sv_no8 {x1 x2 x3 x4 x5 x6 x7 x8 x9 x10 x11 x12 x13 y1 y2 y3 y4 y5 y6 y7 y8 y9 y10 y11 y12 y13 : Int} {cs ds : List Cl} (h : (x8 == y8) = false) : AV.v (.bool false) = .v (.bool (svcE [x1, x2, x3, x4, x5, x6, x7, x8, x9, x10, x11, x12, x13] cs [y1, y2, y3, y4, y5, y6, y7, y8, y9, y10, y11, y12, y13] ds)) := by
  unfold svcE
  rw [lists_eq, h]
  simp only [Bool.false_and, Bool.and_false]
theorem sv_no9 {x1 x2 x3 x4 x5 x6 x7 x8 x9 x10 x11 x12 x13 y1 y2 y3 y4 y5 y6 y7 y8 y9 y10 y11 y12 y13 : Int} {cs ds : List Cl} (h : (x9 == y9) = false) : AV.v (.bool false) = .v (.bool (svcE [x1, x2, x3, x4, x5, x6, x7, x8, x9, x10, x11, x12, x13] cs [y1, y2, y3, y4, y5, y6, y7, y8, y9, y10, y11, y12, y13] ds)) := by
  unfold svcE
  rw [lists_eq, h]
  simp only [Bool.false_and, Bool.and_false]
theorem sv_no10 {x1 x2 x3 x4 x5 x6 x7 x8 x9 x10 x11 x12 x13 y1 y2 y3 y4 y5 y6 y7 y8 y9 y10 y11 y12 y13 : Int} {cs ds : List Cl} (h : (x10 == y10) = false) : AV.v (.bool false) = .v (.bool (svcE [x1, x2, x3, x4, x5, x6, x7, x8, x9, x10, x11, x12, x13] cs [y1, y2, y3, y4, y5, y6, y7, y8, y9, y10, y11, y12, y13] ds)) := by
  unfold svcE
  rw [lists_eq, h]
  simp only [Bool.false_and, Bool.and_false]
theorem sv_no11 {x1 x2 x3 x4 x5 x6 x7 x8 x9 x10 x11 x12 x13 y1 y2 y3 y4 y5 y6 y7 y8 y9 y10 y11 y12 y13 : Int} {cs ds : List Cl} (h : (x11 == y11) = false) : AV.v (.bool false) = .v (.bool (svcE [x1, x2, x3, x4, x5, x6, x7, x8, x9, x10, x11, x12, x13] cs [y1, y2, y3, y4, y5, y6, y7, y8, y9, y10, y11, y12, y13] ds)) := by
  unfold svcE
  rw [lists_eq, h]
  simp only [Bool.false_and, Bool.and_false]
theorem sv_no12 {x1 x2 x3 x4 x5 x6 x7 x8 x9 x10 x11 x12 x13 y1 y2 y3 y4 y5 y6 y7 y8 y9 y10 y11 y12 y13 : Int} {cs ds : List Cl} (h : (x12 == y12) = false) : AV.v (.bool false) = .v (.bool (svcE [x1, x2, x3, x4, x5, x6, x7, x8, x9, x10, x11, x12, x13] cs [y1, y2, y3, y4, y5, y6, y7, y8, y9, y10, y11, y12, y13] ds)) := by
  unfold svcE
  rw [lists_eq, h]
  simp only [Bool.false_and, Bool.and_false]
theorem sv_no13 {x1 x2 x3 x4 x5 x6 x7 x8 x9 x10 x11 x12 x13 y1 y2 y3 y4 y5 y6 y7 y8 y9 y10 y11 y12 y13 : Int} {cs ds : List Cl} (h : (x13 == y13) = false) : AV.v (.bool false) = .v (.bool (svcE [x1, x2, x3, x4, x5, x6, x7, x8, x9, x10, x11, x12, x13] cs [y1, y2, y3, y4, y5, y6, y7, y8, y9, y10, y11, y12, y13] ds)) := by
  unfold svcE
  rw [lists_eq, h]
  simp only [Bool.false_and, Bool.and_false]
theorem sv_yes {x1 x2 x3 x4 x5 x6 x7 x8 x9 x10 x11 x12 x13 y1 y2 y3 y4 y5 y6 y7 y8 y9 y10 y11 y12 y13 : Int} {cs ds : List Cl} (h1 : (x1 == y1) = true) (h2 : (x2 == y2) = true) (h3 : (x3 == y3) = true) (h4 : (x4 == y4) = true) (h5 : (x5 == y5) = true) (h6 : (x6 == y6) = true) (h7 : (x7 == y7) = true) (h8 : (x8 == y8) = true) (h9 : (x9 == y9) = true) (h10 : (x10 == y10) = true) (h11 : (x11 == y11) = true) (h12 : (x12 == y12) = true) (h13 : (x13 == y13) = true) : AV.v (.bool (scX (.lst 4 (cs.map clA) .no) (.lst 4 (ds.map clA) .no))) = .v (.bool (svcE [x1, x2, x3, x4, x5, x6, x7, x8, x9, x10, x11, x12, x13] cs [y1, y2, y3, y4, y5, y6, y7, y8, y9, y10, y11, y12, y13] ds)) := by
  unfold svcE scX
  rw [lists_eq, h1, h2, h3, h4, h5, h6, h7, h8, h9, h10, h11, h12, h13, clsX_lst, clsX_lst]; rfl
theorem fs_same {tS tR : TypeId} {pS pR : Value} {x1 x2 x3 x4 x5 x6 x7 x8 x9 x10 x11 x12 x13 y1 y2 y3 y4 y5 y6 y7 y8 y9 y10 y11 y12 y13 : Int} {cs ds : List Cl} (h : cs.length ≤ 1000000) : Fs Tryd.prog (roN tS pS tR pR) 14 [svcA x1 x2 x3 x4 x5 x6 x7 x8 x9 x10 x11 x12 x13 cs, svcA y1 y2 y3 y4 y5 y6 y7 y8 y9 y10 y11 y12 y13 ds] (hp [] []) fun r _ => r = .v (.bool (svcE [x1, x2, x3, x4, x5, x6, x7, x8, x9, x10, x11, x12, x13] cs [y1, y2, y3, y4, y5, y6, y7, y8, y9, y10, y11, y12, y13] ds)) := by
  have hk := scOk_of cs ds .no .no h
  refine Fs.of_call knownS (k_same scX tS tR pS pR x1 x2 x3 x4 x5 x6 x7 x8 x9 x10 x11 x12 x13 y1 y2 y3 y4 y5 y6 y7 y8 y9 y10 y11 y12 y13 cs ds fun r => r = .v (.bool (svcE [x1, x2, x3, x4, x5, x6, x7, x8, x9, x10, x11, x12, x13] cs [y1, y2, y3, y4, y5, y6, y7, y8, y9, y10, y11, y12, y13] ds))) ?_
  exact holds_bif (fun h1 => ⟨trivial, sv_no1 (ne_t h1)⟩) fun h1 => holds_bif (fun h2 => ⟨trivial, sv_no2 (ne_t h2)⟩) fun h2 => holds_bif (fun h3 => ⟨trivial, sv_no3 (ne_t h3)⟩) fun h3 => holds_bif (fun h4 => ⟨trivial, sv_no4 (ne_t h4)⟩) fun h4 => holds_bif (fun h5 => ⟨trivial, sv_no5 (ne_t h5)⟩) fun h5 => holds_bif (fun h6 => ⟨trivial, sv_no6 (ne_t h6)⟩) fun h6 => holds_bif (fun h7 => ⟨trivial, sv_no7 (ne_t h7)⟩) fun h7 => holds_bif (fun h8 => ⟨trivial, sv_no8 (ne_t h8)⟩) fun h8 => holds_bif (fun h9 => ⟨trivial, sv_no9 (ne_t h9)⟩) fun h9 => holds_bif (fun h10 => ⟨trivial, sv_no10 (ne_t h10)⟩) fun h10 => holds_bif (fun h11 => ⟨trivial, sv_no11 (ne_t h11)⟩) fun h11 => holds_bif (fun h12 => ⟨trivial, sv_no12 (ne_t h12)⟩) fun h12 => holds_bif (fun h13 => ⟨trivial, sv_no13 (ne_t h13)⟩) fun h13 => ⟨by with_reducible exact cdb_iff.2 ⟨trivial, hk⟩, sv_yes (ne_f h1) (ne_f h2) (ne_f h3) (ne_f h4) (ne_f h5) (ne_f h6) (ne_f h7) (ne_f h8) (ne_f h9) (ne_f h10) (ne_f h11) (ne_f h12) (ne_f h13)⟩
def pkA (f : Nat) (cs : List Cl) (row : AV) (m i : Int) : List AV := [.dead, .fn (.func f) [] [], .dead, .dead, .dead, row, .dead, .dead, .lst 4 (cs.map clA) .no, gi m, gi i] ++ List.replicate 12 .dead
end Go.Proofs.YtkienkbaiejdmaaDoor.AE
namespace Go.Proofs.YtkienkbaiejdmaaDoor.AE
open Go.RowKit
def pkS (f : AV) (cs : List Cl) (row : AV) (m i : Int) : List AV := [.dead, f, .dead, .dead, .dead, row, .dead, .dead, .lst 4 (cs.map clA) .no, gi m, gi i] ++ List.replicate 12 .dead
theorem pka_pre (ro : Nat → Option (List Value)) (cs : List Cl) (R : Exit → List AV → AH → Prop) : codeL ro (fun _ => false) (fun _ => none) 8 ((flatten (bodyOf 33)).take 3) ([.lst 4 (cs.map clA) .no, (.v (.func (.func 34) #[] #[]))] ++ List.replicate 21 (.v undef)) (hp [] []) (kp [1, 5, 8, 9, 10] R) =
    (some (True ∧ (R Exit.normal [AV.dead, (AV.v (Value.func (Go.Fn.func (34 : Nat)) (Array.mk (@List.nil Go.Value)) (Array.mk (@List.nil Go.Value)))), AV.dead, AV.dead, AV.dead, (AV.v (Value.slice none (0 : Nat) (0 : Nat))), AV.dead, AV.dead, (AV.lst (4 : Nat) (List.map clA cs) Tip.no), (AV.v (Value.int IntKind.i64 ((List.length (List.map clA cs)) : Int))), (AV.v (Value.int IntKind.i64 (0 : Int))), AV.dead, AV.dead, AV.dead, AV.dead, AV.dead, AV.dead, AV.dead, AV.dead, AV.dead, AV.dead, AV.dead, AV.dead] (AH.mk (@List.nil (Prod Go.TypeId (List AV))) (@List.nil Nat) (0 : Nat) (0 : Nat) true (@List.nil (Prod Nat Bool)) True)))) := by kernel_rfl
theorem pka_in (ro : Nat → Option (List Value)) (cs os : List Cl) (v : Nat) (m i : Int) (R : Exit → List AV → AH → Prop) : code ro (fun _ => false) (fun _ => none) 8 (sub (bodyOf 33) [1, 1, 0, 1, 0, 0]) (pkS (.v (.func (.func 34) #[] #[])) cs (.lst 4 (os.map clA) (.tp 0 v)) m i) (hp [] [v]) (kp [1, 5, 8, 9, 10] R) =
    (bif (decide (i < m)) then (bif ((exInt (List.getD (AV.cells.match_1 (fun (x : AV) => (List AV)) (List.getD (List.map clA cs) (Int.toNat i) AV.dead) (fun (cs : (Array Go.Value)) => (List.map AV.v (Array.toList cs))) (fun (cs : (List AV)) => cs) (fun (x : AV) => [x])) (1 : Nat) AV.dead)) == (0 : Int)) then (some ((cdb (cds True (elemB Tryd.prog (47 : Nat) (List.map clA cs) i) (((0 : Int) ≤ i) ∧ (((List.map clA cs)[(Int.toNat i)]?) = (some (AV.v (Value.agg #[(Value.int IntKind.i64 (exInt (List.getD (AV.cells.match_1 (fun (x : AV) => (List AV)) (List.getD (List.map clA cs) (Int.toNat i) AV.dead) (fun (cs : (Array Go.Value)) => (List.map AV.v (Array.toList cs))) (fun (cs : (List AV)) => cs) (fun (x : AV) => [x])) (0 : Nat) AV.dead))), (Value.int IntKind.i64 (exInt (List.getD (AV.cells.match_1 (fun (x : AV) => (List AV)) (List.getD (List.map clA cs) (Int.toNat i) AV.dead) (fun (cs : (Array Go.Value)) => (List.map AV.v (Array.toList cs))) (fun (cs : (List AV)) => cs) (fun (x : AV) => [x])) (1 : Nat) AV.dead))), (Value.int IntKind.i64 (exInt (List.getD (AV.cells.match_1 (fun (x : AV) => (List AV)) (List.getD (List.map clA cs) (Int.toNat i) AV.dead) (fun (cs : (Array Go.Value)) => (List.map AV.v (Array.toList cs))) (fun (cs : (List AV)) => cs) (fun (x : AV) => [x])) (2 : Nat) AV.dead))), (Value.int IntKind.i64 (exInt (List.getD (AV.cells.match_1 (fun (x : AV) => (List AV)) (List.getD (List.map clA cs) (Int.toNat i) AV.dead) (fun (cs : (Array Go.Value)) => (List.map AV.v (Array.toList cs))) (fun (cs : (List AV)) => cs) (fun (x : AV) => [x])) (3 : Nat) AV.dead)))])))))) (decide ((((((List.length (List.map clA os)) + (List.length [(AV.v (Value.agg #[(Value.int IntKind.i64 (exInt (List.getD (AV.cells.match_1 (fun (x : AV) => (List AV)) (List.getD (List.map clA cs) (Int.toNat i) AV.dead) (fun (cs : (Array Go.Value)) => (List.map AV.v (Array.toList cs))) (fun (cs : (List AV)) => cs) (fun (x : AV) => [x])) (0 : Nat) AV.dead))), (Value.int IntKind.i64 (exInt (List.getD (AV.cells.match_1 (fun (x : AV) => (List AV)) (List.getD (List.map clA cs) (Int.toNat i) AV.dead) (fun (cs : (Array Go.Value)) => (List.map AV.v (Array.toList cs))) (fun (cs : (List AV)) => cs) (fun (x : AV) => [x])) (1 : Nat) AV.dead))), (Value.int IntKind.i64 (exInt (List.getD (AV.cells.match_1 (fun (x : AV) => (List AV)) (List.getD (List.map clA cs) (Int.toNat i) AV.dead) (fun (cs : (Array Go.Value)) => (List.map AV.v (Array.toList cs))) (fun (cs : (List AV)) => cs) (fun (x : AV) => [x])) (2 : Nat) AV.dead))), (Value.int IntKind.i64 (exInt (List.getD (AV.cells.match_1 (fun (x : AV) => (List AV)) (List.getD (List.map clA cs) (Int.toNat i) AV.dead) (fun (cs : (Array Go.Value)) => (List.map AV.v (Array.toList cs))) (fun (cs : (List AV)) => cs) (fun (x : AV) => [x])) (3 : Nat) AV.dead)))]))])) * (32 : Nat)) ≤ (140737488355328 : Nat)) ∧ (((List.length (List.map clA os)) + (List.length [(AV.v (Value.agg #[(Value.int IntKind.i64 (exInt (List.getD (AV.cells.match_1 (fun (x : AV) => (List AV)) (List.getD (List.map clA cs) (Int.toNat i) AV.dead) (fun (cs : (Array Go.Value)) => (List.map AV.v (Array.toList cs))) (fun (cs : (List AV)) => cs) (fun (x : AV) => [x])) (0 : Nat) AV.dead))), (Value.int IntKind.i64 (exInt (List.getD (AV.cells.match_1 (fun (x : AV) => (List AV)) (List.getD (List.map clA cs) (Int.toNat i) AV.dead) (fun (cs : (Array Go.Value)) => (List.map AV.v (Array.toList cs))) (fun (cs : (List AV)) => cs) (fun (x : AV) => [x])) (1 : Nat) AV.dead))), (Value.int IntKind.i64 (exInt (List.getD (AV.cells.match_1 (fun (x : AV) => (List AV)) (List.getD (List.map clA cs) (Int.toNat i) AV.dead) (fun (cs : (Array Go.Value)) => (List.map AV.v (Array.toList cs))) (fun (cs : (List AV)) => cs) (fun (x : AV) => [x])) (2 : Nat) AV.dead))), (Value.int IntKind.i64 (exInt (List.getD (AV.cells.match_1 (fun (x : AV) => (List AV)) (List.getD (List.map clA cs) (Int.toNat i) AV.dead) (fun (cs : (Array Go.Value)) => (List.map AV.v (Array.toList cs))) (fun (cs : (List AV)) => cs) (fun (x : AV) => [x])) (3 : Nat) AV.dead)))]))])) ≤ (9223372036854775807 : Nat))) ∧ (v = v)))) ∧ (R Exit.normal [AV.dead, (AV.v (Value.func (Go.Fn.func (34 : Nat)) (Array.mk (@List.nil Go.Value)) (Array.mk (@List.nil Go.Value)))), AV.dead, AV.dead, AV.dead, (AV.lst (4 : Nat) ((List.map clA os) ++ [(AV.v (Value.agg #[(Value.int IntKind.i64 (exInt (List.getD (AV.cells.match_1 (fun (x : AV) => (List AV)) (List.getD (List.map clA cs) (Int.toNat i) AV.dead) (fun (cs : (Array Go.Value)) => (List.map AV.v (Array.toList cs))) (fun (cs : (List AV)) => cs) (fun (x : AV) => [x])) (0 : Nat) AV.dead))), (Value.int IntKind.i64 (exInt (List.getD (AV.cells.match_1 (fun (x : AV) => (List AV)) (List.getD (List.map clA cs) (Int.toNat i) AV.dead) (fun (cs : (Array Go.Value)) => (List.map AV.v (Array.toList cs))) (fun (cs : (List AV)) => cs) (fun (x : AV) => [x])) (1 : Nat) AV.dead))), (Value.int IntKind.i64 (exInt (List.getD (AV.cells.match_1 (fun (x : AV) => (List AV)) (List.getD (List.map clA cs) (Int.toNat i) AV.dead) (fun (cs : (Array Go.Value)) => (List.map AV.v (Array.toList cs))) (fun (cs : (List AV)) => cs) (fun (x : AV) => [x])) (2 : Nat) AV.dead))), (Value.int IntKind.i64 (exInt (List.getD (AV.cells.match_1 (fun (x : AV) => (List AV)) (List.getD (List.map clA cs) (Int.toNat i) AV.dead) (fun (cs : (Array Go.Value)) => (List.map AV.v (Array.toList cs))) (fun (cs : (List AV)) => cs) (fun (x : AV) => [x])) (3 : Nat) AV.dead)))]))]) (Tip.tp (0 : Nat) (v + (1 : Nat)))), AV.dead, AV.dead, (AV.lst (4 : Nat) (List.map clA cs) Tip.no), (AV.v (Value.int IntKind.i64 m)), (AV.v (Value.int IntKind.i64 (IntKind.wrap IntKind.i64 (i + (1 : Int))))), AV.dead, AV.dead, AV.dead, AV.dead, AV.dead, AV.dead, AV.dead, AV.dead, AV.dead, AV.dead, AV.dead, AV.dead] (AH.mk [((47 : Nat), [(AV.v (Value.int IntKind.i64 (exInt (List.getD (AV.cells.match_1 (fun (x : AV) => (List AV)) (List.getD (List.map clA cs) (Int.toNat i) AV.dead) (fun (cs : (Array Go.Value)) => (List.map AV.v (Array.toList cs))) (fun (cs : (List AV)) => cs) (fun (x : AV) => [x])) (0 : Nat) AV.dead)))), (AV.v (Value.int IntKind.i64 (exInt (List.getD (AV.cells.match_1 (fun (x : AV) => (List AV)) (List.getD (List.map clA cs) (Int.toNat i) AV.dead) (fun (cs : (Array Go.Value)) => (List.map AV.v (Array.toList cs))) (fun (cs : (List AV)) => cs) (fun (x : AV) => [x])) (1 : Nat) AV.dead)))), (AV.v (Value.int IntKind.i64 (exInt (List.getD (AV.cells.match_1 (fun (x : AV) => (List AV)) (List.getD (List.map clA cs) (Int.toNat i) AV.dead) (fun (cs : (Array Go.Value)) => (List.map AV.v (Array.toList cs))) (fun (cs : (List AV)) => cs) (fun (x : AV) => [x])) (2 : Nat) AV.dead)))), (AV.v (Value.int IntKind.i64 (exInt (List.getD (AV.cells.match_1 (fun (x : AV) => (List AV)) (List.getD (List.map clA cs) (Int.toNat i) AV.dead) (fun (cs : (Array Go.Value)) => (List.map AV.v (Array.toList cs))) (fun (cs : (List AV)) => cs) (fun (x : AV) => [x])) (3 : Nat) AV.dead))))]), ((47 : Nat), [(AV.v (Value.int IntKind.i64 (exInt (List.getD (AV.cells.match_1 (fun (x : AV) => (List AV)) (List.getD (List.map clA cs) (Int.toNat i) AV.dead) (fun (cs : (Array Go.Value)) => (List.map AV.v (Array.toList cs))) (fun (cs : (List AV)) => cs) (fun (x : AV) => [x])) (0 : Nat) AV.dead)))), (AV.v (Value.int IntKind.i64 (exInt (List.getD (AV.cells.match_1 (fun (x : AV) => (List AV)) (List.getD (List.map clA cs) (Int.toNat i) AV.dead) (fun (cs : (Array Go.Value)) => (List.map AV.v (Array.toList cs))) (fun (cs : (List AV)) => cs) (fun (x : AV) => [x])) (1 : Nat) AV.dead)))), (AV.v (Value.int IntKind.i64 (exInt (List.getD (AV.cells.match_1 (fun (x : AV) => (List AV)) (List.getD (List.map clA cs) (Int.toNat i) AV.dead) (fun (cs : (Array Go.Value)) => (List.map AV.v (Array.toList cs))) (fun (cs : (List AV)) => cs) (fun (x : AV) => [x])) (2 : Nat) AV.dead)))), (AV.v (Value.int IntKind.i64 (exInt (List.getD (AV.cells.match_1 (fun (x : AV) => (List AV)) (List.getD (List.map clA cs) (Int.toNat i) AV.dead) (fun (cs : (Array Go.Value)) => (List.map AV.v (Array.toList cs))) (fun (cs : (List AV)) => cs) (fun (x : AV) => [x])) (3 : Nat) AV.dead))))])] [(v + (1 : Nat))] (0 : Nat) (0 : Nat) true (@List.nil (Prod Nat Bool)) True)))) else (some ((cds True (elemB Tryd.prog (47 : Nat) (List.map clA cs) i) (((0 : Int) ≤ i) ∧ (((List.map clA cs)[(Int.toNat i)]?) = (some (AV.v (Value.agg #[(Value.int IntKind.i64 (exInt (List.getD (AV.cells.match_1 (fun (x : AV) => (List AV)) (List.getD (List.map clA cs) (Int.toNat i) AV.dead) (fun (cs : (Array Go.Value)) => (List.map AV.v (Array.toList cs))) (fun (cs : (List AV)) => cs) (fun (x : AV) => [x])) (0 : Nat) AV.dead))), (Value.int IntKind.i64 (exInt (List.getD (AV.cells.match_1 (fun (x : AV) => (List AV)) (List.getD (List.map clA cs) (Int.toNat i) AV.dead) (fun (cs : (Array Go.Value)) => (List.map AV.v (Array.toList cs))) (fun (cs : (List AV)) => cs) (fun (x : AV) => [x])) (1 : Nat) AV.dead))), (Value.int IntKind.i64 (exInt (List.getD (AV.cells.match_1 (fun (x : AV) => (List AV)) (List.getD (List.map clA cs) (Int.toNat i) AV.dead) (fun (cs : (Array Go.Value)) => (List.map AV.v (Array.toList cs))) (fun (cs : (List AV)) => cs) (fun (x : AV) => [x])) (2 : Nat) AV.dead))), (Value.int IntKind.i64 (exInt (List.getD (AV.cells.match_1 (fun (x : AV) => (List AV)) (List.getD (List.map clA cs) (Int.toNat i) AV.dead) (fun (cs : (Array Go.Value)) => (List.map AV.v (Array.toList cs))) (fun (cs : (List AV)) => cs) (fun (x : AV) => [x])) (3 : Nat) AV.dead)))])))))) ∧ (R Exit.normal [AV.dead, (AV.v (Value.func (Go.Fn.func (34 : Nat)) (Array.mk (@List.nil Go.Value)) (Array.mk (@List.nil Go.Value)))), AV.dead, AV.dead, AV.dead, (AV.lst (4 : Nat) (List.map clA os) (Tip.tp (0 : Nat) v)), AV.dead, AV.dead, (AV.lst (4 : Nat) (List.map clA cs) Tip.no), (AV.v (Value.int IntKind.i64 m)), (AV.v (Value.int IntKind.i64 (IntKind.wrap IntKind.i64 (i + (1 : Int))))), AV.dead, AV.dead, AV.dead, AV.dead, AV.dead, AV.dead, AV.dead, AV.dead, AV.dead, AV.dead, AV.dead, AV.dead] (AH.mk [((47 : Nat), [(AV.v (Value.int IntKind.i64 (exInt (List.getD (AV.cells.match_1 (fun (x : AV) => (List AV)) (List.getD (List.map clA cs) (Int.toNat i) AV.dead) (fun (cs : (Array Go.Value)) => (List.map AV.v (Array.toList cs))) (fun (cs : (List AV)) => cs) (fun (x : AV) => [x])) (0 : Nat) AV.dead)))), (AV.v (Value.int IntKind.i64 (exInt (List.getD (AV.cells.match_1 (fun (x : AV) => (List AV)) (List.getD (List.map clA cs) (Int.toNat i) AV.dead) (fun (cs : (Array Go.Value)) => (List.map AV.v (Array.toList cs))) (fun (cs : (List AV)) => cs) (fun (x : AV) => [x])) (1 : Nat) AV.dead)))), (AV.v (Value.int IntKind.i64 (exInt (List.getD (AV.cells.match_1 (fun (x : AV) => (List AV)) (List.getD (List.map clA cs) (Int.toNat i) AV.dead) (fun (cs : (Array Go.Value)) => (List.map AV.v (Array.toList cs))) (fun (cs : (List AV)) => cs) (fun (x : AV) => [x])) (2 : Nat) AV.dead)))), (AV.v (Value.int IntKind.i64 (exInt (List.getD (AV.cells.match_1 (fun (x : AV) => (List AV)) (List.getD (List.map clA cs) (Int.toNat i) AV.dead) (fun (cs : (Array Go.Value)) => (List.map AV.v (Array.toList cs))) (fun (cs : (List AV)) => cs) (fun (x : AV) => [x])) (3 : Nat) AV.dead))))]), ((47 : Nat), [(AV.v (Value.int IntKind.i64 (exInt (List.getD (AV.cells.match_1 (fun (x : AV) => (List AV)) (List.getD (List.map clA cs) (Int.toNat i) AV.dead) (fun (cs : (Array Go.Value)) => (List.map AV.v (Array.toList cs))) (fun (cs : (List AV)) => cs) (fun (x : AV) => [x])) (0 : Nat) AV.dead)))), (AV.v (Value.int IntKind.i64 (exInt (List.getD (AV.cells.match_1 (fun (x : AV) => (List AV)) (List.getD (List.map clA cs) (Int.toNat i) AV.dead) (fun (cs : (Array Go.Value)) => (List.map AV.v (Array.toList cs))) (fun (cs : (List AV)) => cs) (fun (x : AV) => [x])) (1 : Nat) AV.dead)))), (AV.v (Value.int IntKind.i64 (exInt (List.getD (AV.cells.match_1 (fun (x : AV) => (List AV)) (List.getD (List.map clA cs) (Int.toNat i) AV.dead) (fun (cs : (Array Go.Value)) => (List.map AV.v (Array.toList cs))) (fun (cs : (List AV)) => cs) (fun (x : AV) => [x])) (2 : Nat) AV.dead)))), (AV.v (Value.int IntKind.i64 (exInt (List.getD (AV.cells.match_1 (fun (x : AV) => (List AV)) (List.getD (List.map clA cs) (Int.toNat i) AV.dead) (fun (cs : (Array Go.Value)) => (List.map AV.v (Array.toList cs))) (fun (cs : (List AV)) => cs) (fun (x : AV) => [x])) (3 : Nat) AV.dead))))])] [v] (0 : Nat) (0 : Nat) true (@List.nil (Prod Nat Bool)) True))))) else (some (True ∧ (R (Exit.exit (0 : Nat)) [AV.dead, (AV.v (Value.func (Go.Fn.func (34 : Nat)) (Array.mk (@List.nil Go.Value)) (Array.mk (@List.nil Go.Value)))), AV.dead, AV.dead, AV.dead, (AV.lst (4 : Nat) (List.map clA os) (Tip.tp (0 : Nat) v)), AV.dead, AV.dead, (AV.lst (4 : Nat) (List.map clA cs) Tip.no), (AV.v (Value.int IntKind.i64 m)), (AV.v (Value.int IntKind.i64 i)), AV.dead, AV.dead, AV.dead, AV.dead, AV.dead, AV.dead, AV.dead, AV.dead, AV.dead, AV.dead, AV.dead, AV.dead] (AH.mk (@List.nil (Prod Go.TypeId (List AV))) [v] (0 : Nat) (0 : Nat) true (@List.nil (Prod Nat Bool)) True))))) := by kernel_rfl
theorem pka_post (ro : Nat → Option (List Value)) (cs os : List Cl) (v : Nat) (m i : Int) (R : Exit → List AV → AH → Prop) : codeL ro (fun _ => false) (fun _ => none) 8 ((flatten (bodyOf 33)).drop 4) (pkS (.v (.func (.func 34) #[] #[])) cs (.lst 4 (os.map clA) (.tp 0 v)) m i) (hp [] [v]) (kp [4] R) =
    (some (True ∧ (R Exit.ret [AV.dead, AV.dead, AV.dead, AV.dead, (AV.lst (4 : Nat) (List.map clA os) (Tip.tp (0 : Nat) v)), AV.dead, AV.dead, AV.dead, AV.dead, AV.dead, AV.dead, AV.dead, AV.dead, AV.dead, AV.dead, AV.dead, AV.dead, AV.dead, AV.dead, AV.dead, AV.dead, AV.dead, AV.dead] (AH.mk (@List.nil (Prod Go.TypeId (List AV))) [v] (0 : Nat) (0 : Nat) true (@List.nil (Prod Nat Bool)) True)))) := by kernel_rfl
theorem pkb_pre (ro : Nat → Option (List Value)) (cs : List Cl) (R : Exit → List AV → AH → Prop) : codeL ro (fun _ => false) (fun _ => none) 8 ((flatten (bodyOf 33)).take 3) ([.lst 4 (cs.map clA) .no, (.v (.func (.func 35) #[] #[]))] ++ List.replicate 21 (.v undef)) (hp [] []) (kp [1, 5, 8, 9, 10] R) =
    (some (True ∧ (R Exit.normal [AV.dead, (AV.v (Value.func (Go.Fn.func (35 : Nat)) (Array.mk (@List.nil Go.Value)) (Array.mk (@List.nil Go.Value)))), AV.dead, AV.dead, AV.dead, (AV.v (Value.slice none (0 : Nat) (0 : Nat))), AV.dead, AV.dead, (AV.lst (4 : Nat) (List.map clA cs) Tip.no), (AV.v (Value.int IntKind.i64 ((List.length (List.map clA cs)) : Int))), (AV.v (Value.int IntKind.i64 (0 : Int))), AV.dead, AV.dead, AV.dead, AV.dead, AV.dead, AV.dead, AV.dead, AV.dead, AV.dead, AV.dead, AV.dead, AV.dead] (AH.mk (@List.nil (Prod Go.TypeId (List AV))) (@List.nil Nat) (0 : Nat) (0 : Nat) true (@List.nil (Prod Nat Bool)) True)))) := by kernel_rfl
theorem pkb_in (ro : Nat → Option (List Value)) (cs os : List Cl) (v : Nat) (m i : Int) (R : Exit → List AV → AH → Prop) : code ro (fun _ => false) (fun _ => none) 8 (sub (bodyOf 33) [1, 1, 0, 1, 0, 0]) (pkS (.v (.func (.func 35) #[] #[])) cs (.lst 4 (os.map clA) (.tp 0 v)) m i) (hp [] [v]) (kp [1, 5, 8, 9, 10] R) =
    (bif (decide (i < m)) then (bif ((exInt (List.getD (AV.cells.match_1 (fun (x : AV) => (List AV)) (List.getD (List.map clA cs) (Int.toNat i) AV.dead) (fun (cs : (Array Go.Value)) => (List.map AV.v (Array.toList cs))) (fun (cs : (List AV)) => cs) (fun (x : AV) => [x])) (1 : Nat) AV.dead)) != (0 : Int)) then (some ((cdb (cds True (elemB Tryd.prog (47 : Nat) (List.map clA cs) i) (((0 : Int) ≤ i) ∧ (((List.map clA cs)[(Int.toNat i)]?) = (some (AV.v (Value.agg #[(Value.int IntKind.i64 (exInt (List.getD (AV.cells.match_1 (fun (x : AV) => (List AV)) (List.getD (List.map clA cs) (Int.toNat i) AV.dead) (fun (cs : (Array Go.Value)) => (List.map AV.v (Array.toList cs))) (fun (cs : (List AV)) => cs) (fun (x : AV) => [x])) (0 : Nat) AV.dead))), (Value.int IntKind.i64 (exInt (List.getD (AV.cells.match_1 (fun (x : AV) => (List AV)) (List.getD (List.map clA cs) (Int.toNat i) AV.dead) (fun (cs : (Array Go.Value)) => (List.map AV.v (Array.toList cs))) (fun (cs : (List AV)) => cs) (fun (x : AV) => [x])) (1 : Nat) AV.dead))), (Value.int IntKind.i64 (exInt (List.getD (AV.cells.match_1 (fun (x : AV) => (List AV)) (List.getD (List.map clA cs) (Int.toNat i) AV.dead) (fun (cs : (Array Go.Value)) => (List.map AV.v (Array.toList cs))) (fun (cs : (List AV)) => cs) (fun (x : AV) => [x])) (2 : Nat) AV.dead))), (Value.int IntKind.i64 (exInt (List.getD (AV.cells.match_1 (fun (x : AV) => (List AV)) (List.getD (List.map clA cs) (Int.toNat i) AV.dead) (fun (cs : (Array Go.Value)) => (List.map AV.v (Array.toList cs))) (fun (cs : (List AV)) => cs) (fun (x : AV) => [x])) (3 : Nat) AV.dead)))])))))) (decide ((((((List.length (List.map clA os)) + (List.length [(AV.v (Value.agg #[(Value.int IntKind.i64 (exInt (List.getD (AV.cells.match_1 (fun (x : AV) => (List AV)) (List.getD (List.map clA cs) (Int.toNat i) AV.dead) (fun (cs : (Array Go.Value)) => (List.map AV.v (Array.toList cs))) (fun (cs : (List AV)) => cs) (fun (x : AV) => [x])) (0 : Nat) AV.dead))), (Value.int IntKind.i64 (exInt (List.getD (AV.cells.match_1 (fun (x : AV) => (List AV)) (List.getD (List.map clA cs) (Int.toNat i) AV.dead) (fun (cs : (Array Go.Value)) => (List.map AV.v (Array.toList cs))) (fun (cs : (List AV)) => cs) (fun (x : AV) => [x])) (1 : Nat) AV.dead))), (Value.int IntKind.i64 (exInt (List.getD (AV.cells.match_1 (fun (x : AV) => (List AV)) (List.getD (List.map clA cs) (Int.toNat i) AV.dead) (fun (cs : (Array Go.Value)) => (List.map AV.v (Array.toList cs))) (fun (cs : (List AV)) => cs) (fun (x : AV) => [x])) (2 : Nat) AV.dead))), (Value.int IntKind.i64 (exInt (List.getD (AV.cells.match_1 (fun (x : AV) => (List AV)) (List.getD (List.map clA cs) (Int.toNat i) AV.dead) (fun (cs : (Array Go.Value)) => (List.map AV.v (Array.toList cs))) (fun (cs : (List AV)) => cs) (fun (x : AV) => [x])) (3 : Nat) AV.dead)))]))])) * (32 : Nat)) ≤ (140737488355328 : Nat)) ∧ (((List.length (List.map clA os)) + (List.length [(AV.v (Value.agg #[(Value.int IntKind.i64 (exInt (List.getD (AV.cells.match_1 (fun (x : AV) => (List AV)) (List.getD (List.map clA cs) (Int.toNat i) AV.dead) (fun (cs : (Array Go.Value)) => (List.map AV.v (Array.toList cs))) (fun (cs : (List AV)) => cs) (fun (x : AV) => [x])) (0 : Nat) AV.dead))), (Value.int IntKind.i64 (exInt (List.getD (AV.cells.match_1 (fun (x : AV) => (List AV)) (List.getD (List.map clA cs) (Int.toNat i) AV.dead) (fun (cs : (Array Go.Value)) => (List.map AV.v (Array.toList cs))) (fun (cs : (List AV)) => cs) (fun (x : AV) => [x])) (1 : Nat) AV.dead))), (Value.int IntKind.i64 (exInt (List.getD (AV.cells.match_1 (fun (x : AV) => (List AV)) (List.getD (List.map clA cs) (Int.toNat i) AV.dead) (fun (cs : (Array Go.Value)) => (List.map AV.v (Array.toList cs))) (fun (cs : (List AV)) => cs) (fun (x : AV) => [x])) (2 : Nat) AV.dead))), (Value.int IntKind.i64 (exInt (List.getD (AV.cells.match_1 (fun (x : AV) => (List AV)) (List.getD (List.map clA cs) (Int.toNat i) AV.dead) (fun (cs : (Array Go.Value)) => (List.map AV.v (Array.toList cs))) (fun (cs : (List AV)) => cs) (fun (x : AV) => [x])) (3 : Nat) AV.dead)))]))])) ≤ (9223372036854775807 : Nat))) ∧ (v = v)))) ∧ (R Exit.normal [AV.dead, (AV.v (Value.func (Go.Fn.func (35 : Nat)) (Array.mk (@List.nil Go.Value)) (Array.mk (@List.nil Go.Value)))), AV.dead, AV.dead, AV.dead, (AV.lst (4 : Nat) ((List.map clA os) ++ [(AV.v (Value.agg #[(Value.int IntKind.i64 (exInt (List.getD (AV.cells.match_1 (fun (x : AV) => (List AV)) (List.getD (List.map clA cs) (Int.toNat i) AV.dead) (fun (cs : (Array Go.Value)) => (List.map AV.v (Array.toList cs))) (fun (cs : (List AV)) => cs) (fun (x : AV) => [x])) (0 : Nat) AV.dead))), (Value.int IntKind.i64 (exInt (List.getD (AV.cells.match_1 (fun (x : AV) => (List AV)) (List.getD (List.map clA cs) (Int.toNat i) AV.dead) (fun (cs : (Array Go.Value)) => (List.map AV.v (Array.toList cs))) (fun (cs : (List AV)) => cs) (fun (x : AV) => [x])) (1 : Nat) AV.dead))), (Value.int IntKind.i64 (exInt (List.getD (AV.cells.match_1 (fun (x : AV) => (List AV)) (List.getD (List.map clA cs) (Int.toNat i) AV.dead) (fun (cs : (Array Go.Value)) => (List.map AV.v (Array.toList cs))) (fun (cs : (List AV)) => cs) (fun (x : AV) => [x])) (2 : Nat) AV.dead))), (Value.int IntKind.i64 (exInt (List.getD (AV.cells.match_1 (fun (x : AV) => (List AV)) (List.getD (List.map clA cs) (Int.toNat i) AV.dead) (fun (cs : (Array Go.Value)) => (List.map AV.v (Array.toList cs))) (fun (cs : (List AV)) => cs) (fun (x : AV) => [x])) (3 : Nat) AV.dead)))]))]) (Tip.tp (0 : Nat) (v + (1 : Nat)))), AV.dead, AV.dead, (AV.lst (4 : Nat) (List.map clA cs) Tip.no), (AV.v (Value.int IntKind.i64 m)), (AV.v (Value.int IntKind.i64 (IntKind.wrap IntKind.i64 (i + (1 : Int))))), AV.dead, AV.dead, AV.dead, AV.dead, AV.dead, AV.dead, AV.dead, AV.dead, AV.dead, AV.dead, AV.dead, AV.dead] (AH.mk [((47 : Nat), [(AV.v (Value.int IntKind.i64 (exInt (List.getD (AV.cells.match_1 (fun (x : AV) => (List AV)) (List.getD (List.map clA cs) (Int.toNat i) AV.dead) (fun (cs : (Array Go.Value)) => (List.map AV.v (Array.toList cs))) (fun (cs : (List AV)) => cs) (fun (x : AV) => [x])) (0 : Nat) AV.dead)))), (AV.v (Value.int IntKind.i64 (exInt (List.getD (AV.cells.match_1 (fun (x : AV) => (List AV)) (List.getD (List.map clA cs) (Int.toNat i) AV.dead) (fun (cs : (Array Go.Value)) => (List.map AV.v (Array.toList cs))) (fun (cs : (List AV)) => cs) (fun (x : AV) => [x])) (1 : Nat) AV.dead)))), (AV.v (Value.int IntKind.i64 (exInt (List.getD (AV.cells.match_1 (fun (x : AV) => (List AV)) (List.getD (List.map clA cs) (Int.toNat i) AV.dead) (fun (cs : (Array Go.Value)) => (List.map AV.v (Array.toList cs))) (fun (cs : (List AV)) => cs) (fun (x : AV) => [x])) (2 : Nat) AV.dead)))), (AV.v (Value.int IntKind.i64 (exInt (List.getD (AV.cells.match_1 (fun (x : AV) => (List AV)) (List.getD (List.map clA cs) (Int.toNat i) AV.dead) (fun (cs : (Array Go.Value)) => (List.map AV.v (Array.toList cs))) (fun (cs : (List AV)) => cs) (fun (x : AV) => [x])) (3 : Nat) AV.dead))))]), ((47 : Nat), [(AV.v (Value.int IntKind.i64 (exInt (List.getD (AV.cells.match_1 (fun (x : AV) => (List AV)) (List.getD (List.map clA cs) (Int.toNat i) AV.dead) (fun (cs : (Array Go.Value)) => (List.map AV.v (Array.toList cs))) (fun (cs : (List AV)) => cs) (fun (x : AV) => [x])) (0 : Nat) AV.dead)))), (AV.v (Value.int IntKind.i64 (exInt (List.getD (AV.cells.match_1 (fun (x : AV) => (List AV)) (List.getD (List.map clA cs) (Int.toNat i) AV.dead) (fun (cs : (Array Go.Value)) => (List.map AV.v (Array.toList cs))) (fun (cs : (List AV)) => cs) (fun (x : AV) => [x])) (1 : Nat) AV.dead)))), (AV.v (Value.int IntKind.i64 (exInt (List.getD (AV.cells.match_1 (fun (x : AV) => (List AV)) (List.getD (List.map clA cs) (Int.toNat i) AV.dead) (fun (cs : (Array Go.Value)) => (List.map AV.v (Array.toList cs))) (fun (cs : (List AV)) => cs) (fun (x : AV) => [x])) (2 : Nat) AV.dead)))), (AV.v (Value.int IntKind.i64 (exInt (List.getD (AV.cells.match_1 (fun (x : AV) => (List AV)) (List.getD (List.map clA cs) (Int.toNat i) AV.dead) (fun (cs : (Array Go.Value)) => (List.map AV.v (Array.toList cs))) (fun (cs : (List AV)) => cs) (fun (x : AV) => [x])) (3 : Nat) AV.dead))))])] [(v + (1 : Nat))] (0 : Nat) (0 : Nat) true (@List.nil (Prod Nat Bool)) True)))) else (some ((cds True (elemB Tryd.prog (47 : Nat) (List.map clA cs) i) (((0 : Int) ≤ i) ∧ (((List.map clA cs)[(Int.toNat i)]?) = (some (AV.v (Value.agg #[(Value.int IntKind.i64 (exInt (List.getD (AV.cells.match_1 (fun (x : AV) => (List AV)) (List.getD (List.map clA cs) (Int.toNat i) AV.dead) (fun (cs : (Array Go.Value)) => (List.map AV.v (Array.toList cs))) (fun (cs : (List AV)) => cs) (fun (x : AV) => [x])) (0 : Nat) AV.dead))), (Value.int IntKind.i64 (exInt (List.getD (AV.cells.match_1 (fun (x : AV) => (List AV)) (List.getD (List.map clA cs) (Int.toNat i) AV.dead) (fun (cs : (Array Go.Value)) => (List.map AV.v (Array.toList cs))) (fun (cs : (List AV)) => cs) (fun (x : AV) => [x])) (1 : Nat) AV.dead))), (Value.int IntKind.i64 (exInt (List.getD (AV.cells.match_1 (fun (x : AV) => (List AV)) (List.getD (List.map clA cs) (Int.toNat i) AV.dead) (fun (cs : (Array Go.Value)) => (List.map AV.v (Array.toList cs))) (fun (cs : (List AV)) => cs) (fun (x : AV) => [x])) (2 : Nat) AV.dead))), (Value.int IntKind.i64 (exInt (List.getD (AV.cells.match_1 (fun (x : AV) => (List AV)) (List.getD (List.map clA cs) (Int.toNat i) AV.dead) (fun (cs : (Array Go.Value)) => (List.map AV.v (Array.toList cs))) (fun (cs : (List AV)) => cs) (fun (x : AV) => [x])) (3 : Nat) AV.dead)))])))))) ∧ (R Exit.normal [AV.dead, (AV.v (Value.func (Go.Fn.func (35 : Nat)) (Array.mk (@List.nil Go.Value)) (Array.mk (@List.nil Go.Value)))), AV.dead, AV.dead, AV.dead, (AV.lst (4 : Nat) (List.map clA os) (Tip.tp (0 : Nat) v)), AV.dead, AV.dead, (AV.lst (4 : Nat) (List.map clA cs) Tip.no), (AV.v (Value.int IntKind.i64 m)), (AV.v (Value.int IntKind.i64 (IntKind.wrap IntKind.i64 (i + (1 : Int))))), AV.dead, AV.dead, AV.dead, AV.dead, AV.dead, AV.dead, AV.dead, AV.dead, AV.dead, AV.dead, AV.dead, AV.dead] (AH.mk [((47 : Nat), [(AV.v (Value.int IntKind.i64 (exInt (List.getD (AV.cells.match_1 (fun (x : AV) => (List AV)) (List.getD (List.map clA cs) (Int.toNat i) AV.dead) (fun (cs : (Array Go.Value)) => (List.map AV.v (Array.toList cs))) (fun (cs : (List AV)) => cs) (fun (x : AV) => [x])) (0 : Nat) AV.dead)))), (AV.v (Value.int IntKind.i64 (exInt (List.getD (AV.cells.match_1 (fun (x : AV) => (List AV)) (List.getD (List.map clA cs) (Int.toNat i) AV.dead) (fun (cs : (Array Go.Value)) => (List.map AV.v (Array.toList cs))) (fun (cs : (List AV)) => cs) (fun (x : AV) => [x])) (1 : Nat) AV.dead)))), (AV.v (Value.int IntKind.i64 (exInt (List.getD (AV.cells.match_1 (fun (x : AV) => (List AV)) (List.getD (List.map clA cs) (Int.toNat i) AV.dead) (fun (cs : (Array Go.Value)) => (List.map AV.v (Array.toList cs))) (fun (cs : (List AV)) => cs) (fun (x : AV) => [x])) (2 : Nat) AV.dead)))), (AV.v (Value.int IntKind.i64 (exInt (List.getD (AV.cells.match_1 (fun (x : AV) => (List AV)) (List.getD (List.map clA cs) (Int.toNat i) AV.dead) (fun (cs : (Array Go.Value)) => (List.map AV.v (Array.toList cs))) (fun (cs : (List AV)) => cs) (fun (x : AV) => [x])) (3 : Nat) AV.dead))))]), ((47 : Nat), [(AV.v (Value.int IntKind.i64 (exInt (List.getD (AV.cells.match_1 (fun (x : AV) => (List AV)) (List.getD (List.map clA cs) (Int.toNat i) AV.dead) (fun (cs : (Array Go.Value)) => (List.map AV.v (Array.toList cs))) (fun (cs : (List AV)) => cs) (fun (x : AV) => [x])) (0 : Nat) AV.dead)))), (AV.v (Value.int IntKind.i64 (exInt (List.getD (AV.cells.match_1 (fun (x : AV) => (List AV)) (List.getD (List.map clA cs) (Int.toNat i) AV.dead) (fun (cs : (Array Go.Value)) => (List.map AV.v (Array.toList cs))) (fun (cs : (List AV)) => cs) (fun (x : AV) => [x])) (1 : Nat) AV.dead)))), (AV.v (Value.int IntKind.i64 (exInt (List.getD (AV.cells.match_1 (fun (x : AV) => (List AV)) (List.getD (List.map clA cs) (Int.toNat i) AV.dead) (fun (cs : (Array Go.Value)) => (List.map AV.v (Array.toList cs))) (fun (cs : (List AV)) => cs) (fun (x : AV) => [x])) (2 : Nat) AV.dead)))), (AV.v (Value.int IntKind.i64 (exInt (List.getD (AV.cells.match_1 (fun (x : AV) => (List AV)) (List.getD (List.map clA cs) (Int.toNat i) AV.dead) (fun (cs : (Array Go.Value)) => (List.map AV.v (Array.toList cs))) (fun (cs : (List AV)) => cs) (fun (x : AV) => [x])) (3 : Nat) AV.dead))))])] [v] (0 : Nat) (0 : Nat) true (@List.nil (Prod Nat Bool)) True))))) else (some (True ∧ (R (Exit.exit (0 : Nat)) [AV.dead, (AV.v (Value.func (Go.Fn.func (35 : Nat)) (Array.mk (@List.nil Go.Value)) (Array.mk (@List.nil Go.Value)))), AV.dead, AV.dead, AV.dead, (AV.lst (4 : Nat) (List.map clA os) (Tip.tp (0 : Nat) v)), AV.dead, AV.dead, (AV.lst (4 : Nat) (List.map clA cs) Tip.no), (AV.v (Value.int IntKind.i64 m)), (AV.v (Value.int IntKind.i64 i)), AV.dead, AV.dead, AV.dead, AV.dead, AV.dead, AV.dead, AV.dead, AV.dead, AV.dead, AV.dead, AV.dead, AV.dead] (AH.mk (@List.nil (Prod Go.TypeId (List AV))) [v] (0 : Nat) (0 : Nat) true (@List.nil (Prod Nat Bool)) True))))) := by kernel_rfl
theorem pkb_post (ro : Nat → Option (List Value)) (cs os : List Cl) (v : Nat) (m i : Int) (R : Exit → List AV → AH → Prop) : codeL ro (fun _ => false) (fun _ => none) 8 ((flatten (bodyOf 33)).drop 4) (pkS (.v (.func (.func 35) #[] #[])) cs (.lst 4 (os.map clA) (.tp 0 v)) m i) (hp [] [v]) (kp [4] R) =
    (some (True ∧ (R Exit.ret [AV.dead, AV.dead, AV.dead, AV.dead, (AV.lst (4 : Nat) (List.map clA os) (Tip.tp (0 : Nat) v)), AV.dead, AV.dead, AV.dead, AV.dead, AV.dead, AV.dead, AV.dead, AV.dead, AV.dead, AV.dead, AV.dead, AV.dead, AV.dead, AV.dead, AV.dead, AV.dead, AV.dead, AV.dead] (AH.mk (@List.nil (Prod Go.TypeId (List AV))) [v] (0 : Nat) (0 : Nat) true (@List.nil (Prod Nat Bool)) True)))) := by kernel_rfl
end Go.Proofs.YtkienkbaiejdmaaDoor.AE
namespace Go.Proofs.YtkienkbaiejdmaaDoor.AE
open Go.RowKit
def isReq (c : Cl) : Bool := c.tier == 0
def isOpt (c : Cl) : Bool := c.tier != 0
theorem rq1 {c : Cl} (h : (c.tier == 0) = true) : [c].filter isReq = [c] := by simp [isReq, h]
theorem rq2 {c : Cl} (h : (c.tier == 0) = false) : [c].filter isReq = [] := by simp [isReq, h]
theorem oq1 {c : Cl} (h : (c.tier != 0) = true) : [c].filter isOpt = [c] := by simp [isOpt, h]
theorem oq2 {c : Cl} (h : (c.tier != 0) = false) : [c].filter isOpt = [] := by simp [isOpt, h]
theorem roomC (os : List Cl) (x : AV) (v : Nat) (h : os.length ≤ 1000000) : decide ((((os.map clA).length + [x].length) * 32 ≤ 140737488355328 ∧ (os.map clA).length + [x].length ≤ 9223372036854775807) ∧ v = v) = true := by
  refine decide_eq_true ?_
  simp only [List.length_map, List.length_cons, List.length_nil, and_true]; omega
theorem pk_sl : slotsOf 33 = 23 := by kernel_rfl
theorem pk_re : resultsOf 33 = [.tmp 4] := by kernel_rfl
theorem pk_fl : (flatten (bodyOf 33)).drop 3 = .block 0 (.loop (sub (bodyOf 33) [1, 1, 0, 1, 0, 0])) :: (flatten (bodyOf 33)).drop 4 := by kernel_rfl
set_option maxRecDepth 100000 in
theorem fs_picka {ro : Nat → Option (List Value)} (cs : List Cl) (hl : cs.length ≤ 1000000) : Fs Tryd.prog ro 33 [.lst 4 (cs.map clA) .no, (.v (.func (.func 34) #[] #[]))] (hp [] []) fun r _ => clean r = some (.lst 4 ((cs.filter isReq).map clA) .no) := by
  refine Fs.of_body (has_fn (by kernel_rfl)) ?_
  rw [pk_sl, pk_re]
  refine Tr.of_flat (Trl.split 3 (Trl.of_code (known_none _) (ne_nil (by kernel_rfl)) (pka_pre ro cs _) ⟨trivial, ?_⟩))
  show Trl _ _ ((flatten (bodyOf 33)).drop 3) _ _ _
  rw [pk_fl]
  refine Tr.keepL [1, 5, 8, 9, 10] rfl (Trl.nilTip 5 4 rfl rfl ?_)
  let M := (cs.map clA).length
  have hM : M = cs.length := List.length_map ..
  let I : Nat → List AV → AH → Prop := fun m act H => ∃ i v : Nat, i ≤ M ∧ m = M - i ∧ act = pkS (.v (.func (.func 34) #[] #[])) cs (.lst 4 (((cs.take i).filter isReq).map clA) (.tp 0 v)) M i ∧ H = hp [] [v]
  refine Tr.block (Tr.loop I ?_ (m := M) ⟨0, 0, Nat.zero_le _, rfl, rfl, rfl⟩)
  rintro m act H ⟨i, v, hi, rfl, rfl, rfl⟩
  have hf : ((cs.take i).filter isReq).length ≤ i := Nat.le_trans (List.length_filter_le _ _) (by rw [List.length_take]; omega)
  refine Tr.forget 0 1 (Nat.le_refl _) (Nat.le_refl _) (Tr.of_code (known_none _) (pka_in ro cs ((cs.take i).filter isReq) v M i _) (holds_bif (fun h1 => ?_) fun h1 => ⟨trivial, by kernel_rfl, by kernel_rfl, ?_⟩))
  · have h1 : i < cs.length := by have := of_decide_eq_true h1; omega
    have e1 := cl_el h1
    rw [cl_get h1, inc64 i (by omega)]
    have tk : (cs.take (i + 1)).filter isReq = (cs.take i).filter isReq ++ [cs[i]].filter isReq := by rw [take_snoc h1, List.filter_append]
    refine holds_bif (fun h2 => ⟨?_, by kernel_rfl, by kernel_rfl, M - (i + 1), by omega, i + 1, _, by omega, rfl, ?_, rfl⟩) fun h2 => ⟨?_, by kernel_rfl, by kernel_rfl, M - (i + 1), by omega, i + 1, _, by omega, rfl, ?_, rfl⟩
    all_goals first
      | (with_reducible refine cdb_iff.2 ⟨?_, ?_⟩
         · exact cds_of trivial e1
         · exact roomC _ _ _ (by omega))
      | exact cds_of trivial e1
      | (rw [tk, rq1 h2, List.map_append]; rfl)
      | (rw [tk, rq2 h2, List.append_nil]; rfl)
  · have h1 : i = M := by have := of_decide_eq_false h1; omega
    show Trl _ _ ((flatten (bodyOf 33)).drop 4) _ _ _
    rw [List.take_of_length_le (by omega)]
    exact Trl.of_code (known_none _) (ne_nil (by kernel_rfl)) (pka_post ro cs (cs.filter isReq) v M i _) ⟨trivial, .inr rfl, trivial, rfl⟩
set_option maxRecDepth 100000 in
theorem fs_pickb {ro : Nat → Option (List Value)} (cs : List Cl) (hl : cs.length ≤ 1000000) : Fs Tryd.prog ro 33 [.lst 4 (cs.map clA) .no, (.v (.func (.func 35) #[] #[]))] (hp [] []) fun r _ => clean r = some (.lst 4 ((cs.filter isOpt).map clA) .no) := by
  refine Fs.of_body (has_fn (by kernel_rfl)) ?_
  rw [pk_sl, pk_re]
  refine Tr.of_flat (Trl.split 3 (Trl.of_code (known_none _) (ne_nil (by kernel_rfl)) (pkb_pre ro cs _) ⟨trivial, ?_⟩))
  show Trl _ _ ((flatten (bodyOf 33)).drop 3) _ _ _
  rw [pk_fl]
  refine Tr.keepL [1, 5, 8, 9, 10] rfl (Trl.nilTip 5 4 rfl rfl ?_)
  let M := (cs.map clA).length
  have hM : M = cs.length := List.length_map ..
  let I : Nat → List AV → AH → Prop := fun m act H => ∃ i v : Nat, i ≤ M ∧ m = M - i ∧ act = pkS (.v (.func (.func 35) #[] #[])) cs (.lst 4 (((cs.take i).filter isOpt).map clA) (.tp 0 v)) M i ∧ H = hp [] [v]
  refine Tr.block (Tr.loop I ?_ (m := M) ⟨0, 0, Nat.zero_le _, rfl, rfl, rfl⟩)
  rintro m act H ⟨i, v, hi, rfl, rfl, rfl⟩
  have hf : ((cs.take i).filter isOpt).length ≤ i := Nat.le_trans (List.length_filter_le _ _) (by rw [List.length_take]; omega)
  refine Tr.forget 0 1 (Nat.le_refl _) (Nat.le_refl _) (Tr.of_code (known_none _) (pkb_in ro cs ((cs.take i).filter isOpt) v M i _) (holds_bif (fun h1 => ?_) fun h1 => ⟨trivial, by kernel_rfl, by kernel_rfl, ?_⟩))
  · have h1 : i < cs.length := by have := of_decide_eq_true h1; omega
    have e1 := cl_el h1
    rw [cl_get h1, inc64 i (by omega)]
    have tk : (cs.take (i + 1)).filter isOpt = (cs.take i).filter isOpt ++ [cs[i]].filter isOpt := by rw [take_snoc h1, List.filter_append]
    refine holds_bif (fun h2 => ⟨?_, by kernel_rfl, by kernel_rfl, M - (i + 1), by omega, i + 1, _, by omega, rfl, ?_, rfl⟩) fun h2 => ⟨?_, by kernel_rfl, by kernel_rfl, M - (i + 1), by omega, i + 1, _, by omega, rfl, ?_, rfl⟩
    all_goals first
      | (with_reducible refine cdb_iff.2 ⟨?_, ?_⟩
         · exact cds_of trivial e1
         · exact roomC _ _ _ (by omega))
      | exact cds_of trivial e1
      | (rw [tk, oq1 h2, List.map_append]; rfl)
      | (rw [tk, oq2 h2, List.append_nil]; rfl)
  · have h1 : i = M := by have := of_decide_eq_false h1; omega
    show Trl _ _ ((flatten (bodyOf 33)).drop 4) _ _ _
    rw [List.take_of_length_le (by omega)]
    exact Trl.of_code (known_none _) (ne_nil (by kernel_rfl)) (pkb_post ro cs (cs.filter isOpt) v M i _) ⟨trivial, .inr rfl, trivial, rfl⟩
end Go.Proofs.YtkienkbaiejdmaaDoor.AE
namespace Go.Proofs.YtkienkbaiejdmaaDoor.AE
open Go.RowKit
/-- A service's thirteen numbers, and its calls. -/
def svc? (x : AV) : Option (List Int × List Cl) := match ints? (x.cells.take 13) with
  | some zs => match x.cells.drop 13 with
    | [l] => match clsA? l with
      | some cs => if zs.length = 13 then some (zs, cs) else none
      | none => none
    | _ => none
  | none => none
def svcN (x : AV) : List Int := match svc? x with
  | some p => p.1
  | none => []
def svcK (x : AV) : List Cl := match svc? x with
  | some p => p.2
  | none => []
theorem svcN_some {x : AV} {p : List Int × List Cl} (h : svc? x = some p) : svcN x = p.1 := by unfold svcN; rw [h]
theorem svcK_some {x : AV} {p : List Int × List Cl} (h : svc? x = some p) : svcK x = p.2 := by unfold svcK; rw [h]
theorem svc_A (x1 x2 x3 x4 x5 x6 x7 x8 x9 x10 x11 x12 x13 : Int) (cs : List Cl) : svc? (svcA x1 x2 x3 x4 x5 x6 x7 x8 x9 x10 x11 x12 x13 cs) = some ([x1, x2, x3, x4, x5, x6, x7, x8, x9, x10, x11, x12, x13], cs) := by
  show (match clsA? (.lst 4 (cs.map clA) .no) with | some cs => if 13 = 13 then some ([x1, x2, x3, x4, x5, x6, x7, x8, x9, x10, x11, x12, x13], cs) else none | none => none) = _
  rw [clsA_lst]; rfl
theorem svc_cells {x : AV} {zs : List Int} {cs : List Cl} (h : svc? x = some (zs, cs)) : zs.length = 13 ∧ ∃ l, x.cells = zs.map gi ++ [l] ∧ clsA? l = some cs := by
  unfold svc? at h
  split at h
  · rename_i ys hz
    split at h
    · rename_i l hl
      split at h
      · rename_i ds hd
        split at h
        · rename_i h13
          cases h
          refine ⟨h13, l, ?_, hd⟩
          rw [← ints_eq hz, ← hl, List.take_append_drop]
        · cases h
      · cases h
    · cases h
  · cases h
theorem RVs.mapI {G : Gh} {W : World} : ∀ {zs : List Int} {l : AV} {cs : List Cl} {us : List Value}, RVs G W (zs.map gi ++ [l]) us → Le l (.lst 4 (cs.map clA) .no) → RVs G W (zs.map gi ++ [.lst 4 (cs.map clA) .no]) us
  | [], l, cs, us, h, hl => by
    cases h with
    | cons h t => exact .cons (hl _ _ _ h) t
  | z :: zs, l, cs, us, h, hl => by
    cases h with
    | cons h t => exact .cons h (RVs.mapI t hl)
theorem svc_le {x : AV} {x1 x2 x3 x4 x5 x6 x7 x8 x9 x10 x11 x12 x13 : Int} {cs : List Cl} (h : svc? x = some ([x1, x2, x3, x4, x5, x6, x7, x8, x9, x10, x11, x12, x13], cs)) : Le x (svcA x1 x2 x3 x4 x5 x6 x7 x8 x9 x10 x11 x12 x13 cs) := by
  obtain ⟨_, l, hc, hl⟩ := svc_cells h
  have hle := clsA_le hl
  intro G W c hr
  have key : ∀ us : List Value, RVs G W x.cells us → RVs G W ([x1, x2, x3, x4, x5, x6, x7, x8, x9, x10, x11, x12, x13].map gi ++ [.lst 4 (cs.map clA) .no]) us := fun us hu => by
    rw [hc] at hu
    exact RVs.mapI hu hle
  cases hr with
  | v =>
    cases c with
    | agg arr => exact .agg (key _ (RVs.map_v arr.toList))
    | _ =>
      have := congrArg List.length hc
      simp [AV.cells] at this
  | agg hh => exact .agg (key _ hh)
  | _ =>
    have := congrArg List.length hc
    simp [AV.cells] at this
end Go.Proofs.YtkienkbaiejdmaaDoor.AE
namespace Go.Proofs.YtkienkbaiejdmaaDoor.AE
open Go.RowKit
theorem list13 {zs : List Int} (h13 : zs.length = 13) : ∃ x1 x2 x3 x4 x5 x6 x7 x8 x9 x10 x11 x12 x13, zs = [x1, x2, x3, x4, x5, x6, x7, x8, x9, x10, x11, x12, x13] := by
  match zs, h13 with
  | [x1, x2, x3, x4, x5, x6, x7, x8, x9, x10, x11, x12, x13], _ => exact ⟨_, _, _, _, _, _, _, _, _, _, _, _, _, rfl⟩
theorem cleans_ints : ∀ (zs : List Int) {l y : AV}, clean l = some y → cleans (zs.map gi ++ [l]) = some (zs.map gi ++ [y])
  | [], l, y, h => by show (match clean l with | some y => (match cleans [] with | some r => some (y :: r) | none => none) | none => none) = _; rw [h]; rfl
  | z :: zs, l, y, h => by
    show (match clean (gi z) with | some y => (match cleans (zs.map gi ++ [l]) with | some r => some (y :: r) | none => none) | none => none) = _
    rw [cleans_ints zs h]; rfl
theorem svc_ints {zs : List Int} {l : AV} {cs : List Cl} (h13 : zs.length = 13) (h : clsA? l = some cs) {x : AV} (hx : x.cells = zs.map gi ++ [l]) : svc? x = some (zs, cs) := by
  have e1 : x.cells.take 13 = zs.map gi := by rw [hx, List.take_left' (by rw [List.length_map, h13])]
  have e2 : x.cells.drop 13 = [l] := by rw [hx, List.drop_left' (by rw [List.length_map, h13])]
  unfold svc?
  rw [e1, e2, ints_map]
  show (match clsA? l with | some cs => if zs.length = 13 then some (zs, cs) else none | none => none) = _
  rw [h]
  exact if_pos h13
theorem svc_clean {x : AV} {p : List Int × List Cl} (h : svc? x = some p) : ∃ y, clean x = some y ∧ svc? y = some p := by
  obtain ⟨zs, cs⟩ := p
  obtain ⟨h13, l, hc, hl⟩ := svc_cells h
  obtain ⟨y, h1, h2⟩ := clsA_clean hl
  cases x with
  | v u => exact ⟨_, rfl, h⟩
  | agg cells =>
    have hc : cells = zs.map gi ++ [l] := hc
    refine ⟨.agg (zs.map gi ++ [y]), ?_, svc_ints h13 h2 rfl⟩
    subst hc
    unfold clean
    rw [cleans_ints zs h1]
  | _ =>
    have := congrArg List.length hc
    simp [AV.cells, h13] at this
def clOkB (c : Cl) : Bool := in64 c.to && (in64 c.tier && (in64 c.weight && in64 c.most))
theorem clOkB_of {c : Cl} (h : clOkB c = true) : clOk c := by
  unfold clOkB at h
  simp only [Bool.and_eq_true] at h
  exact ⟨in64_of h.1, in64_of h.2.1, in64_of h.2.2.1, in64_of h.2.2.2⟩
def ssV (SS : AV → AV → Bool) (args : List AV) : AV := .v (.bool (SS (args.headD .dead) (args.tail.headD .dead)))
def ssOk (args : List AV) : Bool := match args with
  | [x, y] => match svc? x with
    | some p => (match svc? y with | some _ => decide (p.2.length ≤ 1000000) | none => false)
    | none => false
  | _ => false
def ssX (x y : AV) : Bool := svcE (svcN x) (svcK x) (svcN y) (svcK y)
def linV (LN : AV → List ByteArray) (args : List AV) : AV := .lst 1 ((LN (args.headD .dead)).map sv) .no
def linOk (args : List AV) : Bool := match args with
  | [x] => match svc? x with
    | some p => p.1.all in64 && (p.2.all clOkB && decide (p.2.length ≤ 1000))
    | none => false
  | _ => false
def linX (x : AV) : List ByteArray := linesL (svcN x) (svcK x)
def hdP (HI : Nat → ByteArray → Int) (HK : ByteArray → Bool) : List Value → Option (Value × Bool) := fun us => match us with
  | [.string s] => some (.tuple #[.agg #[.int .i64 (HI 0 s), .int .i64 (HI 1 s), .int .i64 (HI 2 s), .int .i64 (HI 3 s), .int .i64 (HI 4 s), .int .i64 (HI 5 s), .int .i64 (HI 6 s), .int .i64 (HI 7 s), .int .i64 (HI 8 s), .int .i64 (HI 9 s), .int .i64 (HI 10 s), .int .i64 (HI 11 s), .int .i64 (HI 12 s), .slice none 0 0], .bool (HK s)], okT s)
  | _ => none
def caP (CI : Nat → ByteArray → Int) (CB : ByteArray → Bool) : List Value → Option (Value × Bool) := fun us => match us with
  | [.string s] => some (.tuple #[.agg #[.int .i64 (CI 0 s), .int .i64 (CI 1 s), .int .i64 (CI 2 s), .int .i64 (CI 3 s)], .bool (CB s)], okT s)
  | _ => none
def hdK (s : ByteArray) : Bool := numB s svW hdB
def caK (s : ByteArray) : Bool := numB s clW tlB
section
variable {tS tR : TypeId} {pS pR : Value}
theorem ss_ok : ∀ args H r H', tot? (ssV ssX) ssOk args H = some (r, H') → HSound1 Tryd.prog (roN tS pS tR pR) 14 args H r H' := by
  refine tot_ok (has_fn (by kernel_rfl)) fun args hok => ?_
  unfold ssOk at hok
  split at hok
  · rename_i x y
    split at hok
    · rename_i p hp
      split at hok
      · rename_i q hq
        obtain ⟨zs, cs⟩ := p
        obtain ⟨ws, ds⟩ := q
        obtain ⟨x', h1, h2⟩ := svc_clean hp
        obtain ⟨y', h3, h4⟩ := svc_clean hq
        obtain ⟨x1, x2, x3, x4, x5, x6, x7, x8, x9, x10, x11, x12, x13, rfl⟩ := list13 (svc_cells hp).1
        obtain ⟨y1, y2, y3, y4, y5, y6, y7, y8, y9, y10, y11, y12, y13, rfl⟩ := list13 (svc_cells hq).1
        refine ⟨[x', y'], by simp only [cleans, h1, h3], ?_⟩
        refine Fs.weak ((fs_same (x1 := x1) (x2 := x2) (x3 := x3) (x4 := x4) (x5 := x5) (x6 := x6) (x7 := x7) (x8 := x8) (x9 := x9) (x10 := x10) (x11 := x11) (x12 := x12) (x13 := x13) (y1 := y1) (y2 := y2) (y3 := y3) (y4 := y4) (y5 := y5) (y6 := y6) (y7 := y7) (y8 := y8) (y9 := y9) (y10 := y10) (y11 := y11) (y12 := y12) (y13 := y13) (cs := cs) (ds := ds) (of_decide_eq_true hok)).mono fun r _ h => ?_) fun G W cs h => ?_
        · subst h
          refine ⟨_, rfl, ?_⟩
          show Le _ (.v (.bool (svcE (svcN x) (svcK x) (svcN y) (svcK y))))
          rw [svcN_some hp, svcK_some hp, svcN_some hq, svcK_some hq]
          exact Le.refl _
        · cases h with
          | cons e1 t => cases t with
            | cons e2 t => exact .cons (svc_le h2 _ _ _ e1) (.cons (svc_le h4 _ _ _ e2) t)
      · cases hok
    · cases hok
  · cases hok
theorem lin_ok : ∀ args H r H', tot? (linV linX) linOk args H = some (r, H') → HSound1 Tryd.prog (roN tS pS tR pR) 22 args H r H' := by
  refine tot_ok (has_fn (by kernel_rfl)) fun args hok => ?_
  unfold linOk at hok
  split at hok
  · rename_i x
    split at hok
    · rename_i p hp
      obtain ⟨zs, cs⟩ := p
      simp only [Bool.and_eq_true, decide_eq_true_eq, List.all_eq_true] at hok
      obtain ⟨k1, k2, k3⟩ := hok
      obtain ⟨x', h1, h2⟩ := svc_clean hp
      obtain ⟨x1, x2, x3, x4, x5, x6, x7, x8, x9, x10, x11, x12, x13, rfl⟩ := list13 (svc_cells hp).1
      refine ⟨[x'], by simp only [cleans, h1], ?_⟩
      refine Fs.weak ((fs_lines (x1 := x1) (x2 := x2) (x3 := x3) (x4 := x4) (x5 := x5) (x6 := x6) (x7 := x7) (x8 := x8) (x9 := x9) (x10 := x10) (x11 := x11) (x12 := x12) (x13 := x13) (cs := cs) (fun z hz => in64_of (k1 z hz)) (fun c hc => clOkB_of (k2 c hc)) k3).mono fun r _ h => ?_) fun G W cs h => ?_
      · obtain ⟨y, e1, e2⟩ := h
        refine ⟨y, e1, ?_⟩
        show Le y (.lst 1 ((linesL (svcN x) (svcK x)).map sv) .no)
        rw [svcN_some hp, svcK_some hp]
        exact e2
      · cases h with
        | cons e1 t => exact .cons (svc_le h2 _ _ _ e1) t
    · cases hok
  · cases hok
theorem hd_ok' {g : FuncId} (hf : ∃ fn, Tryd.prog.funcs[g]? = some fn ∧ fn.body.isSome = true) (h : ∀ s : ByteArray, s.size ≤ 100000 → Fs Tryd.prog (roN tS pS tR pR) g [sv s] (hp [] []) fun r _ => r = .v (headV s)) :
    ∀ args H r H', pure? (hdP headI hdK) args H = some (r, H') → HSound1 Tryd.prog (roN tS pS tR pR) g args H r H' := by
  refine pure_ok (fun us c hs => ?_) hf
  unfold hdP at hs
  split at hs
  · simp only [Option.some.injEq, Prod.mk.injEq] at hs
    obtain ⟨rfl, h1⟩ := hs
    exact h _ (of_decide_eq_true h1)
  · cases hs
theorem ca_ok {g : FuncId} (hf : ∃ fn, Tryd.prog.funcs[g]? = some fn ∧ fn.body.isSome = true) (h : ∀ s : ByteArray, s.size ≤ 100000 → Fs Tryd.prog (roN tS pS tR pR) g [sv s] (hp [] []) fun r _ => r = .v (callV s)) :
    ∀ args H r H', pure? (caP callI caK) args H = some (r, H') → HSound1 Tryd.prog (roN tS pS tR pR) g args H r H' := by
  refine pure_ok (fun us c hs => ?_) hf
  unfold caP at hs
  split at hs
  · simp only [Option.some.injEq, Prod.mk.injEq] at hs
    obtain ⟨rfl, h1⟩ := hs
    exact h _ (of_decide_eq_true h1)
  · cases hs
end
end Go.Proofs.YtkienkbaiejdmaaDoor.AE
namespace Go.Proofs.YtkienkbaiejdmaaDoor.AE
open Go.RowKit
def pkV (PA PB : AV → List Cl) (args : List AV) : AV := match args with
  | [x, .v (.func (.func g) _ _)] => .lst 4 ((bif g == 34 then PA x else PB x).map clA) .no
  | _ => .dead
def pkOk (args : List AV) : Bool := match args with
  | [x, .v (.func (.func g) a b)] => match clsA? x with
    | some l => decide (a = #[] ∧ b = #[]) && (g == 34 || g == 35) && decide (l.length ≤ 1000000)
    | none => false
  | _ => false
def pkX (x : AV) : List Cl := (clsX x).filter isReq
def pkY (x : AV) : List Cl := (clsX x).filter isOpt
theorem pick_ok {ro : Nat → Option (List Value)} : ∀ args H r H', tot? (pkV pkX pkY) pkOk args H = some (r, H') → HSound1 Tryd.prog ro 33 args H r H' := by
  refine tot_ok (has_fn (by kernel_rfl)) fun args hok => ?_
  unfold pkOk at hok
  split at hok
  · rename_i x g a b
    split at hok
    · rename_i l hl
      simp only [Bool.and_eq_true, decide_eq_true_eq, Bool.or_eq_true] at hok
      obtain ⟨⟨⟨rfl, rfl⟩, hg⟩, k⟩ := hok
      obtain ⟨x', h1, h2⟩ := clsA_clean hl
      refine ⟨[x', .v (.func (.func g) #[] #[])], by simp only [cleans, h1, clean], ?_⟩
      rcases hg with hg | hg
      · have hg := eq_of_beq hg
        subst hg
        refine Fs.weak ((fs_picka l k).mono fun r _ h => ?_) fun G W cs h => ?_
        · refine ⟨_, h, ?_⟩
          show Le _ (.lst 4 (((clsX x).filter isReq).map clA) .no)
          rw [clsX_some hl]
          exact Le.refl _
        · cases h with
          | cons e1 t => exact .cons (clsA_le h2 _ _ _ e1) t
      · have hg := eq_of_beq hg
        subst hg
        refine Fs.weak ((fs_pickb l k).mono fun r _ h => ?_) fun G W cs h => ?_
        · refine ⟨_, h, ?_⟩
          show Le _ (.lst 4 (((clsX x).filter isOpt).map clA) .no)
          rw [clsX_some hl]
          exact Le.refl _
        · cases h with
          | cons e1 t => exact .cons (clsA_le h2 _ _ _ e1) t
    · cases hok
  · cases hok
theorem pkOk_of (cs : List Cl) (g : Nat) (hg : (g == 34 || g == 35) = true) (h : cs.length ≤ 1000000) : pkOk [.lst 4 (cs.map clA) .no, .v (.func (.func g) #[] #[])] = true := by
  show (match clsA? (.lst 4 (cs.map clA) .no) with | some l => decide ((#[] : Array Value) = #[] ∧ (#[] : Array Value) = #[]) && (g == 34 || g == 35) && decide (l.length ≤ 1000000) | none => false) = true
  rw [clsA_lst]
  show (decide ((#[] : Array Value) = #[] ∧ (#[] : Array Value) = #[]) && (g == 34 || g == 35) && decide (cs.length ≤ 1000000)) = true
  rw [hg, decide_eq_true h]; rfl
noncomputable def prK (PA PB : AV → List Cl) : FuncId → Option (List AV → AH → Ans) := fun g => match g with
  | 33 => some (tot? (pkV PA PB) pkOk)
  | _ => none
theorem knownK {ro : Nat → Option (List Value)} : Known ro (prK pkX pkY) := by
  intro g p h
  unfold prK at h
  split at h
  · cases h; exact pick_ok
  · cases h
theorem k_req (PA PB : AV → List Cl) (tS tR : TypeId) (pS pR : Value) (x1 x2 x3 x4 x5 x6 x7 x8 x9 x10 x11 x12 x13 : Int) (cs : List Cl) (Φ : AV → Prop) : callK (roN tS pS tR pR) (fun _ => false) (prK PA PB) 8 10 [svcA x1 x2 x3 x4 x5 x6 x7 x8 x9 x10 x11 x12 x13 cs] (hp [] []) (fun r h => some (h.cd ∧ Φ r)) =
    (some ((cdb True (pkOk [(AV.lst (4 : Nat) (List.map clA cs) Tip.no), (AV.v (Value.func (Go.Fn.func (34 : Nat)) (Array.mk (@List.nil Go.Value)) (Array.mk (@List.nil Go.Value))))])) ∧ (Φ (AV.lst (4 : Nat) (List.map clA (PA (AV.lst (4 : Nat) (List.map clA cs) Tip.no))) Tip.no)))) := by kernel_rfl
theorem k_opt (PA PB : AV → List Cl) (tS tR : TypeId) (pS pR : Value) (x1 x2 x3 x4 x5 x6 x7 x8 x9 x10 x11 x12 x13 : Int) (cs : List Cl) (Φ : AV → Prop) : callK (roN tS pS tR pR) (fun _ => false) (prK PA PB) 8 12 [svcA x1 x2 x3 x4 x5 x6 x7 x8 x9 x10 x11 x12 x13 cs] (hp [] []) (fun r h => some (h.cd ∧ Φ r)) =
    (some ((cdb True (pkOk [(AV.lst (4 : Nat) (List.map clA cs) Tip.no), (AV.v (Value.func (Go.Fn.func (35 : Nat)) (Array.mk (@List.nil Go.Value)) (Array.mk (@List.nil Go.Value))))])) ∧ (Φ (AV.lst (4 : Nat) (List.map clA (PB (AV.lst (4 : Nat) (List.map clA cs) Tip.no))) Tip.no)))) := by kernel_rfl
end Go.Proofs.YtkienkbaiejdmaaDoor.AE
namespace Go.Proofs.YtkienkbaiejdmaaDoor.AE
open Go.RowKit
def rqV (RQ : AV → List Cl) (args : List AV) : AV := .lst 4 ((RQ (args.headD .dead)).map clA) .no
def rqOk (args : List AV) : Bool := match args with
  | [x] => match svc? x with
    | some p => decide (p.2.length ≤ 1000000)
    | none => false
  | _ => false
def rqX (x : AV) : List Cl := (svcK x).filter isReq
def rqY (x : AV) : List Cl := (svcK x).filter isOpt
section
variable {tS tR : TypeId} {pS pR : Value}
theorem fs_req {x1 x2 x3 x4 x5 x6 x7 x8 x9 x10 x11 x12 x13 : Int} {cs : List Cl} (h : cs.length ≤ 1000000) : Fs Tryd.prog (roN tS pS tR pR) 10 [svcA x1 x2 x3 x4 x5 x6 x7 x8 x9 x10 x11 x12 x13 cs] (hp [] []) fun r _ => clean r = some (.lst 4 ((cs.filter isReq).map clA) .no) := by
  have hk := pkOk_of cs 34 rfl h
  refine Fs.of_call knownK (k_req pkX pkY tS tR pS pR x1 x2 x3 x4 x5 x6 x7 x8 x9 x10 x11 x12 x13 cs fun r => clean r = some (.lst 4 ((cs.filter isReq).map clA) .no)) ⟨by with_reducible exact cdb_iff.2 ⟨trivial, hk⟩, ?_⟩
  show some (AV.lst 4 ((List.filter isReq (clsX (.lst 4 (cs.map clA) .no))).map clA) .no) = _
  rw [clsX_lst]
theorem req_ok : ∀ args H r H', tot? (rqV rqX) rqOk args H = some (r, H') → HSound1 Tryd.prog (roN tS pS tR pR) 10 args H r H' := by
  refine tot_ok (has_fn (by kernel_rfl)) fun args hok => ?_
  unfold rqOk at hok
  split at hok
  · rename_i x
    split at hok
    · rename_i p hp
      obtain ⟨zs, cs⟩ := p
      have hok := of_decide_eq_true hok
      obtain ⟨x', h1, h2⟩ := svc_clean hp
      obtain ⟨x1, x2, x3, x4, x5, x6, x7, x8, x9, x10, x11, x12, x13, rfl⟩ := list13 (svc_cells hp).1
      refine ⟨[x'], by simp only [cleans, h1], ?_⟩
      refine Fs.weak ((fs_req (x1 := x1) (x2 := x2) (x3 := x3) (x4 := x4) (x5 := x5) (x6 := x6) (x7 := x7) (x8 := x8) (x9 := x9) (x10 := x10) (x11 := x11) (x12 := x12) (x13 := x13) (cs := cs) hok).mono fun r _ h => ?_) fun G W cs h => ?_
      · refine ⟨_, h, ?_⟩
        show Le _ (.lst 4 (((svcK x).filter isReq).map clA) .no)
        rw [svcK_some hp]
        exact Le.refl _
      · cases h with
        | cons e1 t => exact .cons (svc_le h2 _ _ _ e1) t
    · cases hok
  · cases hok
theorem fs_opt {x1 x2 x3 x4 x5 x6 x7 x8 x9 x10 x11 x12 x13 : Int} {cs : List Cl} (h : cs.length ≤ 1000000) : Fs Tryd.prog (roN tS pS tR pR) 12 [svcA x1 x2 x3 x4 x5 x6 x7 x8 x9 x10 x11 x12 x13 cs] (hp [] []) fun r _ => clean r = some (.lst 4 ((cs.filter isOpt).map clA) .no) := by
  have hk := pkOk_of cs 35 rfl h
  refine Fs.of_call knownK (k_opt pkX pkY tS tR pS pR x1 x2 x3 x4 x5 x6 x7 x8 x9 x10 x11 x12 x13 cs fun r => clean r = some (.lst 4 ((cs.filter isOpt).map clA) .no)) ⟨by with_reducible exact cdb_iff.2 ⟨trivial, hk⟩, ?_⟩
  show some (AV.lst 4 ((List.filter isOpt (clsX (.lst 4 (cs.map clA) .no))).map clA) .no) = _
  rw [clsX_lst]
theorem opt_ok : ∀ args H r H', tot? (rqV rqY) rqOk args H = some (r, H') → HSound1 Tryd.prog (roN tS pS tR pR) 12 args H r H' := by
  refine tot_ok (has_fn (by kernel_rfl)) fun args hok => ?_
  unfold rqOk at hok
  split at hok
  · rename_i x
    split at hok
    · rename_i p hp
      obtain ⟨zs, cs⟩ := p
      have hok := of_decide_eq_true hok
      obtain ⟨x', h1, h2⟩ := svc_clean hp
      obtain ⟨x1, x2, x3, x4, x5, x6, x7, x8, x9, x10, x11, x12, x13, rfl⟩ := list13 (svc_cells hp).1
      refine ⟨[x'], by simp only [cleans, h1], ?_⟩
      refine Fs.weak ((fs_opt (x1 := x1) (x2 := x2) (x3 := x3) (x4 := x4) (x5 := x5) (x6 := x6) (x7 := x7) (x8 := x8) (x9 := x9) (x10 := x10) (x11 := x11) (x12 := x12) (x13 := x13) (cs := cs) hok).mono fun r _ h => ?_) fun G W cs h => ?_
      · refine ⟨_, h, ?_⟩
        show Le _ (.lst 4 (((svcK x).filter isOpt).map clA) .no)
        rw [svcK_some hp]
        exact Le.refl _
      · cases h with
        | cons e1 t => exact .cons (svc_le h2 _ _ _ e1) t
    · cases hok
  · cases hok
end
noncomputable def prB (LN : AV → List ByteArray) (HI : Nat → ByteArray → Int) (HK : ByteArray → Bool) (CI : Nat → ByteArray → Int) (CB : ByteArray → Bool) (SS : AV → AV → Bool) (RQ OQ : AV → List Cl) : FuncId → Option (List AV → AH → Ans) := fun g => match g with
  | 22 => some (tot? (linV LN) linOk)
  | 17 => some (pure? (hdP HI HK))
  | 19 => some (pure? (caP CI CB))
  | 14 => some (tot? (ssV SS) ssOk)
  | 10 => some (tot? (rqV RQ) rqOk)
  | 12 => some (tot? (rqV OQ) rqOk)
  | _ => none
theorem knownB {tS tR : TypeId} {pS pR : Value} : Known (roN tS pS tR pR) (prB linX headI hdK callI caK ssX rqX rqY) := by
  intro g p h
  unfold prB at h
  split at h
  · cases h; exact lin_ok
  · cases h; exact hd_ok' (has_fn (by kernel_rfl)) fs_head
  · cases h; exact ca_ok (has_fn (by kernel_rfl)) fs_call
  · cases h; exact ss_ok
  · cases h; exact req_ok
  · cases h; exact opt_ok
  · cases h
end Go.Proofs.YtkienkbaiejdmaaDoor.AE
namespace Go.Proofs.YtkienkbaiejdmaaDoor.AE
open Go.RowKit
theorem ext_app_l (a b : ByteArray) : (a ++ b).extract 0 a.size = a := by
  have h1 : a.data.toList.length = a.size := len_data a
  rw [ext_ba, ByteArray.data_append, Array.toList_append, ← h1, List.take_left' rfl]
  exact ba_bk a
theorem ext_app_r (a b : ByteArray) : (a ++ b).extract a.size (a ++ b).size = b := by
  have h1 : a.data.toList.length = a.size := len_data a
  have h2 : (a ++ b).data.toList.length = (a ++ b).size := len_data (a ++ b)
  rw [ext_ba, ← h2, List.take_length, ByteArray.data_append, Array.toList_append, ← h1, List.drop_left' rfl]
  exact ba_bk b
theorem cp_app (p x : ByteArray) : cpK (p ++ x) p = true ∧ cpX (p ++ x) p = x := by
  have h1 : cpK (p ++ x) p = true := by
    unfold cpK
    rw [ext_app_l, decide_eq_true (by rw [ByteArray.size_append]; omega)]
    simp
  refine ⟨h1, ?_⟩
  unfold cpX
  rw [if_pos h1, ext_app_r]
theorem okP_kw {n : ByteArray} {z : Int} (hz : w64 z) : okP (n, n ++ eqB ++ tx z) = true ∧ vP (n, n ++ eqB ++ tx z) = z := by
  obtain ⟨h1, h2⟩ := cp_app (n ++ eqB) (tx z)
  obtain ⟨h3, h4⟩ := dp_tx hz
  unfold okP vP
  simp only
  rw [h1, h2, h3, h4]
  exact ⟨rfl, rfl⟩
theorem kwB_word {n : ByteArray} (h : n.data.toList.all wordC = true) (z : Int) : isWord (n ++ eqB ++ tx z) = true := by
  refine isWord_to ?_ fun c hc => ?_
  · rw [ByteArray.size_append, ByteArray.size_append]
    show 0 < _ + 1 + _
    omega
  · rw [ByteArray.data_append, ByteArray.data_append, Array.toList_append, Array.toList_append, List.append_assoc, List.mem_append, List.mem_append] at hc
    rcases hc with hc | hc | hc
    · exact List.all_eq_true.1 h c hc
    · simp [eqB] at hc; subst hc; decide
    · exact tx_word z c hc
theorem pcs_cons (n : ByteArray) (ns : List ByteArray) (z : Int) (zs : List Int) : pcs (n :: ns) (z :: zs) = (n ++ eqB ++ tx z) :: pcs ns zs := rfl
theorem pcs_word : ∀ (ns : List ByteArray) (zs : List Int), (∀ n ∈ ns, n.data.toList.all wordC = true) → ∀ x ∈ pcs ns zs, isWord x = true
  | [], _, _, x, h => by simp [pcs] at h
  | _ :: _, [], _, x, h => by simp [pcs] at h
  | n :: ns, z :: zs, hn, x, h => by
    rw [pcs_cons] at h
    rcases List.mem_cons.1 h with rfl | h
    · exact kwB_word (hn n (List.mem_cons_self ..)) z
    · exact pcs_word ns zs (fun m hm => hn m (List.mem_cons_of_mem _ hm)) x h
theorem zip_back : ∀ (ns : List ByteArray) (zs : List Int), ns.length = zs.length → (∀ z ∈ zs, w64 z) → (ns.zip (pcs ns zs)).all okP = true ∧ (ns.zip (pcs ns zs)).map vP = zs
  | [], [], _, _ => ⟨rfl, rfl⟩
  | [], _ :: _, h, _ => by cases h
  | _ :: _, [], h, _ => by cases h
  | n :: ns, z :: zs, h, hz => by
    obtain ⟨h1, h2⟩ := zip_back ns zs (by simpa using h) fun y hy => hz y (List.mem_cons_of_mem _ hy)
    obtain ⟨h3, h4⟩ := okP_kw (n := n) (hz z (List.mem_cons_self ..))
    rw [pcs_cons, List.zip_cons_cons, List.all_cons, List.map_cons, h1, h2, h3, h4]
    exact ⟨rfl, rfl⟩
theorem words_row {w : ByteArray} {ns : List ByteArray} {zs : List Int} (hw : isWord w = true) (hn : ∀ n ∈ ns, n.data.toList.all wordC = true) : wordsS (rowS w ns zs) = w :: pcs ns zs := by
  unfold rowS
  refine words_back fun x hx => ?_
  rcases List.mem_cons.1 hx with rfl | hx
  · exact hw
  · exact pcs_word ns zs hn x hx
/-- The numbers of a row come back. -/
theorem num_back {w : ByteArray} {ns : List ByteArray} {zs : List Int} (hw : isWord w = true) (hn : ∀ n ∈ ns, n.data.toList.all wordC = true) (hl : ns.length = zs.length) (hz : ∀ z ∈ zs, w64 z) : numB (rowS w ns zs) w ns = true ∧ numX (rowS w ns zs) w ns = zs := by
  have hws := words_row (zs := zs) hw hn
  obtain ⟨h1, h2⟩ := zip_back ns zs hl hz
  have hp : prsN ns (wordsS (rowS w ns zs)) = ns.zip (pcs ns zs) := by unfold prsN; rw [hws]; rfl
  have hb : numB (rowS w ns zs) w ns = true := by
    unfold numB goodN
    rw [hp, h1, hws, decide_eq_true (by rw [List.length_cons, pcs_len]; omega)]
    show ((true && (w.toList == w.toList)) && true) = true
    simp
  refine ⟨hb, ?_⟩
  unfold numX
  rw [if_pos hb, hp, h2]
/-- A row of another word has no numbers. -/
theorem num_other {w w' : ByteArray} {ns ns' : List ByteArray} {zs : List Int} (hw : isWord w = true) (hn : ∀ n ∈ ns, n.data.toList.all wordC = true) (hne : (w.toList == w'.toList) = false) : numB (rowS w ns zs) w' ns' = false := by
  have hws := words_row (zs := zs) hw hn
  unfold numB goodN
  rw [hws]
  show ((_ && (w.toList == w'.toList)) && _) = false
  rw [hne, Bool.and_false, Bool.false_and]
theorem hd_back {zs : List Int} (h13 : zs.length = 13) (hz : ∀ z ∈ zs, w64 z) : hdK (rowS svW hdB zs) = true ∧ numX (rowS svW hdB zs) svW hdB = zs :=
  num_back (by decide) (by decide) (by rw [h13]; rfl) hz
theorem ca_back {c : Cl} (h : clOk c) : caK (clineS c) = true ∧ numX (clineS c) clW tlB = [c.to, c.tier, c.weight, c.most] :=
  num_back (by decide) (by decide) rfl (tl_ok h).z
theorem ca_nohd (c : Cl) : hdK (clineS c) = false := num_other (by decide) (by decide) (by rw [ByteArray.toList_eq, ByteArray.toList_eq]; decide)
end Go.Proofs.YtkienkbaiejdmaaDoor.AE
