/-
  Lists that come in; functions that are known whole, whatever they are handed; more of the program's own variables.
-/
import Derived.Test.YtdijakobocnceaaAEData
namespace Go.Proofs.Ytdijakobocnceaa.AE
set_option maxRecDepth 100000
open Go.RowKit
def gi (n : Int) : AV := .v (.int .i64 n)
def sv (s : ByteArray) : AV := .v (.string s)
def nilS : AV := .v (.slice none 0 0)
theorem flat_v (l : List Value) (h : ∀ u ∈ l, (AV.v u).cells = [.v u]) : (l.map AV.v).flatMap AV.cells = l.map AV.v := by
  induction l with
  | nil => rfl
  | cons u l ih => rw [List.map_cons, List.flatMap_cons, h u (List.mem_cons_self ..), ih fun v hv => h v (List.mem_cons_of_mem _ hv)]; rfl
/-- A slice of plain cells that lies in the world. -/
theorem row_rv {w : World} {a : Option Addr} {l : List Value} {cap : Nat} (h : RowAt w a l) (h1 : ∀ u ∈ l, (AV.v u).cells = [.v u]) (h2 : ∀ u ∈ l, u.oneCell' = true) (hc : l.length ≤ cap) (hx : cap ≤ maxLen) : RV (G0 w) w (.lst 1 (l.map AV.v) .no) (.slice a l.length cap) := by
  refine .lst (cs := l) (by simp) (by rw [flat_v l h1]; exact PVs.map_v l) (fun x hx => ?_) ⟨h2, fun hne => ?_⟩ hc hx trivial
  · obtain ⟨u, hu, rfl⟩ := List.mem_map.1 hx
    rw [h1 u hu]; rfl
  · obtain ⟨b, off, e, hcell⟩ := h hne
    exact ⟨b, off, e, fun j u hu => ⟨by show b < w.heap.size; exact cell_lt (hcell j u hu), hcell j u hu⟩⟩
theorem ints_rv {w : World} {k : IntKind} {a : Option Addr} {zs : List Int} {cap : Nat} (h : Ints w k a zs) (hc : zs.length ≤ cap) (hx : cap ≤ maxLen) : RV (G0 w) w (.lst 1 (zs.map fun z => .v (.int k z)) .no) (.slice a zs.length cap) := by
  have := row_rv h (fun u hu => by obtain ⟨z, _, rfl⟩ := List.mem_map.1 hu; rfl) (fun u hu => by obtain ⟨z, _, rfl⟩ := List.mem_map.1 hu; rfl) (by rw [List.length_map]; exact hc) hx
  rwa [List.map_map, List.length_map] at this
/-- A function that is known whole: what it hands back, and where that is known. -/
def tot? (val : List AV → AV) (ok : List AV → Bool) (args : List AV) (H : AH) : Ans := some (val args, { H with cd := cdb H.cd (ok args) })
def cleanP (p : List AV → Bool) (args : List AV) : Bool := match cleans args with
  | some ar => p ar
  | none => false
/-- What is told by y is told by z, too. -/
def Le (y z : AV) : Prop := ∀ G W c, RV G W y c → RV G W z c
theorem Le.refl (y : AV) : Le y y := fun _ _ _ h => h
theorem tot_ok {ro : Nat → Option (List Value)} {g : FuncId} {val : List AV → AV} {ok : List AV → Bool} (hf : ∃ fn, Try.prog.funcs[g]? = some fn ∧ fn.body.isSome = true)
    (h : ∀ args, ok args = true → ∃ ar, cleans args = some ar ∧ Fs Try.prog ro g ar (hp [] []) fun r _ => ∃ y, clean r = some y ∧ Le y (val args)) :
    ∀ args H r H', tot? val ok args H = some (r, H') → HSound1 Try.prog ro g args H r H' := by
  intro args H r H' hd
  unfold tot? at hd
  cases hd
  refine ⟨⟨fun x => (cdb_iff.1 x).1, rfl, rfl, rfl, Nat.le_refl _, Nat.le_refl _, fun _ _ _ => rfl, fun _ _ _ => rfl⟩, fun hcd G W cargs hI hR hA => ⟨hf, ?_⟩⟩
  obtain ⟨ar, has, hfs⟩ := h args (cdb_iff.1 hcd).2
  refine (hfs (bareG G) W cargs (inv_bare hI) (ro_bare hR) (cleans_to (G := G) (G2 := bareG G) (fun _ _ p => p) hA _ has)).2.mono ?_
  rintro e W' ⟨c, G1', r', H1, rfl, ⟨y, hr, hle⟩, e1, e2, e3⟩
  obtain ⟨G', x1, x2, x3⟩ := hI.data e1 e2
  exact ⟨c, G', rfl, x1, x2.same rfl rfl, hle _ _ _ (clean_to x3 e3 _ hr)⟩
/-- One more of the program's own variables is known. -/
def roM (g : Nat) (cs : List Value) (ro : Nat → Option (List Value)) : Nat → Option (List Value) := fun b => if b = g then some cs else ro b
theorem roM_le {g : Nat} {cs : List Value} {ro : Nat → Option (List Value)} (hg : ro g = none) {G : Gh} {W : World} (h : Ro (roM g cs ro) G W) : Ro ro G W := fun b c hb => h b c (by
  unfold roM
  split
  · rename_i e; subst e; rw [hg] at hb; cases hb
  · exact hb)
theorem HSound1.ro {ro ro' : Nat → Option (List Value)} (hr : ∀ G W, Ro ro' G W → Ro ro G W) {g : FuncId} {args : List AV} {H : AH} {r : AV} {H' : AH} (h : HSound1 Try.prog ro g args H r H') : HSound1 Try.prog ro' g args H r H' :=
  ⟨h.1, fun hc G W cargs hI hR hA => h.2 hc G W cargs hI (hr _ _ hR) hA⟩
theorem Fs.roLe {ro ro' : Nat → Option (List Value)} (hr : ∀ G W, Ro ro' G W → Ro ro G W) {g : FuncId} {args : List AV} {H : AH} {Φ : AV → AH → Prop} (h : Fs Try.prog ro g args H Φ) : Fs Try.prog ro' g args H Φ :=
  fun G W cargs hI hR hA => h G W cargs hI (hr _ _ hR) hA
/-- A list, whatever may be appended to it; nil is a list. -/
def nrm (x : AV) : AV := match x with
  | .lst sz xs _ => .lst sz xs .no
  | .v (.slice none 0 0) => .lst 1 [] .no
  | x => x
def isLV (x : AV) : Bool := match x with
  | .lst _ _ _ => true
  | .v _ => true
  | _ => false
theorem nrm_rv {G : Gh} {W : World} {x : AV} {c : Value} (h : RV G W x c) : RV G W (nrm x) c := by
  unfold nrm
  split
  · cases h with
    | lst hn hr hs hm hc hx ht => exact .lst hn hr hs hm hc hx trivial
  · cases h
    exact .lst (cs := []) rfl .nil (fun x hx => by cases hx) ⟨by simp, fun hne => absurd rfl hne⟩ (Nat.le_refl _) (Nat.zero_le _) trivial
  · exact h
theorem nrms_rv {G : Gh} {W : World} : ∀ {l : List AV} {cs : List Value}, RVs G W l cs → RVs G W (l.map nrm) cs
  | [], _, h => by cases h; exact .nil
  | x :: l, _, h => by cases h with | cons h t => exact .cons (nrm_rv h) (nrms_rv t)
theorem clean_LV {x : AV} (h : isLV x = true) : ∃ y, clean x = some y ∧ nrm y = nrm x := by
  cases x with
  | v u => exact ⟨_, rfl, rfl⟩
  | lst sz xs tip => cases tip <;> exact ⟨_, rfl, rfl⟩
  | _ => cases h
theorem cleans_LV : ∀ {l : List AV}, l.all isLV = true → ∃ ar, cleans l = some ar ∧ ar.map nrm = l.map nrm
  | [], _ => ⟨[], rfl, rfl⟩
  | x :: l, h => by
    simp only [List.all_cons, Bool.and_eq_true] at h
    obtain ⟨y, h1, h2⟩ := clean_LV h.1
    obtain ⟨ar, h3, h4⟩ := cleans_LV h.2
    refine ⟨y :: ar, ?_, by rw [List.map_cons, List.map_cons, h2, h4]⟩
    unfold cleans
    rw [h1, h3]
theorem tot_nrm {ro : Nat → Option (List Value)} {g : FuncId} {val : List AV → AV} {ok : List AV → Bool} (hf : ∃ fn, Try.prog.funcs[g]? = some fn ∧ fn.body.isSome = true)
    (h : ∀ args, ok args = true → args.all isLV = true ∧ Fs Try.prog ro g (args.map nrm) (hp [] []) fun r _ => ∃ y, clean r = some y ∧ Le y (val args)) :
    ∀ args H r H', tot? val ok args H = some (r, H') → HSound1 Try.prog ro g args H r H' := by
  refine tot_ok hf fun args hok => ?_
  obtain ⟨h1, h2⟩ := h args hok
  obtain ⟨ar, h3, h4⟩ := cleans_LV h1
  refine ⟨ar, h3, fun G W cargs hI hR hA => h2 G W cargs hI hR ?_⟩
  rw [← h4]
  exact nrms_rv hA
def ints? : List AV → Option (List Int)
  | [] => some []
  | .v (.int .i64 n) :: l => match ints? l with
    | some r => some (n :: r)
    | none => none
  | _ => none
theorem ints_map : ∀ l : List Int, ints? (l.map gi) = some l
  | [] => rfl
  | s :: l => by show (match ints? (l.map gi) with | some r => some (s :: r) | none => none) = _; rw [ints_map l]
theorem ints_eq : ∀ {xs : List AV} {l : List Int}, ints? xs = some l → xs = l.map gi
  | [], l, h => by cases h; rfl
  | .v (.int .i64 s) :: xs, l, h => by
    have h : (match ints? xs with | some r => some (s :: r) | none => none) = some l := h
    split at h
    · rename_i r hr
      cases h
      rw [ints_eq hr]; rfl
    · cases h
def intsA? (x : AV) : Option (List Int) := match x with
  | .lst 1 xs _ => ints? xs
  | .v (.slice none 0 0) => some []
  | _ => none
theorem intsA_nrm {x : AV} {zs : List Int} (h : intsA? x = some zs) : isLV x = true ∧ nrm x = .lst 1 (zs.map gi) .no := by
  unfold intsA? at h
  split at h
  · rw [ints_eq h]; exact ⟨rfl, rfl⟩
  · cases h; exact ⟨rfl, rfl⟩
  · cases h
theorem intsA_lst (zs : List Int) (tip : Tip) : intsA? (.lst 1 (zs.map gi) tip) = some zs := ints_map zs
/-- An element of a list of numbers. -/
theorem gi_get {wl : List Int} {i : Nat} (h : i < wl.length) : (wl.map gi)[Int.toNat (i : Int)]? = some (gi wl[i]) := by
  show (wl.map gi)[i]? = _
  simp [h]
theorem gi_ex {wl : List Int} {i : Nat} (h : i < wl.length) : exInt ((wl.map gi).getD (Int.toNat (i : Int)) .dead) = wl[i] := by
  show exInt ((wl.map gi).getD i .dead) = wl[i]
  rw [List.getD_eq_getElem?_getD]
  simp only [List.getElem?_map, List.getElem?_eq_getElem h, Option.map_some, Option.getD_some]
  rfl
theorem sv_get {wl : List ByteArray} {i : Nat} (h : i < wl.length) : (wl.map sv)[Int.toNat (i : Int)]? = some (sv wl[i]) := by
  show (wl.map sv)[i]? = _
  simp [h]
theorem sv_ex {wl : List ByteArray} {i : Nat} (h : i < wl.length) : exStr ((wl.map sv).getD (Int.toNat (i : Int)) .dead) = wl[i] := by
  show exStr ((wl.map sv).getD i .dead) = wl[i]
  rw [List.getD_eq_getElem?_getD]
  simp only [List.getElem?_map, List.getElem?_eq_getElem h, Option.map_some, Option.getD_some]
  rfl
theorem inc64 (i : Nat) (h : i ≤ 1000000000) : IntKind.wrap .i64 ((i : Int) + 1) = ((i + 1 : Nat) : Int) := by rw [IntKind.wrap_i64]; omega
theorem take_snoc {α : Type} {l : List α} {i : Nat} (h : i < l.length) : l.take (i + 1) = l.take i ++ [l[i]] := by
  rw [List.take_add_one, List.getElem?_eq_getElem h]; rfl
theorem RVs.setL {G : Gh} {W : World} : ∀ {l : List AV} {cs : List Value} (k : Nat) {x : AV}, RVs G W l cs → (∀ c, cs[k]? = some c → RV G W x c) → RVs G W (l.set k x) cs
  | [], _, _, _, h, _ => by cases h; exact .nil
  | y :: l, _, 0, x, h, hx => by cases h with | cons h t => exact .cons (hx _ rfl) t
  | y :: l, _, k + 1, x, h, hx => by cases h with | cons h t => exact .cons h (RVs.setL k t fun c hc => hx c (by simpa using hc))
/-- A slot that holds no list: a list with nothing in it, to which may be appended. -/
theorem Tr.nilTip {P : Program} {ro : Nat → Option (List Value)} {c : Code} {act : List AV} {H : AH} {Q : Exit → List AV → AH → Prop} (k sz : Nat) (hk : act[k]? = some nilS) (h : Tr P ro c (act.set k (.lst sz [] (.tp H.tips.length 0))) { H with tips := H.tips ++ [0] } Q) : Tr P ro c act H Q := by
  intro G W a hI hR hA
  obtain ⟨e1, i1⟩ := hI.tipNil (TipsOn.fresh hI) sz
  refine wp_mono (h _ W a i1 (hR.ext e1) ?_) fun e a' W' ⟨act', H', G', q, e2, r⟩ => ⟨act', H', G', q, e1.trans e2, r⟩
  refine RVs.setL k (hA.ext e1) fun c hc => ?_
  obtain ⟨c', hc', hr⟩ := hA.get k _ hk
  rw [hc] at hc'
  cases hc'
  cases hr
  exact .lst (cs := []) rfl .nil (fun x hx => by cases hx) ⟨by simp, fun hne => absurd rfl hne⟩ (Nat.le_refl _) (Nat.zero_le _) ⟨_, by show (if _ then _ else _) = _; rw [if_pos rfl], Nat.le_refl _, fun _ => ⟨rfl, rfl⟩⟩
theorem Trl.nilTip {P : Program} {ro : Nat → Option (List Value)} {l : List Code} {act : List AV} {H : AH} {Q : Exit → List AV → AH → Prop} (k sz : Nat) (hne : l.isEmpty = false) (hk : act[k]? = some nilS) (h : Trl P ro l (act.set k (.lst sz [] (.tp H.tips.length 0))) { H with tips := H.tips ++ [0] } Q) : Trl P ro l act H Q := by
  cases l with
  | nil => cases hne
  | cons x l => exact Tr.nilTip k sz hk h
theorem Le.nilPair (sz : Nat) (u : Value) : Le (.v (.tuple #[.slice none 0 0, u])) (.tuple [.lst sz [] .no, .v u]) := fun G W c h => by
  cases h
  exact .tuple (.cons (.lst (cs := []) rfl .nil (fun x hx => by cases hx) ⟨by simp, fun hne => absurd rfl hne⟩ (Nat.le_refl _) (Nat.zero_le _) trivial) (.cons (.v _) .nil))
end Go.Proofs.Ytdijakobocnceaa.AE
