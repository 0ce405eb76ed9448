/-
  The abstract run's operations on slices that make memory, and that they stand for the program's.
-/
import Derived.Test.YtdijakobocnceaaAEOpU
import Derived.Laws.MakeOwn
import Derived.Laws.IdiomStrings
import Derived.Laws.BytesString
import Derived.Great.BuildSlice
namespace Go.Proofs.Ytdijakobocnceaa.AE
set_option maxRecDepth 100000
open Go.RowKit
structure EI where
  e : TypeId
  bytes : Nat
  size : Nat
  z : Value
def einfo (P : Program) (t : TypeId) : Option EI := match P.underlying t with
  | some (.slice e) => match P.info? e with
    | some i => match i.zero with
      | some z => if (z.cells.size = i.size ∧ 0 < i.size) ∧ OkT e then if z.cells.toList.all (·.oneCell') then some ⟨e, i.bytes, i.size, z⟩ else none else none
      | none => none
    | none => none
  | _ => none
def pur (x : AV) : Bool := match x with
  | .v _ => true
  | _ => false
/-- The elements of what is appended or copied, of the type tx. -/
def viewT (P : Program) (H : AH) (sz : Nat) (tx : TypeId) (x : AV) : Option (List AV × AH) := match P.underlying tx with
  | some (.slice _) => match x with
    | .v (.slice none 0 0) => some ([], H)
    | .lst sz' xs _ => if sz' = sz then some (xs, H) else none
    | .sl id off len _ => match H.at id with
      | some b => match need H (off + len * sz ≤ b.2.length ∧ ((b.2.drop off).take (len * sz)).all pur = true ∧ ((b.2.drop off).take (len * sz)).all one = true) with
        | some H1 => some (chunks sz len (b.2.drop off), H1)
        | none => none
      | none => none
    | _ => none
  | some .string => match x with
    | .v (.string s) => if sz = 1 then some (s.data.toList.map fun b => .v (.int .u8 b.toNat), H) else none
    | _ => none
  | _ => none
def appendTo (E : EI) (H : AH) (s : AV) (ys : List AV) : Option (AV × AH) := match s with
  | .sl id off len cap => match H.at id with
      | some b => if H.mb ≤ id then match need H (len + ys.length ≤ cap ∧ off + (len + ys.length) * E.size ≤ b.2.length) with
        | some H1 => some (.sl id off (len + ys.length) cap, { H1 with blks := H.blks.set id (b.1, splice b.2 (off + len * E.size) (ys.flatMap AV.cells)) })
        | none => none
        else none
      | none => none
  | s => append E.bytes E.size H s ys
def copyTo (E : EI) (H : AH) (d : AV) (ys : List AV) : Option (AV × AH) := match d with
  | .sl id off len _ => match H.at id with
    | some b => if H.mb ≤ id then match need H (off + len * E.size ≤ b.2.length) with
      | some H1 => some (.v (.int .i64 ((min ys.length len : Nat) : Int)), { H1 with blks := H.blks.set id (b.1, splice b.2 off ((ys.take (min ys.length len)).flatMap AV.cells)) })
      | none => none
      else none
    | none => none
  | _ => none
def makeS (E : EI) (H : AH) (l c : Int) : Option (AV × AH) := match need H (0 ≤ l ∧ l ≤ c ∧ (E.bytes : Int) * c ≤ 140737488355328 ∧ c ≤ 9223372036854775807) with
  | some H1 => some (.sl H.blks.length 0 l.toNat c.toNat, { H1 with blks := H.blks ++ [(E.e, if E.size = 1 then List.replicate c.toNat (.v (E.z.cells.toList.headD undef)) else (List.replicate c.toNat (E.z.cells.toList.map .v)).flatten)] })
  | none => none
def isZeroC (x : Operand) : Bool := match x with
  | .const (.int _ n) => decide (n = 0)
  | _ => false
/-- An empty row with room. -/
def makeR (E : EI) (H : AH) (c : Int) : Option (AV × AH) := match need H (0 ≤ c ∧ (E.bytes : Int) * c ≤ 140737488355328 ∧ c ≤ 9223372036854775807) with
  | some H1 => some (.lst E.size [] (.tp H.tips.length 0), { H1 with tips := H.tips ++ [0] })
  | none => none
def isDead (x : AV) : Bool := match x with
  | .dead => true
  | _ => false
def fillA (place : Nat → Option (Nat × Nat)) (cells : List AV) : List (Nat × AV) → Option (List AV)
  | [] => some cells
  | (i, x) :: rest => match place i with
    | none => none
    | some (off, size) => if x.cells.length ≠ size || off + x.cells.length > cells.length || isDead x then none
      else fillA place (x.cells.zipIdx.foldl (fun cs c => cs.set (off + c.2) c.1) cells) rest
def tipPure (t : Tip) : Tip := match t with
  | .exact => .exact
  | _ => .no
/-- Data alone: rows are not appended to any more. -/
def pur? (x : AV) : Option AV := match x with
  | .v u => some (.v u)
  | .lst sz xs tip => some (.lst sz xs (tipPure tip))
  | _ => none
def purs? : List AV → Option (List AV)
  | [] => some []
  | x :: l => match pur? x with
    | some y => match purs? l with
      | some r => some (y :: r)
      | none => none
    | none => none
def none0 (len : Nat) (parts : List (Nat × AV)) : Bool := match len with
  | 0 => parts.isEmpty
  | _ => false
def buildS (E : EI) (H : AH) (len : Nat) (parts : List (Nat × AV)) : Option (AV × AH) :=
  if none0 len parts = true then some (.lst E.size [] .exact, H)
  else if 0 < len ∧ len * E.size ≤ 16777216 then match fillA (fun i => some (i * E.size, E.size)) (((List.range (len * E.size)).map fun i => (.v (E.z.cells.toList[i % E.z.cells.toList.length]!)))) parts with
    | some cells => if cells.all one then match purs? cells with
        | some cs => if cs.length = len * E.size then some (.lst E.size (chunks E.size len cs) .exact, H) else none
        | none => none
        else none
    | none => none
  else none
def places? (P : Program) : List Field → Option (List (Nat × Nat))
  | [] => some []
  | f :: l => match sz? P f.type with
    | some s => match places? P l with
      | some r => some ((f.offset, s) :: r)
      | none => none
    | none => none
def buildA (P : Program) (t : TypeId) (parts : List (Nat × AV)) : Option AV := match zero? P t with
  | some z => match P.underlying t with
    | some (.struct fs) => match places? P fs.toList with
      | some pl => match fillA (fun i => pl[i]?) (z.cells.toList.map .v) parts with
        | some cells => some (mkAgg cells)
        | none => none
      | none => none
    | some (.array _ e) => match sz? P e with
      | some s => match fillA (fun i => some (i * s, s)) (z.cells.toList.map .v) parts with
        | some cells => some (mkAgg cells)
        | none => none
      | none => none
    | _ => none
  | none => none
def fieldA (P : Program) (t : TypeId) (f : Nat) (x : AV) : Option AV := match x with
  | .agg cells => match field? P t f with
    | some (off, ft) => loadFrom P ft cells off
    | none => none
  | _ => none
def byteOf? : AV → Option Int
  | .v (.int .u8 n) => some n
  | _ => none
def bytesOf? : List AV → Option (List Int)
  | [] => some []
  | x :: l => match byteOf? x with
    | some n => match bytesOf? l with
      | some r => some (n :: r)
      | none => none
    | none => none
theorem bytes_isSome : ∀ {ys : List AV}, (bytesOf? ys).isSome = true → bytesOf? ys = some (ys.map exInt)
  | [], _ => rfl
  | x :: l, h => by
    unfold bytesOf? at h ⊢
    split at h
    · rename_i n hn
      split at h
      · rename_i r hr
        have ih := bytes_isSome (ys := l) (by rw [hr]; rfl)
        have hx : exInt x = n := by
          unfold byteOf? at hn
          split at hn
          · cases hn; rfl
          · cases hn
        rw [hr] at ih
        rw [List.map_cons, hx, Option.some.inj ih]
      · cases h
    · cases h
def isBytes? (P : Program) (t : TypeId) : Option TypeId := match P.underlying t with
  | some (.slice e) => match P.underlying e with
    | some (.int .u8) => some e
    | _ => none
  | _ => none
def convertA (P : Program) (H : AH) (src dst : TypeId) (x : AV) : Option (AV × AH) := match x with
  | .v (.string s) => if isStr? P src then match isBytes? P dst with
      | some e => if sz? P e = some 1 then match need H (s.size ≤ maxLen) with
        | some H1 => some (.lst 1 (s.data.toList.map fun b => .v (.int .u8 b.toNat)) (.tp H.tips.length 0), { H1 with tips := H.tips ++ [0] })
        | none => none
        else none
      | none => none
    else none
  | .v _ => none
  | y => if isStr? P dst then match isBytes? P src with
      | some _ => match viewT P H 1 src y with
        | some (ys, H1) => match H1.sy with
          | true => some (.v (.string ⟨((ys.map exInt).map fun n => UInt8.ofNat n.toNat).toArray⟩), grant H1 (bytesOf? ys).isSome (bytesOf? ys = some (ys.map exInt)))
          | false => match bytesOf? ys with
            | some ns => some (.v (.string ⟨(ns.map fun n => UInt8.ofNat n.toNat).toArray⟩), H1)
            | none => none
        | none => none
      | none => none
    else none
def orElse0 (P : Program) (ro : Nat → Option (List Value)) (act : List AV) (H : AH) (o : Oper) (x : Option (AV × AH)) : Option (AV × AH) := match x with
  | some r => some r
  | none => op0 P ro act H o
/-- Any operation but a call of a function. -/
def op1 (P : Program) (ro : Nat → Option (List Value)) (act : List AV) (H : AH) (o : Oper) : Option (AV × AH) := match o.op with
  | .build t parts => withH H (buildA P t (parts.toList.map fun p => (p.1, ev act p.2)))
  | .buildSlice t len parts => match einfo P t with
    | some E => buildS E H len (parts.toList.map fun p => (p.1, ev act p.2))
    | none => none
  | .makeSlice t l c => match einfo P t with
    | some E => match intOf? (ev act l), intOf? (ev act c) with
      | some l', some c' => match isZeroC l with
        | true => makeR E H c'
        | false => makeS E H l' c'
      | _, _ => none
    | none => none
  | .field t x f => if isV (ev act x) then op0 P ro act H o else withH H (fieldA P t f (ev act x))
  | .convert src dst x => orElse0 P ro act H o (convertA P H src dst (ev act x))
  | .call c => match c.callee with
    | .builtin .append => match c.args.toList, c.argTypes.toList with
      | [s, x], [t, tx] => match einfo P t with
        | some E => match viewT P H E.size tx (ev act x) with
          | some (ys, H1) => appendTo E H1 (ev act s) ys
          | none => none
        | none => none
      | _, _ => none
    | .builtin .copy => match c.args.toList, c.argTypes.toList with
      | [d, x], [t, tx] => match einfo P t with
        | some E => match viewT P H E.size tx (ev act x) with
          | some (ys, H1) => copyTo E H1 (ev act d) ys
          | none => none
        | none => none
      | _, _ => none
    | _ => op0 P ro act H o
  | _ => op0 P ro act H o
section
variable {P : Program} {ro : Nat → Option (List Value)} {G : Gh} {H H' : AH} {W : World} {act : List AV} {a : Act} {o : Oper} {r : AV}
theorem einfo_some {t : TypeId} {E : EI} (h : einfo P t = some E) : P.underlying t = some (.slice E.e) ∧ ∃ i, P.info? E.e = some i ∧ i.bytes = E.bytes ∧ i.size = E.size ∧ i.zero = some E.z ∧ E.z.cells.size = E.size ∧ 0 < E.size ∧ ∀ u ∈ E.z.cells.toList, u.oneCell' = true := by
  unfold einfo at h
  split at h
  · rename_i e hu
    split at h
    · rename_i i hi
      split at h
      · rename_i z hz
        split at h
        · rename_i hc
          split at h
          · rename_i h1
            cases h
            exact ⟨hu, i, hi, rfl, rfl, hz, hc.1.1, hc.1.2, by rw [List.all_eq_true] at h1; exact h1⟩
          · cases h
        · cases h
      · cases h
    · cases h
  · cases h
theorem einfo_ne {t : TypeId} {E : EI} (h : einfo P t = some E) : OkT E.e := by
  unfold einfo at h
  split at h
  · split at h
    · split at h
      · split at h
        · rename_i hc
          split at h
          · cases h; exact hc.2
          · cases h
        · cases h
      · cases h
    · cases h
  · cases h
theorem vals_map : ∀ {l : List AV} {us : List Value}, vals? l = some us → us.map AV.v = l
  | [], us, h => by simp only [vals?, Option.some.injEq] at h; subst h; rfl
  | x :: l, us, h => by
    unfold vals? at h
    split at h
    · rename_i u hu
      split at h
      · rename_i vs hvs
        cases h
        have : x = .v u := by cases x <;> simp [AV.val?] at hu; rw [hu]
        rw [List.map_cons, vals_map hvs, this]
      · cases h
    · cases h
theorem mkAgg_cells (l : List AV) : (mkAgg l).cells = l := by
  unfold mkAgg
  split
  · rename_i us hu
    exact vals_map hu
  · rfl
theorem chunksN_len (sz : Nat) : ∀ (n : Nat) (cs : List AV), (chunksN sz n cs).length = n
  | 0, _ => rfl
  | n + 1, cs => by simp [chunksN, chunksN_len sz n]
theorem chunksN_flat {sz : Nat} (hpos : 0 < sz) : ∀ (n : Nat) (cs : List AV), n * sz ≤ cs.length → (chunksN sz n cs).flatMap AV.cells = cs.take (n * sz) ∧ ∀ x ∈ chunksN sz n cs, x.cells.length = sz
  | 0, cs, _ => by simp [chunksN]
  | n + 1, cs, hl => by
    have e : (n + 1) * sz = sz + n * sz := by rw [Nat.add_mul]; omega
    rw [e] at hl ⊢
    have htk : cs.take (sz + n * sz) = cs.take sz ++ (cs.drop sz).take (n * sz) := List.take_add
    obtain ⟨i1, i2⟩ := chunksN_flat hpos n (cs.drop sz) (by rw [List.length_drop]; omega)
    refine ⟨?_, ?_⟩
    · unfold chunksN
      rw [List.flatMap_cons, mkAgg_cells, i1, htk]
    · intro x hx
      unfold chunksN at hx
      rcases List.mem_cons.1 hx with rfl | hx
      · rw [mkAgg_cells, List.length_take]; omega
      · exact i2 x hx
theorem ones_flat : ∀ (l : List AV), l.all one = true → l.flatMap AV.cells = l
  | [], _ => rfl
  | x :: l, h => by
    rw [List.all_cons, Bool.and_eq_true] at h
    rw [List.flatMap_cons, one_cells h.1, ones_flat l h.2]; rfl
theorem chunks_len (sz n : Nat) (cs : List AV) (h : n * sz ≤ cs.length) : (chunks sz n cs).length = n := by
  unfold chunks
  split
  · rename_i h1; subst h1; rw [List.length_take]; omega
  · exact chunksN_len _ _ _
theorem chunks_flat {sz : Nat} (hpos : 0 < sz) (n : Nat) (cs : List AV) (hl : n * sz ≤ cs.length) (h1 : (cs.take (n * sz)).all one = true) : (chunks sz n cs).flatMap AV.cells = cs.take (n * sz) ∧ ∀ x ∈ chunks sz n cs, x.cells.length = sz := by
  unfold chunks
  split
  · rename_i e
    subst e
    rw [Nat.mul_one] at h1 ⊢
    refine ⟨ones_flat _ h1, fun x hx => ?_⟩
    rw [List.all_eq_true] at h1
    rw [one_cells (h1 x hx)]; rfl
  · exact chunksN_flat hpos n cs hl
theorem pur_rel {x y : AV} {c : Value} (h : RV G W x c) (hp : pur? x = some y) : PV G.prot W y c ∧ y.cells.length = x.cells.length := by
  unfold pur? at hp
  split at hp
  · cases hp; cases h; exact ⟨.v _, rfl⟩
  · cases hp
    cases h with
    | lst hn h hs hm hc hx ht =>
      refine ⟨.lst hn h hs hm hc hx ?_, rfl⟩
      rename_i tip _ _ _ _
      cases tip with
      | exact => exact ht
      | _ => trivial
  · cases hp
theorem purs_rel : ∀ {l r : List AV} {cs : List Value}, RVs G W l cs → purs? l = some r → PVs G.prot W r cs
  | [], r, cs, h, hp => by cases h; simp only [purs?, Option.some.injEq] at hp; subst hp; exact .nil
  | x :: l, r, cs, h, hp => by
    cases h with
    | cons h t =>
      unfold purs? at hp
      split at hp
      · rename_i y hy
        split at hp
        · rename_i q hq
          cases hp
          exact .cons (pur_rel h hy).1 (purs_rel t hq)
        · cases hp
      · cases hp
theorem pur_all : ∀ {l : List AV} {cs : List Value}, RVs G W l cs → l.all pur = true → PVs G.prot W l cs
  | [], cs, h, _ => by cases h; exact .nil
  | x :: l, cs, h, hp => by
    cases h with
    | cons h t =>
      rw [List.all_cons, Bool.and_eq_true] at hp
      refine .cons ?_ (pur_all t hp.2)
      cases x with
      | v u => cases h; exact .v _
      | _ => simp [pur] at hp
theorem add_off (b o j : Nat) : (⟨b, o, none⟩ : Addr).add j = ⟨b, o + j, none⟩ := Addr.add_mid b o j
theorem none_ret (k n : Nat) (size cap : Nat) (w : World) : (Builtin.firstCells size k (.slice none n cap)).run P w = .ok #[] w := by simp [Builtin.firstCells]
/-- What lies behind a slice, or a text. -/
theorem view_sound (hI : Inv G H W) {sz : Nat} (hpos : 0 < sz) {tx : TypeId} {x : AV} {c : Value} {ys : List AV} (hx : RV G W x c) (h : viewT P H sz tx x = some (ys, H')) :
    Same H H' ∧ (H'.cd → H.cd) ∧ (H'.cd → ∃ news, PVs G.prot W (ys.flatMap AV.cells) news ∧ (∀ y ∈ ys, y.cells.length = sz) ∧ Src P sz tx c ys.length news W ∧ ∀ k, k ≤ ys.length → (Builtin.firstCells sz k c).run P W = .ok (news.take (k * sz)).toArray W) := by
  unfold viewT at h
  split at h
  · rename_i e hu
    split at h
    · cases h
      cases hx
      exact ⟨.refl _, fun h => h, fun _ => ⟨[], .nil, (fun y hy => by cases hy), Src.ofNil W hu 0, fun k hk => by simp [Builtin.firstCells]⟩⟩
    · rename_i sz' xs tip
      split at h
      · rename_i hsz
        subst hsz
        cases h
        refine ⟨.refl _, fun h => h, fun _ => ?_⟩
        cases hx with
        | @lst _ _ _ ad n cap cs hn hr hs hm hc hx ht =>
          have hl : cs.length = ys.length * sz' := by rw [← hr.len, flat_len ys hs]
          refine ⟨cs, hr, hs, ?_, ?_⟩
          · rw [hn]
            cases ad with
            | none =>
              have : cs = [] := by
                rcases Decidable.em (cs = []) with e | e
                · exact e
                · obtain ⟨b, off, e', _⟩ := hm.2 e; cases e'
              rw [this] at hl
              have hz : ys.length = 0 := by
                rcases Nat.eq_zero_or_pos ys.length with e | e
                · exact e
                · have := Nat.mul_pos e hpos; simp at hl; omega
              rw [hz, this]
              exact Src.ofNil W hu cap
            | some q =>
              refine Src.ofSlice W hu q ys.length cap cs hl (fun j u hj => ?_) hm.1
              obtain ⟨b, off, e', hcell⟩ := hm.2 (by rintro rfl; simp at hj)
              cases e'
              rw [add_off]; exact (hcell j u hj).2
          · intro k hk
            cases ad with
            | none =>
              have : cs = [] := by
                rcases Decidable.em (cs = []) with e | e
                · exact e
                · obtain ⟨b, off, e', _⟩ := hm.2 e; cases e'
              rw [this]
              simpa using none_ret (P := P) k n sz' cap W
            | some q =>
              refine run_firstCells_some W sz' k q n cap _ (by rw [List.length_take, hl, Nat.min_eq_left (Nat.mul_le_mul_right _ hk)]) (fun j u hj => ?_)
              rw [List.getElem?_take] at hj
              split at hj
              · obtain ⟨b, off, e', hcell⟩ := hm.2 (by rintro rfl; simp at hj)
                cases e'
                rw [add_off]; exact (hcell j u hj).2
              · cases hj
      · cases h
    · rename_i id off len cap
      split at h
      · rename_i b hb
        split at h
        · rename_i H1 hH1
          cases h
          obtain ⟨hS, hcd⟩ := need_some hH1
          refine ⟨hS, fun h => (hcd h).1, fun h => ?_⟩
          obtain ⟨hle, hpur, hone⟩ := (hcd h).2
          cases hx with
          | @sl _ _ _ _ k hd =>
            obtain ⟨k', vs, e1, e2, e3, e4⟩ := hI.blk id b.1 b.2 (at_some hb).1
            rw [hd] at e1
            cases e1
            have hlen := e3.len
            have hcl : len * sz ≤ (b.2.drop off).length := by rw [List.length_drop]; omega
            obtain ⟨c1, c2⟩ := chunks_flat hpos len (b.2.drop off) hcl hone
            have hr : PVs G.prot W ((chunks sz len (b.2.drop off)).flatMap AV.cells) ((vs.toList.drop off).take (len * sz)) := by rw [c1]; exact pur_all ((e3.drop off).take _) hpur
            have hcell : ∀ (j : Nat) (u : Value), ((vs.toList.drop off).take (len * sz))[j]? = some u → W.cell? ((⟨k, off, none⟩ : Addr).add j) = some u := fun j u hj => by
              rw [List.getElem?_take] at hj
              split at hj
              · rw [List.getElem?_drop] at hj
                rw [add_off]
                rw [e2.cell (at_some hb).2]
                simpa using hj
              · cases hj
            have hll : ((vs.toList.drop off).take (len * sz)).length = len * sz := by rw [List.length_take, List.length_drop, ← hlen]; omega
            refine ⟨_, hr, c2, ?_, ?_⟩
            · rw [chunks_len _ _ _ hcl]
              exact Src.ofSlice W hu _ len cap _ hll hcell (fun u hu' => e4 (at_some hb).2 u (List.mem_of_mem_drop (List.mem_of_mem_take hu')))
            · intro m hm
              rw [chunks_len _ _ _ hcl] at hm
              refine run_firstCells_some W sz m _ len cap _ (by rw [List.length_take, hll, Nat.min_eq_left (Nat.mul_le_mul_right _ hm)]) (fun j u hj => ?_)
              rw [List.getElem?_take] at hj
              split at hj
              · exact hcell j u hj
              · cases hj
        · cases h
      · cases h
    · cases h
  · rename_i hu
    split at h
    · rename_i s
      split at h
      · rename_i h1
        subst h1
        cases h
        refine ⟨.refl _, fun h => h, fun _ => ?_⟩
        cases hx
        have ef : (s.data.toList.map fun b => AV.v (.int .u8 b.toNat)) = (byteCells s).map AV.v := by simp [byteCells]
        have hs : ∀ y ∈ (s.data.toList.map fun b => AV.v (.int .u8 b.toNat)), y.cells.length = 1 := fun y hy => by
          obtain ⟨b, _, rfl⟩ := List.mem_map.1 hy; rfl
        have hfl : (s.data.toList.map fun b => AV.v (.int .u8 b.toNat)).flatMap AV.cells = (byteCells s).map AV.v := by
          rw [← ef]
          induction s.data.toList with
          | nil => rfl
          | cons b l ih => rw [List.map_cons, List.flatMap_cons, ih]; rfl
        have hln : (s.data.toList.map fun b => AV.v (.int .u8 b.toNat)).length = s.size := by rw [List.length_map, Array.length_toList]; rfl
        refine ⟨byteCells s, by rw [hfl]; exact PVs.map_v _, hs, ?_, fun k hk => ?_⟩
        · rw [hln]; exact Src.ofString W hu s
        · rw [hln] at hk
          rw [Nat.mul_one]
          simp [Builtin.firstCells, byteCells]
          apply Array.ext'
          simp
      · cases h
    · cases h
  · cases h
end
end Go.Proofs.Ytdijakobocnceaa.AE
