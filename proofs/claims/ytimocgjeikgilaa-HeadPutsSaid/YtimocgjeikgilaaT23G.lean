/-
  Layer 23: a frame that was put comes first.
-/
import Derived.Test.YtimocgjeikgilaaT23F
namespace Go.Proofs.Ytimocgjeikgilaa.AE
open Go.RowKit Cr Oc
theorem byts_inj {a b : ByteArray} (h : bytsOf a = bytsOf b) : a = b := by
  apply ByteArray.ext
  exact Array.toList_inj.1 h
theorem byts_seal (a : ByteArray) : bytsOf (sealS a) = bytsOf a ++ be 2 (sumS a) := rfl
theorem seal_body (a : ByteArray) : bodyB (sealS a) = a := by
  have h2 : 2 ≤ (sealS a).size := by rw [seal_size]; omega
  have h := split_b (sealS a) h2
  rw [byts_seal] at h
  refine byts_inj (List.append_inj h ?_).1.symm
  rw [len_byts, len_byts]
  unfold bodyB
  rw [ByteArray.size_extract, seal_size]
  omega
theorem seal_opens (a : ByteArray) : opens (sealS a) = true := by
  unfold opens
  rw [seal_body]
  exact beq_self_eq_true _
theorem openE_seal (a : ByteArray) : openE (sealS a) = 0 := by
  have h2 : ¬ (sealS a).size < 2 := by rw [seal_size]; omega
  unfold openE
  rw [if_neg h2, seal_opens]
  rfl
theorem byts_app (a b : ByteArray) : bytsOf (a ++ b) = bytsOf a ++ bytsOf b := by
  unfold bytsOf
  rw [ByteArray.data_append, Array.toList_append]
theorem byts_cut (s : ByteArray) (i j : Nat) : bytsOf (s.extract i j) = ((bytsOf s).drop i).take (j - i) := by
  unfold bytsOf
  rw [ByteArray.data_extract, Array.toList_extract]
theorem bt_list (s : ByteArray) (k : Nat) : bt s k = ((bytsOf s).getD k 0).toNat := by
  unfold bt bytsOf
  rw [Array.getD_eq_getD_getElem?, List.getD_eq_getElem?_getD, Array.getElem?_toList]
def hdr (k n : Nat) : ByteArray := ⟨#[UInt8.ofNat 183, UInt8.ofNat 1, UInt8.ofNat k, UInt8.ofNat n]⟩
theorem first_put (k : Nat) (b m : ByteArray) (h1 : 1 ≤ k) (h3 : k ≤ 3) (hb : b.size ≤ 200) : firstV (sealS (hdr k b.size ++ b) ++ m) = .tuple #[.int .i64 (k : Nat), .string b, .int .i64 (6 + b.size : Nat), .int .i64 0] := by
  have e : bytsOf (sealS (hdr k b.size ++ b) ++ m) = [UInt8.ofNat 183, UInt8.ofNat 1, UInt8.ofNat k, UInt8.ofNat b.size] ++ bytsOf b ++ be 2 (sumS (hdr k b.size ++ b)) ++ bytsOf m := by
    rw [byts_app, byts_seal, byts_app]; rfl
  have hx : (sealS (hdr k b.size ++ b)).size = 6 + b.size := by
    rw [seal_size, ByteArray.size_append]
    show 4 + b.size + 2 = _
    omega
  have hsz : (sealS (hdr k b.size ++ b) ++ m).size = 6 + b.size + m.size := by rw [ByteArray.size_append, hx]
  have e0 : bt (sealS (hdr k b.size ++ b) ++ m) 0 = 183 := by rw [bt_list, e]; rfl
  have e1 : bt (sealS (hdr k b.size ++ b) ++ m) 1 = 1 := by rw [bt_list, e]; rfl
  have e2 : bt (sealS (hdr k b.size ++ b) ++ m) 2 = k := by
    rw [bt_list, e]
    show (UInt8.ofNat k).toNat = k
    exact UInt8.toNat_ofNat_of_lt' (by show k < 256; omega)
  have e3 : bt (sealS (hdr k b.size ++ b) ++ m) 3 = b.size := by
    rw [bt_list, e]
    show (UInt8.ofNat b.size).toNat = b.size
    exact UInt8.toNat_ofNat_of_lt' (by show b.size < 256; omega)
  have hcut : (sealS (hdr k b.size ++ b) ++ m).extract 0 (6 + b.size) = sealS (hdr k b.size ++ b) := by
    apply byts_inj
    rw [byts_cut, byts_app, List.drop_zero, Nat.sub_zero]
    exact List.take_left' (by rw [len_byts, hx])
  have hbody : (sealS (hdr k b.size ++ b) ++ m).extract 4 (4 + b.size) = b := by
    apply byts_inj
    rw [byts_cut, e]
    rw [List.append_assoc, List.append_assoc, List.drop_left' (by rfl)]
    exact List.take_left' (by rw [len_byts]; omega)
  unfold firstV
  rw [e0, e1, e2, e3, hsz]
  unfold fv
  rw [hcut, openE_seal, hbody, if_neg (by omega), if_neg (by omega), if_neg (by omega), if_neg (by omega), if_neg (by decide)]
end Go.Proofs.Ytimocgjeikgilaa.AE
