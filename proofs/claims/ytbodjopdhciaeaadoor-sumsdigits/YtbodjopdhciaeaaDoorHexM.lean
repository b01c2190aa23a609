/-
  Plain mathematics: hexadecimal digits. It names nothing of the program.
-/
import Derived.Test.YtbodjopdhciaeaaDoorB64
namespace Go.Proofs.YtbodjopdhciaeaaDoor
open Go

def digL : List UInt8 := [48, 49, 50, 51, 52, 53, 54, 55, 56, 57, 97, 98, 99, 100, 101, 102]
def digS : ByteArray := ⟨digL.toArray⟩
def digN (q : Nat) : UInt8 := digL.getD q 0
theorem dig_at (q : Nat) (h : q < 16) : digS[q]'h = digN q := by
  unfold digN
  rw [List.getD_eq_getElem?_getD, List.getElem?_eq_getElem (h := h)]
  rfl
theorem dig_cut (q : Nat) (h : q < 16) : digS.extract q (q + 1) = ⟨#[digN q]⟩ := by
  have : ∀ q, q < 16 → digS.extract q (q + 1) = ⟨#[digN q]⟩ := by decide
  exact this q h
theorem alpha_cut (q : Nat) (h : q < 64) : alphaS.extract q (q + 1) = ⟨#[alphaN q]⟩ := by
  have : ∀ q, q < 64 → alphaS.extract q (q + 1) = ⟨#[alphaN q]⟩ := by decide +kernel
  exact this q h

def isDig (c : UInt8) : Bool := (decide (48 ≤ c.toNat) && decide (c.toNat ≤ 57)) || (decide (97 ≤ c.toNat) && decide (c.toNat ≤ 102))
def hexV (c : UInt8) : Nat := if 48 ≤ c.toNat ∧ c.toNat ≤ 57 then c.toNat - 48 else if 97 ≤ c.toNat ∧ c.toNat ≤ 102 then c.toNat - 87 else 0
theorem hexV_lt (c : UInt8) : hexV c < 16 := by
  unfold hexV
  split
  · omega
  · split <;> omega
theorem dig_is (q : Nat) (h : q < 16) : isDig (digN q) = true ∧ hexV (digN q) = q := by
  have : ∀ q, q < 16 → isDig (digN q) = true ∧ hexV (digN q) = q := by decide
  exact this q h

def hex2 (c : UInt8) : List UInt8 := [digN (c.toNat / 16), digN (c.toNat % 16)]
def hexL (l : List UInt8) : List UInt8 := l.flatMap hex2
theorem hexL_snoc (l : List UInt8) (c : UInt8) : hexL (l ++ [c]) = hexL l ++ hex2 c := by simp [hexL]
theorem hexL_len (l : List UInt8) : (hexL l).length = 2 * l.length := by
  induction l with
  | nil => rfl
  | cons c l ih => show (hex2 c ++ hexL l).length = _; rw [List.length_append, ih]; simp [hex2]; omega
theorem hexL_take (s : ByteArray) (k : Nat) (h : k < s.size) : hexL (s.data.toList.take (k + 1)) = hexL (s.data.toList.take k) ++ hex2 s[k] := by rw [take_snoc s k h, hexL_snoc]

def hexed (l : List UInt8) : Bool := l.all isDig && decide (l.length % 2 = 0)
def pairV (l : List UInt8) (k : Nat) : UInt8 := UInt8.ofNat (hexV (l.getD (2 * k) 0) * 16 + hexV (l.getD (2 * k + 1) 0))
def unhexN (l : List UInt8) (n : Nat) : List UInt8 := (List.range n).map (pairV l)
def unhexL (l : List UInt8) : List UInt8 := unhexN l (l.length / 2)
theorem unhexN_succ (l : List UInt8) (n : Nat) : unhexN l (n + 1) = unhexN l n ++ [pairV l n] := by simp [unhexN, List.range_succ]
theorem unhexN_len (l : List UInt8) (n : Nat) : (unhexN l n).length = n := by simp [unhexN]
theorem unhexL_cons (a b : UInt8) (l : List UInt8) : unhexL (a :: b :: l) = UInt8.ofNat (hexV a * 16 + hexV b) :: unhexL l := by
  unfold unhexL unhexN
  rw [show (a :: b :: l).length / 2 = l.length / 2 + 1 by simp; omega, List.range_succ_eq_map, List.map_cons, List.map_map]
  congr 1
theorem unhex_hex (l : List UInt8) : unhexL (hexL l) = l := by
  induction l with
  | nil => rfl
  | cons c l ih =>
    have hc := byte_lt c
    show unhexL (digN (c.toNat / 16) :: digN (c.toNat % 16) :: hexL l) = _
    rw [unhexL_cons, ih, (dig_is _ (by omega)).2, (dig_is _ (by omega)).2]
    congr 1
    apply UInt8.toNat_inj.1
    simp
    omega
theorem hexed_hex (l : List UInt8) : hexed (hexL l) = true := by
  unfold hexed
  rw [hexL_len]
  have : (hexL l).all isDig = true := by
    induction l with
    | nil => rfl
    | cons c l ih =>
      have hc := byte_lt c
      show (digN (c.toNat / 16) :: digN (c.toNat % 16) :: hexL l).all isDig = true
      rw [List.all_cons, List.all_cons, ih, (dig_is _ (by omega)).1, (dig_is _ (by omega)).1]
      rfl
  rw [this]
  simp
/-- All places below n hold digits. -/
def DigTo (l : List UInt8) (n : Nat) : Prop := ∀ i, i < n → isDig (l.getD i 0) = true
theorem digTo_all (l : List UInt8) (h : DigTo l l.length) : l.all isDig = true := by
  rw [List.all_eq_true]
  intro c hc
  obtain ⟨i, hi, rfl⟩ := List.getElem_of_mem hc
  have := h i hi
  rwa [List.getD_eq_getElem?_getD, List.getElem?_eq_getElem hi] at this
theorem not_all (l : List UInt8) (i : Nat) (hi : i < l.length) (h : isDig (l.getD i 0) = false) : l.all isDig = false := by
  rw [List.all_eq_false]
  refine ⟨l[i], List.getElem_mem hi, ?_⟩
  rw [List.getD_eq_getElem?_getD, List.getElem?_eq_getElem hi] at h
  simpa using h
theorem all_digTo (l : List UInt8) (h : l.all isDig = true) : DigTo l l.length := by
  intro i hi
  rw [List.getD_eq_getElem?_getD, List.getElem?_eq_getElem hi]
  exact List.all_eq_true.1 h _ (List.getElem_mem hi)
theorem getD_at (s : ByteArray) (k : Nat) (h : k < s.size) : s.data.toList.getD k 0 = s[k] := by
  rw [List.getD_eq_getElem?_getD, List.getElem?_eq_getElem (by simpa using h)]
  rfl
theorem len_size (s : ByteArray) : s.data.toList.length = s.size := by simp
end Go.Proofs.YtbodjopdhciaeaaDoor
