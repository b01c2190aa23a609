/-
  Walks of pseudo: rev, written.
  Decimals in a row of bytes: one more, one less (the lists); the row of []byte(s).
  Walks of pseudo: oneMore.
  Walks of calendar: dayThere, timeThere.
  Walks of calendar: Unix.
  Walks of calendar: dayOf, From.
  Digits; walks of calendar: padded.
  Walks of calendar: written, Stamp, Text.
  Walks of calendar: digits, Unstamp.
  Stamps in order; the date of the next second.
-/
import Derived.Test.YtmhjdahmmdfbcaaGreatDoorJShelP
import Derived.Test.YtmhjdahmmdfbcaaGreatDoorJLaid
import Derived.Laws.ResultCell
import Derived.Lib.ItoaNum
import Derived.Lib.Strings
namespace Go.Proofs.YtmhjdahmmdfbcaaGreatDoor
open Go.RowKit

def revB (s : ByteArray) : Bool := decide (s.size = 12) && hexed s.data.toList

theorem rev_any (s : ByteArray) (w : World) : Calls Tryz.prog 25 #[.string s] w fun e w' => e = .returned (.bool (revB s)) ∧ Below w.heap.size w w' := by
  by_cases h : s.size = 12
  · have b1 : ((s.size : Int) != 12) = false := by rw [h]; decide
    cases hh : hexed s.data.toList with
    | true =>
      have HP := hidM (unhex_yes s w (by omega) hh)
      have HR : Hid (revB s = true) := by unfold Hid revB; rw [hh, decide_eq_true h]; rfl
      have HH := hidM h
      clear h hh
      generalize (⟨(unhexL s.data.toList).toArray⟩ : ByteArray) = u at *
      go_enter Tryz.func25, Tryz.ntmps25
      go_wp2_with fail
      refine HP.out.mono ?_
      rintro _ w1 ⟨rfl, hb1⟩
      go_wp2
      go_ret
      exact ⟨by rw [HR.out]; rfl, hb1⟩
    | false =>
      have HP := hidM (unhex_no s w (by omega) hh)
      have HR : Hid (revB s = false) := by unfold Hid revB; rw [hh, decide_eq_true h]; rfl
      have HH := hidM h
      clear h hh
      go_enter Tryz.func25, Tryz.ntmps25
      go_wp2_with fail
      refine HP.out.mono ?_
      rintro _ w1 ⟨rfl, hb1⟩
      go_wp2
      go_ret
      exact ⟨by rw [HR.out]; rfl, hb1⟩
  · have b1 : ((s.size : Int) != 12) = true := by simp only [bne_iff_ne, ne_eq]; omega
    have HR : Hid (revB s = false) := by unfold Hid revB; rw [decide_eq_false h]; rfl
    clear h
    go_enter Tryz.func25, Tryz.ntmps25
    go_wp2
    go_ret
    exact ⟨by rw [HR.out]; rfl, Below.refl _ _⟩

def wriV (v : Ver) : ByteArray := if v.build.data.toList.isEmpty then canV v else canV v ++ (⟨#[43]⟩ ++ v.build)

def verA (v : Ver) : Value := .agg #[.string v.major, .string v.minor, .string v.patch, .string v.pre, .string v.build, .int .i64 (v.short : Int)]

theorem written_any (v : Ver) (w : World) (z1 : v.major.size ≤ 1000) (z2 : v.minor.size ≤ 1000) (z3 : v.patch.size ≤ 1000) (z4 : v.pre.size ≤ 1000) (z5 : v.build.size ≤ 1000) :
    Calls Tryz.prog 28 #[verA v] w fun e w' => e = .returned (.string (wriV v)) ∧ Below w.heap.size w w' := by
  have HC : Hid (wriV v = if v.build.data.toList.isEmpty then (if v.pre.data.toList.isEmpty then (⟨#[118]⟩ : ByteArray) ++ v.major ++ ⟨#[46]⟩ ++ v.minor ++ ⟨#[46]⟩ ++ v.patch else (⟨#[118]⟩ : ByteArray) ++ v.major ++ ⟨#[46]⟩ ++ v.minor ++ ⟨#[46]⟩ ++ v.patch ++ (⟨#[45]⟩ ++ v.pre)) else (if v.pre.data.toList.isEmpty then (⟨#[118]⟩ : ByteArray) ++ v.major ++ ⟨#[46]⟩ ++ v.minor ++ ⟨#[46]⟩ ++ v.patch else (⟨#[118]⟩ : ByteArray) ++ v.major ++ ⟨#[46]⟩ ++ v.minor ++ ⟨#[46]⟩ ++ v.patch ++ (⟨#[45]⟩ ++ v.pre)) ++ (⟨#[43]⟩ ++ v.build)) := rfl
  have he := empty_beq v.pre
  have hf := empty_beq v.build
  unfold verA
  generalize wriV v = R at *
  generalize v.major = a at *
  generalize v.minor = b at *
  generalize v.patch = c at *
  generalize v.pre = d at *
  generalize v.build = e at *
  generalize (v.short : Int) = n at *
  cases h0 : d.data.toList.isEmpty with
  | true =>
    cases h1 : e.data.toList.isEmpty with
    | true =>
      rw [h0] at he HC
      rw [h1] at hf HC
      clear h0 h1
      go_enter Tryz.func28, Tryz.ntmps28
      go_wp2
      go_ret
      exact ⟨by rw [HC.out]; rfl, (Below.refl _ _).alloc (Nat.le_refl _) _⟩
    | false =>
      rw [h0] at he HC
      rw [h1] at hf HC
      clear h0 h1
      go_enter Tryz.func28, Tryz.ntmps28
      go_wp2
      go_ret
      exact ⟨by rw [HC.out]; rfl, (Below.refl _ _).alloc (Nat.le_refl _) _⟩
  | false =>
    cases h1 : e.data.toList.isEmpty with
    | true =>
      rw [h0] at he HC
      rw [h1] at hf HC
      clear h0 h1
      go_enter Tryz.func28, Tryz.ntmps28
      go_wp2
      go_ret
      exact ⟨by rw [HC.out]; rfl, (Below.refl _ _).alloc (Nat.le_refl _) _⟩
    | false =>
      rw [h0] at he HC
      rw [h1] at hf HC
      clear h0 h1
      go_enter Tryz.func28, Tryz.ntmps28
      go_wp2
      go_ret
      exact ⟨by rw [HC.out]; rfl, (Below.refl _ _).alloc (Nat.le_refl _) _⟩
end Go.Proofs.YtmhjdahmmdfbcaaGreatDoor
namespace Go.Proofs.YtmhjdahmmdfbcaaGreatDoor
open Go.RowKit

/-- bytes that stand in a block from its first cell on, and may be written -/
structure DRow (V : World) (b : Nat) (l : List UInt8) : Prop where
  cell : ∀ j (hj : j < l.length), V.cell? ⟨b, j, none⟩ = some (.int .u8 (l[j].toNat : Int))
  free : ∀ j, j < l.length → V.frozen? ⟨b, j, none⟩ = false

theorem DRow.set {V : World} {b : Nat} {l : List UInt8} (h : DRow V b l) (p : Nat) (hp : p < l.length) (y : UInt8) : DRow (V.setCell ⟨b, p, none⟩ (.int .u8 (y.toNat : Int))) b (l.set p y) := by
  refine ⟨fun j hj => ?_, fun j hj => ?_⟩
  · have hj' : j < l.length := by simpa using hj
    by_cases hjp : p = j
    · subst hjp
      rw [World.cell?_setCell_same _ _ _ (h.cell p hp), List.getElem_set_self]
    · rw [World.cell?_setCell_other _ _ _ _ (by intro h; cases h; exact hjp rfl), h.cell j hj', List.getElem_set_ne hjp]
  · rw [World.frozen?_setCell]
    exact h.free j (by simpa using hj)
theorem DRow.back {V : World} {b cap : Nat} {l : List UInt8} (h : DRow V b l) :
    (convert 71 9 (.slice (some ⟨b, 0, none⟩) l.length cap)).run Tryz.prog V = .ok (.string ⟨l.toArray⟩) V :=
  run_convert_bytes_back (P := Tryz.prog) V 71 9 5 ⟨b, 0, none⟩ cap l Tryz.underlying71 Tryz.underlying5 Tryz.underlying9 (fun j hj => by
    have ha : (⟨b, 0, none⟩ : Addr).add j = ⟨b, j, none⟩ := by rw [Addr.add_lit, Nat.zero_add]
    rw [ha]
    exact h.cell j hj)
theorem DRow.back1 {V : World} {b cap : Nat} {c : UInt8} {l : List UInt8} (h : DRow V b (c :: l)) :
    (convert 71 9 (.slice (some ⟨b, 1, none⟩) l.length cap)).run Tryz.prog V = .ok (.string ⟨l.toArray⟩) V :=
  run_convert_bytes_back (P := Tryz.prog) V 71 9 5 ⟨b, 1, none⟩ cap l Tryz.underlying71 Tryz.underlying5 Tryz.underlying9 (fun j hj => by
    have ha : (⟨b, 1, none⟩ : Addr).add j = ⟨b, j + 1, none⟩ := by rw [Addr.add_lit, Nat.add_comm]
    rw [ha]
    exact h.cell (j + 1) (by simpa using hj))
theorem row_string (w : World) (s : ByteArray) (hs : s.size ≤ 1000000000) :
    ∃ cap W, (convert 9 71 (.string s)).run Tryz.prog w = .ok (.slice (some ⟨w.heap.size, 0, none⟩) s.size cap) W ∧ s.size ≤ cap ∧ cap ≤ maxLen ∧ DRow W w.heap.size s.data.toList ∧ Below w.heap.size w W := by
  have h := run_bytes_of_string (P := Tryz.prog) w 9 71 5 s Tryz.underlying9 Tryz.underlying71 Tryz.underlying5
  have hge := grownCap_ge w s.size 0 5
  have hcm := grownCap_le_maxLen w s.size 0 5 (by unfold maxLen; omega)
  have hsz : (bytesRow s (grownCap w s.size 0 5)).size = grownCap w s.size 0 5 := by unfold bytesRow; simp; omega
  refine ⟨_,_, h, hge, hcm, ⟨fun j hj => ?_, fun j hj => ?_⟩, ((Below.refl _ _).drew).alloc (by simp) _⟩
  · rw [cell_of_row _ w.heap.size j _ 5 _ (heap_alloc_new w.drew _)]
    have h2 := bytesV_at s.data.toList j hj
    have ht : (bytesRow s (grownCap w s.size 0 5)).toList.take s.data.toList.length = bytesV s.data.toList := by
      unfold bytesRow
      rw [Array.toList_append, List.take_append_of_le_length (by simp), List.take_of_length_le (by simp)]
      simp [bytesV]
    rw [← ht, List.getElem?_take, if_pos hj] at h2
    simpa using h2
  · have hj' : j < s.size := by rw [← len_size]; exact hj
    unfold World.frozen?
    have hh := heap_alloc_new w.drew (.cells (bytesRow s (grownCap w s.size 0 5)) 5 ((bytesRow s (grownCap w s.size 0 5)).size, (bytesRow s (grownCap w s.size 0 5)).size + 1))
    rw [show w.drew.heap.size = w.heap.size from rfl] at hh
    simp only [hh]
    simp only [hsz]
    have : ¬ grownCap w s.size 0 5 ≤ j := by omega
    simp [this]

/-- where the nines at the end begin -/
def nineK (l : List UInt8) : Nat → Nat
  | 0 => 0
  | k + 1 => if l.getD k 0 = 57 then nineK l k else k + 1
def moreAt (l : List UInt8) (k : Nat) : List UInt8 := match k with
  | 0 => 49 :: List.replicate l.length 48
  | m + 1 => l.take m ++ (l.getD m 0 + 1) :: List.replicate (l.length - (m + 1)) 48
def moreL (l : List UInt8) : List UInt8 := moreAt l (nineK l l.length)
/-- where the last digit stands that is no nought; 0 at the latest -/
def noughtK (l : List UInt8) : Nat → Nat
  | 0 => 0
  | k + 1 => if l.getD (k + 1) 0 = 48 then noughtK l k else k + 1
def lessAt (l : List UInt8) (m : Nat) : List UInt8 := l.take m ++ (l.getD m 0 - 1) :: List.replicate (l.length - (m + 1)) 57
def trim0 (l : List UInt8) : List UInt8 := match l with
  | c :: d :: r => if c = 48 then d :: r else c :: d :: r
  | l => l
def lessL (l : List UInt8) : List UInt8 := trim0 (lessAt l (noughtK l (l.length - 1)))

theorem set_row (l : List UInt8) (m : Nat) (c : UInt8) (h : m < l.length) : (l.take (m + 1) ++ List.replicate (l.length - (m + 1)) c).set m c = l.take m ++ List.replicate (l.length - m) c := by
  apply List.ext_getElem
  · simp; omega
  · intro i h1 h2
    grind
theorem set_end (l : List UInt8) (m : Nat) (c d : UInt8) (h : m < l.length) : (l.take (m + 1) ++ List.replicate (l.length - (m + 1)) c).set m d = l.take m ++ d :: List.replicate (l.length - (m + 1)) c := by
  apply List.ext_getElem
  · simp; omega
  · intro i h1 h2
    grind
theorem at_row (l : List UInt8) (m : Nat) (c : UInt8) (h : m < l.length) (h2 : m < (l.take (m + 1) ++ List.replicate (l.length - (m + 1)) c).length) : (l.take (m + 1) ++ List.replicate (l.length - (m + 1)) c)[m] = l[m] := by
  grind
theorem getD_in (l : List UInt8) (m : Nat) (h : m < l.length) : l.getD m 0 = l[m] := by simp [h]
end Go.Proofs.YtmhjdahmmdfbcaaGreatDoor
namespace Go.Proofs.YtmhjdahmmdfbcaaGreatDoor
open Go.RowKit

theorem byte_inc (c : UInt8) (h : c.toNat ≤ 57) : (c + 1).toNat = c.toNat + 1 := by
  rw [UInt8.toNat_add]
  have : (1 : UInt8).toNat = 1 := rfl
  omega

theorem nineK_succ (l : List UInt8) (m : Nat) : nineK l (m + 1) = if l.getD m 0 = 57 then nineK l m else m + 1 := rfl
theorem moreAt_succ (l : List UInt8) (m : Nat) : moreAt l (m + 1) = l.take m ++ (l.getD m 0 + 1) :: List.replicate (l.length - (m + 1)) 48 := rfl
set_option maxHeartbeats 2000000 in
set_option maxRecDepth 100000 in
theorem oneMore_any (s : ByteArray) (w : World) (hs : s.size ≤ 1000) (h0 : 0 < s.size) (hd : ∀ c ∈ s.data.toList, c.toNat ≤ 57) :
    Calls Tryz.prog 27 #[.string s] w fun e w' => e = .returned (.string ⟨(moreL s.data.toList).toArray⟩) ∧ Below w.heap.size w w' := by
  obtain ⟨cap, w1, hcv, hcap, hcm, hrow, hb1⟩ := row_string w s (by omega)
  have HLen := hidM (len_size s)
  have HD := hidM hd
  have HROW := hidM hrow
  have HB1 := hidM hb1
  clear hd hrow hb1
  generalize s.data.toList = l at *
  obtain ⟨n1, hn1⟩ : ∃ n1 : Nat, s.size = n1 + 1 := ⟨s.size - 1, by omega⟩
  have e1 : (s.size : Int) - 1 = (n1 : Int) := by omega
  have HN1 := hidM hn1
  clear hn1
  go_enter Tryz.func27, Tryz.ntmps27
  go_wp2
  go_loopw [4] (fun iv wr => ∃ (k : Nat) (a : Int), k ≤ s.size ∧ iv = .int .i64 a ∧ a = (k : Int) - 1 ∧ nineK l l.length = nineK l k ∧ DRow wr w.heap.size (l.take k ++ List.replicate (l.length - k) 48) ∧ Below w.heap.size w wr) (fun i _ => ((intOf i) + 1).toNat)
  case atStart => exact ⟨s.size, _, Nat.le_refl _, rfl, by omega, by rw [HLen.out], by rw [← HLen.out, List.take_length, Nat.sub_self]; simpa using HROW.out, HB1.out⟩
  case round =>
    obtain ⟨k, a, hk, rfl, ha, hni, hrw, hbr⟩ := hrel
    have HNI := hidM hni
    have HRW := hidM hrw
    have HBR := hidM hbr
    clear hni hrw hbr HROW HB1 hcv
    cases k with
    | zero =>
      obtain rfl : a = -1 := by omega
      clear ha
      have HR : Hid (moreL l = 49 :: List.replicate l.length 48) := by unfold Hid moreL; rw [HNI.out]; rfl
      have hr2 : DRow wr w.heap.size (List.replicate l.length 48) := by simpa using HRW.out
      have HCV := hidM (hr2.back (cap := cap))
      have HU : Hid ((⟨#[49]⟩ : ByteArray) ++ ⟨(List.replicate l.length 48).toArray⟩ = ⟨(49 :: List.replicate l.length 48).toArray⟩) := by
        unfold Hid
        apply ByteArray.ext
        rw [ByteArray.data_append]
        simp
      have hus : (⟨(List.replicate l.length 48).toArray⟩ : ByteArray).size ≤ 1000 := by
        show (List.replicate l.length (48 : UInt8)).toArray.size ≤ _
        rw [List.size_toArray, List.length_replicate, HLen.out]; omega
      rw [List.length_replicate, HLen.out] at HCV
      clear hr2 HRW HNI
      rw [HLen.out] at HU HR hus
      have hcv := HCV.out
      clear HCV
      generalize (⟨(List.replicate s.size 48).toArray⟩ : ByteArray) = u at *
      go_wp2
      go_ret
      exact ⟨by rw [HR.out, ← HU.out]; rfl, HBR.out⟩
    | succ m =>
      obtain rfl : a = (m : Int) := by omega
      clear ha
      have hml : m < l.length := by rw [HLen.out]; omega
      have gm : (m : Int) < (s.size : Int) := by omega
      have HLL : Hid ((l.take (m + 1) ++ List.replicate (l.length - (m + 1)) 48).length = s.size) := by unfold Hid; rw [← HLen.out]; simp; omega
      have hmr : m < (l.take (m + 1) ++ List.replicate (l.length - (m + 1)) 48).length := by rw [HLL.out]; omega
      have hc := HRW.out.cell m hmr
      have hf := HRW.out.free m hmr
      rw [at_row l m 48 hml hmr] at hc
      have hle := HD.out l[m] (List.getElem_mem hml)
      by_cases h9 : l[m] = 57
      · have HNX : Hid (nineK l l.length = nineK l m) := by unfold Hid; rw [HNI.out, nineK_succ, getD_in l m hml, if_pos h9]
        have HS := HRW.out.set m hmr 48
        rw [set_row l m 48 hml] at HS
        have HS' := hidM HS
        rw [h9] at hc
        clear HS h9 hle HRW HNI
        go_wp2
        go_roundw
        case rel => exact ⟨m, _, by omega, rfl, by go_num, HNX.out, HS'.out, HBR.out.setCell (Nat.le_refl _) _⟩
        case measure => simp [intOf]
      · have b1 : ((l[m].toNat : Int) == 57) = false := by
          simp only [beq_eq_false_iff_ne, ne_eq]
          intro h
          exact h9 (UInt8.toNat_inj.1 (by show l[m].toNat = 57; omega))
        have HR : Hid (moreL l = l.take m ++ (l[m] + 1) :: List.replicate (l.length - (m + 1)) 48) := by
          unfold Hid moreL
          rw [HNI.out, nineK_succ, getD_in l m hml, if_neg h9, moreAt_succ, getD_in l m hml]
        have HS := HRW.out.set m hmr (l[m] + 1)
        rw [set_end l m 48 _ hml, byte_inc _ hle, Int.natCast_add, Int.natCast_one] at HS
        have HL2 : Hid ((l.take m ++ (l[m] + 1) :: List.replicate (l.length - (m + 1)) 48).length = s.size) := by unfold Hid; rw [← HLen.out]; simp; omega
        have hcv := HS.back (cap := cap)
        rw [HL2.out, ← HR.out] at hcv
        clear HS h9 HRW HNI HR HL2
        generalize l[m] = x at *
        obtain ⟨u, hu⟩ : ∃ u, u = (⟨(moreL l).toArray⟩ : ByteArray) := ⟨_, rfl⟩
        rw [← hu] at hcv
        have HU := hidM hu
        clear hu
        go_wp2
        go_ret
        exact ⟨by rw [← HU.out]; rfl, HBR.out.setCell (Nat.le_refl _) _⟩

theorem byte_dec (c : UInt8) (h : 1 ≤ c.toNat) : (c - 1).toNat = c.toNat - 1 := by
  rw [UInt8.toNat_sub]
  have h1 : (1 : UInt8).toNat = 1 := rfl
  have h2 := c.toNat_lt
  omega
theorem noughtK_succ (l : List UInt8) (m : Nat) : noughtK l (m + 1) = if l.getD (m + 1) 0 = 48 then noughtK l m else m + 1 := rfl
theorem trim_one {c : UInt8} : trim0 [c] = [c] := rfl
theorem trim_no {c d : UInt8} {r : List UInt8} (h : c ≠ 48) : trim0 (c :: d :: r) = c :: d :: r := by simp [trim0, h]
theorem trim_yes {d : UInt8} {r : List UInt8} : trim0 (48 :: d :: r) = d :: r := by simp [trim0]

set_option maxHeartbeats 2000000 in
set_option maxRecDepth 100000 in
theorem oneLess_any (s : ByteArray) (w : World) (hs : s.size ≤ 1000) (h0 : 0 < s.size) (hd : ∀ c ∈ s.data.toList, 1 ≤ c.toNat) :
    Calls Tryz.prog 66 #[.string s] w fun e w' => e = .returned (.string ⟨(lessL s.data.toList).toArray⟩) ∧ Below w.heap.size w w' := by
  obtain ⟨cap, w1, hcv, hcap, hcm, hrow, hb1⟩ := row_string w s (by omega)
  have HLen := hidM (len_size s)
  have HD := hidM hd
  have HROW := hidM hrow
  have HB1 := hidM hb1
  clear hd hrow hb1
  generalize s.data.toList = l at *
  obtain ⟨n1, hn1⟩ : ∃ n1 : Nat, s.size = n1 + 1 := ⟨s.size - 1, by omega⟩
  have e1 : (s.size : Int) - 1 = (n1 : Int) := by omega
  have HN1 := hidM hn1
  have HST : Hid (l.length - 1 = n1) := by unfold Hid; rw [HLen.out]; omega
  clear hn1
  go_enter Tryz.func66, Tryz.ntmps66
  go_wp2
  go_loopw [4] (fun iv wr => ∃ k : Nat, k < s.size ∧ iv = .int .i64 (k : Int) ∧ noughtK l n1 = noughtK l k ∧ DRow wr w.heap.size (l.take (k + 1) ++ List.replicate (l.length - (k + 1)) 57) ∧ Below w.heap.size w wr) (fun i _ => (intOf i).toNat)
  case atStart => exact ⟨n1, by rw [HN1.out]; omega, rfl, rfl, by rw [← HN1.out, ← HLen.out, List.take_length, Nat.sub_self]; simpa using HROW.out, HB1.out⟩
  case round =>
    obtain ⟨k, hk, rfl, hni, hrw, hbr⟩ := hrel
    have HNI := hidM hni
    have HRW := hidM hrw
    have HBR := hidM hbr
    clear hni hrw hbr HROW HB1 hcv
    have hml : k < l.length := by rw [HLen.out]; omega
    have gm : (k : Int) < (s.size : Int) := by omega
    have HLL : Hid ((l.take (k + 1) ++ List.replicate (l.length - (k + 1)) 57).length = s.size) := by unfold Hid; rw [← HLen.out]; simp; omega
    have hmr : k < (l.take (k + 1) ++ List.replicate (l.length - (k + 1)) 57).length := by rw [HLL.out]; omega
    have hc := HRW.out.cell k hmr
    have hf := HRW.out.free k hmr
    rw [at_row l k 57 hml hmr] at hc
    have hle := HD.out l[k] (List.getElem_mem hml)
    by_cases hgo : 0 < k ∧ l[k] = 48
    · obtain ⟨hk0, h9⟩ := hgo
      obtain ⟨m, rfl⟩ : ∃ m, k = m + 1 := ⟨k - 1, by omega⟩
      have HNX : Hid (noughtK l n1 = noughtK l m) := by unfold Hid; rw [HNI.out, noughtK_succ, getD_in l (m + 1) hml, if_pos h9]
      have HS := HRW.out.set (m + 1) hmr 57
      rw [set_row l (m + 1) 57 hml] at HS
      have HS' := hidM HS
      rw [h9] at hc
      clear HS h9 hle HRW HNI
      have g0 : (0 : Int) < ((m + 1 : Nat) : Int) := by omega
      go_wp2
      go_roundw
      case rel => exact ⟨m, by omega, by go_num, HNX.out, HS'.out, HBR.out.setCell (Nat.le_refl _) _⟩
      case measure => simp [intOf]
    · have HR : Hid (lessL l = trim0 (l.take k ++ (l[k] - 1) :: List.replicate (l.length - (k + 1)) 57)) := by
        unfold Hid lessL
        rw [HST.out, HNI.out]
        have hkk : noughtK l k = k := by
          cases k with
          | zero => rfl
          | succ m => rw [noughtK_succ, getD_in l (m + 1) hml, if_neg (fun h => hgo ⟨by omega, h⟩)]
        rw [hkk]
        unfold lessAt
        rw [getD_in l k hml]
      have HS := HRW.out.set k hmr (l[k] - 1)
      rw [set_end l k 57 _ hml] at HS
      have e3 : (l[k].toNat : Int) - 1 = ((l[k] - 1).toNat : Int) := by rw [byte_dec _ hle]; omega
      have hy : (l[k] - 1).toNat < 256 := (l[k] - 1).toNat_lt
      have HL2 : Hid ((l.take k ++ (l[k] - 1) :: List.replicate (l.length - (k + 1)) 57).length = s.size) := by unfold Hid; rw [← HLen.out]; simp; omega
      have HB2 : Hid (Below w.heap.size w (wr.setCell ⟨w.heap.size, k, none⟩ (.int .u8 ((l[k] - 1).toNat : Int)))) := HBR.out.setCell (Nat.le_refl _) _
      have HSS := hidM HS
      clear HS HRW HNI HLL hmr
      generalize l.take k ++ (l[k] - 1) :: List.replicate (l.length - (k + 1)) 57 = L at *
      have b1 : (decide ((0 : Int) < (k : Int)) && ((l[k].toNat : Int) == 48)) = false := by
        cases hb : (decide ((0 : Int) < (k : Int)) && ((l[k].toNat : Int) == 48)) with
        | false => rfl
        | true =>
          simp only [Bool.and_eq_true, decide_eq_true_eq, beq_iff_eq] at hb
          exact absurd ⟨by omega, UInt8.toNat_inj.1 (by show l[k].toNat = 48; omega)⟩ hgo
      generalize (l[k] - 1).toNat = y at *
      generalize l[k] = x at *
      cases L with
      | nil => exact absurd HL2.out (by simp; omega)
      | cons c r =>
        have hz := HSS.out.cell 0 (by simp)
        rw [List.getElem_cons_zero] at hz
        cases r with
        | nil =>
          have hs1 : s.size = 1 := HL2.out.symm
          obtain rfl : k = 0 := by omega
          have hcv := HSS.out.back (cap := cap)
          rw [HL2.out] at hcv
          rw [trim_one] at HR
          have b2 : ¬ (1 : Int) < (s.size : Int) := by omega
          have HH1 := hidM hs1
          clear HSS HL2 HN1 hs1 hz b1 hgo
          go_wp2
          go_ret
          exact ⟨by rw [HR.out]; rfl, HB2.out⟩
        | cons d r =>
          have HRL : Hid (r.length + 2 = s.size) := HL2.out
          have b2 : (1 : Int) < (s.size : Int) := by have := HRL.out; omega
          by_cases h48 : c = 48
          · subst h48
            rw [trim_yes] at HR
            have hcv := HSS.out.back1 (cap := cap - 1)
            obtain ⟨n2, hn2⟩ : ∃ n2 : Nat, n2 = (d :: r).length := ⟨_, rfl⟩
            rw [← hn2] at hcv
            have e4 : (s.size : Int) - 1 = (n2 : Int) := by have := HRL.out; simp at hn2; omega
            have e5 : (n1 : Int) = (n2 : Int) := by omega
            have e6 : s.size - 1 = n2 := by omega
            have hz' : (wr.setCell ⟨w.heap.size, k, none⟩ (.int .u8 (y : Int))).cell? ⟨w.heap.size, 0, none⟩ = some (.int .u8 48) := hz
            clear HSS HL2 hz hn2 hgo
            rcases Nat.eq_zero_or_pos k with rfl | hk0
            · go_wp2
              go_ret
              exact ⟨by rw [HR.out]; rfl, HB2.out⟩
            · have g0 : (0 : Int) < (k : Int) := by omega
              have b4 : ((x.toNat : Int) == 48) = false := by rw [decide_eq_true g0, Bool.true_and] at b1; exact b1
              clear b1
              go_wp2
              go_ret
              exact ⟨by rw [HR.out]; rfl, HB2.out⟩
          · rw [trim_no h48] at HR
            have hcv := HSS.out.back (cap := cap)
            rw [HL2.out] at hcv
            have b3 : ((c.toNat : Int) == 48) = false := by
              simp only [beq_eq_false_iff_ne, ne_eq]
              intro h
              exact h48 (UInt8.toNat_inj.1 (by show c.toNat = 48; omega))
            clear HSS HL2 hgo h48
            rcases Nat.eq_zero_or_pos k with rfl | hk0
            · go_wp2
              go_ret
              exact ⟨by rw [HR.out]; rfl, HB2.out⟩
            · have g0 : (0 : Int) < (k : Int) := by omega
              have b4 : ((x.toNat : Int) == 48) = false := by rw [decide_eq_true g0, Bool.true_and] at b1; exact b1
              clear b1
              go_wp2
              go_ret
              exact ⟨by rw [HR.out]; rfl, HB2.out⟩
end Go.Proofs.YtmhjdahmmdfbcaaGreatDoor
namespace Go.Proofs.YtmhjdahmmdfbcaaGreatDoor
open Go.RowKit
/-- is there such a day -/
def dayB (y m d : Int) : Bool := decide (1 ≤ y ∧ y ≤ 9999 ∧ 1 ≤ d ∧ d ≤ (daysI y m : Nat))
def timeB (h mi s : Int) : Bool := decide (0 ≤ h ∧ h < 24) && decide (0 ≤ mi ∧ mi < 60) && decide (0 ≤ s ∧ s < 60)
set_option maxHeartbeats 1000000 in
set_option maxRecDepth 100000 in
theorem dayThere_any (y m d h mi s k : Int) (w : World) (hG : GT w) :
    Calls Tryz.prog 118 #[.agg #[.int .i64 y, .int .i64 m, .int .i64 d, .int .i64 h, .int .i64 mi, .int .i64 s, .int .i64 k]] w fun e w' => e = .returned (.bool (dayB y m d)) ∧ Below w.heap.size w w' := by
  have HB0 : Hid (Below w.heap.size w (w.alloc (.cells #[.int .i64 y, .int .i64 m, .int .i64 d, .int .i64 h, .int .i64 mi, .int .i64 s, .int .i64 k] 111))) := (Below.refl _ w).alloc (Nat.le_refl _) _
  have HG := hidM (hG.below HB0.out)
  have HD : Hid (∀ n, Calls Tryz.prog 121 #[.int .i64 y, .int .i64 m] ((w.alloc (.cells #[.int .i64 y, .int .i64 m, .int .i64 d, .int .i64 h, .int .i64 mi, .int .i64 s, .int .i64 k] 111)).drewN n) fun e w' => e = .returned (.int .i64 (daysI y m : Nat)) ∧ w' = (w.alloc (.cells #[.int .i64 y, .int .i64 m, .int .i64 d, .int .i64 h, .int .i64 mi, .int .i64 s, .int .i64 k] 111)).drewN n) := fun n => days_any y m _ (HG.out.below (below_drewN (Below.refl _ _) n))
  clear hG
  by_cases h1 : 1 ≤ y
  · have b1 : decide (1 ≤ y) = true := by simpa using h1
    by_cases h2 : y ≤ 9999
    · have b2 : decide (y ≤ 9999) = true := by simpa using h2
      by_cases h3 : 1 ≤ d
      · have b3 : decide (1 ≤ d) = true := by simpa using h3
        have hr : dayB y m d = decide (d ≤ (daysI y m : Nat)) := by unfold dayB; simp [h1, h2, h3]
        rw [hr]
        go_enter Tryz.func118, Tryz.ntmps118
        go_wp2
        go_quiet ((go_at_call 121; exact Calls.quiet_of_same (HD.out _)))
        go_wp2
        go_ret
        exact ⟨rfl, below_drewN HB0.out _⟩
      · have b3 : decide (1 ≤ d) = false := by simpa using h3
        have hr : dayB y m d = false := by unfold dayB; simp [h3]
        rw [hr]
        go_enter Tryz.func118, Tryz.ntmps118
        go_wp2
        go_quiet (fail)
        go_wp2
        go_ret
        exact ⟨rfl, below_drewN HB0.out _⟩
    · have b2 : decide (y ≤ 9999) = false := by simpa using h2
      have hr : dayB y m d = false := by unfold dayB; simp [h2]
      rw [hr]
      go_enter Tryz.func118, Tryz.ntmps118
      go_wp2
      go_quiet (fail)
      go_wp2
      go_ret
      exact ⟨rfl, below_drewN HB0.out _⟩
  · have b1 : decide (1 ≤ y) = false := by simpa using h1
    have hr : dayB y m d = false := by unfold dayB; simp [h1]
    rw [hr]
    go_enter Tryz.func118, Tryz.ntmps118
    go_wp2
    go_quiet (fail)
    go_wp2
    go_ret
    exact ⟨rfl, below_drewN HB0.out _⟩
set_option maxHeartbeats 1000000 in
set_option maxRecDepth 100000 in
theorem timeThere_any (y m d h mi s k : Int) (w : World) :
    Calls Tryz.prog 119 #[.agg #[.int .i64 y, .int .i64 m, .int .i64 d, .int .i64 h, .int .i64 mi, .int .i64 s, .int .i64 k]] w fun e w' => e = .returned (.bool (timeB h mi s)) ∧ Below w.heap.size w w' := by
  have HB0 : Hid (Below w.heap.size w (w.alloc (.cells #[.int .i64 y, .int .i64 m, .int .i64 d, .int .i64 h, .int .i64 mi, .int .i64 s, .int .i64 k] 111))) := (Below.refl _ w).alloc (Nat.le_refl _) _
  have H1 := hidM (fun V => below_any h 24 V)
  have H2 := hidM (fun V => below_any mi 60 V)
  have H3 := hidM (fun V => below_any s 60 V)
  unfold timeB
  generalize decide (0 ≤ h ∧ h < 24) = b1 at *
  generalize decide (0 ≤ mi ∧ mi < 60) = b2 at *
  generalize decide (0 ≤ s ∧ s < 60) = b3 at *
  cases b1 with
  | false =>
    go_enter Tryz.func119, Tryz.ntmps119
    go_wp2_with fail
    refine (H1.out _).mono ?_
    rintro _ _ ⟨rfl, rfl⟩
    go_wp2
    go_ret
    exact ⟨rfl, HB0.out⟩
  | true =>
    cases b2 with
    | false =>
      go_enter Tryz.func119, Tryz.ntmps119
      go_wp2_with fail
      refine (H1.out _).mono ?_
      rintro _ _ ⟨rfl, rfl⟩
      go_wp2_with fail
      refine (H2.out _).mono ?_
      rintro _ _ ⟨rfl, rfl⟩
      go_wp2
      go_ret
      exact ⟨rfl, HB0.out⟩
    | true =>
      go_enter Tryz.func119, Tryz.ntmps119
      go_wp2_with fail
      refine (H1.out _).mono ?_
      rintro _ _ ⟨rfl, rfl⟩
      go_wp2_with fail
      refine (H2.out _).mono ?_
      rintro _ _ ⟨rfl, rfl⟩
      go_wp2_with fail
      refine (H3.out _).mono ?_
      rintro _ _ ⟨rfl, rfl⟩
      go_wp2
      go_ret
      exact ⟨rfl, HB0.out⟩
end Go.Proofs.YtmhjdahmmdfbcaaGreatDoor
namespace Go.Proofs.YtmhjdahmmdfbcaaGreatDoor
open Go.RowKit
theorem cells7 {w : World} {b : Nat} {v0 v1 v2 v3 v4 v5 v6 : Value} (h : w.heap[b]? = some (.cells #[v0, v1, v2, v3, v4, v5, v6] 111)) :
    w.cell? ⟨b, 0, none⟩ = some v0 ∧ w.cell? ⟨b, 1, none⟩ = some v1 ∧ w.cell? ⟨b, 2, none⟩ = some v2 ∧ w.cell? ⟨b, 3, none⟩ = some v3 ∧ w.cell? ⟨b, 4, none⟩ = some v4 ∧ w.cell? ⟨b, 5, none⟩ = some v5 ∧ w.cell? ⟨b, 6, none⟩ = some v6 := by
  refine ⟨?_, ?_, ?_, ?_, ?_, ?_, ?_⟩ <;> rw [cell_of_row _ _ _ _ 111 (0, 0) h] <;> rfl
set_option maxHeartbeats 1000000 in
set_option maxRecDepth 100000 in
theorem unix_no (y m d h mi s k : Int) (w : World) (hG : GT w) (hn : (dayB y m d && timeB h mi s) = false) :
    Calls Tryz.prog 97 #[.agg #[.int .i64 y, .int .i64 m, .int .i64 d, .int .i64 h, .int .i64 mi, .int .i64 s, .int .i64 k]] w fun e w' => e = .returned (.tuple #[.int .i64 0, .int .i64 1]) ∧ Below w.heap.size w w' := by
  have HB0 : Hid (Below w.heap.size w (w.alloc (.cells #[.int .i64 y, .int .i64 m, .int .i64 d, .int .i64 h, .int .i64 mi, .int .i64 s, .int .i64 k] 111))) := (Below.refl _ w).alloc (Nat.le_refl _) _
  have HG := hidM hG
  have hx := heap_alloc_new w (.cells #[.int .i64 y, .int .i64 m, .int .i64 d, .int .i64 h, .int .i64 mi, .int .i64 s, .int .i64 k] 111)
  have HX := hidM hx
  clear hG hx
  have H1 := hidM (dayThere_any y m d h mi s k _ (HG.out.below HB0.out))
  have H2 := hidM (fun V => timeThere_any y m d h mi s k V)
  generalize dayB y m d = b1 at *
  generalize timeB h mi s = b2 at *
  generalize hW : (w.alloc (.cells #[.int .i64 y, .int .i64 m, .int .i64 d, .int .i64 h, .int .i64 mi, .int .i64 s, .int .i64 k] 111)) = W at *
  cases b1 with
  | false =>
    clear hn H2
    subst hW
    go_enter Tryz.func97, Tryz.ntmps97
    go_wp2_with fail
    refine H1.out.mono ?_
    rintro _ w1 ⟨rfl, hb1⟩
    have HB1 := hidM (HB0.out.trans (hb1.mono HB0.out.size))
    clear hb1
    go_wp2
    go_ret2
    exact ⟨rfl, HB1.out⟩
  | true =>
    obtain rfl : b2 = false := by simpa using hn
    clear hn
    subst hW
    go_enter Tryz.func97, Tryz.ntmps97
    go_wp2_with fail
    refine H1.out.mono ?_
    rintro _ w1 ⟨rfl, hb1⟩
    have HB1 := hidM (HB0.out.trans (hb1.mono HB0.out.size))
    obtain ⟨c0, c1, c2, c3, c4, c5, c6⟩ := cells7 (box_kept HX.out hb1)
    clear hb1
    go_wp2_with fail
    refine (H2.out w1).mono ?_
    rintro _ w2 ⟨rfl, hb2⟩
    have HB2 := hidM (HB1.out.trans (hb2.mono HB1.out.size))
    clear hb2
    go_wp2
    go_ret2
    exact ⟨rfl, HB2.out⟩
theorem day_yes {D y m d : Nat} (h : IsDay D y m d) : dayB (y : Int) (m : Int) (d : Int) = true := by
  unfold dayB
  rw [days_cast]
  have := h.y1; have := h.y2; have := h.d1; have := h.d2
  exact decide_eq_true ⟨by omega, by omega, by omega, by omega⟩
theorem time_yes {h mi s : Nat} (h1 : h < 24) (h2 : mi < 60) (h3 : s < 60) : timeB (h : Int) (mi : Int) (s : Int) = true := by
  unfold timeB
  rw [decide_eq_true ⟨by omega, by omega⟩, decide_eq_true ⟨by omega, by omega⟩, decide_eq_true ⟨by omega, by omega⟩]
  rfl
set_option maxHeartbeats 2000000 in
set_option maxRecDepth 100000 in
theorem unix_yes (D y m d h mi s : Nat) (k : Int) (w : World) (hG : GT w) (hd : IsDay D y m d) (h1 : h < 24) (h2 : mi < 60) (h3 : s < 60) :
    Calls Tryz.prog 97 #[.agg #[.int .i64 (y : Int), .int .i64 (m : Int), .int .i64 (d : Int), .int .i64 (h : Int), .int .i64 (mi : Int), .int .i64 (s : Int), .int .i64 k]] w fun e w' => e = .returned (.tuple #[.int .i64 (((D * 86400 + h * 3600 + mi * 60 + s : Nat) : Int) - 62135596800), .int .i64 0]) ∧ Below w.heap.size w w' := by
  have HB0 : Hid (Below w.heap.size w (w.alloc (.cells #[.int .i64 (y : Int), .int .i64 (m : Int), .int .i64 (d : Int), .int .i64 (h : Int), .int .i64 (mi : Int), .int .i64 (s : Int), .int .i64 k] 111))) := (Below.refl _ w).alloc (Nat.le_refl _) _
  have HG := hidM hG
  have HX := hidM (heap_alloc_new w (.cells #[.int .i64 (y : Int), .int .i64 (m : Int), .int .i64 (d : Int), .int .i64 (h : Int), .int .i64 (mi : Int), .int .i64 (s : Int), .int .i64 k] 111))
  have H1 := hidM (dayThere_any y m d h mi s k _ (HG.out.below HB0.out))
  have H2 := hidM (fun V => timeThere_any y m d h mi s k V)
  rw [day_yes hd] at H1
  rw [time_yes h1 h2 h3] at H2
  have HA := hidM (fun V => ahead_any y V hd.y1 (by have := hd.y2; omega))
  have HDY := hidM hd
  have HDL := hidM hd.lt
  have a1 : aheadN y ≤ D := hd.inYear.1
  have HIN := hidM hd.inMonth
  have d31 : d ≤ 31 := Nat.le_trans hd.d2 (dm_le _ _)
  have d1 := hd.d1
  have m1 := hd.m1
  have m2 := hd.m2
  have y1 := hd.y1
  have y2 := hd.y2
  have HDS : Hid (∀ V, GT V → ∀ j : Nat, Calls Tryz.prog 121 #[.int .i64 (y : Int), .int .i64 (j : Int)] V fun e w' => e = .returned (.int .i64 (dmN y j : Nat)) ∧ w' = V) := fun V hV j => by
    have := days_any y j V hV
    rw [days_cast] at this
    exact this
  have aN : aheadN y ≤ 3652058 := by have := hd.lt; omega
  obtain ⟨A, hA⟩ : ∃ A, A = aheadN y := ⟨_, rfl⟩
  have HAE := hidM hA
  rw [← hA] at HA a1 aN HIN
  clear hG hd hA
  go_enter Tryz.func97, Tryz.ntmps97
  go_wp2_with fail
  refine H1.out.mono ?_
  rintro _ w1 ⟨rfl, hb1⟩
  have HB1 := hidM (HB0.out.trans (hb1.mono HB0.out.size))
  have HX1 := hidM (box_kept HX.out hb1)
  obtain ⟨c0, c1, c2, c3, c4, c5, c6⟩ := cells7 HX1.out
  clear hb1 H1 HB0 HX
  go_wp2_with fail
  refine (H2.out w1).mono ?_
  rintro _ w2 ⟨rfl, hb2⟩
  have HB2 := hidM (HB1.out.trans (hb2.mono HB1.out.size))
  have HX2 := hidM (box_kept HX1.out hb2)
  clear c0 c1 c2 c3 c4 c5 c6
  obtain ⟨c0, c1, c2, c3, c4, c5, c6⟩ := cells7 HX2.out
  have HG2 := hidM (HG.out.below HB2.out)
  clear hb2 H2 HB1 HX1
  have HA2 : Hid (∀ n, Calls Tryz.prog 120 #[.int .i64 (y : Int)] (w2.drewN n) fun e w' => e = .returned (.int .i64 (A : Int)) ∧ w' = w2.drewN n) := fun n => HA.out _
  go_wp2
  go_quiet ((go_at_call 120; exact Calls.quiet_of_same (HA2.out _)))
  go_wp2
  go_loopw [4, 5] (fun dv iv wr => ∃ j : Nat, 1 ≤ j ∧ j ≤ m ∧ iv = .int .i64 (j : Int) ∧ dv = .int .i64 ((A + (d - 1) + mA y j : Nat) : Int) ∧ wr = w2.drewN nq) (fun _ i _ => m - (intOf i).toNat)
  case atStart => exact ⟨1, by decide, m1, rfl, by rw [mA_one]; go_num, rfl⟩
  case round =>
    obtain ⟨j, j1, j2, rfl, rfl, hwr⟩ := hrel
    subst hwr
    have HMO := hidM (mA_mono y (show j ≤ m by exact j2))
    by_cases hlt : j < m
    · have gj : (j : Int) < (m : Int) := by omega
      have hM := HMO.out
      have hS := mA_succ y j
      have hI := HIN.out
      have hD := HDL.out
      have hx31 := dm_le y j
      have HJ := hidM (HDS.out (w2.drewN nq) (HG2.out.below (below_drewN (Below.refl _ _) _)) j)
      generalize dmN y j = q at *
      have hb : mA y j ≤ 400 := by
        have := HMO.out
        have := HIN.out
        have h5 := mA_mono y (show j ≤ 13 by omega)
        rw [mA_year] at h5
        unfold ylN at h5
        split at h5 <;> omega
      generalize hR : mA y j = R at *
      have HS := hidM hS
      clear hM hS hI hD HMO hR
      go_wp2_with fail
      refine HJ.out.mono ?_
      rintro _ _ ⟨rfl, rfl⟩
      go_wp2
      go_roundw
      case rel => exact ⟨j + 1, by omega, by omega, by go_num, by rw [HS.out]; go_num, by first | rfl | trivial⟩
      case measure => simp [intOf]; omega
    · have gj : ¬ (j : Int) < (m : Int) := by omega
      obtain rfl : j = m := by omega
      have hI := HIN.out
      have hD := HDL.out
      have e1 : A + (d - 1) + mA y j = D := by omega
      rw [e1]
      clear HIN HMO e1 hI
      go_wp2
      go_ret2
      exact ⟨by go_num, below_drewN HB2.out _⟩
end Go.Proofs.YtmhjdahmmdfbcaaGreatDoor
namespace Go.Proofs.YtmhjdahmmdfbcaaGreatDoor
open Go.RowKit
theorem size23K : (Tryz.prog.info? 111).map (·.size) = some 7 := by kernel_rfl
/-- the box of a date -/
def dCells (y m d h mi s k : Int) : Obj := .cells #[.int .i64 y, .int .i64 m, .int .i64 d, .int .i64 h, .int .i64 mi, .int .i64 s, .int .i64 k] 111
def natAt (w : World) (p : Addr) : Nat := match w.cell? p with | some v => (intOf v).toNat | none => 0
set_option maxHeartbeats 2000000 in
set_option maxRecDepth 100000 in
theorem dayOf_any (D y m d : Nat) (w : World) (hG : GT w) (hd : IsDay D y m d) :
    Calls Tryz.prog 113 #[.int .i64 (D : Int)] w fun e w' => e = .returned (.agg #[.int .i64 (y : Int), .int .i64 (m : Int), .int .i64 (d : Int), .int .i64 0, .int .i64 0, .int .i64 0, .int .i64 (((1 + D) % 7 : Nat) : Int)]) ∧ Below w.heap.size w w' := by
  have HD := hidM hd
  have HDL := hd.lt
  have HIY := hidM hd.inYear
  have HIM := hidM hd.inMonth
  have y1 := hd.y1
  have y2 := hd.y2
  have m1 := hd.m1
  have m2 := hd.m2
  have HAH := hidM (fun V (n : Nat) (a : 1 ≤ n) (b : n ≤ 10000) => ahead_any n V a b)
  have HDS : Hid (∀ V, GT V → ∀ j : Nat, Calls Tryz.prog 121 #[.int .i64 (y : Int), .int .i64 (j : Int)] V fun e w' => e = .returned (.int .i64 (dmN y j : Nat)) ∧ w' = V) := fun V hV j => by
    have := days_any y j V hV
    rw [days_cast] at this
    exact this
  have HBB : Hid (∀ o, Below w.heap.size w ((w.alloc (dCells 0 0 0 0 0 0 0)).alloc o)) := fun o => ((Below.refl _ w).alloc (Nat.le_refl _) _).alloc (by simp) _
  have HG := hidM hG
  have q1 : ((1 : Int) + (D : Int)).tmod 7 = (((1 + D) % 7 : Nat) : Int) := by
    have := tmod_cast (1 + D) 7
    rw [← this]; rfl
  have q2 : (D : Int).tdiv 366 = ((D / 366 : Nat) : Int) := Int.ofNat_tdiv D 366
  have HY0 : Hid (aheadN (1 + D / 366) ≤ D) := by
    unfold Hid aheadN; omega
  have kW : (1 + D) % 7 ≤ 6 := by omega
  have b366 : D / 366 ≤ 9978 := by omega
  generalize (1 + D) % 7 = K at *
  generalize hQ : D / 366 = Q at *
  have HQ := hidM hQ
  unfold dCells at HBB
  clear hG hd hQ
  have HYL : Hid (1 + Q ≤ y) := by
    unfold Hid
    refine Classical.byContradiction fun hn => ?_
    have h1 := ahead_mono (show y + 1 ≤ 1 + Q by omega)
    have h2 := HIY.out
    have h3 := HY0.out
    omega
  go_enter Tryz.func113, Tryz.ntmps113
  go_wp2
  go_loopw [] (fun wr => ∃ n : Nat, 1 ≤ n ∧ n ≤ y ∧ wr = (w.alloc (.cells #[.int .i64 0, .int .i64 0, .int .i64 0, .int .i64 0, .int .i64 0, .int .i64 0, .int .i64 0] 111)).alloc (.cells #[.int .i64 (n : Int), .int .i64 1, .int .i64 0, .int .i64 0, .int .i64 0, .int .i64 0, .int .i64 (K : Int)] 111)) (fun wr => y - natAt wr ⟨w.heap.size + 1, 0, none⟩)
  case atStart => exact ⟨1 + Q, by omega, HYL.out, by go_num⟩
  case round =>
    obtain ⟨n, n1, n2, hwr⟩ := hrel
    subst hwr
    by_cases hlt : n < y
    · have HAn : Hid (∀ V, Calls Tryz.prog 120 #[.int .i64 ((n : Int) + 1)] V fun e w' => e = .returned (.int .i64 (aheadN (n + 1) : Nat)) ∧ w' = V) := fun V => HAH.out V (n + 1) (by omega) (by omega)
      have hle : aheadN (n + 1) ≤ D := Nat.le_trans (ahead_mono hlt) HIY.out.1
      generalize aheadN (n + 1) = B at *
      have gB : (B : Int) ≤ (D : Int) := by omega
      go_wp2_with fail
      refine (HAn.out _).mono ?_
      rintro _ _ ⟨rfl, rfl⟩
      go_wp2
      go_roundw
      case rel => exact ⟨n + 1, by omega, by omega, by go_num⟩
      case measure => simp [natAt, intOf]; omega
    · obtain rfl : n = y := by omega
      have HAn : Hid (∀ V, Calls Tryz.prog 120 #[.int .i64 ((n : Int) + 1)] V fun e w' => e = .returned (.int .i64 (aheadN (n + 1) : Nat)) ∧ w' = V) := fun V => HAH.out V (n + 1) (by omega) (by omega)
      have HAm := hidM (fun V => HAH.out V n (by omega) (by omega))
      have hgt := HIY.out.2
      have hge := HIY.out.1
      have HIM2 := HIM
      obtain ⟨A, hA⟩ : ∃ A, A = aheadN n := ⟨_, rfl⟩
      rw [← hA] at HAm hge HIM2
      have HAE := hidM hA
      clear hA HIM
      generalize aheadN (n + 1) = B at *
      have gB : ¬ (B : Int) ≤ (D : Int) := by omega
      go_wp2_with fail
      refine (HAn.out _).mono ?_
      rintro _ _ ⟨rfl, rfl⟩
      go_wp2_with fail
      refine (HAm.out _).mono ?_
      rintro _ _ ⟨rfl, rfl⟩
      go_wp2
      go_loopw [0] (fun dv wr => ∃ j : Nat, 1 ≤ j ∧ j ≤ m ∧ dv = .int .i64 ((D - A - mA n j : Nat) : Int) ∧ wr = (w.alloc (.cells #[.int .i64 0, .int .i64 0, .int .i64 0, .int .i64 0, .int .i64 0, .int .i64 0, .int .i64 0] 111)).alloc (.cells #[.int .i64 (n : Int), .int .i64 (j : Int), .int .i64 0, .int .i64 0, .int .i64 0, .int .i64 0, .int .i64 (K : Int)] 111)) (fun _ wr => m - natAt wr ⟨w.heap.size + 1, 1, none⟩)
      case atStart => exact ⟨1, by decide, m1, by rw [mA_one]; go_num, by go_num⟩
      case round =>
        obtain ⟨j, j1, j2, rfl, hwr⟩ := hrel
        subst hwr
        have HDj := hidM (fun V hV => HDS.out V hV j)
        have HGj : Hid (GT ((w.alloc (.cells #[.int .i64 0, .int .i64 0, .int .i64 0, .int .i64 0, .int .i64 0, .int .i64 0, .int .i64 0] 111)).alloc (.cells #[.int .i64 (n : Int), .int .i64 (j : Int), .int .i64 0, .int .i64 0, .int .i64 0, .int .i64 0, .int .i64 (K : Int)] 111))) := HG.out.below (HBB.out _)
        have h31 := dm_le n j
        have hI := HIM2.out
        have hS := mA_succ n j
        by_cases hj : j < m
        · have hM := mA_mono n (show j + 1 ≤ m by omega)
          rw [hS] at hM
          have hge2 : dmN n j ≤ D - A - mA n j := by omega
          generalize dmN n j = q at *
          have e2 : D - A - mA n (j + 1) = D - A - mA n j - q := by omega
          have HE2 := hidM e2
          generalize D - A - mA n j = R at *
          have gR : (q : Int) ≤ (R : Int) := by omega
          have rR : R ≤ 4000000 := by omega
          clear e2 hI hS hM
          go_wp2_with fail
          refine (HDj.out _ HGj.out).mono ?_
          rintro _ _ ⟨rfl, rfl⟩
          go_wp2_with fail
          refine (HDj.out _ HGj.out).mono ?_
          rintro _ _ ⟨rfl, rfl⟩
          go_wp2
          go_roundw
          case rel => exact ⟨j + 1, by omega, by omega, by rw [HE2.out]; go_num, by go_num⟩
          case measure => simp [natAt, intOf]; omega
        · obtain rfl : j = m := by omega
          have hlt2 : D - A - mA n j < dmN n j := by omega
          have e2 : D - A - mA n j + 1 = d := by have := HD.out.d1; omega
          have HE2 := hidM e2
          generalize dmN n j = q at *
          generalize D - A - mA n j = R at *
          have gR : ¬ (q : Int) ≤ (R : Int) := by omega
          clear e2 hI hS
          go_wp2_with fail
          refine (HDj.out _ HGj.out).mono ?_
          rintro _ _ ⟨rfl, rfl⟩
          go_wp2
          exact bodyPost_ret (results_cell_row rfl _ _ w.heap.size 111 _ (0, 0) _ rfl (heap_alloc2_old w _ _) Tryz.underlying111 rfl size23K) rfl ⟨by rw [← HE2.out]; rfl, ((Below.refl _ w).alloc (Nat.le_refl _) _).alloc (by simp) _⟩
theorem ones7 (y m d h mi s k : Int) : (#[Value.int .i64 y, .int .i64 m, .int .i64 d, .int .i64 h, .int .i64 mi, .int .i64 s, .int .i64 k] : Array Value).all (·.oneCell') = true := by simp [Value.oneCell']
set_option maxHeartbeats 1000000 in
set_option maxRecDepth 100000 in
theorem from_no (t : Int) (w : World) (ht : t < -62135596800 ∨ 253402300799 < t) :
    Calls Tryz.prog 87 #[.int .i64 t] w fun e w' => e = .returned (.tuple #[.agg #[.int .i64 0, .int .i64 0, .int .i64 0, .int .i64 0, .int .i64 0, .int .i64 0, .int .i64 0], .int .i64 1]) ∧ Below w.heap.size w w' := by
  by_cases h1 : t < -62135596800
  · have b1 : decide (t < -62135596800) = true := by simpa using h1
    go_enter Tryz.func87, Tryz.ntmps87
    go_wp2
    exact bodyPost_ret (results_box rfl _ _ w.heap.size _ rfl (run_loadVar_row _ w.heap.size 111 111 _ (0, 0) _ (heap_alloc_new w _) Tryz.underlying111 rfl size23K)) rfl ⟨rfl, (Below.refl _ w).alloc (Nat.le_refl _) _⟩
  · have b1 : decide (t < -62135596800) = false := by simpa using h1
    have b2 : decide (253402300799 < t) = true := by simp; omega
    go_enter Tryz.func87, Tryz.ntmps87
    go_wp2
    exact bodyPost_ret (results_box rfl _ _ w.heap.size _ rfl (run_loadVar_row _ w.heap.size 111 111 _ (0, 0) _ (heap_alloc_new w _) Tryz.underlying111 rfl size23K)) rfl ⟨rfl, (Below.refl _ w).alloc (Nat.le_refl _) _⟩
set_option maxHeartbeats 2000000 in
set_option maxRecDepth 100000 in
theorem from_yes (T y m d h mi s : Nat) (w : World) (hG : GT w) (hd : IsDate T y m d h mi s) :
    Calls Tryz.prog 87 #[.int .i64 ((T : Int) - 62135596800)] w fun e w' => e = .returned (.tuple #[.agg #[.int .i64 (y : Int), .int .i64 (m : Int), .int .i64 (d : Int), .int .i64 (h : Int), .int .i64 (mi : Int), .int .i64 (s : Int), .int .i64 (((1 + T / 86400) % 7 : Nat) : Int)], .int .i64 0]) ∧ Below w.heap.size w w' := by
  have hlt := hd.lt
  have e1 : (T : Int) - 62135596800 - -62135596800 = (T : Int) := by omega
  have e2 : (T : Int).tdiv 86400 = ((T / 86400 : Nat) : Int) := Int.ofNat_tdiv T 86400
  have e3 : (T : Int).tmod 86400 = ((T % 86400 : Nat) : Int) := tmod_cast T 86400
  have e4 : ((T % 86400 : Nat) : Int).tdiv 3600 = (h : Int) := by rw [hd.h2]; exact Int.ofNat_tdiv _ 3600
  have e5 : ((T % 86400 : Nat) : Int).tdiv 60 = ((T % 86400 / 60 : Nat) : Int) := Int.ofNat_tdiv _ 60
  have e6 : ((T % 86400 / 60 : Nat) : Int).tmod 60 = (mi : Int) := by rw [hd.mi2]; exact tmod_cast _ 60
  have e7 : ((T % 86400 : Nat) : Int).tmod 60 = (s : Int) := by rw [hd.s2]; exact tmod_cast _ 60
  have b1 : decide ((T : Int) - 62135596800 < -62135596800) = false := by simp; omega
  have b2 : decide (253402300799 < (T : Int) - 62135596800) = false := by simp; omega
  have r1 : T % 86400 < 86400 := by omega
  have h24 : h ≤ 23 := by rw [hd.h2]; omega
  have HB0 : Hid (Below w.heap.size w (w.alloc (.cells #[.int .i64 0, .int .i64 0, .int .i64 0, .int .i64 0, .int .i64 0, .int .i64 0, .int .i64 0] 111))) := (Below.refl _ w).alloc (Nat.le_refl _) _
  have HX := hidM (heap_alloc_new w (.cells #[.int .i64 0, .int .i64 0, .int .i64 0, .int .i64 0, .int .i64 0, .int .i64 0, .int .i64 0] 111))
  have HD := hidM (dayOf_any (T / 86400) y m d _ (hG.below HB0.out) hd.day)
  have hdl := hd.day.lt
  clear hG hd
  generalize hR : T % 86400 = R at *
  generalize hM : R / 60 = M at *
  have m60 : M < 1440 := by omega
  generalize T / 86400 = D at *
  generalize (1 + D) % 7 = K at *
  clear hR hM
  go_enter Tryz.func87, Tryz.ntmps87
  go_wp2_with fail
  refine HD.out.mono ?_
  rintro _ w1 ⟨rfl, hb1⟩
  have HB1 := hidM (HB0.out.trans (hb1.mono HB0.out.size))
  have HX1 := hidM (box_kept HX.out hb1)
  have HXA : Hid (∀ o, (w1.alloc o).heap[w.heap.size]? = some (.cells #[.int .i64 0, .int .i64 0, .int .i64 0, .int .i64 0, .int .i64 0, .int .i64 0, .int .i64 0] 111)) := fun o => by
    exact (_root_.Go.heap_alloc_old _ _ (Array.getElem?_eq_some_iff.1 HX1.out).1).trans HX1.out
  clear hb1 HD
  go_upto_region 8 with fail
  have HBW : Hid (Below w.heap.size w (w1.alloc (.cells #[.int .i64 (y : Int), .int .i64 (m : Int), .int .i64 (d : Int), .int .i64 (h : Int), .int .i64 (mi : Int), .int .i64 (s : Int), .int .i64 (K : Int)] 111))) := HB1.out.alloc HB1.out.size _
  have HXW := hidM (HXA.out (.cells #[.int .i64 (y : Int), .int .i64 (m : Int), .int .i64 (d : Int), .int .i64 (h : Int), .int .i64 (mi : Int), .int .i64 (s : Int), .int .i64 (K : Int)] 111))
  have HNW := hidM (_root_.Go.heap_alloc_new w1 (.cells #[.int .i64 (y : Int), .int .i64 (m : Int), .int .i64 (d : Int), .int .i64 (h : Int), .int .i64 (mi : Int), .int .i64 (s : Int), .int .i64 (K : Int)] 111))
  generalize (w1.alloc (.cells #[.int .i64 (y : Int), .int .i64 (m : Int), .int .i64 (d : Int), .int .i64 (h : Int), .int .i64 (mi : Int), .int .i64 (s : Int), .int .i64 (K : Int)] 111)) = W at *
  generalize w1.heap.size = B at *
  obtain ⟨c0, c1, c2, c3, c4, c5, c6⟩ := cells7 HNW.out
  go_wp2_with (refine wpList_store_row rfl 111 (.tmp 2) (.tmp 32) rfl w.heap.size #[.int .i64 (y : Int), .int .i64 (m : Int), .int .i64 (d : Int), .int .i64 (h : Int), .int .i64 (mi : Int), .int .i64 (s : Int), .int .i64 (K : Int)] rfl rfl 111 #[.int .i64 0, .int .i64 0, .int .i64 0, .int .i64 0, .int .i64 0, .int .i64 0, .int .i64 0] HXW.out size23K rfl (ones7 _ _ _ _ _ _ _) ?_)
  exact bodyPost_ret (results_box rfl _ _ w.heap.size _ rfl (run_loadVar_row _ w.heap.size 111 111 _ (0, 0) _ (setRow_heap _ _ _ _ 111 _ HXW.out) Tryz.underlying111 rfl size23K)) rfl ⟨rfl, below_setRow HBW.out (Nat.le_refl _)⟩
end Go.Proofs.YtmhjdahmmdfbcaaGreatDoor
namespace Go.Proofs.YtmhjdahmmdfbcaaGreatDoor
open Go.RowKit
def dig (d : Nat) : UInt8 := UInt8.ofNat (48 + d)
def d2 (n : Nat) : List UInt8 := [dig (n / 10), dig (n % 10)]
def d4 (n : Nat) : List UInt8 := [dig (n / 1000), dig (n / 100 % 10), dig (n / 10 % 10), dig (n % 10)]
theorem dd_small {u : Nat} (h : u < 10) : Lib.decDigits u = [dig u] := Lib.decDigits_one h
theorem dd_big {u : Nat} (h : 10 ≤ u) : Lib.decDigits u = Lib.decDigits (u / 10) ++ [dig (u % 10)] := by
  rw [Lib.decDigits, dif_neg (by omega)]; rfl
def padL (n wide : Nat) : List UInt8 := List.replicate (wide - (Lib.decDigits n).length) 48 ++ Lib.decDigits n
theorem pad2 (n : Nat) (h : n < 100) : padL n 2 = d2 n := by
  unfold padL d2
  by_cases h1 : n < 10
  · rw [dd_small h1, Nat.div_eq_of_lt h1, Nat.mod_eq_of_lt h1]; rfl
  · rw [dd_big (by omega), dd_small (by omega)]; rfl
theorem pad4 (n : Nat) (h : n < 10000) : padL n 4 = d4 n := by
  unfold padL d4
  by_cases h1 : n < 10
  · rw [dd_small h1, Nat.div_eq_of_lt (show n < 1000 by omega), Nat.div_eq_of_lt (show n < 100 by omega), Nat.div_eq_of_lt h1, Nat.mod_eq_of_lt h1]; rfl
  · by_cases h2 : n < 100
    · rw [dd_big (by omega), dd_small (by omega), Nat.div_eq_of_lt (show n < 1000 by omega), Nat.div_eq_of_lt h2, Nat.mod_eq_of_lt (show n / 10 < 10 by omega)]; rfl
    · by_cases h3 : n < 1000
      · rw [dd_big (by omega), dd_big (show 10 ≤ n / 10 by omega), dd_small (show n / 10 / 10 < 10 by omega), Nat.div_eq_of_lt h3, Nat.div_div_eq_div_mul, Nat.mod_eq_of_lt (show n / 100 < 10 by omega)]; rfl
      · rw [dd_big (by omega), dd_big (show 10 ≤ n / 10 by omega), dd_big (show 10 ≤ n / 10 / 10 by omega), dd_small (show n / 10 / 10 / 10 < 10 by omega), show n / 10 / 10 = n / 100 by omega, show n / 100 / 10 = n / 1000 by omega]; rfl
theorem rep48 (c : Nat) : Lib.repeatL (#[48] : Array UInt8).toList c = List.replicate c 48 := by
  induction c with
  | zero => rfl
  | succ c ih => simp only [Lib.repeatL, ih, List.replicate_succ]; rfl
theorem itoa_any (n : Nat) (h1 : n ≤ 9999) (w : World) (h : GT w) :
    Calls Tryz.prog 114 #[.int .i64 (n : Int)] w fun e w' => e = .returned (.string ⟨(Lib.decDigits n).toArray⟩) ∧ Below w.heap.size w w' := by
  have e : Lib.itoa (n : Int) = Lib.decDigits n := by unfold Lib.itoa; rw [if_neg (by omega)]; rfl
  rw [← e]
  refine (Tryz.strconv_Itoa (n : Int) (by omega) (by omega) w h.pow).mono ?_
  rintro e w' ⟨he, k, os, rfl⟩
  refine ⟨he, ⟨rfl, rfl, rfl, by simp [Sort.grow], fun k hk => ?_⟩⟩
  show (w.heap ++ os)[k]? = w.heap[k]?
  rw [Array.getElem?_append_left hk]
theorem dd_len (n : Nat) (h : n ≤ 9999) : (Lib.decDigits n).length ≤ 4 ∧ 1 ≤ (Lib.decDigits n).length := by
  by_cases h1 : n < 10
  · rw [dd_small h1]; exact ⟨by simp, by simp⟩
  · by_cases h2 : n < 100
    · rw [dd_big (by omega), dd_small (by omega)]; exact ⟨by simp, by simp⟩
    · by_cases h3 : n < 1000
      · rw [dd_big (by omega), dd_big (show 10 ≤ n / 10 by omega), dd_small (show n / 10 / 10 < 10 by omega)]; exact ⟨by simp, by simp⟩
      · rw [dd_big (by omega), dd_big (show 10 ≤ n / 10 by omega), dd_big (show 10 ≤ n / 10 / 10 by omega), dd_small (show n / 10 / 10 / 10 < 10 by omega)]; exact ⟨by simp, by simp⟩
set_option maxHeartbeats 1000000 in
set_option maxRecDepth 100000 in
theorem padded_any (n wide : Nat) (h1 : n ≤ 9999) (h2 : wide ≤ 4) (w : World) (hG : GT w) :
    Calls Tryz.prog 88 #[.int .i64 (n : Int), .int .i64 (wide : Int)] w fun e w' => e = .returned (.string ⟨(padL n wide).toArray⟩) ∧ Below w.heap.size w w' := by
  have HI := hidM (itoa_any n h1 w hG)
  have hl := dd_len n h1
  have HT : Hid ((⟨(List.replicate (wide - (Lib.decDigits n).length) (48 : UInt8)).toArray⟩ : ByteArray) ++ ⟨(Lib.decDigits n).toArray⟩ = ⟨(padL n wide).toArray⟩) := by
    unfold Hid padL; apply ByteArray.ext; simp [ByteArray.data_append]
  have hs : (⟨(Lib.decDigits n).toArray⟩ : ByteArray).size = (Lib.decDigits n).length := by show (Lib.decDigits n).toArray.size = _; simp
  generalize hq : (⟨(Lib.decDigits n).toArray⟩ : ByteArray) = T at *
  generalize (Lib.decDigits n).length = L at *
  obtain ⟨c, hc⟩ : ∃ c, c = wide - L := ⟨_, rfl⟩
  have HR := hidM (fun V => Tryz.strings_Repeat ⟨#[48]⟩ c V (by omega) (by show 1 * c ≤ _; omega))
  have hrs : ∀ c, (⟨(List.replicate c (48 : UInt8)).toArray⟩ : ByteArray).size = c := fun c => by show (List.replicate c (48 : UInt8)).toArray.size = c; simp
  have hr1 := hrs c
  rw [rep48] at HR
  rw [← hc] at HT
  have hTs : T.size ≤ 4 := by omega
  have HE1 : Hid (max 0 ((wide : Int) - (T.size : Int)) = (c : Int)) := by unfold Hid; omega
  generalize (⟨(List.replicate c (48 : UInt8)).toArray⟩ : ByteArray) = Z at *
  have c4 : c ≤ 4 := by omega
  clear hq hG hrs hc hl hs
  go_enter Tryz.func88, Tryz.ntmps88
  go_wp2_with fail
  refine HI.out.mono ?_
  rintro _ w1 ⟨rfl, hb1⟩
  have HB1 := hidM hb1
  clear hb1
  go_wp2_with fail
  rw [HE1.out]
  refine (HR.out w1).mono ?_
  rintro _ w2 ⟨rfl, hb2⟩
  have HB2 := hidM (HB1.out.trans (hb2.mono HB1.out.size))
  clear hb2
  go_wp2
  go_ret
  exact ⟨by rw [← HT.out]; rfl, HB2.out⟩
def b2 (n : Nat) : ByteArray := ⟨(d2 n).toArray⟩
def b4 (n : Nat) : ByteArray := ⟨(d4 n).toArray⟩
theorem padded2_any (n : Nat) (h : n < 100) (w : World) (hG : GT w) : Calls Tryz.prog 88 #[.int .i64 (n : Int), .int .i64 2] w fun e w' => e = .returned (.string (b2 n)) ∧ Below w.heap.size w w' := by
  have := padded_any n 2 (by omega) (by omega) w hG
  rw [pad2 n h] at this
  exact this
theorem padded4_any (n : Nat) (h : n < 10000) (w : World) (hG : GT w) : Calls Tryz.prog 88 #[.int .i64 (n : Int), .int .i64 4] w fun e w' => e = .returned (.string (b4 n)) ∧ Below w.heap.size w w' := by
  have := padded_any n 4 (by omega) (by omega) w hG
  rw [pad4 n h] at this
  exact this
theorem b2_size (n : Nat) : (b2 n).size = 2 := rfl
theorem b4_size (n : Nat) : (b4 n).size = 4 := rfl
end Go.Proofs.YtmhjdahmmdfbcaaGreatDoor
namespace Go.Proofs.YtmhjdahmmdfbcaaGreatDoor
open Go.RowKit
/-- the two boxes of written: the marks at the first block, the date at B -/
structure WrS (w : World) (B : Nat) (a b c e : ByteArray) (y m d h mi s k : Int) (V : World) : Prop where
  bel : Below w.heap.size w V
  lt : w.heap.size < B
  bm : V.heap[w.heap.size]? = some (.cells #[.string a, .string b, .string c, .string e] 93)
  bd : V.heap[B]? = some (.cells #[.int .i64 y, .int .i64 m, .int .i64 d, .int .i64 h, .int .i64 mi, .int .i64 s, .int .i64 k] 111)
def WrC (w : World) (B : Nat) (a b c e : ByteArray) (y m d h mi s : Int) (V : World) : Prop :=
  V.cell? ⟨w.heap.size, 0, none⟩ = some (.string a) ∧ V.cell? ⟨w.heap.size, 1, none⟩ = some (.string b) ∧ V.cell? ⟨w.heap.size, 2, none⟩ = some (.string c) ∧ V.cell? ⟨w.heap.size, 3, none⟩ = some (.string e) ∧
  V.cell? ⟨B, 0, none⟩ = some (.int .i64 y) ∧ V.cell? ⟨B, 1, none⟩ = some (.int .i64 m) ∧ V.cell? ⟨B, 2, none⟩ = some (.int .i64 d) ∧ V.cell? ⟨B, 3, none⟩ = some (.int .i64 h) ∧ V.cell? ⟨B, 4, none⟩ = some (.int .i64 mi) ∧ V.cell? ⟨B, 5, none⟩ = some (.int .i64 s)
variable {w V w' : World} {B : Nat} {a b c e : ByteArray} {y m d h mi s k : Int}
theorem WrS.cells (H : WrS w B a b c e y m d h mi s k V) : WrC w B a b c e y m d h mi s V := by
  obtain ⟨c0, c1, c2, c3, c4, c5, c6⟩ := cells7 H.bd
  refine ⟨?_, ?_, ?_, ?_, c0, c1, c2, c3, c4, c5⟩ <;> rw [cell_of_row _ _ _ _ 93 (0, 0) H.bm] <;> rfl
theorem WrS.next (H : WrS w B a b c e y m d h mi s k V) (hb : Below V.heap.size V w') : WrS w B a b c e y m d h mi s k w' :=
  ⟨H.bel.trans (hb.mono H.bel.size), H.lt, box_kept H.bm hb, box_kept H.bd hb⟩
theorem WrS.drew (H : Hid (WrS w B a b c e y m d h mi s k V)) : Hid (WrS w B a b c e y m d h mi s k V.drew) := ⟨H.out.bel.trans ⟨rfl, rfl, rfl, Nat.le_refl _, fun _ _ => rfl⟩, H.out.lt, H.out.bm, H.out.bd⟩
theorem WrS.drewN (H : Hid (WrS w B a b c e y m d h mi s k V)) (n : Nat) : Hid (WrS w B a b c e y m d h mi s k (V.drewN n)) := ⟨below_drewN H.out.bel n, H.out.lt, H.out.bm, H.out.bd⟩
theorem WrS.four (H : WrS w B a b c e y m d h mi s k V) : V.cell? ⟨w.heap.size, 0, none⟩ = some (.string a) ∧ V.cell? ⟨B, 0, none⟩ = some (.int .i64 y) ∧ V.cell? ⟨B, 1, none⟩ = some (.int .i64 m) ∧ V.cell? ⟨B, 2, none⟩ = some (.int .i64 d) ∧ Hid (WrS w B a b c e y m d h mi s k V) := by
  obtain ⟨g0, g1, g2, g3, e0, e1, e2, e3, e4, e5⟩ := H.cells
  exact ⟨g0, e0, e1, e2, H⟩
theorem WrS.five (H : WrS w B a b c e y m d h mi s k V) : V.cell? ⟨w.heap.size, 2, none⟩ = some (.string c) ∧ V.cell? ⟨B, 3, none⟩ = some (.int .i64 h) ∧ V.cell? ⟨B, 4, none⟩ = some (.int .i64 mi) ∧ V.cell? ⟨B, 5, none⟩ = some (.int .i64 s) ∧ Hid (WrS w B a b c e y m d h mi s k V) := by
  obtain ⟨g0, g1, g2, g3, e0, e1, e2, e3, e4, e5⟩ := H.cells
  exact ⟨g2, e3, e4, e5, H⟩
def dayT (a : ByteArray) (y m d : Nat) : ByteArray := b4 y ++ a ++ b2 m ++ a ++ b2 d
def timeT (c : ByteArray) (h mi s : Nat) : ByteArray := b2 h ++ c ++ b2 mi ++ c ++ b2 s
def allT (a b c e : ByteArray) (y m d h mi s : Nat) : ByteArray := dayT a y m d ++ b ++ timeT c h mi s ++ e
set_option maxHeartbeats 4000000 in
set_option maxRecDepth 100000 in
theorem written_yes (T y m d h mi s : Nat) (a b c e : ByteArray) (w : World) (hG : GT w) (hd : IsDate T y m d h mi s) (ha : a.size ≤ 1) (hb : b.size ≤ 1) (hc : c.size ≤ 1) (he : e.size ≤ 1) :
    Calls Tryz.prog 58 #[.int .i64 ((T : Int) - 62135596800), .agg #[.string a, .string b, .string c, .string e]] w fun x w' => x = .returned (.tuple #[.string (allT a b c e y m d h mi s), .int .i64 0]) ∧ Below w.heap.size w w' := by
  have HG := hidM hG
  have HB0 : Hid (Below w.heap.size w (w.alloc (.cells #[.string a, .string b, .string c, .string e] 93))) := (Below.refl _ w).alloc (Nat.le_refl _) _
  have HX := hidM (heap_alloc_new w (.cells #[.string a, .string b, .string c, .string e] 93))
  have HF := hidM (from_yes T y m d h mi s _ (hG.below HB0.out) hd)
  have hy := hd.day.y2
  have hm := hd.day.m2
  have hdd : d ≤ 31 := Nat.le_trans hd.day.d2 (dm_le _ _)
  obtain ⟨_, hh, hmi, hs⟩ := clock (Nat.mod_lt T (by decide)) hd.h2 hd.mi2 hd.s2
  have HP1 := hidM (fun V (hV : GT V) => padded4_any y (by omega) V hV)
  have HP2 := hidM (fun V (hV : GT V) => padded2_any m (by omega) V hV)
  have HP3 := hidM (fun V (hV : GT V) => padded2_any d (by omega) V hV)
  have HP4 := hidM (fun V (hV : GT V) => padded2_any h (by omega) V hV)
  have HP5 := hidM (fun V (hV : GT V) => padded2_any mi (by omega) V hV)
  have HP6 := hidM (fun V (hV : GT V) => padded2_any s (by omega) V hV)
  have z1 := Nat.le_of_eq (b4_size y)
  have z2 := Nat.le_of_eq (b2_size m)
  have z3 := Nat.le_of_eq (b2_size d)
  have z4 := Nat.le_of_eq (b2_size h)
  have z5 := Nat.le_of_eq (b2_size mi)
  have z6 := Nat.le_of_eq (b2_size s)
  unfold allT dayT timeT
  generalize b4 y = t1 at *
  generalize b2 m = t2 at *
  generalize b2 d = t3 at *
  generalize b2 h = t4 at *
  generalize b2 mi = t5 at *
  generalize b2 s = t6 at *
  generalize (1 + T / 86400) % 7 = K at *
  clear hG hd
  go_enter Tryz.func58, Tryz.ntmps58
  go_wp2_with fail
  refine HF.out.mono ?_
  rintro _ w1 ⟨rfl, hb1⟩
  have HB1 := hidM (HB0.out.trans (hb1.mono HB0.out.size))
  have HX1 := hidM (box_kept HX.out hb1)
  have HLT : Hid (w.heap.size < w1.heap.size) := (Array.getElem?_eq_some_iff.1 HX1.out).1
  clear hb1 HF
  go_upto_region 4 with fail
  have HS : Hid (WrS w w1.heap.size a b c e y m d h mi s K (w1.alloc (.cells #[.int .i64 (y : Int), .int .i64 (m : Int), .int .i64 (d : Int), .int .i64 (h : Int), .int .i64 (mi : Int), .int .i64 (s : Int), .int .i64 (K : Int)] 111))) :=
    ⟨HB1.out.alloc HB1.out.size _, HLT.out, (_root_.Go.heap_alloc_old _ _ HLT.out).trans HX1.out, _root_.Go.heap_alloc_new _ _⟩
  generalize (w1.alloc (.cells #[.int .i64 (y : Int), .int .i64 (m : Int), .int .i64 (d : Int), .int .i64 (h : Int), .int .i64 (mi : Int), .int .i64 (s : Int), .int .i64 (K : Int)] 111)) = W at *
  generalize w1.heap.size = B at *
  have H1 : Hid (∀ V, Hid (WrS w B a b c e y m d h mi s K V) → Calls Tryz.prog 88 #[.int .i64 (y : Int), .int .i64 4] V fun x w' => x = .returned (.string t1) ∧ w'.cell? ⟨w.heap.size, 0, none⟩ = some (.string a) ∧ w'.cell? ⟨B, 0, none⟩ = some (.int .i64 (y : Int)) ∧ w'.cell? ⟨B, 1, none⟩ = some (.int .i64 (m : Int)) ∧ w'.cell? ⟨B, 2, none⟩ = some (.int .i64 (d : Int)) ∧ Hid (WrS w B a b c e y m d h mi s K w')) := fun V hV => (HP1.out V (HG.out.below hV.out.bel)).mono fun x w' g => ⟨g.1, WrS.four (hV.out.next g.2)⟩
  have H2 : Hid (∀ V, Hid (WrS w B a b c e y m d h mi s K V) → Calls Tryz.prog 88 #[.int .i64 (m : Int), .int .i64 2] V fun x w' => x = .returned (.string t2) ∧ w'.cell? ⟨w.heap.size, 0, none⟩ = some (.string a) ∧ w'.cell? ⟨B, 0, none⟩ = some (.int .i64 (y : Int)) ∧ w'.cell? ⟨B, 1, none⟩ = some (.int .i64 (m : Int)) ∧ w'.cell? ⟨B, 2, none⟩ = some (.int .i64 (d : Int)) ∧ Hid (WrS w B a b c e y m d h mi s K w')) := fun V hV => (HP2.out V (HG.out.below hV.out.bel)).mono fun x w' g => ⟨g.1, WrS.four (hV.out.next g.2)⟩
  have H3 : Hid (∀ V, Hid (WrS w B a b c e y m d h mi s K V) → Calls Tryz.prog 88 #[.int .i64 (d : Int), .int .i64 2] V fun x w' => x = .returned (.string t3) ∧ w'.cell? ⟨w.heap.size, 0, none⟩ = some (.string a) ∧ w'.cell? ⟨B, 0, none⟩ = some (.int .i64 (y : Int)) ∧ w'.cell? ⟨B, 1, none⟩ = some (.int .i64 (m : Int)) ∧ w'.cell? ⟨B, 2, none⟩ = some (.int .i64 (d : Int)) ∧ Hid (WrS w B a b c e y m d h mi s K w')) := fun V hV => (HP3.out V (HG.out.below hV.out.bel)).mono fun x w' g => ⟨g.1, WrS.four (hV.out.next g.2)⟩
  have H4 : Hid (∀ V, Hid (WrS w B a b c e y m d h mi s K V) → Calls Tryz.prog 88 #[.int .i64 (h : Int), .int .i64 2] V fun x w' => x = .returned (.string t4) ∧ w'.cell? ⟨w.heap.size, 2, none⟩ = some (.string c) ∧ w'.cell? ⟨B, 3, none⟩ = some (.int .i64 (h : Int)) ∧ w'.cell? ⟨B, 4, none⟩ = some (.int .i64 (mi : Int)) ∧ w'.cell? ⟨B, 5, none⟩ = some (.int .i64 (s : Int)) ∧ Hid (WrS w B a b c e y m d h mi s K w')) := fun V hV => (HP4.out V (HG.out.below hV.out.bel)).mono fun x w' g => ⟨g.1, WrS.five (hV.out.next g.2)⟩
  have H5 : Hid (∀ V, Hid (WrS w B a b c e y m d h mi s K V) → Calls Tryz.prog 88 #[.int .i64 (mi : Int), .int .i64 2] V fun x w' => x = .returned (.string t5) ∧ w'.cell? ⟨w.heap.size, 2, none⟩ = some (.string c) ∧ w'.cell? ⟨B, 3, none⟩ = some (.int .i64 (h : Int)) ∧ w'.cell? ⟨B, 4, none⟩ = some (.int .i64 (mi : Int)) ∧ w'.cell? ⟨B, 5, none⟩ = some (.int .i64 (s : Int)) ∧ Hid (WrS w B a b c e y m d h mi s K w')) := fun V hV => (HP5.out V (HG.out.below hV.out.bel)).mono fun x w' g => ⟨g.1, WrS.five (hV.out.next g.2)⟩
  have H6 : Hid (∀ V, Hid (WrS w B a b c e y m d h mi s K V) → Calls Tryz.prog 88 #[.int .i64 (s : Int), .int .i64 2] V fun x w' => x = .returned (.string t6) ∧ w'.cell? ⟨w.heap.size, 2, none⟩ = some (.string c) ∧ w'.cell? ⟨B, 3, none⟩ = some (.int .i64 (h : Int)) ∧ w'.cell? ⟨B, 4, none⟩ = some (.int .i64 (mi : Int)) ∧ w'.cell? ⟨B, 5, none⟩ = some (.int .i64 (s : Int)) ∧ Hid (WrS w B a b c e y m d h mi s K w')) := fun V hV => (HP6.out V (HG.out.below hV.out.bel)).mono fun x w' g => ⟨g.1, WrS.five (hV.out.next g.2)⟩
  clear HP1 HP2 HP3 HP4 HP5 HP6 HB0 HX HB1 HX1 HLT
  have q1 : ¬ 9223372036854775807 < t1.size + a.size := by omega
  have q2 : ¬ 9223372036854775807 < t1.size + a.size + t2.size := by omega
  have q3 : ¬ 9223372036854775807 < t1.size + a.size + t2.size + a.size := by omega
  have q4 : ¬ 9223372036854775807 < t1.size + a.size + t2.size + a.size + t3.size := by omega
  have q5 : ¬ 9223372036854775807 < t4.size + c.size := by omega
  have q6 : ¬ 9223372036854775807 < t4.size + c.size + t5.size := by omega
  have q7 : ¬ 9223372036854775807 < t4.size + c.size + t5.size + c.size := by omega
  have q8 : ¬ 9223372036854775807 < t4.size + c.size + t5.size + c.size + t6.size := by omega
  obtain ⟨x1, x2, x3, x4, _⟩ := WrS.four HS.out
  go_region_held3 (fun w' => w'.cell? ⟨w.heap.size, 0, none⟩ = some (.string a) ∧ w'.cell? ⟨B, 0, none⟩ = some (.int .i64 (y : Int)) ∧ w'.cell? ⟨B, 1, none⟩ = some (.int .i64 (m : Int)) ∧ w'.cell? ⟨B, 2, none⟩ = some (.int .i64 (d : Int)) ∧ Hid (WrS w B a b c e y m d h mi s K w'))
    (first | exact hS3 | exact hS2 | exact hS1 | exact WrS.four (Hid.out (by repeat (first | exact hS3.2.2.2.2 | exact hS2.2.2.2.2 | exact hS1.2.2.2.2 | exact HS | apply WrS.drew | apply WrS.drewN))))
    (first
      | (go_at_call 88; with_reducible refine (H1.out _ (by repeat (first | exact hS3.2.2.2.2 | exact hS2.2.2.2.2 | exact hS1.2.2.2.2 | exact HS | apply WrS.drew | apply WrS.drewN))).mono ?_; rintro _ v1 ⟨rfl, hS1⟩)
      | (go_at_call 88; with_reducible refine (H2.out _ (by repeat (first | exact hS3.2.2.2.2 | exact hS2.2.2.2.2 | exact hS1.2.2.2.2 | exact HS | apply WrS.drew | apply WrS.drewN))).mono ?_; rintro _ v2 ⟨rfl, hS2⟩)
      | (go_at_call 88; with_reducible refine (H3.out _ (by repeat (first | exact hS3.2.2.2.2 | exact hS2.2.2.2.2 | exact hS1.2.2.2.2 | exact HS | apply WrS.drew | apply WrS.drewN))).mono ?_; rintro _ v3 ⟨rfl, hS3⟩))
  have HS3 := hS3.2.2.2.2
  have hDY : (t1 ++ a ++ t2 ++ a ++ t3).size ≤ 10 := by simp only [ByteArray.size_append]; omega
  have hTI : (t4 ++ c ++ t5 ++ c ++ t6).size ≤ 10 := by simp only [ByteArray.size_append]; omega
  clear hS1 hS2 hS3 H1 H2 H3 HS x1 x2 x3 x4 q1 q2 q3 q4
  generalize hDE : t1 ++ a ++ t2 ++ a ++ t3 = DY at *
  have HDE := hidM hDE
  clear hDE
  obtain ⟨x1, x2, x3, x4, _⟩ := WrS.five HS3.out
  go_upto_region 5 with fail
  go_region_held3 (fun w' => w'.cell? ⟨w.heap.size, 2, none⟩ = some (.string c) ∧ w'.cell? ⟨B, 3, none⟩ = some (.int .i64 (h : Int)) ∧ w'.cell? ⟨B, 4, none⟩ = some (.int .i64 (mi : Int)) ∧ w'.cell? ⟨B, 5, none⟩ = some (.int .i64 (s : Int)) ∧ Hid (WrS w B a b c e y m d h mi s K w'))
    (first | exact hS6 | exact hS5 | exact hS4 | exact WrS.five (Hid.out (by repeat (first | exact hS6.2.2.2.2 | exact hS5.2.2.2.2 | exact hS4.2.2.2.2 | exact HS3 | apply WrS.drew | apply WrS.drewN))))
    (first
      | (go_at_call 88; with_reducible refine (H4.out _ (by repeat (first | exact hS6.2.2.2.2 | exact hS5.2.2.2.2 | exact hS4.2.2.2.2 | exact HS3 | apply WrS.drew | apply WrS.drewN))).mono ?_; rintro _ v4 ⟨rfl, hS4⟩)
      | (go_at_call 88; with_reducible refine (H5.out _ (by repeat (first | exact hS6.2.2.2.2 | exact hS5.2.2.2.2 | exact hS4.2.2.2.2 | exact HS3 | apply WrS.drew | apply WrS.drewN))).mono ?_; rintro _ v5 ⟨rfl, hS5⟩)
      | (go_at_call 88; with_reducible refine (H6.out _ (by repeat (first | exact hS6.2.2.2.2 | exact hS5.2.2.2.2 | exact hS4.2.2.2.2 | exact HS3 | apply WrS.drew | apply WrS.drewN))).mono ?_; rintro _ v6 ⟨rfl, hS6⟩))
  have HS6 := hS6.2.2.2.2
  clear hS4 hS5 hS6 H4 H5 H6 HS3 x1 x2 x3 x4 q5 q6 q7 q8
  generalize hTE : t4 ++ c ++ t5 ++ c ++ t6 = TI at *
  have HTE := hidM hTE
  clear hTE
  obtain ⟨g0, g1, g2, g3, _⟩ := WrS.cells HS6.out
  have q1 : ¬ 9223372036854775807 < DY.size + b.size := by omega
  have q2 : ¬ 9223372036854775807 < DY.size + b.size + TI.size := by omega
  have q3 : ¬ 9223372036854775807 < DY.size + b.size + TI.size + e.size := by omega
  go_wp2
  go_ret2
  exact ⟨by rw [HDE.out, HTE.out]; rfl, HS6.out.bel⟩
set_option maxHeartbeats 1000000 in
set_option maxRecDepth 100000 in
theorem written_no (t : Int) (a b c e : ByteArray) (w : World) (ht : t < -62135596800 ∨ 253402300799 < t) :
    Calls Tryz.prog 58 #[.int .i64 t, .agg #[.string a, .string b, .string c, .string e]] w fun x w' => x = .returned (.tuple #[.string ⟨#[]⟩, .int .i64 1]) ∧ Below w.heap.size w w' := by
  have HB0 : Hid (Below w.heap.size w (w.alloc (.cells #[.string a, .string b, .string c, .string e] 93))) := (Below.refl _ w).alloc (Nat.le_refl _) _
  have HF := hidM (from_no t (w.alloc (.cells #[.string a, .string b, .string c, .string e] 93)) ht)
  clear ht
  go_enter Tryz.func58, Tryz.ntmps58
  go_wp2_with fail
  refine HF.out.mono ?_
  rintro _ w1 ⟨rfl, hb1⟩
  have HB1 := hidM (HB0.out.trans (hb1.mono HB0.out.size))
  clear hb1 HF
  go_wp2
  go_ret2
  exact ⟨rfl, HB1.out.alloc HB1.out.size _⟩
def stampT (y m d h mi s : Nat) : ByteArray := allT ⟨#[]⟩ ⟨#[]⟩ ⟨#[]⟩ ⟨#[]⟩ y m d h mi s
set_option maxRecDepth 100000 in
theorem stamp_yes (T y m d h mi s : Nat) (w : World) (hG : GT w) (hd : IsDate T y m d h mi s) :
    Calls Tryz.prog 24 #[.int .i64 ((T : Int) - 62135596800)] w fun x w' => x = .returned (.tuple #[.string (stampT y m d h mi s), .int .i64 0]) ∧ Below w.heap.size w w' := by
  have HW := hidM (written_yes T y m d h mi s ⟨#[]⟩ ⟨#[]⟩ ⟨#[]⟩ ⟨#[]⟩ w hG hd (by decide) (by decide) (by decide) (by decide))
  have he : allT ⟨#[]⟩ ⟨#[]⟩ ⟨#[]⟩ ⟨#[]⟩ y m d h mi s = stampT y m d h mi s := rfl
  rw [he] at HW
  clear he hG hd
  generalize stampT y m d h mi s = R at *
  go_enter Tryz.func24, Tryz.ntmps24
  go_wp2_with fail
  refine HW.out.mono ?_
  rintro _ w1 ⟨rfl, hb1⟩
  have HB1 := hidM hb1
  clear hb1
  go_wp2
  go_ret2
  exact ⟨rfl, HB1.out⟩
set_option maxRecDepth 100000 in
theorem stamp_no (t : Int) (w : World) (ht : t < -62135596800 ∨ 253402300799 < t) :
    Calls Tryz.prog 24 #[.int .i64 t] w fun x w' => x = .returned (.tuple #[.string ⟨#[]⟩, .int .i64 1]) ∧ Below w.heap.size w w' := by
  have HW := hidM (written_no t ⟨#[]⟩ ⟨#[]⟩ ⟨#[]⟩ ⟨#[]⟩ w ht)
  clear ht
  go_enter Tryz.func24, Tryz.ntmps24
  go_wp2_with fail
  refine HW.out.mono ?_
  rintro _ w1 ⟨rfl, hb1⟩
  have HB1 := hidM hb1
  clear hb1
  go_wp2
  go_ret2
  exact ⟨rfl, HB1.out⟩
end Go.Proofs.YtmhjdahmmdfbcaaGreatDoor
namespace Go.Proofs.YtmhjdahmmdfbcaaGreatDoor
open Go.RowKit
def isDig (c : UInt8) : Prop := 48 ≤ c.toNat ∧ c.toNat ≤ 57
instance (c : UInt8) : Decidable (isDig c) := by unfold isDig; infer_instance
noncomputable def digB (s : ByteArray) : Bool := decide (∀ c ∈ s.data.toList, isDig c)
set_option maxHeartbeats 1000000 in
set_option maxRecDepth 100000 in
theorem digits_anyK (s : ByteArray) (w : World) (hs : s.size ≤ 14) : Calls Tryz.prog 95 #[.string s] w fun e w' => e = .returned (.bool (digB s)) ∧ w' = w := by
  go_enter Tryz.func95, Tryz.ntmps95
  go_wp2
  go_loopw [3, 6] (fun _ iv wr => ∃ k : Nat, k ≤ s.size ∧ iv = .int .i64 (k : Int) ∧ (∀ j (hj : j < s.size), j < k → isDig s[j]) ∧ wr = w) (fun _ i _ => s.size - (intOf i).toNat)
  case atStart => exact ⟨0, Nat.zero_le _, rfl, fun j _ hj => by omega, rfl⟩
  case round =>
    obtain ⟨k, hk, rfl, hno, hwr⟩ := hrel
    subst hwr
    have HNO := hidM hno
    clear hno
    by_cases hlt : k < s.size
    · have gk : (k : Int) < (s.size : Int) := by omega
      have hin : s[k] ∈ s.data.toList := List.mem_of_getElem? (ba_list s k hlt)
      by_cases h1 : s[k].toNat < 48
      · have HR : Hid (digB s = false) := by
          unfold Hid digB
          exact decide_eq_false fun h => by have := (h _ hin).1; omega
        have b1 : decide ((s[k].toNat : Int) < 48) = true := by simp; omega
        go_wp2
        go_ret
        exact ⟨by rw [HR.out]; rfl, rfl⟩
      · have b1 : decide ((s[k].toNat : Int) < 48) = false := by simp; omega
        by_cases h2 : 57 < s[k].toNat
        · have HR : Hid (digB s = false) := by
            unfold Hid digB
            exact decide_eq_false fun h => by have := (h _ hin).2; omega
          have b2 : decide ((57 : Int) < (s[k].toNat : Int)) = true := by simp; omega
          go_wp2
          go_ret
          exact ⟨by rw [HR.out]; rfl, rfl⟩
        · have b2 : decide ((57 : Int) < (s[k].toNat : Int)) = false := by simp; omega
          have HNX : Hid (∀ j (hj : j < s.size), j < k + 1 → isDig s[j]) := fun j hj hjk => by
            rcases Nat.lt_or_ge j k with h | h
            · exact HNO.out j hj h
            · obtain rfl : j = k := by omega
              exact ⟨by omega, by omega⟩
          go_wp2
          go_roundw
          case rel => exact ⟨k + 1, by omega, by go_num, HNX.out, by first | rfl | trivial⟩
          case measure => simp [intOf]; omega
    · have gk : ¬ (k : Int) < (s.size : Int) := by omega
      have HR : Hid (digB s = true) := by
        unfold Hid digB
        refine decide_eq_true fun c hc => ?_
        obtain ⟨j, hj, rfl⟩ := List.getElem_of_mem hc
        have hj' : j < s.size := by rw [Array.length_toList] at hj; exact hj
        exact HNO.out j hj' (by omega)
      go_wp2
      go_ret
      exact ⟨by rw [HR.out]; rfl, rfl⟩
/-- two digits of a text -/
def two (s : ByteArray) (i : Nat) : Nat := ((s.data.toList.getD i 0).toNat - 48) * 10 + ((s.data.toList.getD (i + 1) 0).toNat - 48)
theorem getD_byte (s : ByteArray) (k : Nat) (h : k < s.size) : s.data.toList.getD k 0 = s[k] := by
  rw [List.getD_eq_getElem?_getD, ba_list s k h]; rfl
theorem dig_at {s : ByteArray} (hd : digB s = true) {k : Nat} (h : k < s.size) : isDig s[k] := by
  unfold digB at hd
  exact of_decide_eq_true hd _ (List.mem_of_getElem? (ba_list s k h))
set_option maxHeartbeats 1000000 in
set_option maxRecDepth 100000 in
theorem two_any (s : ByteArray) (i b : Nat) (w : World) (hs : s.size = 14) (hi : i + 1 < 14) (hd : digB s = true) (hc : w.cell? ⟨b, 0, none⟩ = some (.string s)) :
    Calls Tryz.prog 96 #[.int .i64 (i : Int), .pointer (some ⟨b, 0, none⟩)] w fun e w' => e = .returned (.int .i64 (two s i : Nat)) ∧ ∃ n, w' = w.drewN n := by
  have h0 : i < s.size := by omega
  have h1 : i + 1 < s.size := by omega
  have g0 := dig_at hd h0
  have g1 := dig_at hd h1
  unfold isDig at g0 g1
  have i3 : (i : Int) < 14 := by omega
  have e1 : IntKind.i64.wrap ((i : Int) + 1) = ((i + 1 : Nat) : Int) := by rw [IntKind.wrap_i64]; omega
  have i5 : ((i + 1 : Nat) : Int) < 14 := by omega
  obtain ⟨j, hj⟩ : ∃ j, j = i + 1 := ⟨_, rfl⟩
  obtain ⟨p, hp⟩ : ∃ p, p = s[i].toNat - 48 := ⟨_, rfl⟩
  obtain ⟨q, hq⟩ : ∃ q, q = s[i + 1].toNat - 48 := ⟨_, rfl⟩
  have HT : Hid (two s i = p * 10 + q) := by unfold Hid two; rw [getD_byte s i h0, getD_byte s (i + 1) h1, hp, hq]
  rw [← hj] at e1 i5
  have h1' : j < s.size := by omega
  have hq' : q = s[j].toNat - 48 := by subst hj; exact hq
  have g1' : 48 ≤ s[j].toNat ∧ s[j].toNat ≤ 57 := by subst hj; exact g1
  have e2 : IntKind.u8.wrap ((s[i].toNat : Int) - 48) = (p : Int) := by rw [IntKind.wrap_u8']; omega
  have e3 : IntKind.u8.wrap ((s[j].toNat : Int) - 48) = (q : Int) := by rw [IntKind.wrap_u8']; omega
  have e4 : IntKind.i64.wrap (p : Int) = (p : Int) := by rw [IntKind.wrap_i64]; omega
  have e5 : IntKind.i64.wrap (q : Int) = (q : Int) := by rw [IntKind.wrap_i64]; omega
  have e6 : IntKind.i64.wrap ((p : Int) * 10) = ((p * 10 : Nat) : Int) := by rw [IntKind.wrap_i64]; omega
  have e7 : IntKind.i64.wrap (((p * 10 : Nat) : Int) + (q : Int)) = ((p * 10 + q : Nat) : Int) := by rw [IntKind.wrap_i64]; omega
  generalize p * 10 + q = R at *
  generalize p * 10 = P at *
  clear hd hp hq hq' hj g0 g1 g1' h1
  rw [HT.out]
  go_enter Tryz.func96, Tryz.ntmps96
  go_wp2
  go_quiet (fail)
  go_wp2
  go_ret
  exact ⟨rfl, nq, rfl⟩
/-- the date that a text of fourteen digits says -/
def dateV (s : ByteArray) : Value := .agg #[.int .i64 ((two s 0 * 100 + two s 2 : Nat) : Int), .int .i64 (two s 4 : Nat), .int .i64 (two s 6 : Nat), .int .i64 (two s 8 : Nat), .int .i64 (two s 10 : Nat), .int .i64 (two s 12 : Nat), .int .i64 0]
theorem two_le {s : ByteArray} (hs : s.size = 14) (hd : digB s = true) (i : Nat) (h : i + 1 < 14) : two s i ≤ 99 := by
  have h0 : i < s.size := by omega
  have h1 : i + 1 < s.size := by omega
  have g0 := dig_at hd h0
  have g1 := dig_at hd h1
  unfold isDig at g0 g1
  unfold two
  rw [getD_byte s i h0, getD_byte s (i + 1) h1]
  omega
set_option maxHeartbeats 2000000 in
set_option maxRecDepth 100000 in
theorem unstamp_via (s : ByteArray) (w : World) (hG : GT w) (hs : s.size = 14) (hd : digB s = true) (n e : Int) (hu : ∀ V, GT V → Calls Tryz.prog 97 #[dateV s] V fun x w' => x = .returned (.tuple #[.int .i64 n, .int .i64 e]) ∧ Below V.heap.size V w') :
    Calls Tryz.prog 65 #[.string s] w fun x w' => x = .returned (.tuple #[.int .i64 n, .int .i64 e]) ∧ Below w.heap.size w w' := by
  have HB0 : Hid (Below w.heap.size w (w.alloc (.cells #[.string s] 9))) := (Below.refl _ w).alloc (Nat.le_refl _) _
  have HDG := hidM (digits_anyK s (w.alloc (.cells #[.string s] 9)) (by omega))
  rw [hd] at HDG
  obtain ⟨W, hW⟩ : ∃ W, W = w.alloc (.cells #[.string s] 9) := ⟨_, rfl⟩
  have hW0 : W.cell? ⟨w.heap.size, 0, none⟩ = some (.string s) := by rw [hW]; simp
  have hWc : ∀ n, (W.drewN n).cell? ⟨w.heap.size, 0, none⟩ = W.cell? ⟨w.heap.size, 0, none⟩ := fun n => rfl
  have HT0 : Hid (Calls Tryz.prog 96 #[.int .i64 0, .pointer (some ⟨w.heap.size, 0, none⟩)] W fun e w' => e = .returned (.int .i64 (two s 0 : Nat)) ∧ ∃ m, w' = W.drewN m) := two_any s 0 w.heap.size W hs (by decide) hd hW0
  have HT2 : Hid (∀ n, Calls Tryz.prog 96 #[.int .i64 2, .pointer (some ⟨w.heap.size, 0, none⟩)] (W.drewN n) fun e w' => e = .returned (.int .i64 (two s 2 : Nat)) ∧ ∃ m, w' = W.drewN m) := fun n => (two_any s 2 w.heap.size (W.drewN n) hs (by decide) hd (by rw [hWc]; exact hW0)).mono fun e w' g => ⟨g.1, g.2.elim fun m hm => ⟨n + m, by rw [hm, World.drewN_drewN]⟩⟩
  have HT4 : Hid (∀ n, Calls Tryz.prog 96 #[.int .i64 4, .pointer (some ⟨w.heap.size, 0, none⟩)] (W.drewN n) fun e w' => e = .returned (.int .i64 (two s 4 : Nat)) ∧ ∃ m, w' = W.drewN m) := fun n => (two_any s 4 w.heap.size (W.drewN n) hs (by decide) hd (by rw [hWc]; exact hW0)).mono fun e w' g => ⟨g.1, g.2.elim fun m hm => ⟨n + m, by rw [hm, World.drewN_drewN]⟩⟩
  have HT6 : Hid (∀ n, Calls Tryz.prog 96 #[.int .i64 6, .pointer (some ⟨w.heap.size, 0, none⟩)] (W.drewN n) fun e w' => e = .returned (.int .i64 (two s 6 : Nat)) ∧ ∃ m, w' = W.drewN m) := fun n => (two_any s 6 w.heap.size (W.drewN n) hs (by decide) hd (by rw [hWc]; exact hW0)).mono fun e w' g => ⟨g.1, g.2.elim fun m hm => ⟨n + m, by rw [hm, World.drewN_drewN]⟩⟩
  have HT8 : Hid (∀ n, Calls Tryz.prog 96 #[.int .i64 8, .pointer (some ⟨w.heap.size, 0, none⟩)] (W.drewN n) fun e w' => e = .returned (.int .i64 (two s 8 : Nat)) ∧ ∃ m, w' = W.drewN m) := fun n => (two_any s 8 w.heap.size (W.drewN n) hs (by decide) hd (by rw [hWc]; exact hW0)).mono fun e w' g => ⟨g.1, g.2.elim fun m hm => ⟨n + m, by rw [hm, World.drewN_drewN]⟩⟩
  have HT10 : Hid (∀ n, Calls Tryz.prog 96 #[.int .i64 10, .pointer (some ⟨w.heap.size, 0, none⟩)] (W.drewN n) fun e w' => e = .returned (.int .i64 (two s 10 : Nat)) ∧ ∃ m, w' = W.drewN m) := fun n => (two_any s 10 w.heap.size (W.drewN n) hs (by decide) hd (by rw [hWc]; exact hW0)).mono fun e w' g => ⟨g.1, g.2.elim fun m hm => ⟨n + m, by rw [hm, World.drewN_drewN]⟩⟩
  have HT12 : Hid (∀ n, Calls Tryz.prog 96 #[.int .i64 12, .pointer (some ⟨w.heap.size, 0, none⟩)] (W.drewN n) fun e w' => e = .returned (.int .i64 (two s 12 : Nat)) ∧ ∃ m, w' = W.drewN m) := fun n => (two_any s 12 w.heap.size (W.drewN n) hs (by decide) hd (by rw [hWc]; exact hW0)).mono fun e w' g => ⟨g.1, g.2.elim fun m hm => ⟨n + m, by rw [hm, World.drewN_drewN]⟩⟩
  have HU : Hid (∀ m, Calls Tryz.prog 97 #[dateV s] (W.drewN m) fun x w' => x = .returned (.tuple #[.int .i64 n, .int .i64 e]) ∧ Below w.heap.size w w') := fun m => by
    have hb : Below w.heap.size w (W.drewN m) := below_drewN (by rw [hW]; exact HB0.out) m
    exact (hu _ (hG.below hb)).mono fun x w' g => ⟨g.1, hb.trans (g.2.mono hb.size)⟩
  unfold dateV at HU
  have t0 := two_le hs hd 0 (by decide)
  have t2 := two_le hs hd 2 (by decide)
  have t4 := two_le hs hd 4 (by decide)
  have t6 := two_le hs hd 6 (by decide)
  have t8 := two_le hs hd 8 (by decide)
  have t10 := two_le hs hd 10 (by decide)
  have t12 := two_le hs hd 12 (by decide)
  generalize two s 0 = p0 at *
  generalize two s 2 = p2 at *
  generalize two s 4 = p4 at *
  generalize two s 6 = p6 at *
  generalize two s 8 = p8 at *
  generalize two s 10 = p10 at *
  generalize two s 12 = p12 at *
  have HE : Hid ((p0 : Int) * 100 + (p2 : Int) = ((p0 * 100 + p2 : Nat) : Int)) := by unfold Hid; omega
  have b14 : ((s.size : Int) == 14) = true := by simp; omega
  have HW := hidM hW
  clear hu hd hG hW hWc hW0
  go_enter Tryz.func65, Tryz.ntmps65
  go_wp2_with fail
  refine HDG.out.mono ?_
  rintro _ _ ⟨rfl, rfl⟩
  go_wp2_with fail
  rw [← HW.out]
  refine HT0.out.mono ?_
  rintro _ _ ⟨rfl, n0, rfl⟩
  go_wp2_with fail
  refine (HT2.out n0).mono ?_
  rintro _ _ ⟨rfl, n1, rfl⟩
  go_wp2_with fail
  refine (HT4.out n1).mono ?_
  rintro _ _ ⟨rfl, n2, rfl⟩
  go_wp2_with fail
  refine (HT6.out n2).mono ?_
  rintro _ _ ⟨rfl, n3, rfl⟩
  go_wp2_with fail
  refine (HT8.out n3).mono ?_
  rintro _ _ ⟨rfl, n4, rfl⟩
  go_wp2_with fail
  refine (HT10.out n4).mono ?_
  rintro _ _ ⟨rfl, n5, rfl⟩
  go_wp2_with fail
  refine (HT12.out n5).mono ?_
  rintro _ _ ⟨rfl, n6, rfl⟩
  go_wp2_with fail
  rw [HE.out]
  refine (HU.out n6).mono ?_
  rintro _ w2 ⟨rfl, hb2⟩
  have HB2 := hidM hb2
  clear hb2 HU HT0 HT2 HT4 HT6 HT8 HT10 HT12
  go_wp2
  go_ret2
  exact ⟨rfl, HB2.out⟩
set_option maxHeartbeats 1000000 in
set_option maxRecDepth 100000 in
theorem unstamp_bad (s : ByteArray) (w : World) (h : s.size ≠ 14 ∨ digB s = false) :
    Calls Tryz.prog 65 #[.string s] w fun x w' => x = .returned (.tuple #[.int .i64 0, .int .i64 3]) ∧ Below w.heap.size w w' := by
  have HB0 : Hid (Below w.heap.size w (w.alloc (.cells #[.string s] 9))) := (Below.refl _ w).alloc (Nat.le_refl _) _
  by_cases h14 : s.size = 14
  · have hd : digB s = false := h.resolve_left (fun g => g h14)
    have HDG := hidM (digits_anyK s (w.alloc (.cells #[.string s] 9)) (by omega))
    rw [hd] at HDG
    clear h hd
    go_enter Tryz.func65, Tryz.ntmps65
    go_wp2_with fail
    refine HDG.out.mono ?_
    rintro _ _ ⟨rfl, rfl⟩
    go_wp2
    go_ret2
    exact ⟨rfl, HB0.out⟩
  · have b14 : ((s.size : Int) == 14) = false := by simp; omega
    have b15 : (s.size == 14) = false := by simp; omega
    clear h
    go_enter Tryz.func65, Tryz.ntmps65
    go_wp2
    go_ret2
    exact ⟨rfl, HB0.out⟩
theorem st_text : stampT 2006 1 2 15 4 5 = ⟨#[50, 48, 48, 54, 48, 49, 48, 50, 49, 53, 48, 52, 48, 53]⟩ := by decide +kernel
theorem st_date : IsDate 63271811045 2006 1 2 15 4 5 := by
  refine ⟨⟨by decide, by decide, by decide, by decide, by decide, by decide, by decide +kernel⟩, by decide, by decide, by decide⟩
end Go.Proofs.YtmhjdahmmdfbcaaGreatDoor
namespace Go.Proofs.YtmhjdahmmdfbcaaGreatDoor
open Go.RowKit
def valL (l : List UInt8) : Nat := l.foldl (fun n c => 10 * n + (c.toNat - 48)) 0
theorem val_fold (l : List UInt8) : ∀ n, l.foldl (fun n c => 10 * n + (c.toNat - 48)) n = n * 10 ^ l.length + valL l := by
  unfold valL
  induction l with
  | nil => intro n; simp
  | cons c r ih =>
    intro n
    simp only [List.foldl_cons, List.length_cons]
    rw [ih, ih (10 * 0 + _), Nat.pow_succ, Nat.add_mul]
    have e : 10 * n * 10 ^ r.length = n * (10 ^ r.length * 10) := by
      rw [Nat.mul_comm 10 n, Nat.mul_assoc, Nat.mul_comm 10]
    rw [e]
    simp only [Nat.mul_zero, Nat.zero_add]
    omega
theorem val_app (a b : List UInt8) : valL (a ++ b) = valL a * 10 ^ b.length + valL b := by
  show (a ++ b).foldl _ 0 = _
  rw [List.foldl_append, val_fold]
  rfl
theorem val_cons (c : UInt8) (r : List UInt8) : valL (c :: r) = (c.toNat - 48) * 10 ^ r.length + valL r := by
  have := val_app [c] r
  rw [show [c] ++ r = c :: r from rfl] at this
  rw [this]
  show (10 * 0 + (c.toNat - 48)) * _ + _ = _
  rw [Nat.mul_zero, Nat.zero_add]
theorem val_lt (l : List UInt8) (h : ∀ c ∈ l, isDig c) : valL l < 10 ^ l.length := by
  induction l with
  | nil => exact Nat.one_pos
  | cons c r ih =>
    have h1 := ih fun x hx => h x (List.mem_cons_of_mem _ hx)
    have h2 := h c List.mem_cons_self
    unfold isDig at h2
    rw [val_cons, List.length_cons, Nat.pow_succ]
    generalize 10 ^ r.length = P at *
    have : (c.toNat - 48) * P ≤ 9 * P := Nat.mul_le_mul_right _ (by omega)
    omega
theorem less_val (l : List UInt8) : ∀ l' : List UInt8, l.length = l'.length → (∀ c ∈ l, isDig c) → (∀ c ∈ l', isDig c) → Op.bytesLess l l' = decide (valL l < valL l') ∧ ((l == l') = decide (valL l = valL l')) := by
  induction l with
  | nil =>
    intro l' hl _ _
    cases l' with
    | nil => exact ⟨rfl, rfl⟩
    | cons _ _ => simp at hl
  | cons c r ih =>
    intro l' hl hd hd'
    cases l' with
    | nil => simp at hl
    | cons c' r' =>
      have hlr : r.length = r'.length := by simpa using hl
      have d1 := hd c List.mem_cons_self
      have d2 := hd' c' List.mem_cons_self
      have hr := fun x hx => hd x (List.mem_cons_of_mem _ hx)
      have hr' := fun x hx => hd' x (List.mem_cons_of_mem _ hx)
      obtain ⟨e1, e2⟩ := ih r' hlr hr hr'
      have v1 := val_lt r hr
      have v2 := val_lt r' hr'
      rw [val_cons, val_cons, ← hlr]
      rw [← hlr] at v2
      unfold isDig at d1 d2
      generalize 10 ^ r.length = P at *
      by_cases h1 : c = c'
      · subst h1
        constructor
        · simp only [Op.bytesLess]
          rw [e1]
          have : ¬ c < c := UInt8.lt_irrefl c
          simp [this]
        · rw [List.cons_beq_cons, e2]
          simp
      · have hne : c.toNat ≠ c'.toNat := fun h => h1 (UInt8.toNat_inj.1 h)
        have hb : (c == c') = false := by simpa using h1
        by_cases h2 : c.toNat < c'.toNat
        · have hm : (c.toNat - 48) * P + P ≤ (c'.toNat - 48) * P := by
            rw [← Nat.succ_mul]; exact Nat.mul_le_mul_right _ (by omega)
          constructor
          · simp only [Op.bytesLess]
            have : c < c' := h2
            simp [this]; omega
          · rw [List.cons_beq_cons, hb, Bool.false_and]
            exact (decide_eq_false (by omega)).symm
        · have hm : (c'.toNat - 48) * P + P ≤ (c.toNat - 48) * P := by
            rw [← Nat.succ_mul]; exact Nat.mul_le_mul_right _ (by omega)
          constructor
          · simp only [Op.bytesLess]
            have h3 : ¬ c < c' := h2
            simp [h3, hb]; omega
          · rw [List.cons_beq_cons, hb, Bool.false_and]
            exact (decide_eq_false (by omega)).symm
theorem dig_nat (d : Nat) (h : d < 10) : (dig d).toNat = 48 + d := by
  unfold dig; rw [UInt8.toNat_ofNat']; omega
theorem val2 (n : Nat) (h : n < 100) : valL (d2 n) = n := by
  show 10 * (10 * 0 + ((dig (n / 10)).toNat - 48)) + ((dig (n % 10)).toNat - 48) = n
  rw [dig_nat _ (by omega), dig_nat _ (by omega)]; omega
theorem val4 (n : Nat) (h : n < 10000) : valL (d4 n) = n := by
  show 10 * (10 * (10 * (10 * 0 + ((dig (n / 1000)).toNat - 48)) + ((dig (n / 100 % 10)).toNat - 48)) + ((dig (n / 10 % 10)).toNat - 48)) + ((dig (n % 10)).toNat - 48) = n
  rw [dig_nat _ (by omega), dig_nat _ (by omega), dig_nat _ (by omega), dig_nat _ (by omega)]; omega
theorem dig2 (n : Nat) (h : n < 100) : ∀ c ∈ d2 n, isDig c := by
  intro c hc
  unfold d2 at hc
  simp only [List.mem_cons, List.not_mem_nil, or_false] at hc
  unfold isDig
  rcases hc with rfl | rfl <;> rw [dig_nat _ (by omega)] <;> omega
theorem dig4 (n : Nat) (h : n < 10000) : ∀ c ∈ d4 n, isDig c := by
  intro c hc
  unfold d4 at hc
  simp only [List.mem_cons, List.not_mem_nil, or_false] at hc
  unfold isDig
  rcases hc with rfl | rfl | rfl | rfl <;> rw [dig_nat _ (by omega)] <;> omega
/-- the fourteen digits -/
def stL (y m d h mi s : Nat) : List UInt8 := d4 y ++ (d2 m ++ (d2 d ++ (d2 h ++ (d2 mi ++ d2 s))))
theorem stamp_list (y m d h mi s : Nat) : (stampT y m d h mi s).data.toList = stL y m d h mi s := by
  unfold stampT allT dayT timeT b4 b2 stL
  simp only [ByteArray.data_append, Array.toList_append, List.append_assoc, List.append_nil]
theorem st_val {y m d h mi s : Nat} (hy : y < 10000) (hm : m < 100) (hd : d < 100) (hh : h < 100) (hmi : mi < 100) (hs : s < 100) : valL (stL y m d h mi s) = keyN y m d h mi s := by
  unfold stL keyN dkN
  rw [val_app, val_app, val_app, val_app, val_app, val4 y hy, val2 m hm, val2 d hd, val2 h hh, val2 mi hmi, val2 s hs]
  show y * 10 ^ 10 + (m * 10 ^ 8 + (d * 10 ^ 6 + (h * 10 ^ 4 + (mi * 10 ^ 2 + s)))) = _
  omega
theorem st_dig {y m d h mi s : Nat} (hy : y < 10000) (hm : m < 100) (hd : d < 100) (hh : h < 100) (hmi : mi < 100) (hs : s < 100) : ∀ c ∈ stL y m d h mi s, isDig c := by
  intro c hc
  unfold stL at hc
  simp only [List.mem_append] at hc
  rcases hc with hc | hc | hc | hc | hc | hc
  · exact dig4 y hy c hc
  · exact dig2 m hm c hc
  · exact dig2 d hd c hc
  · exact dig2 h hh c hc
  · exact dig2 mi hmi c hc
  · exact dig2 s hs c hc
theorem IsDate.small {T y m d h mi s : Nat} (H : IsDate T y m d h mi s) : y < 10000 ∧ m < 100 ∧ d < 100 ∧ h < 100 ∧ mi < 100 ∧ s < 100 := by
  obtain ⟨_, a, b, c⟩ := clock (Nat.mod_lt T (by decide)) H.h2 H.mi2 H.s2
  have := H.day.y2; have := H.day.m2; have := H.day.d2; have := dm_le y m
  omega
theorem stamp_order {T y m d h mi s T' y' m' d' h' mi' s' : Nat} (H : IsDate T y m d h mi s) (H' : IsDate T' y' m' d' h' mi' s') :
    Op.bytesLess (stampT y m d h mi s).toList (stampT y' m' d' h' mi' s').toList = decide (T < T') ∧ ((stampT y m d h mi s).toList == (stampT y' m' d' h' mi' s').toList) = decide (T = T') := by
  rw [Lib.toList_data, Lib.toList_data, stamp_list, stamp_list]
  obtain ⟨a1, a2, a3, a4, a5, a6⟩ := H.small
  obtain ⟨b1, b2, b3, b4, b5, b6⟩ := H'.small
  obtain ⟨e1, e2⟩ := less_val _ (stL y' m' d' h' mi' s') (show (stL y m d h mi s).length = _ by rfl) (st_dig a1 a2 a3 a4 a5 a6) (st_dig b1 b2 b3 b4 b5 b6)
  rw [e1, e2, st_val a1 a2 a3 a4 a5 a6, st_val b1 b2 b3 b4 b5 b6]
  exact ⟨decide_eq_decide.2 (date_lt_iff H H').symm, decide_eq_decide.2 (date_eq_iff H H').symm⟩
end Go.Proofs.YtmhjdahmmdfbcaaGreatDoor
