/-
  A line of a picture.
-/
import Derived.Lib.TrimByte
import Derived.Lib.Repeat
import Derived.Laws.BytesString
import Derived.Test.YthgmabbnmoembaaDoorShelf
import Derived.Test.YthgmabbnmoembaaDoorGraH
namespace Go.Proofs.YthgmabbnmoembaaDoor
open Go.RowKit

theorem len_size (s : ByteArray) : s.data.toList.length = s.size := by simp
def bytesV (l : List UInt8) : List Value := l.map fun (c : UInt8) => .int .u8 (c.toNat : Int)
theorem bytesV_at (l : List UInt8) (j : Nat) (h : j < l.length) : (bytesV l)[j]? = some (.int .u8 (l[j].toNat : Int)) := by unfold bytesV; simp [h]
/-- bytes that stand in a block from its first cell on, and may be written -/
structure DRow (V : World) (b : Nat) (l : List UInt8) : Prop where
  cell : ∀ j (hj : j < l.length), V.cell? ⟨b, j, none⟩ = some (.int .u8 (l[j].toNat : Int))
  free : ∀ j, j < l.length → V.frozen? ⟨b, j, none⟩ = false

theorem DRow.set {V : World} {b : Nat} {l : List UInt8} (h : DRow V b l) (p : Nat) (hp : p < l.length) (y : UInt8) : DRow (V.setCell ⟨b, p, none⟩ (.int .u8 (y.toNat : Int))) b (l.set p y) := by
  refine ⟨fun j hj => ?_, fun j hj => ?_⟩
  · have hj' : j < l.length := by simpa using hj
    by_cases hjp : p = j
    · subst hjp
      rw [World.cell?_setCell_same _ _ _ (h.cell p hp), List.getElem_set_self]
    · rw [World.cell?_setCell_other _ _ _ _ (by intro h; cases h; exact hjp rfl), h.cell j hj', List.getElem_set_ne hjp]
  · rw [World.frozen?_setCell]
    exact h.free j (by simpa using hj)
theorem DRow.back {V : World} {b cap : Nat} {l : List UInt8} (h : DRow V b l) :
    (convert 57 9 (.slice (some ⟨b, 0, none⟩) l.length cap)).run Tryd.prog V = .ok (.string ⟨l.toArray⟩) V :=
  run_convert_bytes_back (P := Tryd.prog) V 57 9 5 ⟨b, 0, none⟩ cap l Tryd.underlying57 Tryd.underlying5 Tryd.underlying9 (fun j hj => by
    have ha : (⟨b, 0, none⟩ : Addr).add j = ⟨b, j, none⟩ := by rw [Addr.add_lit, Nat.zero_add]
    rw [ha]
    exact h.cell j hj)
theorem row_string (w : World) (s : ByteArray) (hs : s.size ≤ 1000000000) :
    ∃ cap W, (convert 9 57 (.string s)).run Tryd.prog w = .ok (.slice (some ⟨w.heap.size, 0, none⟩) s.size cap) W ∧ s.size ≤ cap ∧ cap ≤ maxLen ∧ DRow W w.heap.size s.data.toList ∧ Below w.heap.size w W := by
  have h := run_bytes_of_string (P := Tryd.prog) w 9 57 5 s Tryd.underlying9 Tryd.underlying57 Tryd.underlying5
  have hge := grownCap_ge w s.size 0 5
  have hcm := grownCap_le_maxLen w s.size 0 5 (by unfold maxLen; omega)
  have hsz : (bytesRow s (grownCap w s.size 0 5)).size = grownCap w s.size 0 5 := by unfold bytesRow; simp; omega
  refine ⟨_, _, h, hge, hcm, ⟨fun j hj => ?_, fun j hj => ?_⟩, ((Below.refl _ _).drew).alloc (by simp) _⟩
  · rw [cell_of_row _ w.heap.size j _ 5 _ (heap_alloc_new w.drew _)]
    have h2 := bytesV_at s.data.toList j hj
    have ht : (bytesRow s (grownCap w s.size 0 5)).toList.take s.data.toList.length = bytesV s.data.toList := by
      unfold bytesRow
      rw [Array.toList_append, List.take_append_of_le_length (by simp), List.take_of_length_le (by simp)]
      simp [bytesV]
    rw [← ht, List.getElem?_take, if_pos hj] at h2
    simpa using h2
  · have hj' : j < s.size := by rw [← len_size]; exact hj
    unfold World.frozen?
    have hh := heap_alloc_new w.drew (.cells (bytesRow s (grownCap w s.size 0 5)) 5 ((bytesRow s (grownCap w s.size 0 5)).size, (bytesRow s (grownCap w s.size 0 5)).size + 1))
    rw [show w.drew.heap.size = w.heap.size from rfl] at hh
    simp only [hh]
    simp only [hsz]
    have : ¬ grownCap w s.size 0 5 ≤ j := by omega
    simp [this]


/-- a row's bytes: a star, bars, blanks -/
def markB (own : Nat) (A : List Int) (j : Nat) : UInt8 := if j = own then 42 else if j < A.length ∧ A.getD j 0 ≠ -1 then 124 else 32
def lineL (own : Nat) (A : List Int) : List UInt8 := (List.range (max A.length (own + 1))).map (markB own A)
def barsL (m : Nat) (A : List Int) (k : Nat) : List UInt8 := (List.range m).map fun j => if j < k ∧ A.getD j 0 ≠ -1 then 124 else 32
theorem barsL_len (m : Nat) (A : List Int) (k : Nat) : (barsL m A k).length = m := by unfold barsL; simp
theorem barsL_zero (m : Nat) (A : List Int) : barsL m A 0 = List.replicate m 32 := by
  unfold barsL
  refine List.ext_getElem (by simp) fun j h1 h2 => ?_
  simp
theorem barsL_bar {m : Nat} {A : List Int} {k : Nat} (h : A.getD k 0 ≠ -1) : (barsL m A k).set k 124 = barsL m A (k + 1) := by
  unfold barsL
  refine List.ext_getElem (by simp) fun j h1 h2 => ?_
  simp at h1
  rw [List.getElem_set]
  by_cases hj : k = j
  · subst hj
    rw [if_pos rfl]
    simp only [List.getElem_map, List.getElem_range]
    rw [if_pos ⟨by omega, h⟩]
  · rw [if_neg hj]
    simp only [List.getElem_map, List.getElem_range]
    by_cases h3 : j < k
    · have h4 : j < k + 1 := by omega
      simp only [h3, h4, true_and]
    · have h4 : ¬ j < k + 1 := by omega
      simp only [h3, h4, false_and]
theorem barsL_skip {m : Nat} {A : List Int} {k : Nat} (h : A.getD k 0 = -1) : barsL m A k = barsL m A (k + 1) := by
  unfold barsL
  refine List.map_congr_left fun j _ => ?_
  by_cases hj : j = k
  · subst hj
    rw [if_neg (fun h2 => absurd h2.1 (Nat.lt_irrefl _)), if_neg (fun h2 => h2.2 h)]
  · by_cases h3 : j < k
    · have h4 : j < k + 1 := by omega
      simp only [h3, h4, true_and]
    · have h4 : ¬ j < k + 1 := by omega
      simp only [h3, h4, false_and]
theorem barsL_star {own : Nat} {A : List Int} : (barsL (max A.length (own + 1)) A A.length).set own 42 = lineL own A := by
  unfold barsL lineL markB
  refine List.ext_getElem (by simp) fun j h1 h2 => ?_
  rw [List.getElem_set]
  simp only [List.getElem_map, List.getElem_range]
  by_cases hj : own = j
  · subst hj; simp
  · have hj2 : ¬ j = own := fun e => hj e.symm
    simp only [hj, hj2, if_false]
theorem repeat_one (m : Nat) : Lib.repeatL [32] m = List.replicate m 32 := by
  induction m with
  | zero => rfl
  | succ m ih => show [32] ++ Lib.repeatL [32] m = _; rw [ih]; rfl
theorem trim_app (l : List UInt8) (n : Nat) : Lib.trimRightB (l ++ List.replicate n 32) 32 = Lib.trimRightB l 32 := by
  unfold Lib.trimRightB
  rw [List.reverse_append, List.reverse_replicate]
  congr 1
  induction n with
  | zero => simp
  | succ n ih => rw [List.replicate_succ]; simp
theorem trim_snoc (l : List UInt8) : Lib.trimRightB (l ++ [32]) 32 = Lib.trimRightB l 32 := trim_app l 1
theorem trim_done (l : List UInt8) (h : ∀ b, l.getLast? = some b → b ≠ 32) : Lib.trimRightB l 32 = l := by
  unfold Lib.trimRightB
  cases hr : l.reverse with
  | nil =>
    have := congrArg List.reverse hr
    simp at this
    subst this
    rfl
  | cons b r =>
    have h1 : l.getLast? = some b := by rw [← List.head?_reverse, hr]; rfl
    have h2 := h b h1
    rw [List.dropWhile_cons_of_neg (by simpa using h2), ← hr, List.reverse_reverse]
theorem lineL_at {own : Nat} {A : List Int} {j : Nat} (h : j < (lineL own A).length) : (lineL own A)[j] = markB own A j := by simp [lineL]
/-- the document's line -/
def rmarkB (i own : Nat) (A : List Int) (j : Nat) : UInt8 := if j = own then 42 else if j < A.length ∧ (i : Int) < A.getD j 0 then 124 else 32
def rlineL (i own : Nat) (A : List Int) : List UInt8 := (List.range 41).map (rmarkB i own A)
theorem rlineL_at {i own : Nat} {A : List Int} {j : Nat} (h : j < (rlineL i own A).length) : (rlineL i own A)[j] = rmarkB i own A j := by simp [rlineL]
theorem rline_eq {i own : Nat} {A : List Int} (ho : own ≤ 40) (hA : A.length ≤ 40) (h : ∀ j, j < A.length → j ≠ own → (A.getD j 0 ≠ -1 ↔ (i : Int) < A.getD j 0)) : Lib.trimRightB (rlineL i own A) 32 = Lib.trimRightB (lineL own A) 32 := by
  have e : rlineL i own A = lineL own A ++ List.replicate (41 - max A.length (own + 1)) 32 := by
    refine List.ext_getElem (by unfold rlineL lineL; simp; omega) fun j h1 h2 => ?_
    have hj : j < 41 := by unfold rlineL at h1; simpa using h1
    rw [rlineL_at, List.getElem_append]
    split
    · rename_i h3
      rw [lineL_at]
      unfold rmarkB markB
      by_cases hjo : j = own
      · simp [hjo]
      · simp only [hjo, if_false]
        by_cases hja : j < A.length
        · have := h j hja hjo
          simp only [hja, true_and, this]
        · simp [hja]
    · rename_i h3
      unfold lineL at h3
      simp at h3
      rw [List.getElem_replicate]
      unfold rmarkB
      rw [if_neg (by omega), if_neg (by omega)]
  rw [e, trim_app]
def picL (L : List (List Int)) (k : Nat) : List ByteArray := (List.range k).map fun i => ⟨(Lib.trimRightB (lineL (takeK (lanes L i) i) (lanes L i)) 32).toArray⟩
theorem picL_next (L : List (List Int)) (k : Nat) : picL L (k + 1) = picL L k ++ [⟨(Lib.trimRightB (lineL (takeK (lanes L k) k) (lanes L k)) 32).toArray⟩] := by unfold picL; rw [List.range_succ, List.map_append]; rfl
theorem picL_len (L : List (List Int)) (k : Nat) : (picL L k).length = k := by unfold picL; simp
theorem pic_line {L : List (List Int)} (h : placesE L = 0) {i : Nat} (hi : i < L.length) : Lib.trimRightB (rlineL i (takeK (lanes L i) i) (lanes L i)) 32 = Lib.trimRightB (lineL (takeK (lanes L i) i) (lanes L i)) 32 ∧ takeK (lanes L i) i < 40 ∧ (lanes L i).length ≤ 40 := by
  obtain ⟨h1, h2⟩ := places_zero h
  have hinv := lanes_inv (ok_of_check h1) i (by omega)
  have hlen : (lanes L i).length ≤ 40 := lanes_len fun j hj => h2 j (by omega)
  have hlt := lane_lt L i
  have hle := h2 i hi
  refine ⟨rline_eq (by omega) hlen fun j hj hjo => ?_, by omega, hlen⟩
  rw [gd_at hj]
  rcases hinv.lo _ (List.getElem_mem hj) with h3 | h3
  · rw [h3]; constructor
    · intro h; exact absurd rfl h
    · intro h; omega
  · constructor
    · intro _
      by_cases h4 : (lanes L i)[j] = (i : Int)
      · exfalso
        have hm : (i : Int) ∈ lanes L i := by rw [← h4]; exact List.getElem_mem hj
        have hp := pos_mem.1 hm
        have hk : takeK (lanes L i) i = pos i (lanes L i) := by unfold takeK; rw [if_pos hp]
        exact hjo (by rw [hk]; exact pos_uniq (hinv.le i (by omega)) hj hp h4 (pos_get _ _ hp))
      · omega
    · intro h; omega
set_option maxHeartbeats 2000000 in
theorem line_any (own : Nat) (v : Value) (A : List Int) (w : World) (hv : IntsV w v A) (ho : own ≤ 10000) (hA : A.length ≤ 10000) :
    Calls Tryd.prog 21 #[.int .i64 own, v] w fun e w' => e = .returned (.string ⟨(Lib.trimRightB (lineL own A) 32).toArray⟩) ∧ Below w.heap.size w w' := by
  obtain ⟨a, cp, rfl, -, -, hst⟩ := hv
  have HST := hidM hst
  obtain ⟨m, hm⟩ : ∃ m, max A.length (own + 1) = m := ⟨_, rfl⟩
  have HSTAR : Hid ((barsL m A A.length).set own 42 = lineL own A) := by rw [← hm]; exact barsL_star
  have hmx : max (A.length : Int) ((own : Int) + 1) = (m : Int) := by omega
  have hom : own < m := by omega
  have hAm : A.length ≤ m := by omega
  have hm2 : m ≤ 20000 := by omega
  have HZ := hidM (barsL_zero m A)
  have HLE := hidM (barsL_len m A)
  obtain ⟨n, hn⟩ : ∃ n, A.length = n := ⟨_, rfl⟩
  have HN := hidM hn
  rw [hn] at hAm hmx HSTAR hA ⊢
  clear hst hm hn
  go_enter Tryd.func21, Tryd.ntmps21
  go_wp2_with fail
  refine (Tryd.strings_Repeat ⟨#[32]⟩ m _ (by omega) (by show 1 * m ≤ _; omega)).mono ?_
  rintro _ w1 ⟨rfl, hb1⟩
  have hr1 : (⟨(Lib.repeatL (ByteArray.mk #[32]).data.toList m).toArray⟩ : ByteArray) = ⟨(List.replicate m 32).toArray⟩ := by
    show (⟨(Lib.repeatL [32] m).toArray⟩ : ByteArray) = _
    rw [repeat_one]
  rw [hr1]
  obtain ⟨S, hS⟩ : ∃ S : ByteArray, (⟨(List.replicate m 32).toArray⟩ : ByteArray) = S := ⟨_, rfl⟩
  have hSs : S.size = m := by rw [← hS]; simp [ByteArray.size]
  have hSl : S.data.toList = barsL m A 0 := by rw [← hS, HZ.out]
  rw [hS]
  obtain ⟨cap, w2, hcv, hcap, hcm, hrow, hb2⟩ := row_string w1 S (by omega)
  rw [hSl] at hrow
  rw [hSs] at hcv hcap
  have HROW := hidM hrow
  have HB2 := hidM (hb1.trans (hb2.mono hb1.size))
  have hBw := hb1.size
  clear hS hSs hSl hb1 hb2 hrow hr1 HZ
  obtain ⟨b, hb⟩ : ∃ b, w1.heap.size = b := ⟨_, rfl⟩
  rw [hb] at hcv hBw HROW
  go_wp2
  go_loopw [17] (fun iv wr => ∃ (k : Nat), k ≤ n ∧ iv = .int .i64 k ∧ Hid (DRow wr b (barsL m A k)) ∧ Hid (Below w.heap.size w wr)) (fun iv _ => n - (intOf iv).toNat)
  case atStart => exact ⟨0, Nat.zero_le _, rfl, HROW, HB2⟩
  case round =>
    obtain ⟨k, hk, rfl, HR, HB⟩ := hrel
    clear HROW HB2 hcv
    by_cases hlt : k < n
    · have kk : (k : Int) < (n : Int) := by omega
      have hkl : k < A.length := by rw [HN.out]; exact hlt
      obtain ⟨g, o, ha, hg, hat⟩ := HST.out (fun h => by rw [h] at hkl; simp at hkl)
      subst ha
      have ck : wr.cell? ⟨g, o + k, none⟩ = some (.int .i64 A[k]) := (HB.out.cell (p := ⟨g, o + k, none⟩) hg).trans (hat k hkl)
      have hgd := gd_at hkl
      have km : (k : Int) < (m : Int) := by omega
      clear hat
      by_cases hx : A[k] = -1
      · have HNX := hidM (barsL_skip (m := m) (A := A) (k := k) (by rw [hgd]; exact hx))
        rw [hx] at ck
        clear hx hgd
        rw [HNX.out] at HR
        go_wp2
        go_roundw
        case rel => exact ⟨k + 1, by omega, by go_num, HR, HB⟩
        case measure => (show n - ((k : Int) + 1).toNat < n - ((k : Int)).toNat); omega
      · have HNX := hidM (barsL_bar (m := m) (A := A) (k := k) (by rw [hgd]; exact hx))
        have e1 : (A[k] == -1) = false := by simpa using hx
        have e2 : (A[k] != -1) = true := by simpa using hx
        generalize A[k] = x at *
        have hkm : k < (barsL m A k).length := by rw [HLE.out]; omega
        have cb := HR.out.cell k hkm
        have fb := HR.out.free k hkm
        have HR2 := hidM (HR.out.set k hkm 124)
        rw [HNX.out] at HR2
        have HB2 : Hid (Below w.heap.size w (wr.setCell ⟨b, k, none⟩ (.int .u8 124))) := HB.out.setCell hBw _
        generalize ((barsL m A k)[k]'hkm) = y at *
        clear hgd hx
        have HR3 : Hid (DRow (wr.setCell ⟨b, k, none⟩ (.int .u8 124)) b (barsL m A (k + 1))) := HR2.out
        clear HR2
        go_wp2
        go_roundw
        case rel => exact ⟨k + 1, by omega, by go_num, HR3, HB2⟩
        case measure => (show n - ((k : Int) + 1).toNat < n - ((k : Int)).toNat); omega
    · have hkn : k = n := by omega
      subst hkn
      have kk : ¬ (k : Int) < (k : Int) := by omega
      have hom2 : own < (barsL m A k).length := by rw [HLE.out]; exact hom
      have kom : (own : Int) < (m : Int) := by omega
      have cb := HR.out.cell own hom2
      have fb := HR.out.free own hom2
      have HR2 := hidM (HR.out.set own hom2 42)
      rw [HSTAR.out] at HR2
      have HB2 : Hid (Below w.heap.size w (wr.setCell ⟨b, own, none⟩ (.int .u8 42))) := HB.out.setCell hBw _
      have HLL : Hid ((lineL own A).length = m) := by unfold Hid; rw [← HSTAR.out, List.length_set, HLE.out]
      have HR3 : Hid (DRow (wr.setCell ⟨b, own, none⟩ (.int .u8 42)) b (lineL own A)) := HR2.out
      have hcb := HR3.out.back (cap := cap)
      rw [HLL.out] at hcb
      have HTR := hidM (fun V => Tryd.strings_TrimRight_one ⟨(lineL own A).toArray⟩ 32 (by decide) V (by have := HLL.out; simp [ByteArray.size]; omega))
      generalize ((barsL m A k)[own]'hom2) = y at *
      clear HR2 HR HSTAR HLE HB
      have HT2 : Hid (∀ V, Calls Tryd.prog 27 #[.string ⟨(lineL own A).toArray⟩, .string ⟨#[32]⟩] V fun e w' => e = .returned (.string ⟨(Lib.trimRightB (lineL own A) 32).toArray⟩) ∧ w' = V) := HTR.out
      clear HTR
      generalize (⟨(lineL own A).toArray⟩ : ByteArray) = Z at *
      obtain ⟨Z2, hZ2⟩ : ∃ Z2, (⟨(Lib.trimRightB (lineL own A) 32).toArray⟩ : ByteArray) = Z2 := ⟨_, rfl⟩
      rw [hZ2] at HT2
      have HZ2 := hidM hZ2
      clear hZ2
      go_wp2_with fail
      refine (HT2.out _).mono ?_
      rintro _ wq ⟨rfl, hq⟩
      rw [hq]
      clear hq
      go_wp2
      go_ret
      exact ⟨by rw [HZ2.out]; rfl, HB2.out⟩
end Go.Proofs.YthgmabbnmoembaaDoor
