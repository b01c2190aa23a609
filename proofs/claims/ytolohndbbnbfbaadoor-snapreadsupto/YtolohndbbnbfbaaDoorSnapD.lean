/-
  A folder in the heap; where a path stands, and which paths begin so.
-/
import Derived.Test.YtolohndbbnbfbaaDoorSnapC
namespace Go.Proofs.YtolohndbbnbfbaaDoor
open Go.RowKit

/-- a folder: its cell holds the slice of its files -/
structure Folder (w : World) (q b off c : Nat) (fs : List FileB) : Prop where
  cell : w.cell? ⟨q, 0, none⟩ = some (.slice (some ⟨b, off, none⟩) fs.length c)
  files : FilesAt w b off fs
  qlt : q < w.heap.size
  blt : b < w.heap.size
  cap : fs.length ≤ c
theorem Folder.below {w w' : World} {q b off c : Nat} {fs : List FileB} (h : Folder w q b off c fs) (hb : Below w.heap.size w w') : Folder w' q b off c fs :=
  ⟨(hb.cell (p := ⟨q, 0, none⟩) h.qlt).trans h.cell, h.files.below hb h.blt, Nat.lt_of_lt_of_le h.qlt hb.size, Nat.lt_of_lt_of_le h.blt hb.size, h.cap⟩
def PlacePost (fs : List FileB) (p : ByteArray) (e : Ending) : Prop := ∃ i, Spot fs p i ∧ e = .returned (.tuple #[.int .i64 (i : Nat), .bool (thereB fs p i)])
set_option maxHeartbeats 1600000 in
theorem place_any (q b off c : Nat) (fs : List FileB) (p : ByteArray) (w : World) (hF : Folder w q b off c fs) (hl : fs.length ≤ 1000000) (hm : Mono fs p) :
    Calls Tryd.prog 56 #[.pointer (some ⟨q, 0, none⟩), .string p] w fun e w' => PlacePost fs p e ∧ Below w.heap.size w w' := by
  have hc := hF.cell
  have HB := hidM (bsearch_at b off c fs p w hF.blt hF.files hl hm)
  clear hF hm
  go_enter Tryd.func56, Tryd.ntmps56
  go_wp2_with fail
  refine HB.out.mono ?_
  rintro _ w1 ⟨⟨i, hi, rfl⟩, hb1⟩
  have HI := hidM hi
  clear hi
  go_wp2_with fail
  go_ret2
  exact ⟨⟨i, HI.out, rfl⟩, hb1⟩

/-- how many files from i on begin with p -/
def runF (fs : List FileB) (p : ByteArray) (i : Nat) : Nat := ((fs.drop i).takeWhile fun f => Lib.hasPrefix f.1.data.toList p.data.toList).length
def beginsF (p : ByteArray) (f : FileB) : Bool := Lib.hasPrefix f.1.data.toList p.data.toList
theorem runF_eq (fs : List FileB) (p : ByteArray) (i e : Nat) (hie : i ≤ e) (he : e ≤ fs.length) (h1 : ∀ t (h : t < fs.length), i ≤ t → t < e → beginsF p fs[t] = true)
    (h2 : ∀ (h : e < fs.length), beginsF p fs[e] = false) : runF fs p i = e - i := by
  unfold runF
  obtain ⟨n, rfl⟩ : ∃ n, e = i + n := ⟨e - i, by omega⟩
  clear hie
  induction n generalizing i with
  | zero =>
    by_cases h : i < fs.length
    · rw [List.drop_eq_getElem_cons h, List.takeWhile_cons]
      have := h2 (by simpa using h)
      simp only [Nat.add_zero] at this
      unfold beginsF at this
      rw [this]; simp
    · rw [List.drop_of_length_le (by omega)]; simp
  | succ n ih =>
    have h : i < fs.length := by omega
    rw [List.drop_eq_getElem_cons h, List.takeWhile_cons]
    have hb := h1 i h (Nat.le_refl _) (by omega)
    unfold beginsF at hb
    rw [hb]
    have := ih (i + 1) (by omega) (fun t ht h3 h4 => h1 t ht (by omega) (by omega)) (fun hh => by
      have h5 := h2 (by omega)
      have h6 : i + 1 + n = i + (n + 1) := by omega
      simp only [h6]; exact h5)
    simp only [if_true, List.length_cons]
    rw [this]; omega
def UnderPost (b off : Nat) (fs : List FileB) (p : ByteArray) (e : Ending) : Prop := ∃ i o c', Spot fs p i ∧ (0 < runF fs p i → o = off + i * 2) ∧ runF fs p i ≤ c' ∧ e = .returned (.slice (some ⟨b, o, none⟩) (runF fs p i) c')
set_option maxHeartbeats 1600000 in
theorem under_any (q b off c : Nat) (fs : List FileB) (p : ByteArray) (w : World) (hF : Folder w q b off c fs) (hl : fs.length ≤ 1000000) (hm : Mono fs p) :
    Calls Tryd.prog 58 #[.pointer (some ⟨q, 0, none⟩), .string p] w fun e w' => UnderPost b off fs p e ∧ Below w.heap.size w w' := by
  have HPL := hidM (place_any q b off c fs p w hF hl hm)
  have HF := hidM hF
  clear hF hm
  go_enter Tryd.func58, Tryd.ntmps58
  go_wp2_with fail
  refine HPL.out.mono ?_
  rintro _ w1 ⟨⟨i, hi, rfl⟩, hb1⟩
  have HI := hidM hi
  have HF1 := hidM (HF.out.below hb1)
  have HB1 := hidM hb1
  clear hi hb1
  have hc := HF1.out.cell
  have hil := HI.out.le
  have hcap := HF.out.cap
  go_wp2_with fail
  go_loopw [7] (fun x wr => ∃ (e : Nat), i ≤ e ∧ e ≤ fs.length ∧ x = .int .i64 e ∧ (∀ t (h : t < fs.length), i ≤ t → t < e → beginsF p fs[t] = true) ∧ wr = w1) (fun x _ => fs.length - (intOf x).toNat)
  case atStart => exact ⟨i, Nat.le_refl _, hil, rfl, fun t _ h3 h4 => by omega, rfl⟩
  case round =>
    obtain ⟨e, h1, h2, rfl, hp, rfl⟩ := hrel
    have HP := hidM hp
    clear hp
    have c0 : (0 : Int) ≤ (i : Int) := by omega
    have c1 : (i : Int) ≤ (e : Int) := by omega
    have c2 : (e : Int) ≤ (c : Int) := by omega
    by_cases hlt : e < fs.length
    · have kk : (e : Int) < (fs.length : Int) := by omega
      have hf1 := (HF1.out.files e hlt).1
      have HHP : Hid (∀ W, Calls Tryd.prog 74 #[.string fs[e].1, .string p] W fun e' w' => e' = .returned (.bool (beginsF p fs[e])) ∧ w' = W) := fun W => Tryd.strings_HasPrefix fs[e].1 p W
      by_cases hb : beginsF p fs[e] = true
      · have HN : Hid (∀ t (h : t < fs.length), i ≤ t → t < e + 1 → beginsF p fs[t] = true) := fun t h h3 h4 => by
          by_cases h5 : t < e
          · exact HP.out t h h3 h5
          · have : t = e := by omega
            subst this; exact hb
        rw [hb] at HHP
        generalize fs[e].1 = X at *
        clear hb
        go_wp2_with fail
        refine (HHP.out _).mono ?_
        rintro _ w2 ⟨rfl, rfl⟩
        go_wp2_with fail
        go_roundw
        case rel => exact ⟨e + 1, by omega, by omega, by go_num, HN.out, trivial⟩
        case measure => (show fs.length - ((e : Int) + 1).toNat < fs.length - ((e : Int)).toNat); omega
      · have HR := hidM (runF_eq fs p i e h1 h2 HP.out (fun _ => by simpa using hb))
        have hb' : beginsF p fs[e] = false := by simpa using hb
        rw [hb'] at HHP
        generalize fs[e].1 = X at *
        clear hb hb'
        go_wp2_with fail
        refine (HHP.out _).mono ?_
        rintro _ w2 ⟨rfl, rfl⟩
        go_wp2_with fail
        all_goals
          go_ret
          first
            | exact ⟨⟨i, off + i * 2, c - i, HI.out, fun _ => rfl, by have := HR.out; omega, by rw [HR.out]; rfl⟩, HB1.out⟩
            | exact ⟨⟨i, off, 0, HI.out, fun h => by have := HR.out; omega, by have := HR.out; omega, by rw [HR.out]; rfl⟩, HB1.out⟩
    · obtain rfl : e = fs.length := by omega
      have HR := hidM (runF_eq fs p i fs.length h1 h2 HP.out (fun h => by omega))
      go_wp2_with fail
      all_goals
        go_ret
        first
          | exact ⟨⟨i, off + i * 2, c - i, HI.out, fun _ => rfl, by have := HR.out; omega, by rw [HR.out]; rfl⟩, HB1.out⟩
          | exact ⟨⟨i, off, 0, HI.out, fun h => by have := HR.out; omega, by have := HR.out; omega, by rw [HR.out]; rfl⟩, HB1.out⟩
end Go.Proofs.YtolohndbbnbfbaaDoor
