/-
  A folder in the heap; where a path stands, and which paths begin so.
  The closures of slices.SortFunc and slices.Clone at files, laid at this program without a walk.
-/
import Derived.Test.YtddoemeellbhaaaGreatDoorJSnapC
import Derived.Shelf.SlGeneric
import Derived.Shelf.SlSortCmp.NoneTotal
import Derived.Shelf.SlicesE.Clone
import Derived.Ground.SlsfProg
import Derived.Ground.SlgnProg
import Derived.Test.YtddoemeellbhaaaGreatDoorProg
namespace Go.Proofs.YtddoemeellbhaaaGreatDoor
open Go.RowKit
/-- a folder: its cell holds the slice of its files -/
structure Folder (w : World) (q b off c : Nat) (fs : List FileB) : Prop where
  cell : w.cell? ⟨q, 0, none⟩ = some (.slice (some ⟨b, off, none⟩) fs.length c)
  files : FilesAt w b off fs
  qlt : q < w.heap.size
  blt : b < w.heap.size
  cap : fs.length ≤ c
theorem Folder.below {w w' : World} {q b off c : Nat} {fs : List FileB} (h : Folder w q b off c fs) (hb : Below w.heap.size w w') : Folder w' q b off c fs :=
  ⟨(hb.cell (p := ⟨q, 0, none⟩) h.qlt).trans h.cell, h.files.below hb h.blt, Nat.lt_of_lt_of_le h.qlt hb.size, Nat.lt_of_lt_of_le h.blt hb.size, h.cap⟩
def PlacePost (fs : List FileB) (p : ByteArray) (e : Ending) : Prop := ∃ i, Spot fs p i ∧ e = .returned (.tuple #[.int .i64 (i : Nat), .bool (thereB fs p i)])
set_option maxHeartbeats 1600000 in
theorem place_any (q b off c : Nat) (fs : List FileB) (p : ByteArray) (w : World) (hF : Folder w q b off c fs) (hl : fs.length ≤ 1000000) (hm : Mono fs p) :
    Calls Tryz.prog 89 #[.pointer (some ⟨q, 0, none⟩), .string p] w fun e w' => PlacePost fs p e ∧ Below w.heap.size w w' := by
  have hc := hF.cell
  have HB := hidMO (bsearch_at b off c fs p w hF.blt hF.files hl hm)
  clear hF hm
  go_enter Tryz.func89, Tryz.ntmps89
  go_wp2_with fail
  refine HB.out.mono ?_
  rintro _ w1 ⟨⟨i, hi, rfl⟩, hb1⟩
  have HI := hidMO hi
  clear hi
  go_wp2_with fail
  go_ret2
  exact ⟨⟨i, HI.out, rfl⟩, hb1⟩
/-- how many files from i on begin with p -/
def runF (fs : List FileB) (p : ByteArray) (i : Nat) : Nat := ((fs.drop i).takeWhile fun f => Lib.hasPrefix f.1.data.toList p.data.toList).length
def beginsF (p : ByteArray) (f : FileB) : Bool := Lib.hasPrefix f.1.data.toList p.data.toList
theorem runF_eq (fs : List FileB) (p : ByteArray) (i e : Nat) (hie : i ≤ e) (he : e ≤ fs.length) (h1 : ∀ t (h : t < fs.length), i ≤ t → t < e → beginsF p fs[t] = true)
    (h2 : ∀ (h : e < fs.length), beginsF p fs[e] = false) : runF fs p i = e - i := by
  unfold runF
  obtain ⟨n, rfl⟩ : ∃ n, e = i + n := ⟨e - i, by omega⟩
  clear hie
  induction n generalizing i with
  | zero =>
    by_cases h : i < fs.length
    · rw [List.drop_eq_getElem_cons h, List.takeWhile_cons]
      have := h2 (by simpa using h)
      simp only [Nat.add_zero] at this
      unfold beginsF at this
      rw [this]; simp
    · rw [List.drop_of_length_le (by omega)]; simp
  | succ n ih =>
    have h : i < fs.length := by omega
    rw [List.drop_eq_getElem_cons h, List.takeWhile_cons]
    have hb := h1 i h (Nat.le_refl _) (by omega)
    unfold beginsF at hb
    rw [hb]
    have := ih (i + 1) (by omega) (fun t ht h3 h4 => h1 t ht (by omega) (by omega)) (fun hh => by
      have h5 := h2 (by omega)
      have h6 : i + 1 + n = i + (n + 1) := by omega
      simp only [h6]; exact h5)
    simp only [if_true, List.length_cons]
    rw [this]; omega
def UnderPost (b off : Nat) (fs : List FileB) (p : ByteArray) (e : Ending) : Prop := ∃ i o c', Spot fs p i ∧ (0 < runF fs p i → o = off + i * 2) ∧ runF fs p i ≤ c' ∧ e = .returned (.slice (some ⟨b, o, none⟩) (runF fs p i) c')
set_option maxHeartbeats 1600000 in
theorem under_any (q b off c : Nat) (fs : List FileB) (p : ByteArray) (w : World) (hF : Folder w q b off c fs) (hl : fs.length ≤ 1000000) (hm : Mono fs p) :
    Calls Tryz.prog 78 #[.pointer (some ⟨q, 0, none⟩), .string p] w fun e w' => UnderPost b off fs p e ∧ Below w.heap.size w w' := by
  have HPL := hidMO (place_any q b off c fs p w hF hl hm)
  have HF := hidMO hF
  clear hF hm
  go_enter Tryz.func78, Tryz.ntmps78
  go_wp2_with fail
  refine HPL.out.mono ?_
  rintro _ w1 ⟨⟨i, hi, rfl⟩, hb1⟩
  have HI := hidMO hi
  have HF1 := hidMO (HF.out.below hb1)
  have HB1 := hidMO hb1
  clear hi hb1
  have hc := HF1.out.cell
  have hil := HI.out.le
  have hcap := HF.out.cap
  go_wp2_with fail
  go_loopw [7] (fun x wr => ∃ (e : Nat), i ≤ e ∧ e ≤ fs.length ∧ x = .int .i64 e ∧ (∀ t (h : t < fs.length), i ≤ t → t < e → beginsF p fs[t] = true) ∧ wr = w1) (fun x _ => fs.length - (intOf x).toNat)
  case atStart => exact ⟨i, Nat.le_refl _, hil, rfl, fun t _ h3 h4 => by omega, rfl⟩
  case round =>
    obtain ⟨e, h1, h2, rfl, hp, rfl⟩ := hrel
    have HP := hidMO hp
    clear hp
    have c0 : (0 : Int) ≤ (i : Int) := by omega
    have c1 : (i : Int) ≤ (e : Int) := by omega
    have c2 : (e : Int) ≤ (c : Int) := by omega
    by_cases hlt : e < fs.length
    · have kk : (e : Int) < (fs.length : Int) := by omega
      have hf1 := (HF1.out.files e hlt).1
      have HHP : Hid (∀ W, Calls Tryz.prog 133 #[.string fs[e].1, .string p] W fun e' w' => e' = .returned (.bool (beginsF p fs[e])) ∧ w' = W) := fun W => Tryz.strings_HasPrefix fs[e].1 p W
      by_cases hb : beginsF p fs[e] = true
      · have HN : Hid (∀ t (h : t < fs.length), i ≤ t → t < e + 1 → beginsF p fs[t] = true) := fun t h h3 h4 => by
          by_cases h5 : t < e
          · exact HP.out t h h3 h5
          · have : t = e := by omega
            subst this; exact hb
        rw [hb] at HHP
        generalize fs[e].1 = X at *
        clear hb
        go_wp2_with fail
        refine (HHP.out _).mono ?_
        rintro _ w2 ⟨rfl, rfl⟩
        go_wp2_with fail
        go_roundw
        case rel => exact ⟨e + 1, by omega, by omega, by go_num, HN.out, trivial⟩
        case measure => (show fs.length - ((e : Int) + 1).toNat < fs.length - ((e : Int)).toNat); omega
      · have HR := hidMO (runF_eq fs p i e h1 h2 HP.out (fun _ => by simpa using hb))
        have hb' : beginsF p fs[e] = false := by simpa using hb
        rw [hb'] at HHP
        generalize fs[e].1 = X at *
        clear hb hb'
        go_wp2_with fail
        refine (HHP.out _).mono ?_
        rintro _ w2 ⟨rfl, rfl⟩
        go_wp2_with fail
        all_goals
          go_ret
          first
            | exact ⟨⟨i, off + i * 2, c - i, HI.out, fun _ => rfl, by have := HR.out; omega, by rw [HR.out]; rfl⟩, HB1.out⟩
            | exact ⟨⟨i, off, 0, HI.out, fun h => by have := HR.out; omega, by have := HR.out; omega, by rw [HR.out]; rfl⟩, HB1.out⟩
    · obtain rfl : e = fs.length := by omega
      have HR := hidMO (runF_eq fs p i fs.length h1 h2 HP.out (fun h => by omega))
      go_wp2_with fail
      all_goals
        go_ret
        first
          | exact ⟨⟨i, off + i * 2, c - i, HI.out, fun _ => rfl, by have := HR.out; omega, by rw [HR.out]; rfl⟩, HB1.out⟩
          | exact ⟨⟨i, off, 0, HI.out, fun h => by have := HR.out; omega, by have := HR.out; omega, by rw [HR.out]; rfl⟩, HB1.out⟩
end Go.Proofs.YtddoemeellbhaaaGreatDoor
namespace Go.Proofs
open Go.Shelf
def Tryz.sortFiles_ren : Go.Shelf.Ren := ⟨fun | 6 => 36 | 15 => 76 | 14 => 75 | 28 => 130 | 29 => 131 | 20 => 122 | 21 => 123 | 22 => 124 | 23 => 125 | 24 => 126 | 25 => 127 | 26 => 128 | 27 => 129 | 46 => 167 | 47 => 168 | 48 => 169 | 49 => 170 | 50 => 171 | 57 => 207 | n => n, fun | 22 => 22 | 24 => 48 | 25 => 67 | 3 => 3 | 39 => 96 | 0 => 0 | 53 => 79 | 55 => 78 | 4 => 4 | 46 => 148 | 45 => 147 | 50 => 85 | 5 => 5 | 9 => 9 | 66 => 185 | 70 => 189 | 76 => 228 | 77 => 210 | n => n, fun | n => n⟩
theorem Tryz.sortFiles : Go.Proofs.SlLaysF0.n6 Tryz.prog Tryz.sortFiles_ren := {
  mixed := by kernel_rfl
  f6 := ⟨Tryz.f36.name, by decide, Tryz.func36.trans (congrArg some (by kernel_rfl))⟩
  f14 := ⟨Tryz.f75.name, by decide, Tryz.func75.trans (congrArg some (by kernel_rfl))⟩
  f15 := Tryz.func76.trans (congrArg some (by kernel_rfl))
  f20 := ⟨Tryz.f122.name, by decide, Tryz.func122.trans (congrArg some (by kernel_rfl))⟩
  f21 := ⟨Tryz.f123.name, by decide, Tryz.func123.trans (congrArg some (by kernel_rfl))⟩
  f22 := ⟨Tryz.f124.name, by decide, Tryz.func124.trans (congrArg some (by kernel_rfl))⟩
  f23 := ⟨Tryz.f125.name, by decide, Tryz.func125.trans (congrArg some (by kernel_rfl))⟩
  f24 := ⟨Tryz.f126.name, by decide, Tryz.func126.trans (congrArg some (by kernel_rfl))⟩
  f25 := ⟨Tryz.f127.name, by decide, Tryz.func127.trans (congrArg some (by kernel_rfl))⟩
  f26 := ⟨Tryz.f128.name, by decide, Tryz.func128.trans (congrArg some (by kernel_rfl))⟩
  f27 := ⟨Tryz.f129.name, by decide, Tryz.func129.trans (congrArg some (by kernel_rfl))⟩
  f28 := Tryz.func130.trans (congrArg some (by kernel_rfl))
  f29 := Tryz.func131.trans (congrArg some (by kernel_rfl))
  f46 := ⟨Tryz.f167.name, by decide, Tryz.func167.trans (congrArg some (by kernel_rfl))⟩
  f47 := Tryz.func168.trans (congrArg some (by kernel_rfl))
  f48 := Tryz.func169.trans (congrArg some (by kernel_rfl))
  f49 := ⟨Tryz.f170.name, by decide, Tryz.func170.trans (congrArg some (by kernel_rfl))⟩
  f50 := ⟨Tryz.f171.name, by decide, Tryz.func171.trans (congrArg some (by kernel_rfl))⟩
  f57 := ⟨Tryz.f207.name, by decide, Tryz.func207.trans (congrArg some (by kernel_rfl))⟩
  t0 := Tryz.underlying0
  a0 := Tryz.isAgg0
  z0 := Tryz.sizeOf0
  v0 := Tryz.zeroValue0
  t3 := Tryz.underlying3
  a3 := Tryz.isAgg3
  z3 := Tryz.sizeOf3
  v3 := Tryz.zeroValue3
  t4 := Tryz.underlying4
  a4 := Tryz.isAgg4
  z4 := Tryz.sizeOf4
  v4 := Tryz.zeroValue4
  t5 := Tryz.underlying5
  a5 := Tryz.isAgg5
  z5 := Tryz.sizeOf5
  v5 := Tryz.zeroValue5
  t9 := Tryz.underlying9
  a9 := Tryz.isAgg9
  z9 := Tryz.sizeOf9
  v9 := Tryz.zeroValue9
  t22 := Tryz.underlying22
  a22 := Tryz.isAgg22
  z22 := Tryz.sizeOf22
  v22 := Tryz.zeroValue22
  t25 := Tryz.underlying67
  a25 := Tryz.isAgg67
  z25 := Tryz.sizeOf67
  v25 := Tryz.zeroValue67
  t39 := Tryz.underlying96
  a39 := Tryz.isAgg96
  z39 := Tryz.sizeOf96
  v39 := Tryz.zeroValue96
  t45 := Tryz.underlying147
  a45 := Tryz.isAgg147
  z45 := Tryz.sizeOf147
  v45 := Tryz.zeroValue147
  t46 := Tryz.underlying148
  a46 := Tryz.isAgg148
  z46 := Tryz.sizeOf148
  v46 := Tryz.zeroValue148
  t50 := Tryz.underlying85
  a50 := Tryz.isAgg85
  z50 := Tryz.sizeOf85
  v50 := Tryz.zeroValue85
  t53 := Tryz.underlying79
  a53 := Tryz.isAgg79
  z53 := Tryz.sizeOf79
  v53 := Tryz.zeroValue79
  t55 := Tryz.underlying78
  a55 := Tryz.isAgg78
  z55 := Tryz.sizeOf78
  v55 := Tryz.zeroValue78
  t66 := Tryz.underlying185
  a66 := Tryz.isAgg185
  z66 := Tryz.sizeOf185
  v66 := Tryz.zeroValue185
  t70 := Tryz.underlying189
  a70 := Tryz.isAgg189
  z70 := Tryz.sizeOf189
  v70 := Tryz.zeroValue189
  t76 := Tryz.underlying228
  a76 := Tryz.isAgg228
  z76 := Tryz.sizeOf228
  v76 := Tryz.zeroValue228
  t77 := Tryz.underlying210
  a77 := Tryz.isAgg210
  z77 := Tryz.sizeOf210
  v77 := Tryz.zeroValue210 }
def Tryz.cloneFiles_ren : Go.Shelf.Ren := ⟨fun | 41 => 35 | n => n, fun | 22 => 22 | 23 => 48 | 4 => 4 | n => n, fun | n => n⟩
theorem Tryz.cloneFiles : Go.Proofs.SlLaysE0.n41 Tryz.prog Tryz.cloneFiles_ren := {
  mixed := by kernel_rfl
  f41 := ⟨Tryz.f35.name, by decide, Tryz.func35.trans (congrArg some (by kernel_rfl))⟩
  t4 := Tryz.underlying4
  a4 := Tryz.isAgg4
  z4 := Tryz.sizeOf4
  v4 := Tryz.zeroValue4
  t22 := Tryz.underlying22
  a22 := Tryz.isAgg22
  z22 := Tryz.sizeOf22
  v22 := Tryz.zeroValue22 }
end Go.Proofs
