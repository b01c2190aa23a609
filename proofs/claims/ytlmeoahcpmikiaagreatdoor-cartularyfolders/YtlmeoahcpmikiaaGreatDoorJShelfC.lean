/-
  Taken over from another program: SnapD.
  Taken over from another program: ShelfC.
-/
import Derived.Test.YtlmeoahcpmikiaaGreatDoorJSnapC
import Derived.Shelf.SlGeneric
import Derived.Shelf.SlSortCmp.NoneTotal
import Derived.Shelf.SlicesE.Clone
import Derived.Ground.SlsfProg
import Derived.Ground.SlgnProg
import Derived.Test.YtlmeoahcpmikiaaGreatDoorProg
namespace Go.Proofs.YtlmeoahcpmikiaaGreatDoor
open Go.RowKit
/-- a folder: its cell holds the slice of its files -/
structure Folder (w : World) (q b off c : Nat) (fs : List FileB) : Prop where
  cell : w.cell? ⟨q, 0, none⟩ = some (.slice (some ⟨b, off, none⟩) fs.length c)
  files : FilesAt w b off fs
  qlt : q < w.heap.size
  blt : b < w.heap.size
  cap : fs.length ≤ c
theorem Folder.below {w w' : World} {q b off c : Nat} {fs : List FileB} (h : Folder w q b off c fs) (hb : Below w.heap.size w w') : Folder w' q b off c fs :=
  ⟨(hb.cell (p := ⟨q, 0, none⟩) h.qlt).trans h.cell, h.files.below hb h.blt, Nat.lt_of_lt_of_le h.qlt hb.size, Nat.lt_of_lt_of_le h.blt hb.size, h.cap⟩
def PlacePost (fs : List FileB) (p : ByteArray) (e : Ending) : Prop := ∃ i, Spot fs p i ∧ e = .returned (.tuple #[.int .i64 (i : Nat), .bool (thereB fs p i)])
set_option maxHeartbeats 1600000 in
theorem place_any (q b off c : Nat) (fs : List FileB) (p : ByteArray) (w : World) (hF : Folder w q b off c fs) (hl : fs.length ≤ 1000000) (hm : Mono fs p) :
    Calls Tryz.prog 110 #[.pointer (some ⟨q, 0, none⟩), .string p] w fun e w' => PlacePost fs p e ∧ Below w.heap.size w w' := by
  have hc := hF.cell
  have HB := hidMO (bsearch_at b off c fs p w hF.blt hF.files hl hm)
  clear hF hm
  go_enter Tryz.func110, Tryz.ntmps110
  go_wp2_with fail
  refine HB.out.mono ?_
  rintro _ w1 ⟨⟨i, hi, rfl⟩, hb1⟩
  have HI := hidMO hi
  clear hi
  go_wp2_with fail
  go_ret2
  exact ⟨⟨i, HI.out, rfl⟩, hb1⟩
/-- how many files from i on begin with p -/
def runF (fs : List FileB) (p : ByteArray) (i : Nat) : Nat := ((fs.drop i).takeWhile fun f => Lib.hasPrefix f.1.data.toList p.data.toList).length
def beginsF (p : ByteArray) (f : FileB) : Bool := Lib.hasPrefix f.1.data.toList p.data.toList
theorem runF_eq (fs : List FileB) (p : ByteArray) (i e : Nat) (hie : i ≤ e) (he : e ≤ fs.length) (h1 : ∀ t (h : t < fs.length), i ≤ t → t < e → beginsF p fs[t] = true)
    (h2 : ∀ (h : e < fs.length), beginsF p fs[e] = false) : runF fs p i = e - i := by
  unfold runF
  obtain ⟨n, rfl⟩ : ∃ n, e = i + n := ⟨e - i, by omega⟩
  clear hie
  induction n generalizing i with
  | zero =>
    by_cases h : i < fs.length
    · rw [List.drop_eq_getElem_cons h, List.takeWhile_cons]
      have := h2 (by simpa using h)
      simp only [Nat.add_zero] at this
      unfold beginsF at this
      rw [this]; simp
    · rw [List.drop_of_length_le (by omega)]; simp
  | succ n ih =>
    have h : i < fs.length := by omega
    rw [List.drop_eq_getElem_cons h, List.takeWhile_cons]
    have hb := h1 i h (Nat.le_refl _) (by omega)
    unfold beginsF at hb
    rw [hb]
    have := ih (i + 1) (by omega) (fun t ht h3 h4 => h1 t ht (by omega) (by omega)) (fun hh => by
      have h5 := h2 (by omega)
      have h6 : i + 1 + n = i + (n + 1) := by omega
      simp only [h6]; exact h5)
    simp only [if_true, List.length_cons]
    rw [this]; omega
def UnderPost (b off : Nat) (fs : List FileB) (p : ByteArray) (e : Ending) : Prop := ∃ i o c', Spot fs p i ∧ (0 < runF fs p i → o = off + i * 2) ∧ runF fs p i ≤ c' ∧ e = .returned (.slice (some ⟨b, o, none⟩) (runF fs p i) c')
set_option maxHeartbeats 1600000 in
theorem under_any (q b off c : Nat) (fs : List FileB) (p : ByteArray) (w : World) (hF : Folder w q b off c fs) (hl : fs.length ≤ 1000000) (hm : Mono fs p) :
    Calls Tryz.prog 88 #[.pointer (some ⟨q, 0, none⟩), .string p] w fun e w' => UnderPost b off fs p e ∧ Below w.heap.size w w' := by
  have HPL := hidMO (place_any q b off c fs p w hF hl hm)
  have HF := hidMO hF
  clear hF hm
  go_enter Tryz.func88, Tryz.ntmps88
  go_wp2_with fail
  refine HPL.out.mono ?_
  rintro _ w1 ⟨⟨i, hi, rfl⟩, hb1⟩
  have HI := hidMO hi
  have HF1 := hidMO (HF.out.below hb1)
  have HB1 := hidMO hb1
  clear hi hb1
  have hc := HF1.out.cell
  have hil := HI.out.le
  have hcap := HF.out.cap
  go_wp2_with fail
  go_loopw [7] (fun x wr => ∃ (e : Nat), i ≤ e ∧ e ≤ fs.length ∧ x = .int .i64 e ∧ (∀ t (h : t < fs.length), i ≤ t → t < e → beginsF p fs[t] = true) ∧ wr = w1) (fun x _ => fs.length - (intOf x).toNat)
  case atStart => exact ⟨i, Nat.le_refl _, hil, rfl, fun t _ h3 h4 => by omega, rfl⟩
  case round =>
    obtain ⟨e, h1, h2, rfl, hp, rfl⟩ := hrel
    have HP := hidMO hp
    clear hp
    have c0 : (0 : Int) ≤ (i : Int) := by omega
    have c1 : (i : Int) ≤ (e : Int) := by omega
    have c2 : (e : Int) ≤ (c : Int) := by omega
    by_cases hlt : e < fs.length
    · have kk : (e : Int) < (fs.length : Int) := by omega
      have hf1 := (HF1.out.files e hlt).1
      have HHP : Hid (∀ W, Calls Tryz.prog 56 #[.string fs[e].1, .string p] W fun e' w' => e' = .returned (.bool (beginsF p fs[e])) ∧ w' = W) := fun W => Tryz.strings_HasPrefix fs[e].1 p W
      by_cases hb : beginsF p fs[e] = true
      · have HN : Hid (∀ t (h : t < fs.length), i ≤ t → t < e + 1 → beginsF p fs[t] = true) := fun t h h3 h4 => by
          by_cases h5 : t < e
          · exact HP.out t h h3 h5
          · have : t = e := by omega
            subst this; exact hb
        rw [hb] at HHP
        generalize fs[e].1 = X at *
        clear hb
        go_wp2_with fail
        refine (HHP.out _).mono ?_
        rintro _ w2 ⟨rfl, rfl⟩
        go_wp2_with fail
        go_roundw
        case rel => exact ⟨e + 1, by omega, by omega, by go_num, HN.out, trivial⟩
        case measure => (show fs.length - ((e : Int) + 1).toNat < fs.length - ((e : Int)).toNat); omega
      · have HR := hidMO (runF_eq fs p i e h1 h2 HP.out (fun _ => by simpa using hb))
        have hb' : beginsF p fs[e] = false := by simpa using hb
        rw [hb'] at HHP
        generalize fs[e].1 = X at *
        clear hb hb'
        go_wp2_with fail
        refine (HHP.out _).mono ?_
        rintro _ w2 ⟨rfl, rfl⟩
        go_wp2_with fail
        all_goals
          go_ret
          first
            | exact ⟨⟨i, off + i * 2, c - i, HI.out, fun _ => rfl, by have := HR.out; omega, by rw [HR.out]; rfl⟩, HB1.out⟩
            | exact ⟨⟨i, off, 0, HI.out, fun h => by have := HR.out; omega, by have := HR.out; omega, by rw [HR.out]; rfl⟩, HB1.out⟩
    · obtain rfl : e = fs.length := by omega
      have HR := hidMO (runF_eq fs p i fs.length h1 h2 HP.out (fun h => by omega))
      go_wp2_with fail
      all_goals
        go_ret
        first
          | exact ⟨⟨i, off + i * 2, c - i, HI.out, fun _ => rfl, by have := HR.out; omega, by rw [HR.out]; rfl⟩, HB1.out⟩
          | exact ⟨⟨i, off, 0, HI.out, fun h => by have := HR.out; omega, by have := HR.out; omega, by rw [HR.out]; rfl⟩, HB1.out⟩
end Go.Proofs.YtlmeoahcpmikiaaGreatDoor
namespace Go.Proofs.YtlmeoahcpmikiaaGreatDoor
open Go.Shelf
def Tryz.sortFiles_ren : Go.Shelf.Ren := ⟨fun | 6 => 40 | 15 => 86 | 14 => 85 | 28 => 134 | 29 => 135 | 20 => 126 | 21 => 127 | 22 => 128 | 23 => 129 | 24 => 130 | 25 => 131 | 26 => 132 | 27 => 133 | 46 => 184 | 47 => 185 | 48 => 186 | 49 => 187 | 50 => 188 | 57 => 232 | n => n, fun | 22 => 37 | 24 => 31 | 25 => 93 | 3 => 3 | 39 => 132 | 0 => 0 | 53 => 148 | 55 => 152 | 4 => 4 | 46 => 187 | 45 => 186 | 50 => 166 | 5 => 5 | 9 => 9 | 66 => 250 | 70 => 254 | 76 => 312 | 77 => 238 | n => n, fun | n => n⟩
theorem Tryz.sortFiles : Go.Proofs.SlLaysF0.n6 Tryz.prog Tryz.sortFiles_ren := {
  mixed := by kernel_rfl
  f6 := ⟨Tryz.f40.name, by decide, Tryz.func40.trans (congrArg some (by kernel_rfl))⟩
  f14 := ⟨Tryz.f85.name, by decide, Tryz.func85.trans (congrArg some (by kernel_rfl))⟩
  f15 := Tryz.func86.trans (congrArg some (by kernel_rfl))
  f20 := ⟨Tryz.f126.name, by decide, Tryz.func126.trans (congrArg some (by kernel_rfl))⟩
  f21 := ⟨Tryz.f127.name, by decide, Tryz.func127.trans (congrArg some (by kernel_rfl))⟩
  f22 := ⟨Tryz.f128.name, by decide, Tryz.func128.trans (congrArg some (by kernel_rfl))⟩
  f23 := ⟨Tryz.f129.name, by decide, Tryz.func129.trans (congrArg some (by kernel_rfl))⟩
  f24 := ⟨Tryz.f130.name, by decide, Tryz.func130.trans (congrArg some (by kernel_rfl))⟩
  f25 := ⟨Tryz.f131.name, by decide, Tryz.func131.trans (congrArg some (by kernel_rfl))⟩
  f26 := ⟨Tryz.f132.name, by decide, Tryz.func132.trans (congrArg some (by kernel_rfl))⟩
  f27 := ⟨Tryz.f133.name, by decide, Tryz.func133.trans (congrArg some (by kernel_rfl))⟩
  f28 := Tryz.func134.trans (congrArg some (by kernel_rfl))
  f29 := Tryz.func135.trans (congrArg some (by kernel_rfl))
  f46 := ⟨Tryz.f184.name, by decide, Tryz.func184.trans (congrArg some (by kernel_rfl))⟩
  f47 := Tryz.func185.trans (congrArg some (by kernel_rfl))
  f48 := Tryz.func186.trans (congrArg some (by kernel_rfl))
  f49 := ⟨Tryz.f187.name, by decide, Tryz.func187.trans (congrArg some (by kernel_rfl))⟩
  f50 := ⟨Tryz.f188.name, by decide, Tryz.func188.trans (congrArg some (by kernel_rfl))⟩
  f57 := ⟨Tryz.f232.name, by decide, Tryz.func232.trans (congrArg some (by kernel_rfl))⟩
  t0 := Tryz.underlying0
  a0 := Tryz.isAgg0
  z0 := Tryz.sizeOf0
  v0 := Tryz.zeroValue0
  t3 := Tryz.underlying3
  a3 := Tryz.isAgg3
  z3 := Tryz.sizeOf3
  v3 := Tryz.zeroValue3
  t4 := Tryz.underlying4
  a4 := Tryz.isAgg4
  z4 := Tryz.sizeOf4
  v4 := Tryz.zeroValue4
  t5 := Tryz.underlying5
  a5 := Tryz.isAgg5
  z5 := Tryz.sizeOf5
  v5 := Tryz.zeroValue5
  t9 := Tryz.underlying9
  a9 := Tryz.isAgg9
  z9 := Tryz.sizeOf9
  v9 := Tryz.zeroValue9
  t22 := Tryz.underlying37
  a22 := Tryz.isAgg37
  z22 := Tryz.sizeOf37
  v22 := Tryz.zeroValue37
  t25 := Tryz.underlying93
  a25 := Tryz.isAgg93
  z25 := Tryz.sizeOf93
  v25 := Tryz.zeroValue93
  t39 := Tryz.underlying132
  a39 := Tryz.isAgg132
  z39 := Tryz.sizeOf132
  v39 := Tryz.zeroValue132
  t45 := Tryz.underlying186
  a45 := Tryz.isAgg186
  z45 := Tryz.sizeOf186
  v45 := Tryz.zeroValue186
  t46 := Tryz.underlying187
  a46 := Tryz.isAgg187
  z46 := Tryz.sizeOf187
  v46 := Tryz.zeroValue187
  t50 := Tryz.underlying166
  a50 := Tryz.isAgg166
  z50 := Tryz.sizeOf166
  v50 := Tryz.zeroValue166
  t53 := Tryz.underlying148
  a53 := Tryz.isAgg148
  z53 := Tryz.sizeOf148
  v53 := Tryz.zeroValue148
  t55 := Tryz.underlying152
  a55 := Tryz.isAgg152
  z55 := Tryz.sizeOf152
  v55 := Tryz.zeroValue152
  t66 := Tryz.underlying250
  a66 := Tryz.isAgg250
  z66 := Tryz.sizeOf250
  v66 := Tryz.zeroValue250
  t70 := Tryz.underlying254
  a70 := Tryz.isAgg254
  z70 := Tryz.sizeOf254
  v70 := Tryz.zeroValue254
  t76 := Tryz.underlying312
  a76 := Tryz.isAgg312
  z76 := Tryz.sizeOf312
  v76 := Tryz.zeroValue312
  t77 := Tryz.underlying238
  a77 := Tryz.isAgg238
  z77 := Tryz.sizeOf238
  v77 := Tryz.zeroValue238 }
def Tryz.cloneFiles_ren : Go.Shelf.Ren := ⟨fun | 41 => 39 | n => n, fun | 22 => 37 | 23 => 31 | 4 => 4 | n => n, fun | n => n⟩
theorem Tryz.cloneFiles : Go.Proofs.SlLaysE0.n41 Tryz.prog Tryz.cloneFiles_ren := {
  mixed := by kernel_rfl
  f41 := ⟨Tryz.f39.name, by decide, Tryz.func39.trans (congrArg some (by kernel_rfl))⟩
  t4 := Tryz.underlying4
  a4 := Tryz.isAgg4
  z4 := Tryz.sizeOf4
  v4 := Tryz.zeroValue4
  t22 := Tryz.underlying37
  a22 := Tryz.isAgg37
  z22 := Tryz.sizeOf37
  v22 := Tryz.zeroValue37 }
end Go.Proofs.YtlmeoahcpmikiaaGreatDoor
