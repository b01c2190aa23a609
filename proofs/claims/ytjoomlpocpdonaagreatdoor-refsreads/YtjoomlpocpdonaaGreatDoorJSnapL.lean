/-
  Taken over from another program: SnapK.
  Taken over from another program: SnapL.
-/
import Derived.Test.YtjoomlpocpdonaaGreatDoorJSnapJ
import Derived.OwnWalk
namespace Go.Proofs.YtjoomlpocpdonaaGreatDoor
open Go.RowKit
def FilesRet (w : World) (b : Nat) (us : List FileB) (e : Ending) : Prop := ∃ o c', FilesAt w b o us ∧ us.length ≤ c' ∧ e = .returned (.slice (some ⟨b, o, none⟩) us.length c')
theorem under_files (q b off c : Nat) (fs : List FileB) (p : ByteArray) (w : World) (hF : Folder w q b off c fs) (hl : fs.length ≤ 1000000) (hr : Rise fs) :
    Calls Tryz.prog 56 #[.pointer (some ⟨q, 0, none⟩), .string p] w fun e w' => FilesRet w' b (undF fs p) e ∧ Below w.heap.size w w' := by
  refine (under_any q b off c fs p w hF hl (hr.mono p)).mono ?_
  rintro e w' ⟨⟨i, o, c', hsp, ho, hc', rfl⟩, hb⟩
  rw [runF_filter hr hsp] at ho hc' ⊢
  refine ⟨⟨o, c', ?_, hc', rfl⟩, hb⟩
  intro t ht
  have h0 := ho (by omega)
  obtain ⟨h2, he⟩ := undF_get hr hsp ht
  have := (hF.below hb).files (i + t) h2
  rw [he, h0, show off + i * 2 + t * 2 = off + (i + t) * 2 by omega]
  exact this
/-- texts, in a row of the call's own -/
def strsV (l : List ByteArray) : List Value := l.map Value.string
def OwnS (w : World) (B : Nat) (v : Value) (l : List ByteArray) : Prop := w.ownsRow B 9 1 v l.length (strsV l)
theorem OwnS.push {w : World} {B : Nat} {v : Value} {l : List ByteArray} {x : ByteArray} (h : w.ownsRow B 9 1 v (l.length + 1) (strsV l ++ [.string x])) : OwnS w B v (l ++ [x]) := by
  unfold OwnS strsV
  rw [List.map_append]
  simpa [strsV] using h
theorem FilesAt.back {w w' : World} {b off B : Nat} {fs : List FileB} (h : FilesAt w' b off fs) (hb : Below B w w') (hB : b < B) : FilesAt w b off fs := fun i hi =>
  ⟨(hb.cell (p := ⟨b, off + i * 2, none⟩) hB).symm.trans (h i hi).1, (hb.cell (p := ⟨b, off + i * 2 + 1, none⟩) hB).symm.trans (h i hi).2⟩
theorem cell_new_at (w : World) (v : Value) (t n : Nat) (hn : w.heap.size = n) : ∀ j u, [v][j]? = some u → (w.alloc (.cells #[v] t)).cell? ((⟨n, 0, none⟩ : Addr).add j) = some u := by
  intro j u hj
  subst hn
  rcases j with _ | j
  · simp at hj; subst hj; rw [Addr.add_lit]; simp
  · simp at hj
theorem OwnS.below {w wr w1 : World} {B : Nat} {v : Value} {l : List ByteArray} {o : Obj} (hown : OwnS wr B v l) (hb : Below B w wr) (hB : B ≤ wr.heap.size) (hg : (wr.alloc o).grownBy w1 v.ownBlock) : Below B w w1 :=
  (hb.alloc hB o).grown hg (by simp; omega) (fun k hk => (World.ownsRow.lt hown k hk).1)
def SlRet (w : World) (B : Nat) (l : List ByteArray) (e : Ending) : Prop := ∃ v, OwnS w B v l ∧ e = .returned v
def pathsL (us : List FileB) : List ByteArray := us.map fun f => f.1
theorem pathsL_take (us : List FileB) (k : Nat) (h : k < us.length) : pathsL (us.take (k + 1)) = pathsL (us.take k) ++ [us[k].1] := by
  unfold pathsL
  rw [List.take_succ_eq_append_getElem h, List.map_append]; rfl
set_option maxHeartbeats 1600000 in
theorem Under_any (q b off c : Nat) (fs : List FileB) (p : ByteArray) (w : World) (hF : Folder w q b off c fs) (hl : fs.length ≤ 1000000) (hr : Rise fs) :
    Calls Tryz.prog 43 #[.pointer (some ⟨q, 0, none⟩), .string p] w fun e w' => SlRet w' w.heap.size (pathsL (undF fs p)) e ∧ Below w.heap.size w w' := by
  have HU := hidM (under_files q b off c fs p w hF hl hr)
  have hbl := hF.blt
  have hul : (undF fs p).length ≤ fs.length := List.length_filter_le _ _
  generalize undF fs p = us at *
  obtain ⟨i0, hi, hz0, hz1, hz2⟩ := info_parts info9
  clear hF hr
  go_enter Tryz.func43, Tryz.ntmps43
  go_wp2_with fail
  refine HU.out.mono ?_
  rintro _ w1 ⟨⟨o, c', hf, hc', rfl⟩, hb1⟩
  have HF := hidM (hf.back hb1 hbl)
  have HB1 := hidM hb1
  have hb1s := hb1.size
  clear hf hb1
  go_wp2_with fail
  go_loopw [5, 7, 12] (fun v _ i wr => ∃ (k : Nat), k ≤ us.length ∧ i = .int .i64 k ∧ OwnS wr w.heap.size v (pathsL (us.take k)) ∧ Below w.heap.size w wr) (fun _ _ i _ => us.length - (intOf i).toNat)
  case atStart => exact ⟨0, Nat.zero_le _, rfl, World.ownsRow_nil _ _ _ _, HB1.out⟩
  case round =>
    obtain ⟨k, hk, rfl, hown, hb⟩ := hrel
    have HO := hidM hown
    have HB := hidM hb
    have hsz := hb.size
    clear hown hb
    by_cases hlt : k < us.length
    · have kk : (k : Int) < (us.length : Int) := by omega
      have c1 := (HF.out.below HB.out hbl k hlt).1
      have c2 := (HF.out.below HB.out hbl k hlt).2
      have HT := hidM (pathsL_take us k hlt)
      have HPL : Hid ((pathsL (us.take k)).length = k) := by unfold Hid pathsL; simp; omega
      generalize us[k].1 = X at *
      generalize us[k].2 = D at *
      generalize pathsL (us.take k) = L at *
      have HO1 : Hid (OwnS (wr.alloc (.cells #[.string X, .string D] 48)) w.heap.size u5 L) := World.ownsRow.alloc HO.out _
      have HB2 : Hid (Below w.heap.size w (wr.alloc (.cells #[.string X, .string D] 48))) := HB.out.alloc hsz _
      go_wp2_with (first
        | (at_builtin; refine wpList_append_own _ rfl _ _ 37 rfl w.heap.size 9 i0 (.string .empty) 1 16 Tryz.underlying37 hi hz0 hz1 hz2 rfl (by decide) _ _ _ rfl (World.ownsRow.alloc HO1.out _) ⟨wr.heap.size + 1, 0, none⟩ 1 1 [.string X] ?d0 rfl ?d1 ?d2 ?d3 ?d4 ?d5 ?_))
      case d0 => rfl
      case d1 => exact cell_new_at _ _ _ _ (by simp)
      case d2 => intro u hu; simp at hu; subst hu; rfl
      case d3 => have := HPL.out; unfold maxLen; omega
      case d4 => have := HPL.out; omega
      case d5 => simp; omega
      intro v' w2 hown' hgrow _
      have HO2 := hidM (OwnS.push hown')
      have HB3 := hidM (OwnS.below HO1.out HB2.out (by simp; omega) hgrow)
      clear hown' hgrow
      go_wp2_with fail
      go_roundw
      case rel => exact ⟨k + 1, by omega, by go_num, by rw [HT.out]; exact HO2.out, HB3.out⟩
      case measure => (show us.length - ((k : Int) + 1).toNat < us.length - ((k : Int)).toNat); omega
    · obtain rfl : k = us.length := by omega
      rw [List.take_of_length_le (Nat.le_refl _)] at HO
      go_wp2_with fail
      go_ret
      exact ⟨⟨_, HO.out, rfl⟩, HB.out⟩
def GetPost (fs : List FileB) (p : ByteArray) (e : Ending) : Prop := (∃ f ∈ fs, f.1 = p ∧ e = .returned (.tuple #[.string f.2, .int .i64 0])) ∨ ((∀ f ∈ fs, f.1 ≠ p) ∧ e = .returned (.tuple #[.string .empty, .int .i64 7]))
set_option maxHeartbeats 1600000 in
theorem Get_any (q b off c : Nat) (fs : List FileB) (p : ByteArray) (w : World) (hF : Folder w q b off c fs) (hl : fs.length ≤ 1000000) (hr : Rise fs) :
    Calls Tryz.prog 31 #[.pointer (some ⟨q, 0, none⟩), .string p] w fun e w' => GetPost fs p e ∧ Below w.heap.size w w' := by
  have HPL := hidM (place_any q b off c fs p w hF hl (hr.mono p))
  have HF := hidM hF
  have HR := hidM hr
  clear hF hr
  go_enter Tryz.func31, Tryz.ntmps31
  go_wp2_with fail
  refine HPL.out.mono ?_
  rintro _ w1 ⟨⟨i, hi, rfl⟩, hb1⟩
  have HI := hidM hi
  have HF1 := hidM (HF.out.below hb1)
  have HB1 := hidM hb1
  clear hi hb1
  have hc := HF1.out.cell
  cases hth : thereB fs p i
  · have HN := hidM (there_spot HI.out hth HR.out)
    clear hth
    go_wp2_with fail
    go_ret2
    exact ⟨.inr ⟨HN.out, rfl⟩, HB1.out⟩
  · obtain ⟨hil, hip⟩ := there_get hth
    clear hth
    have HIP := hidM hip
    have HM := hidM (List.getElem_mem hil)
    have kl : (i : Int) < (fs.length : Int) := by omega
    have c2 := (HF1.out.files i hil).2
    clear hip
    go_wp2_with fail
    go_ret2
    exact ⟨.inl ⟨_, HM.out, HIP.out, rfl⟩, HB1.out⟩
end Go.Proofs.YtjoomlpocpdonaaGreatDoor
namespace Go.Proofs.YtjoomlpocpdonaaGreatDoor
open Go.RowKit Go.Sort
/-- the slice of files that a value is -/
def FilesV (w : World) (v : Value) (fs : List FileB) : Prop := (v = .slice none 0 0 ∧ fs = []) ∨ (∃ a c, v = .slice (some a) 0 c ∧ fs = []) ∨ ∃ b off c, v = .slice (some ⟨b, off, none⟩) fs.length c ∧ FilesAt w b off fs ∧ fs.length ≤ c
def FewRet (w0 : World) (fs : List FileB) (e : Ending) (w : World) : Prop := ∃ g cap, e = .returned (.slice (some ⟨g, 0, none⟩) fs.length cap) ∧ w0.heap.size ≤ g ∧ g < w.heap.size ∧ fs.length ≤ cap ∧ HoldsK encF 2 w g 0 fs.toArray
theorem FilesAt.take {w : World} {b off : Nat} {fs : List FileB} (h : FilesAt w b off fs) (n : Nat) : FilesAt w b off (fs.take n) := fun i hi => by
  have h2 : i < fs.length := by rw [List.length_take] at hi; omega
  rw [List.getElem_take]; exact h i h2
set_option maxHeartbeats 1600000 in
theorem few_nil (n : Nat) (w : World) : Calls Tryz.prog 21 #[.slice none 0 0, .int .i64 (n : Nat)] w fun e w' => FewRet w [] e w' ∧ Go.RowKit.Below w.heap.size w w' := by
  go_enter Tryz.func21, Tryz.ntmps21
  go_wp2_with fail
  go_ret
  refine ⟨⟨w.heap.size, 0, rfl, Nat.le_refl _, by simp, Nat.zero_le _, ?_⟩, (Go.RowKit.Below.refl _ _).alloc (Nat.le_refl _) _⟩
  intro j hj
  simp at hj
set_option maxHeartbeats 1600000 in
theorem flat_one {fs : List FileB} : ∀ u ∈ (flatK encF 2 fs.toArray).toList, u.oneCell' = true := by
  intro u hu
  obtain ⟨j, hj, rfl⟩ := List.mem_iff_getElem.1 hu
  have hj2 : j < fs.length * 2 := by simpa using hj
  rw [Array.getElem_toList, ← getElem!_pos _ _ (by simpa using hj2), get_flatK _ _ _ _ (by simpa using hj2)]
  rcases Nat.mod_two_eq_zero_or_one j with hm | hm <;> rw [hm] <;> rfl
theorem flat_news {w : World} {b off : Nat} {fs : List FileB} (hf : FilesAt w b off fs) : ∀ j u, (flatK encF 2 fs.toArray).toList[j]? = some u → w.cell? ⟨b, off + j, none⟩ = some u := by
  intro j u hj
  obtain ⟨hj1, rfl⟩ := List.getElem?_eq_some_iff.1 hj
  have hj2 : j < fs.length * 2 := by simpa using hj1
  rw [hf.flat j hj2, getElem!_pos _ _ (by simpa using hj2)]
  simp
theorem few_ret {w w' : World} {fs : List FileB} {v : Value} (hown : w'.ownsRow w.heap.size 48 2 v fs.length (flatK encF 2 fs.toArray).toList) (hnn : v ≠ .slice none 0 0) : FewRet w fs (.returned v) w' := by
  rcases hown.2 with ⟨hnil, _⟩ | ⟨g, cap, cur, rfl, hbase, hbk, h1, h2, h3, h4⟩
  · exact absurd hnil hnn
  · exact ⟨g, cap, rfl, hbase, (Array.getElem?_eq_some_iff.1 hbk).1, h1, holdsK_of_block hbk (by simpa using h4)⟩
set_option maxHeartbeats 1600000 in
theorem few_at (b off c n : Nat) (fs : List FileB) (w : World) (hf : FilesAt w b off fs) (hcap : fs.length ≤ c) (hn : n ≤ 100000) :
    Calls Tryz.prog 21 #[.slice (some ⟨b, off, none⟩) fs.length c, .int .i64 (n : Nat)] w fun e w' => FewRet w (fs.take n) e w' ∧ Go.RowKit.Below w.heap.size w w' := by
  obtain ⟨i0, hi, hz0, hz1, hz2⟩ := info_parts info32
  have hf' := hf.take n
  have HNW := hidM (flat_news hf')
  have HON := hidM (flat_one (fs := fs.take n))
  have HLN : Hid ((flatK encF 2 (fs.take n).toArray).toList.length = (fs.take n).length * 2) := by unfold Hid; simp
  have HTL : Hid ((fs.take n).length = min n fs.length) := by unfold Hid; simp
  have HRT := hidM (fun (w' : World) (v : Value) (h1 : w'.ownsRow w.heap.size 48 2 v (fs.take n).length (flatK encF 2 (fs.take n).toArray).toList) h2 => few_ret (w := w) h1 h2)
  clear hf hf'
  by_cases hlt : n < fs.length
  · have g1 : decide ((n : Int) < (fs.length : Int)) = true := by simp; omega
    have HM : Hid (min n fs.length = n) := by unfold Hid; omega
    rw [HM.out] at HTL
    rw [HTL.out] at HLN HRT
    generalize fs.take n = us at *
    generalize (flatK encF 2 us.toArray).toList = news at *
    have c0 : (n : Int) ≤ (c : Int) := by omega
    clear HM
    go_enter Tryz.func21, Tryz.ntmps21
    go_wp2_with (at_builtin; refine wpList_append_own _ rfl _ _ 22 rfl w.heap.size 48 i0 (.agg #[.string .empty, .string .empty]) 2 32 Tryz.underlying22 hi hz0 hz1 hz2 rfl (by decide) _ _ _ rfl (World.ownsRow_made w #[] 0 (Nat.le_refl _) (Nat.zero_le _) (by simp)) ⟨b, off, none⟩ n c news rfl ?qc1 ?qc2 ?qc3 ?qc4 ?qc5 ?qc6 ?_)
    case qc1 => exact HLN.out
    case qc2 =>
      intro j u hj
      rw [Addr.add_lit]
      exact Lib.cell?_alloc_some _ (HNW.out j u hj)
    case qc3 => exact HON.out
    case qc4 => unfold maxLen; omega
    case qc5 => omega
    case qc6 => simp
    intro v' w1 hown hgrow hnil
    have HR := hidM (HRT.out w1 v' (by simpa using hown) hnil)
    have HB : Hid (Go.RowKit.Below w.heap.size w w1) := ((Go.RowKit.Below.refl _ w).alloc (Nat.le_refl _) _).grown hgrow (by simp) (by intro k hk; simp [Value.ownBlock] at hk; omega)
    clear hown hgrow hnil
    go_wp2
    go_ret
    exact ⟨HR.out, HB.out⟩
  · have g1 : decide ((n : Int) < (fs.length : Int)) = false := by simp; omega
    have HM : Hid (min n fs.length = fs.length) := by unfold Hid; omega
    rw [HM.out] at HTL
    rw [HTL.out] at HLN HRT
    generalize fs.take n = us at *
    generalize (flatK encF 2 us.toArray).toList = news at *
    have c0 : fs.length ≤ 100000 := by omega
    clear HM
    generalize fs.length = L at *
    go_enter Tryz.func21, Tryz.ntmps21
    go_wp2_with (at_builtin; refine wpList_append_own _ rfl _ _ 22 rfl w.heap.size 48 i0 (.agg #[.string .empty, .string .empty]) 2 32 Tryz.underlying22 hi hz0 hz1 hz2 rfl (by decide) _ _ _ rfl (World.ownsRow_made w #[] 0 (Nat.le_refl _) (Nat.zero_le _) (by simp)) ⟨b, off, none⟩ L c news rfl ?qc1 ?qc2 ?qc3 ?qc4 ?qc5 ?qc6 ?_)
    case qc1 => exact HLN.out
    case qc2 =>
      intro j u hj
      rw [Addr.add_lit]
      exact Lib.cell?_alloc_some _ (HNW.out j u hj)
    case qc3 => exact HON.out
    case qc4 => unfold maxLen; omega
    case qc5 => omega
    case qc6 => simp
    intro v' w1 hown hgrow hnil
    have HR := hidM (HRT.out w1 v' (by simpa using hown) hnil)
    have HB : Hid (Go.RowKit.Below w.heap.size w w1) := ((Go.RowKit.Below.refl _ w).alloc (Nat.le_refl _) _).grown hgrow (by simp) (by intro k hk; simp [Value.ownBlock] at hk; omega)
    clear hown hgrow hnil
    go_wp2
    go_ret
    exact ⟨HR.out, HB.out⟩
set_option maxHeartbeats 1600000 in
theorem few_empty (ad : Addr) (c n : Nat) (w : World) : Calls Tryz.prog 21 #[.slice (some ad) 0 c, .int .i64 (n : Nat)] w fun e w' => FewRet w [] e w' ∧ Go.RowKit.Below w.heap.size w w' := by
  obtain ⟨i0, hi, hz0, hz1, hz2⟩ := info_parts info32
  have HRT := hidM (fun (w' : World) (v : Value) (h1 : w'.ownsRow w.heap.size 48 2 v ([] : List FileB).length (flatK encF 2 ([] : List FileB).toArray).toList) h2 => few_ret (w := w) h1 h2)
  have g1 : decide ((n : Int) < 0) = false := by simp
  go_enter Tryz.func21, Tryz.ntmps21
  go_wp2_with (at_builtin; refine wpList_append_own _ rfl _ _ 22 rfl w.heap.size 48 i0 (.agg #[.string .empty, .string .empty]) 2 32 Tryz.underlying22 hi hz0 hz1 hz2 rfl (by decide) _ _ _ rfl (World.ownsRow_made w #[] 0 (Nat.le_refl _) (Nat.zero_le _) (by simp)) ad 0 c [] rfl ?qc1 ?qc2 ?qc3 ?qc4 ?qc5 ?qc6 ?_)
  case qc1 => rfl
  case qc2 => intro j u hj; simp at hj
  case qc3 => intro u hu; simp at hu
  case qc4 => unfold maxLen; omega
  case qc5 => omega
  case qc6 => simp
  intro v' w1 hown hgrow hnil
  have HR := hidM (HRT.out w1 v' (by rw [show (flatK encF 2 ([] : List FileB).toArray).toList = [] by simp [flatK]]; simpa using hown) hnil)
  have HB : Hid (Go.RowKit.Below w.heap.size w w1) := ((Go.RowKit.Below.refl _ w).alloc (Nat.le_refl _) _).grown hgrow (by simp) (by intro k hk; simp [Value.ownBlock] at hk; omega)
  clear hown hgrow hnil
  go_wp2
  go_ret
  exact ⟨HR.out, HB.out⟩
/-- the files that a row holds, with where it lies -/
theorem few_any (v : Value) (n : Nat) (fs : List FileB) (w : World) (h : FilesV w v fs) (hn : n ≤ 100000) :
    Calls Tryz.prog 21 #[v, .int .i64 (n : Nat)] w fun e w' => FewRet w (fs.take n) e w' ∧ Go.RowKit.Below w.heap.size w w' := by
  rcases h with ⟨rfl, rfl⟩ | ⟨a, c, rfl, rfl⟩ | ⟨b, off, c, rfl, hf, hc⟩
  · simpa using few_nil n w
  · simpa using few_empty a c n w
  · exact few_at b off c n fs w hf hc hn
end Go.Proofs.YtjoomlpocpdonaaGreatDoor
