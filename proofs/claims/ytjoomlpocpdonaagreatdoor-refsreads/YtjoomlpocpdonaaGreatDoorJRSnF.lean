/-
  Taken over from another program: RSnD.
  Taken over from another program: RSnE.
  Taken over from another program: TurnM.
  Taken over from another program: RSnF.
-/
import Derived.Test.YtjoomlpocpdonaaGreatDoorJRSnC
namespace Go.Proofs.YtjoomlpocpdonaaGreatDoor
open Go.RowKit
/-- y stands behind x -/
def gtB (y x : ByteArray) : Bool := !(Op.bytesLess y.toList x.toList || y.toList == x.toList)
def putStep (x : ByteArray) (st : List ByteArray × Bool) (y : ByteArray) : List ByteArray × Bool :=
  if y.toList == x.toList then (st.1 ++ [y], true) else if st.2 then (st.1 ++ [y], true) else if gtB y x then (st.1 ++ [x] ++ [y], true) else (st.1 ++ [y], false)
def putF (x : ByteArray) (l : List ByteArray) : List ByteArray × Bool := l.foldl (putStep x) ([], false)
def putL (l : List ByteArray) (x : ByteArray) : List ByteArray := if (putF x l).2 then (putF x l).1 else (putF x l).1 ++ [x]
theorem putF_take (x : ByteArray) (l : List ByteArray) (k : Nat) (h : k < l.length) : putF x (l.take (k + 1)) = putStep x (putF x (l.take k)) l[k] := by
  unfold putF
  rw [List.take_succ_eq_append_getElem h, List.foldl_append]; rfl
theorem putF_len (x : ByteArray) (l : List ByteArray) (k : Nat) (hk : k ≤ l.length) : (putF x (l.take k)).1.length ≤ 2 * k := by
  induction k with
  | zero => simp [putF]
  | succ k ih =>
    rw [putF_take x l k (by omega)]
    have := ih (by omega)
    unfold putStep
    split
    · simp; omega
    · split
      · simp; omega
      · split
        · simp; omega
        · simp; omega
set_option maxRecDepth 100000 in
set_option maxHeartbeats 6400000 in
theorem rput_any (v : Value) (l : List ByteArray) (x : ByteArray) (w : World) (hV : StrsV w v l) (hl : l.length ≤ 1000000) :
    Calls Tryz.prog 47 #[v, .string x] w fun e w' => SlRet w' w.heap.size (putL l x) e ∧ Below w.heap.size w w' := by
  obtain ⟨i0, hi, hz0, hz1, hz2⟩ := info_parts info9
  obtain ⟨a, c, rfl, hs⟩ := hV
  have HS : Hid (∀ W, Below w.heap.size w W → ∀ m (h : m < l.length), ∃ g, a = some ⟨g, 0, none⟩ ∧ W.cell? ⟨g, m, none⟩ = some (.string l[m])) := fun W hW m h => by
    obtain ⟨g, h1, h2, h3⟩ := hs (fun hh => by rw [hh] at h; simp at h)
    exact ⟨g, h1, h3.below hW h2 m h⟩
  clear hs
  go_enter Tryz.func47, Tryz.ntmps47
  go_wp2_with fail
  have HO0 : Hid (OwnS (w.alloc (.cells #[] 9)) w.heap.size (.slice (some ⟨w.heap.size, 0, none⟩) 0 0) []) := World.ownsRow_made w #[] 0 (Nat.le_refl _) (Nat.zero_le _) (by simp)
  go_loopw [5, 6, 12] (fun ov dv i wr => ∃ (k : Nat), k ≤ l.length ∧ ∃ st : List ByteArray × Bool, i = .int .i64 k ∧ (st = putF x (l.take k) ∧ dv = .bool st.2) ∧ OwnS wr w.heap.size ov st.1 ∧ Below w.heap.size w wr) (fun _ _ i _ => l.length - (intOf i).toNat)
  case atStart => exact ⟨0, Nat.zero_le _, ([], false), rfl, ⟨rfl, rfl⟩, HO0.out, (Below.refl _ _).alloc (Nat.le_refl _) _⟩
  case round =>
    obtain ⟨k, hk, st, rfl, ⟨hst, rfl⟩, hown, hbr⟩ := hrel
    have HO := hidM hown
    have HB := hidM hbr
    have hol : Hid (st.1.length ≤ 2 * k) := by unfold Hid; rw [hst]; exact putF_len x l k hk
    have HST := hidM hst
    clear hown hbr HO0 hst
    obtain ⟨O, dn⟩ := st
    simp only at HO hol ⊢
    by_cases hlt : k < l.length
    · have kk : (k : Int) < (l.length : Int) := by omega
      obtain ⟨g, rfl, y0⟩ := HS.out wr HB.out k hlt
      have HN : Hid (putF x (l.take (k + 1)) = putStep x (O, dn) l[k]) := by unfold Hid; rw [putF_take x l k hlt, ← HST.out]
      generalize l[k] = Y at *
      unfold putStep at HN
      clear HST
      cases hyx : (Y.toList == x.toList)
      · rw [hyx] at HN
        cases dn
        · cases hgt : gtB Y x
          · rw [hgt] at HN
            have hg2 : (Op.bytesLess Y.toList x.toList || Y.toList == x.toList) = true := by unfold gtB at hgt; simpa only [Bool.not_eq_false'] using hgt
            rw [hyx, Bool.or_false] at hg2
            clear hgt
            go_wp2_with (first
              | (at_builtin; refine wpList_append_own _ rfl _ _ 37 rfl w.heap.size 9 i0 (.string .empty) 1 16 Tryz.underlying37 hi hz0 hz1 hz2 rfl (by decide) _ _ _ rfl (World.ownsRow.alloc HO.out _) ⟨wr.heap.size, 0, none⟩ 1 1 [.string Y] ?a0 rfl ?a1 ?a2 ?a3 ?a4 ?a5 ?_))
            try (case a0 => rfl)
            try (case a1 => exact cell_new_at _ _ _ _ rfl)
            try (case a2 => first | rfl | (intro u hu; simp at hu; subst hu; rfl))
            try (case a3 => have := hol.out; first | omega | (unfold maxLen; omega))
            try (case a4 => have := hol.out; omega)
            try (case a5 => have := HB.out.size; first | omega | (simp; omega))
            intro va w2 howna hgrowa _
            have HO2 := hidM (OwnS.push howna)
            have HB2 := hidM (OwnS.below HO.out HB.out HB.out.size hgrowa)
            clear howna hgrowa
            go_wp2_with fail
            go_roundw
            case rel => exact ⟨k + 1, by omega, _, by go_num, ⟨HN.out.symm, rfl⟩, HO2.out, HB2.out⟩
            case measure => (show l.length - ((k : Int) + 1).toNat < l.length - ((k : Int)).toNat); omega
          · rw [hgt] at HN
            have hg2 : Op.bytesLess Y.toList x.toList = false := by unfold gtB at hgt; rw [hyx, Bool.or_false] at hgt; simpa using hgt
            clear hgt
            go_wp2_with (first
              | (at_builtin; refine wpList_append_own _ rfl _ _ 37 rfl w.heap.size 9 i0 (.string .empty) 1 16 Tryz.underlying37 hi hz0 hz1 hz2 rfl (by decide) _ _ _ rfl (World.ownsRow.alloc HO.out _) ⟨wr.heap.size, 0, none⟩ 1 1 [.string x] ?b0 rfl ?b1 ?b2 ?b3 ?b4 ?b5 ?_))
            try (case b0 => rfl)
            try (case b1 => exact cell_new_at _ _ _ _ rfl)
            try (case b2 => first | rfl | (intro u hu; simp at hu; subst hu; rfl))
            try (case b3 => have := hol.out; first | omega | (unfold maxLen; omega))
            try (case b4 => have := hol.out; omega)
            try (case b5 => have := HB.out.size; first | omega | (simp; omega))
            intro vb w2 hownb hgrowb _
            have HO2 := hidM (OwnS.push hownb)
            have HB2 := hidM (OwnS.below HO.out HB.out HB.out.size hgrowb)
            clear hownb hgrowb
            go_wp2_with (first
              | (at_builtin; refine wpList_append_own _ rfl _ _ 37 rfl w.heap.size 9 i0 (.string .empty) 1 16 Tryz.underlying37 hi hz0 hz1 hz2 rfl (by decide) _ _ _ rfl (World.ownsRow.alloc HO2.out _) ⟨w2.heap.size, 0, none⟩ 1 1 [.string Y] ?c0 rfl ?c1 ?c2 ?c3 ?c4 ?c5 ?_))
            try (case c0 => rfl)
            try (case c1 => exact cell_new_at _ _ _ _ rfl)
            try (case c2 => first | rfl | (intro u hu; simp at hu; subst hu; rfl))
            try (case c3 => have := hol.out; rw [List.length_append]; simp only [List.length_cons, List.length_nil]; first | omega | (unfold maxLen; omega))
            try (case c4 => have := hol.out; rw [List.length_append]; simp only [List.length_cons, List.length_nil]; omega)
            try (case c5 => have := HB2.out.size; first | omega | (simp; omega))
            intro vc w3 hownc hgrowc _
            have HO3 := hidM (OwnS.push (l := O ++ [x]) (x := Y) (by rw [show (O ++ [x]).length = O.length + 1 by simp]; exact hownc))
            have HB3 := hidM (OwnS.below HO2.out HB2.out HB2.out.size hgrowc)
            clear hownc hgrowc
            go_wp2_with fail
            go_roundw
            case rel => exact ⟨k + 1, by omega, _, by go_num, ⟨HN.out.symm, rfl⟩, HO3.out, HB3.out⟩
            case measure => (show l.length - ((k : Int) + 1).toNat < l.length - ((k : Int)).toNat); omega
        · go_wp2_with (first
            | (at_builtin; refine wpList_append_own _ rfl _ _ 37 rfl w.heap.size 9 i0 (.string .empty) 1 16 Tryz.underlying37 hi hz0 hz1 hz2 rfl (by decide) _ _ _ rfl (World.ownsRow.alloc HO.out _) ⟨wr.heap.size, 0, none⟩ 1 1 [.string Y] ?d0 rfl ?d1 ?d2 ?d3 ?d4 ?d5 ?_))
          try (case d0 => rfl)
          try (case d1 => exact cell_new_at _ _ _ _ rfl)
          try (case d2 => first | rfl | (intro u hu; simp at hu; subst hu; rfl))
          try (case d3 => have := hol.out; first | omega | (unfold maxLen; omega))
          try (case d4 => have := hol.out; omega)
          try (case d5 => have := HB.out.size; first | omega | (simp; omega))
          intro vd w2 hownd hgrowd _
          have HO2 := hidM (OwnS.push hownd)
          have HB2 := hidM (OwnS.below HO.out HB.out HB.out.size hgrowd)
          clear hownd hgrowd
          go_wp2_with fail
          go_roundw
          case rel => exact ⟨k + 1, by omega, _, by go_num, ⟨HN.out.symm, rfl⟩, HO2.out, HB2.out⟩
          case measure => (show l.length - ((k : Int) + 1).toNat < l.length - ((k : Int)).toNat); omega
      · rw [hyx] at HN
        have hYx : Y = x := ba_eq (by rw [← ByteArray.toList_eq, ← ByteArray.toList_eq]; simpa using hyx)
        subst hYx
        clear hyx
        go_wp2_with (first
          | (at_builtin; refine wpList_append_own _ rfl _ _ 37 rfl w.heap.size 9 i0 (.string .empty) 1 16 Tryz.underlying37 hi hz0 hz1 hz2 rfl (by decide) _ _ _ rfl (World.ownsRow.alloc HO.out _) ⟨wr.heap.size, 0, none⟩ 1 1 [.string Y] ?e0 rfl ?e1 ?e2 ?e3 ?e4 ?e5 ?_))
        try (case e0 => rfl)
        try (case e1 => exact cell_new_at _ _ _ _ rfl)
        try (case e2 => first | rfl | (intro u hu; simp at hu; subst hu; rfl))
        try (case e3 => have := hol.out; first | omega | (unfold maxLen; omega))
        try (case e4 => have := hol.out; omega)
        try (case e5 => have := HB.out.size; first | omega | (simp; omega))
        intro ve w2 howne hgrowe _
        have HO2 := hidM (OwnS.push howne)
        have HB2 := hidM (OwnS.below HO.out HB.out HB.out.size hgrowe)
        clear howne hgrowe
        go_wp2_with fail
        go_roundw
        case rel => exact ⟨k + 1, by omega, _, by go_num, ⟨HN.out.symm, rfl⟩, HO2.out, HB2.out⟩
        case measure => (show l.length - ((k : Int) + 1).toNat < l.length - ((k : Int)).toNat); omega
    · obtain rfl : k = l.length := by omega
      rw [List.take_of_length_le (Nat.le_refl _)] at HST
      cases dn
      · have HP : Hid (putL l x = O ++ [x]) := by unfold Hid putL; rw [← HST.out]; rfl
        go_wp2_with (first
          | (at_builtin; refine wpList_append_own _ rfl _ _ 37 rfl w.heap.size 9 i0 (.string .empty) 1 16 Tryz.underlying37 hi hz0 hz1 hz2 rfl (by decide) _ _ _ rfl (World.ownsRow.alloc HO.out _) ⟨wr.heap.size, 0, none⟩ 1 1 [.string x] ?f0 rfl ?f1 ?f2 ?f3 ?f4 ?f5 ?_))
        try (case f0 => rfl)
        try (case f1 => exact cell_new_at _ _ _ _ rfl)
        try (case f2 => first | rfl | (intro u hu; simp at hu; subst hu; rfl))
        try (case f3 => have := hol.out; first | omega | (unfold maxLen; omega))
        try (case f4 => have := hol.out; omega)
        try (case f5 => have := HB.out.size; first | omega | (simp; omega))
        intro vf w2 hownf hgrowf _
        have HO2 := hidM (OwnS.push hownf)
        have HB2 := hidM (OwnS.below HO.out HB.out HB.out.size hgrowf)
        clear hownf hgrowf
        go_wp2_with fail
        go_ret
        exact ⟨⟨_, by rw [HP.out]; exact HO2.out, rfl⟩, HB2.out⟩
      · have HP : Hid (putL l x = O) := by unfold Hid putL; rw [← HST.out]; rfl
        go_wp2_with fail
        go_ret
        exact ⟨⟨_, by rw [HP.out]; exact HO.out, rfl⟩, HB.out⟩
end Go.Proofs.YtjoomlpocpdonaaGreatDoor
namespace Go.Proofs.YtjoomlpocpdonaaGreatDoor
open Go.RowKit
def rundStep (p : ByteArray) (acc : List ByteArray) (f : FileB) : List ByteArray := if beginsF p f then putL acc f.1 else acc
def rundF (fs : List FileB) (p : ByteArray) : List ByteArray := fs.foldl (rundStep p) []
theorem rundF_take (fs : List FileB) (p : ByteArray) (k : Nat) (h : k < fs.length) : rundF (fs.take (k + 1)) p = rundStep p (rundF (fs.take k) p) fs[k] := by
  unfold rundF
  rw [List.take_succ_eq_append_getElem h, List.foldl_append]; rfl
/-- what Put does, by one round -/
theorem putF_shape (x : ByteArray) (l : List ByteArray) : (putF x l).1.length ≤ l.length + 1 ∧ ((putF x l).2 = false → (putF x l).1.length = l.length) := by
  have : ∀ k, k ≤ l.length → (putF x (l.take k)).1.length ≤ k + 1 ∧ ((putF x (l.take k)).2 = false → (putF x (l.take k)).1.length = k) := by
    intro k
    induction k with
    | zero => intro _; exact ⟨by simp [putF], fun _ => by simp [putF]⟩
    | succ k ih =>
      intro hk
      obtain ⟨h1, h2⟩ := ih (by omega)
      rw [putF_take x l k (by omega)]
      generalize putF x (l.take k) = st at *
      obtain ⟨O, d⟩ := st
      unfold putStep
      simp only at *
      split
      · exact ⟨by simp; omega, fun h => by simp at h⟩
      · split
        · exact ⟨by simp; omega, fun h => by simp at h⟩
        · rename_i hd
          have h3 := h2 (by simpa using hd)
          split
          · exact ⟨by simp; omega, fun h => by simp at h⟩
          · exact ⟨by simp; omega, fun _ => by simp; omega⟩
  have h := this l.length (Nat.le_refl _)
  rwa [List.take_of_length_le (Nat.le_refl _)] at h
theorem putL_len (l : List ByteArray) (x : ByteArray) : (putL l x).length ≤ l.length + 1 := by
  obtain ⟨h1, h2⟩ := putF_shape x l
  unfold putL
  split
  · exact h1
  · rename_i h
    have := h2 (by simpa using h)
    simp; omega
theorem rundF_len (fs : List FileB) (p : ByteArray) (k : Nat) (hk : k ≤ fs.length) : (rundF (fs.take k) p).length ≤ k := by
  induction k with
  | zero => simp [rundF]
  | succ k ih =>
    rw [rundF_take fs p k (by omega)]
    have := ih (by omega)
    unfold rundStep
    split
    · have := putL_len (rundF (fs.take k) p) (fs[k]'(by omega)).1; omega
    · omega
set_option maxHeartbeats 3200000 in
theorem runder_any (b off c : Nat) (fs : List FileB) (p : ByteArray) (w : World) (hb : b < w.heap.size) (hf : FilesAt w b off fs) (hl : fs.length ≤ 1000000) :
    Calls Tryz.prog 46 #[.slice (some ⟨b, off, none⟩) fs.length c, .string p] w fun e w' => SlRet w' w.heap.size (rundF fs p) e ∧ Below w.heap.size w w' := by
  have HF := hidM hf
  clear hf
  go_enter Tryz.func46, Tryz.ntmps46
  go_wp2_with fail
  have HO0 : Hid (OwnS (w.alloc (.cells #[] 9)) w.heap.size (.slice (some ⟨w.heap.size, 0, none⟩) 0 0) []) := World.ownsRow_made w #[] 0 (Nat.le_refl _) (Nat.zero_le _) (by simp)
  go_loopw [5, 7, 11] (fun ov _ i wr => ∃ (k : Nat), k ≤ fs.length ∧ i = .int .i64 k ∧ OwnS wr w.heap.size ov (rundF (fs.take k) p) ∧ Below w.heap.size w wr) (fun _ _ i _ => fs.length - (intOf i).toNat)
  case atStart => exact ⟨0, Nat.zero_le _, rfl, HO0.out, (Below.refl _ _).alloc (Nat.le_refl _) _⟩
  case round =>
    obtain ⟨k, hk, rfl, hown, hbr⟩ := hrel
    have HO := hidM hown
    have HB := hidM hbr
    have hsz := hbr.size
    clear hown hbr HO0
    by_cases hlt : k < fs.length
    · have kk : (k : Int) < (fs.length : Int) := by omega
      have c1 := (HF.out.below HB.out hb k hlt).1
      have c2 := (HF.out.below HB.out hb k hlt).2
      have HT := hidM (rundF_take fs p k hlt)
      have hrl := rundF_len fs p k hk
      have HBG := hidM (fun W => rbegins_any fs[k] p W)
      unfold rundStep at HT
      have HO1 : Hid (OwnS (wr.alloc (.cells #[.string fs[k].1, .string fs[k].2] 48)) w.heap.size u5 (rundF (fs.take k) p)) := World.ownsRow.alloc HO.out _
      have HB1 : Hid (Below w.heap.size w (wr.alloc (.cells #[.string fs[k].1, .string fs[k].2] 48))) := HB.out.alloc hsz _
      generalize beginsF p fs[k] = BB at *
      generalize fs[k].1 = X at *
      generalize fs[k].2 = D at *
      generalize rundF (fs.take k) p = L at *
      cases BB
      · go_wp2_with fail
        refine (HBG.out _).mono ?_
        rintro _ w2 ⟨rfl, rfl⟩
        go_wp2_with fail
        go_roundw
        case rel => exact ⟨k + 1, by omega, by go_num, by rw [HT.out]; exact HO1.out, HB1.out⟩
        case measure => (show fs.length - ((k : Int) + 1).toNat < fs.length - ((k : Int)).toNat); omega
      · go_wp2_with fail
        refine (HBG.out _).mono ?_
        rintro _ w2 ⟨rfl, rfl⟩
        have HPU := hidM (rput_any u5 L X _ HO1.out.strs (by omega))
        go_wp2_with fail
        refine HPU.out.mono ?_
        rintro _ w3 ⟨⟨v, hv, rfl⟩, hb3⟩
        have HO3 : Hid (OwnS w3 w.heap.size v (putL L X)) := own_mono hv (by have := HB1.out.size; omega)
        have HB3 : Hid (Below w.heap.size w w3) := HB1.out.trans (hb3.mono HB1.out.size)
        clear hv hb3
        go_wp2_with fail
        go_roundw
        case rel => exact ⟨k + 1, by omega, by go_num, by rw [HT.out]; exact HO3.out, HB3.out⟩
        case measure => (show fs.length - ((k : Int) + 1).toNat < fs.length - ((k : Int)).toNat); omega
    · obtain rfl : k = fs.length := by omega
      rw [List.take_of_length_le (Nat.le_refl _)] at HO
      go_wp2_with fail
      go_ret
      exact ⟨⟨_, HO.out, rfl⟩, HB.out⟩
end Go.Proofs.YtjoomlpocpdonaaGreatDoor
namespace Go.Proofs.YtjoomlpocpdonaaGreatDoor
open Go.RowKit Go.Lib
def cmpB (a b : ByteArray) : Int := Lib.compareBytes a.data.toList b.data.toList
end Go.Proofs.YtjoomlpocpdonaaGreatDoor
namespace Go.Proofs.YtjoomlpocpdonaaGreatDoor
open Go.RowKit
abbrev RiseB (l : List ByteArray) : Prop := l.Pairwise fun a b => cmpB a b < 0
theorem cmpB_anti (a b : ByteArray) : cmpB a b = - cmpB b a := cmp_anti _ _
theorem cmpB_trans {a b c : ByteArray} (h1 : cmpB a b < 0) (h2 : cmpB b c < 0) : cmpB a c < 0 := cmp_lt_of_lt_of_le h1 (by unfold cmpB at h2; omega)
theorem cmpB_eq {a b : ByteArray} (h : cmpB a b = 0) : a = b := ba_eq ((cmp_zero _ _).1 h)
theorem cmpB_self (a : ByteArray) : cmpB a a = 0 := (cmp_zero _ _).2 rfl
theorem less_iff (a b : ByteArray) : Op.bytesLess a.toList b.toList = decide (cmpB a b < 0) := by
  rw [ByteArray.toList_eq, ByteArray.toList_eq, less_cmp0]; rfl
theorem beq_iff {a b : ByteArray} : (a.toList == b.toList) = true ↔ a = b := by
  rw [ByteArray.toList_eq, ByteArray.toList_eq]
  constructor
  · intro h; exact ba_eq (by simpa using h)
  · rintro rfl; simp
/-- how far Put has come -/
def PutAt (x : ByteArray) (l : List ByteArray) (k : Nat) (st : List ByteArray × Bool) : Prop :=
  (st.2 = false ∧ st.1 = l.take k ∧ ∀ z ∈ l.take k, cmpB z x < 0) ∨
  (st.2 = true ∧ RiseB st.1 ∧ (∀ z, z ∈ st.1 ↔ z = x ∨ z ∈ l.take k) ∧ ∀ t (h : t < l.length), k ≤ t → cmpB x l[t] < 0)
theorem put_at (x : ByteArray) (l : List ByteArray) (hr : RiseB l) (k : Nat) (hk : k ≤ l.length) : PutAt x l k (putF x (l.take k)) := by
  induction k with
  | zero => exact .inl ⟨rfl, rfl, fun z hz => by simp at hz⟩
  | succ k ih =>
    have hlt : k < l.length := by omega
    have h0 := ih (by omega)
    rw [putF_take x l k hlt]
    generalize putF x (l.take k) = st at *
    obtain ⟨O, d⟩ := st
    have htk : l.take (k + 1) = l.take k ++ [l[k]] := List.take_succ_eq_append_getElem hlt
    have hbef : ∀ z ∈ l.take k, cmpB z l[k] < 0 := fun z hz => by
      obtain ⟨t, ht, rfl⟩ := List.mem_iff_getElem.1 hz
      rw [List.length_take] at ht
      rw [List.getElem_take]
      exact List.pairwise_iff_getElem.1 hr t k (by omega) hlt (by omega)
    have haft : ∀ t (h : t < l.length), k + 1 ≤ t → cmpB l[k] l[t] < 0 := fun t h ht => List.pairwise_iff_getElem.1 hr k t hlt h (by omega)
    have hrk : RiseB (l.take (k + 1)) := List.Pairwise.sublist (List.take_sublist _ _) hr
    have hrk0 : RiseB (l.take k) := List.Pairwise.sublist (List.take_sublist _ _) hr
    unfold putStep
    simp only
    by_cases hyx : l[k] = x
    · rw [if_pos (beq_iff.2 hyx)]
      rcases h0 with ⟨_, h1, _⟩ | ⟨_,_,_, h3⟩
      · simp only at h1
        rw [h1, ← htk]
        refine .inr ⟨rfl, hrk, fun z => ?_, fun t h ht => by rw [← hyx]; exact haft t h ht⟩
        constructor
        · exact .inr
        · rintro (rfl | h)
          · rw [← hyx, htk]; exact List.mem_append.2 (.inr (List.mem_singleton.2 rfl))
          · exact h
      · have := h3 k hlt (Nat.le_refl _)
        rw [hyx, cmpB_self] at this; omega
    · rw [if_neg (fun h => hyx (beq_iff.1 h))]
      rcases h0 with ⟨h1, h2, h3⟩ | ⟨h1, h2, h3, h4⟩
      · simp only at h1 h2
        subst h1
        rw [if_neg (by decide)]
        have hgt : gtB l[k] x = !decide (cmpB l[k] x < 0) := by
          unfold gtB
          rw [less_iff, show (l[k].toList == x.toList) = false by simpa using fun h => hyx (beq_iff.1 (by simpa using h)), Bool.or_false]
        by_cases hc : cmpB l[k] x < 0
        · rw [hgt, if_neg (by simp [hc])]
          refine .inl ⟨rfl, by simp only [h2, htk], fun z hz => ?_⟩
          rw [htk] at hz
          rcases List.mem_append.1 hz with hz | hz
          · exact h3 z hz
          · rw [List.mem_singleton.1 hz]; exact hc
        · rw [hgt, if_pos (by simpa using hc)]
          have hxl : cmpB x l[k] < 0 := by
            have a1 := cmpB_anti x l[k]
            have a2 : cmpB l[k] x ≠ 0 := fun h => hyx (cmpB_eq h)
            omega
          refine .inr ⟨rfl, ?_, fun z => ?_, fun t h ht => cmpB_trans hxl (haft t h ht)⟩
          · simp only [h2]
            unfold RiseB
            rw [List.append_assoc, List.pairwise_append]
            refine ⟨hrk0, by simpa using hxl, fun a ha b hb => ?_⟩
            simp only [List.cons_append, List.nil_append, List.mem_cons, List.not_mem_nil, or_false] at hb
            rcases hb with rfl | rfl
            · exact h3 a ha
            · exact hbef a ha
          · simp only [h2, htk, List.mem_append, List.mem_singleton]
            constructor
            · rintro ((h | h) | h)
              · exact .inr (.inl h)
              · exact .inl h
              · exact .inr (.inr h)
            · rintro (h | h | h)
              · exact .inl (.inr h)
              · exact .inl (.inl h)
              · exact .inr h
      · simp only at h1 h2 h3
        subst h1
        rw [if_pos rfl]
        refine .inr ⟨rfl, ?_, fun z => ?_, fun t h ht => h4 t h (by omega)⟩
        · simp only
          unfold RiseB
          rw [List.pairwise_append]
          refine ⟨h2, List.pairwise_singleton _ _, fun a ha b hb => ?_⟩
          rw [List.mem_singleton.1 hb]
          rcases (h3 a).1 ha with rfl | ha
          · exact h4 k hlt (Nat.le_refl _)
          · exact hbef a ha
        · simp only [htk, List.mem_append, List.mem_singleton]
          rw [h3 z]
          constructor
          · rintro ((h | h) | h)
            · exact .inl h
            · exact .inr (.inl h)
            · exact .inr (.inr h)
          · rintro (h | h | h)
            · exact .inl (.inl h)
            · exact .inl (.inr h)
            · exact .inr h
theorem put_rise (l : List ByteArray) (x : ByteArray) (hr : RiseB l) : RiseB (putL l x) ∧ ∀ z, z ∈ putL l x ↔ z = x ∨ z ∈ l := by
  have h := put_at x l hr l.length (Nat.le_refl _)
  unfold PutAt at h
  rw [List.take_of_length_le (Nat.le_refl _)] at h
  unfold putL
  rcases h with ⟨h1, h2, h3⟩ | ⟨h1, h2, h3, _⟩
  · rw [if_neg (by rw [h1]; decide), h2]
    refine ⟨?_, fun z => by simp only [List.mem_append, List.mem_singleton]; exact Or.comm⟩
    rw [RiseB, List.pairwise_append]
    exact ⟨hr, List.pairwise_singleton _ _, fun a ha b hb => by rw [List.mem_singleton.1 hb]; exact h3 a ha⟩
  · rw [if_pos h1]
    exact ⟨h2, h3⟩
theorem rund_rise (fs : List FileB) (p : ByteArray) : RiseB (rundF fs p) ∧ ∀ z, z ∈ rundF fs p ↔ ∃ f ∈ fs, beginsF p f = true ∧ f.1 = z := by
  have : ∀ k, k ≤ fs.length → RiseB (rundF (fs.take k) p) ∧ ∀ z, z ∈ rundF (fs.take k) p ↔ ∃ f ∈ fs.take k, beginsF p f = true ∧ f.1 = z := by
    intro k
    induction k with
    | zero => intro _; exact ⟨by simp [rundF], fun z => by simp [rundF]⟩
    | succ k ih =>
      intro hk
      obtain ⟨h1, h2⟩ := ih (by omega)
      rw [rundF_take fs p k (by omega)]
      have htk : fs.take (k + 1) = fs.take k ++ [fs[k]'(by omega)] := List.take_succ_eq_append_getElem (by omega)
      unfold rundStep
      by_cases hb : beginsF p (fs[k]'(by omega)) = true
      · rw [if_pos hb]
        obtain ⟨h3, h4⟩ := put_rise _ (fs[k]'(by omega)).1 h1
        refine ⟨h3, fun z => ?_⟩
        rw [h4 z, h2 z, htk]
        constructor
        · rintro (rfl | ⟨f, hf, h⟩)
          · exact ⟨_, List.mem_append.2 (.inr (List.mem_singleton.2 rfl)), hb, rfl⟩
          · exact ⟨f, List.mem_append.2 (.inl hf), h⟩
        · rintro ⟨f, hf, h5, h6⟩
          rcases List.mem_append.1 hf with hf | hf
          · exact .inr ⟨f, hf, h5, h6⟩
          · left; rw [← h6, List.mem_singleton.1 hf]
      · rw [if_neg hb]
        refine ⟨h1, fun z => ?_⟩
        rw [h2 z, htk]
        constructor
        · rintro ⟨f, hf, h⟩; exact ⟨f, List.mem_append.2 (.inl hf), h⟩
        · rintro ⟨f, hf, h5, h6⟩
          rcases List.mem_append.1 hf with hf | hf
          · exact ⟨f, hf, h5, h6⟩
          · rw [List.mem_singleton.1 hf] at h5; exact absurd h5 hb
  have h := this fs.length (Nat.le_refl _)
  rwa [List.take_of_length_le (Nat.le_refl _)] at h
theorem RiseB.nodup {l : List ByteArray} (h : RiseB l) : l.Nodup := List.Pairwise.imp (fun {a b} h e => by rw [e, cmpB_self] at h; omega) h
theorem riseB_one {l m : List ByteArray} (hl : RiseB l) (hm : RiseB m) (h : ∀ z, z ∈ l ↔ z ∈ m) : l = m := by
  refine List.Perm.eq_of_pairwise (le := fun a b => cmpB a b < 0) ?_ hl hm ((List.perm_ext_iff_of_nodup hl.nodup hm.nodup).2 h)
  intro a b _ _ h1 h2
  have := cmpB_anti a b
  omega
end Go.Proofs.YtjoomlpocpdonaaGreatDoor
