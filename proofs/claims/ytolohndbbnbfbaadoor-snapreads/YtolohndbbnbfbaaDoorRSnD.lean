/-
  The document's answer of snap: a text put in its place, once.
-/
import Derived.Test.YtolohndbbnbfbaaDoorRSnC
namespace Go.Proofs.YtolohndbbnbfbaaDoor
open Go.RowKit

/-- y stands behind x -/
def gtB (y x : ByteArray) : Bool := !(Op.bytesLess y.toList x.toList || y.toList == x.toList)
def putStep (x : ByteArray) (st : List ByteArray × Bool) (y : ByteArray) : List ByteArray × Bool :=
  if y.toList == x.toList then (st.1 ++ [y], true) else if st.2 then (st.1 ++ [y], true) else if gtB y x then (st.1 ++ [x] ++ [y], true) else (st.1 ++ [y], false)
def putF (x : ByteArray) (l : List ByteArray) : List ByteArray × Bool := l.foldl (putStep x) ([], false)
def putL (l : List ByteArray) (x : ByteArray) : List ByteArray := if (putF x l).2 then (putF x l).1 else (putF x l).1 ++ [x]
theorem putF_take (x : ByteArray) (l : List ByteArray) (k : Nat) (h : k < l.length) : putF x (l.take (k + 1)) = putStep x (putF x (l.take k)) l[k] := by
  unfold putF
  rw [List.take_succ_eq_append_getElem h, List.foldl_append]; rfl
theorem putF_len (x : ByteArray) (l : List ByteArray) (k : Nat) (hk : k ≤ l.length) : (putF x (l.take k)).1.length ≤ 2 * k := by
  induction k with
  | zero => simp [putF]
  | succ k ih =>
    rw [putF_take x l k (by omega)]
    have := ih (by omega)
    unfold putStep
    split
    · simp; omega
    · split
      · simp; omega
      · split
        · simp; omega
        · simp; omega
set_option maxRecDepth 100000 in
set_option maxHeartbeats 6400000 in
theorem rput_any (v : Value) (l : List ByteArray) (x : ByteArray) (w : World) (hV : StrsV w v l) (hl : l.length ≤ 1000000) :
    Calls Tryd.prog 59 #[v, .string x] w fun e w' => SlRet w' w.heap.size (putL l x) e ∧ Below w.heap.size w w' := by
  obtain ⟨i0, hi, hz0, hz1, hz2⟩ := info_parts info9
  obtain ⟨a, c, rfl, hs⟩ := hV
  have HS : Hid (∀ W, Below w.heap.size w W → ∀ m (h : m < l.length), ∃ g, a = some ⟨g, 0, none⟩ ∧ W.cell? ⟨g, m, none⟩ = some (.string l[m])) := fun W hW m h => by
    obtain ⟨g, h1, h2, h3⟩ := hs (fun hh => by rw [hh] at h; simp at h)
    exact ⟨g, h1, h3.below hW h2 m h⟩
  clear hs
  go_enter Tryd.func59, Tryd.ntmps59
  go_wp2_with fail
  have HO0 : Hid (OwnS (w.alloc (.cells #[] 9)) w.heap.size (.slice (some ⟨w.heap.size, 0, none⟩) 0 0) []) := World.ownsRow_made w #[] 0 (Nat.le_refl _) (Nat.zero_le _) (by simp)
  go_loopw [5, 6, 12] (fun ov dv i wr => ∃ (k : Nat), k ≤ l.length ∧ ∃ st : List ByteArray × Bool, i = .int .i64 k ∧ (st = putF x (l.take k) ∧ dv = .bool st.2) ∧ OwnS wr w.heap.size ov st.1 ∧ Below w.heap.size w wr) (fun _ _ i _ => l.length - (intOf i).toNat)
  case atStart => exact ⟨0, Nat.zero_le _, ([], false), rfl, ⟨rfl, rfl⟩, HO0.out, (Below.refl _ _).alloc (Nat.le_refl _) _⟩
  case round =>
    obtain ⟨k, hk, st, rfl, ⟨hst, rfl⟩, hown, hbr⟩ := hrel
    have HO := hidM hown
    have HB := hidM hbr
    have hol : Hid (st.1.length ≤ 2 * k) := by unfold Hid; rw [hst]; exact putF_len x l k hk
    have HST := hidM hst
    clear hown hbr HO0 hst
    obtain ⟨O, dn⟩ := st
    simp only at HO hol ⊢
    by_cases hlt : k < l.length
    · have kk : (k : Int) < (l.length : Int) := by omega
      obtain ⟨g, rfl, y0⟩ := HS.out wr HB.out k hlt
      have HN : Hid (putF x (l.take (k + 1)) = putStep x (O, dn) l[k]) := by unfold Hid; rw [putF_take x l k hlt, ← HST.out]
      generalize l[k] = Y at *
      unfold putStep at HN
      clear HST
      cases hyx : (Y.toList == x.toList)
      · rw [hyx] at HN
        cases dn
        · cases hgt : gtB Y x
          · rw [hgt] at HN
            have hg2 : (Op.bytesLess Y.toList x.toList || Y.toList == x.toList) = true := by unfold gtB at hgt; simpa only [Bool.not_eq_false'] using hgt
            rw [hyx, Bool.or_false] at hg2
            clear hgt
            go_wp2_with (first
              | (at_builtin; refine wpList_append_own _ rfl _ _ 37 rfl w.heap.size 9 i0 (.string .empty) 1 16 Tryd.underlying37 hi hz0 hz1 hz2 rfl (by decide) _ _ _ rfl (World.ownsRow.alloc HO.out _) ⟨wr.heap.size, 0, none⟩ 1 1 [.string Y] ?a0 rfl ?a1 ?a2 ?a3 ?a4 ?a5 ?_))
            try (case a0 => rfl)
            try (case a1 => exact cell_new_at _ _ _ _ rfl)
            try (case a2 => first | rfl | (intro u hu; simp at hu; subst hu; rfl))
            try (case a3 => have := hol.out; first | omega | (unfold maxLen; omega))
            try (case a4 => have := hol.out; omega)
            try (case a5 => have := HB.out.size; first | omega | (simp; omega))
            intro va w2 howna hgrowa _
            have HO2 := hidM (OwnS.push howna)
            have HB2 := hidM (OwnS.below HO.out HB.out HB.out.size hgrowa)
            clear howna hgrowa
            go_wp2_with fail
            go_roundw
            case rel => exact ⟨k + 1, by omega, _, by go_num, ⟨HN.out.symm, rfl⟩, HO2.out, HB2.out⟩
            case measure => (show l.length - ((k : Int) + 1).toNat < l.length - ((k : Int)).toNat); omega
          · rw [hgt] at HN
            have hg2 : Op.bytesLess Y.toList x.toList = false := by unfold gtB at hgt; rw [hyx, Bool.or_false] at hgt; simpa using hgt
            clear hgt
            go_wp2_with (first
              | (at_builtin; refine wpList_append_own _ rfl _ _ 37 rfl w.heap.size 9 i0 (.string .empty) 1 16 Tryd.underlying37 hi hz0 hz1 hz2 rfl (by decide) _ _ _ rfl (World.ownsRow.alloc HO.out _) ⟨wr.heap.size, 0, none⟩ 1 1 [.string x] ?b0 rfl ?b1 ?b2 ?b3 ?b4 ?b5 ?_))
            try (case b0 => rfl)
            try (case b1 => exact cell_new_at _ _ _ _ rfl)
            try (case b2 => first | rfl | (intro u hu; simp at hu; subst hu; rfl))
            try (case b3 => have := hol.out; first | omega | (unfold maxLen; omega))
            try (case b4 => have := hol.out; omega)
            try (case b5 => have := HB.out.size; first | omega | (simp; omega))
            intro vb w2 hownb hgrowb _
            have HO2 := hidM (OwnS.push hownb)
            have HB2 := hidM (OwnS.below HO.out HB.out HB.out.size hgrowb)
            clear hownb hgrowb
            go_wp2_with (first
              | (at_builtin; refine wpList_append_own _ rfl _ _ 37 rfl w.heap.size 9 i0 (.string .empty) 1 16 Tryd.underlying37 hi hz0 hz1 hz2 rfl (by decide) _ _ _ rfl (World.ownsRow.alloc HO2.out _) ⟨w2.heap.size, 0, none⟩ 1 1 [.string Y] ?c0 rfl ?c1 ?c2 ?c3 ?c4 ?c5 ?_))
            try (case c0 => rfl)
            try (case c1 => exact cell_new_at _ _ _ _ rfl)
            try (case c2 => first | rfl | (intro u hu; simp at hu; subst hu; rfl))
            try (case c3 => have := hol.out; rw [List.length_append]; simp only [List.length_cons, List.length_nil]; first | omega | (unfold maxLen; omega))
            try (case c4 => have := hol.out; rw [List.length_append]; simp only [List.length_cons, List.length_nil]; omega)
            try (case c5 => have := HB2.out.size; first | omega | (simp; omega))
            intro vc w3 hownc hgrowc _
            have HO3 := hidM (OwnS.push (l := O ++ [x]) (x := Y) (by rw [show (O ++ [x]).length = O.length + 1 by simp]; exact hownc))
            have HB3 := hidM (OwnS.below HO2.out HB2.out HB2.out.size hgrowc)
            clear hownc hgrowc
            go_wp2_with fail
            go_roundw
            case rel => exact ⟨k + 1, by omega, _, by go_num, ⟨HN.out.symm, rfl⟩, HO3.out, HB3.out⟩
            case measure => (show l.length - ((k : Int) + 1).toNat < l.length - ((k : Int)).toNat); omega
        · go_wp2_with (first
            | (at_builtin; refine wpList_append_own _ rfl _ _ 37 rfl w.heap.size 9 i0 (.string .empty) 1 16 Tryd.underlying37 hi hz0 hz1 hz2 rfl (by decide) _ _ _ rfl (World.ownsRow.alloc HO.out _) ⟨wr.heap.size, 0, none⟩ 1 1 [.string Y] ?d0 rfl ?d1 ?d2 ?d3 ?d4 ?d5 ?_))
          try (case d0 => rfl)
          try (case d1 => exact cell_new_at _ _ _ _ rfl)
          try (case d2 => first | rfl | (intro u hu; simp at hu; subst hu; rfl))
          try (case d3 => have := hol.out; first | omega | (unfold maxLen; omega))
          try (case d4 => have := hol.out; omega)
          try (case d5 => have := HB.out.size; first | omega | (simp; omega))
          intro vd w2 hownd hgrowd _
          have HO2 := hidM (OwnS.push hownd)
          have HB2 := hidM (OwnS.below HO.out HB.out HB.out.size hgrowd)
          clear hownd hgrowd
          go_wp2_with fail
          go_roundw
          case rel => exact ⟨k + 1, by omega, _, by go_num, ⟨HN.out.symm, rfl⟩, HO2.out, HB2.out⟩
          case measure => (show l.length - ((k : Int) + 1).toNat < l.length - ((k : Int)).toNat); omega
      · rw [hyx] at HN
        have hYx : Y = x := ba_eq (by rw [← ByteArray.toList_eq, ← ByteArray.toList_eq]; simpa using hyx)
        subst hYx
        clear hyx
        go_wp2_with (first
          | (at_builtin; refine wpList_append_own _ rfl _ _ 37 rfl w.heap.size 9 i0 (.string .empty) 1 16 Tryd.underlying37 hi hz0 hz1 hz2 rfl (by decide) _ _ _ rfl (World.ownsRow.alloc HO.out _) ⟨wr.heap.size, 0, none⟩ 1 1 [.string Y] ?e0 rfl ?e1 ?e2 ?e3 ?e4 ?e5 ?_))
        try (case e0 => rfl)
        try (case e1 => exact cell_new_at _ _ _ _ rfl)
        try (case e2 => first | rfl | (intro u hu; simp at hu; subst hu; rfl))
        try (case e3 => have := hol.out; first | omega | (unfold maxLen; omega))
        try (case e4 => have := hol.out; omega)
        try (case e5 => have := HB.out.size; first | omega | (simp; omega))
        intro ve w2 howne hgrowe _
        have HO2 := hidM (OwnS.push howne)
        have HB2 := hidM (OwnS.below HO.out HB.out HB.out.size hgrowe)
        clear howne hgrowe
        go_wp2_with fail
        go_roundw
        case rel => exact ⟨k + 1, by omega, _, by go_num, ⟨HN.out.symm, rfl⟩, HO2.out, HB2.out⟩
        case measure => (show l.length - ((k : Int) + 1).toNat < l.length - ((k : Int)).toNat); omega
    · obtain rfl : k = l.length := by omega
      rw [List.take_of_length_le (Nat.le_refl _)] at HST
      cases dn
      · have HP : Hid (putL l x = O ++ [x]) := by unfold Hid putL; rw [← HST.out]; rfl
        go_wp2_with (first
          | (at_builtin; refine wpList_append_own _ rfl _ _ 37 rfl w.heap.size 9 i0 (.string .empty) 1 16 Tryd.underlying37 hi hz0 hz1 hz2 rfl (by decide) _ _ _ rfl (World.ownsRow.alloc HO.out _) ⟨wr.heap.size, 0, none⟩ 1 1 [.string x] ?f0 rfl ?f1 ?f2 ?f3 ?f4 ?f5 ?_))
        try (case f0 => rfl)
        try (case f1 => exact cell_new_at _ _ _ _ rfl)
        try (case f2 => first | rfl | (intro u hu; simp at hu; subst hu; rfl))
        try (case f3 => have := hol.out; first | omega | (unfold maxLen; omega))
        try (case f4 => have := hol.out; omega)
        try (case f5 => have := HB.out.size; first | omega | (simp; omega))
        intro vf w2 hownf hgrowf _
        have HO2 := hidM (OwnS.push hownf)
        have HB2 := hidM (OwnS.below HO.out HB.out HB.out.size hgrowf)
        clear hownf hgrowf
        go_wp2_with fail
        go_ret
        exact ⟨⟨_, by rw [HP.out]; exact HO2.out, rfl⟩, HB2.out⟩
      · have HP : Hid (putL l x = O) := by unfold Hid putL; rw [← HST.out]; rfl
        go_wp2_with fail
        go_ret
        exact ⟨⟨_, by rw [HP.out]; exact HO.out, rfl⟩, HB.out⟩
end Go.Proofs.YtolohndbbnbfbaaDoor

