/-
  At most so many files, copied; two lists of texts held against each other.
-/
import Derived.Test.YtolohndbbnbfbaaDoorSnapK
namespace Go.Proofs.YtolohndbbnbfbaaDoor
open Go.RowKit Go.Sort

/-- the slice of files that a value is -/
def FilesV (w : World) (v : Value) (fs : List FileB) : Prop := (v = .slice none 0 0 ∧ fs = []) ∨ (∃ a c, v = .slice (some a) 0 c ∧ fs = []) ∨ ∃ b off c, v = .slice (some ⟨b, off, none⟩) fs.length c ∧ FilesAt w b off fs ∧ fs.length ≤ c
def FewRet (w0 : World) (fs : List FileB) (e : Ending) (w : World) : Prop := ∃ g cap, e = .returned (.slice (some ⟨g, 0, none⟩) fs.length cap) ∧ w0.heap.size ≤ g ∧ g < w.heap.size ∧ fs.length ≤ cap ∧ HoldsK encF 2 w g 0 fs.toArray
theorem FilesAt.take {w : World} {b off : Nat} {fs : List FileB} (h : FilesAt w b off fs) (n : Nat) : FilesAt w b off (fs.take n) := fun i hi => by
  have h2 : i < fs.length := by rw [List.length_take] at hi; omega
  rw [List.getElem_take]; exact h i h2
set_option maxHeartbeats 1600000 in
theorem few_nil (n : Nat) (w : World) : Calls Tryd.prog 12 #[.slice none 0 0, .int .i64 (n : Nat)] w fun e w' => FewRet w [] e w' ∧ Go.RowKit.Below w.heap.size w w' := by
  go_enter Tryd.func12, Tryd.ntmps12
  go_wp2_with fail
  go_ret
  refine ⟨⟨w.heap.size, 0, rfl, Nat.le_refl _, by simp, Nat.zero_le _, ?_⟩, (Go.RowKit.Below.refl _ _).alloc (Nat.le_refl _) _⟩
  intro j hj
  simp at hj
set_option maxHeartbeats 1600000 in
theorem flat_one {fs : List FileB} : ∀ u ∈ (flatK encF 2 fs.toArray).toList, u.oneCell' = true := by
  intro u hu
  obtain ⟨j, hj, rfl⟩ := List.mem_iff_getElem.1 hu
  have hj2 : j < fs.length * 2 := by simpa using hj
  rw [Array.getElem_toList, ← getElem!_pos _ _ (by simpa using hj2), get_flatK _ _ _ _ (by simpa using hj2)]
  rcases Nat.mod_two_eq_zero_or_one j with hm | hm <;> rw [hm] <;> rfl
theorem flat_news {w : World} {b off : Nat} {fs : List FileB} (hf : FilesAt w b off fs) : ∀ j u, (flatK encF 2 fs.toArray).toList[j]? = some u → w.cell? ⟨b, off + j, none⟩ = some u := by
  intro j u hj
  obtain ⟨hj1, rfl⟩ := List.getElem?_eq_some_iff.1 hj
  have hj2 : j < fs.length * 2 := by simpa using hj1
  rw [hf.flat j hj2, getElem!_pos _ _ (by simpa using hj2)]
  simp
theorem few_ret {w w' : World} {fs : List FileB} {v : Value} (hown : w'.ownsRow w.heap.size 32 2 v fs.length (flatK encF 2 fs.toArray).toList) (hnn : v ≠ .slice none 0 0) : FewRet w fs (.returned v) w' := by
  rcases hown.2 with ⟨hnil, _⟩ | ⟨g, cap, cur, rfl, hbase, hbk, h1, h2, h3, h4⟩
  · exact absurd hnil hnn
  · exact ⟨g, cap, rfl, hbase, (Array.getElem?_eq_some_iff.1 hbk).1, h1, holdsK_of_block hbk (by simpa using h4)⟩
set_option maxHeartbeats 1600000 in
theorem few_at (b off c n : Nat) (fs : List FileB) (w : World) (hf : FilesAt w b off fs) (hcap : fs.length ≤ c) (hn : n ≤ 100000) :
    Calls Tryd.prog 12 #[.slice (some ⟨b, off, none⟩) fs.length c, .int .i64 (n : Nat)] w fun e w' => FewRet w (fs.take n) e w' ∧ Go.RowKit.Below w.heap.size w w' := by
  obtain ⟨i0, hi, hz0, hz1, hz2⟩ := info_parts info32
  have hf' := hf.take n
  have HNW := hidM (flat_news hf')
  have HON := hidM (flat_one (fs := fs.take n))
  have HLN : Hid ((flatK encF 2 (fs.take n).toArray).toList.length = (fs.take n).length * 2) := by unfold Hid; simp
  have HTL : Hid ((fs.take n).length = min n fs.length) := by unfold Hid; simp
  have HRT := hidM (fun (w' : World) (v : Value) (h1 : w'.ownsRow w.heap.size 32 2 v (fs.take n).length (flatK encF 2 (fs.take n).toArray).toList) h2 => few_ret (w := w) h1 h2)
  clear hf hf'
  by_cases hlt : n < fs.length
  · have g1 : decide ((n : Int) < (fs.length : Int)) = true := by simp; omega
    have HM : Hid (min n fs.length = n) := by unfold Hid; omega
    rw [HM.out] at HTL
    rw [HTL.out] at HLN HRT
    generalize fs.take n = us at *
    generalize (flatK encF 2 us.toArray).toList = news at *
    have c0 : (n : Int) ≤ (c : Int) := by omega
    clear HM
    go_enter Tryd.func12, Tryd.ntmps12
    go_wp2_with (at_builtin; refine wpList_append_own _ rfl _ _ 22 rfl w.heap.size 32 i0 (.agg #[.string .empty, .string .empty]) 2 32 Tryd.underlying22 hi hz0 hz1 hz2 rfl (by decide) _ _ _ rfl (World.ownsRow_made w #[] 0 (Nat.le_refl _) (Nat.zero_le _) (by simp)) ⟨b, off, none⟩ n c news rfl ?qc1 ?qc2 ?qc3 ?qc4 ?qc5 ?qc6 ?_)
    case qc1 => exact HLN.out
    case qc2 =>
      intro j u hj
      rw [Addr.add_lit]
      exact Lib.cell?_alloc_some _ (HNW.out j u hj)
    case qc3 => exact HON.out
    case qc4 => unfold maxLen; omega
    case qc5 => omega
    case qc6 => simp
    intro v' w1 hown hgrow hnil
    have HR := hidM (HRT.out w1 v' (by simpa using hown) hnil)
    have HB : Hid (Go.RowKit.Below w.heap.size w w1) := ((Go.RowKit.Below.refl _ w).alloc (Nat.le_refl _) _).grown hgrow (by simp) (by intro k hk; simp [Value.ownBlock] at hk; omega)
    clear hown hgrow hnil
    go_wp2
    go_ret
    exact ⟨HR.out, HB.out⟩
  · have g1 : decide ((n : Int) < (fs.length : Int)) = false := by simp; omega
    have HM : Hid (min n fs.length = fs.length) := by unfold Hid; omega
    rw [HM.out] at HTL
    rw [HTL.out] at HLN HRT
    generalize fs.take n = us at *
    generalize (flatK encF 2 us.toArray).toList = news at *
    have c0 : fs.length ≤ 100000 := by omega
    clear HM
    generalize fs.length = L at *
    go_enter Tryd.func12, Tryd.ntmps12
    go_wp2_with (at_builtin; refine wpList_append_own _ rfl _ _ 22 rfl w.heap.size 32 i0 (.agg #[.string .empty, .string .empty]) 2 32 Tryd.underlying22 hi hz0 hz1 hz2 rfl (by decide) _ _ _ rfl (World.ownsRow_made w #[] 0 (Nat.le_refl _) (Nat.zero_le _) (by simp)) ⟨b, off, none⟩ L c news rfl ?qc1 ?qc2 ?qc3 ?qc4 ?qc5 ?qc6 ?_)
    case qc1 => exact HLN.out
    case qc2 =>
      intro j u hj
      rw [Addr.add_lit]
      exact Lib.cell?_alloc_some _ (HNW.out j u hj)
    case qc3 => exact HON.out
    case qc4 => unfold maxLen; omega
    case qc5 => omega
    case qc6 => simp
    intro v' w1 hown hgrow hnil
    have HR := hidM (HRT.out w1 v' (by simpa using hown) hnil)
    have HB : Hid (Go.RowKit.Below w.heap.size w w1) := ((Go.RowKit.Below.refl _ w).alloc (Nat.le_refl _) _).grown hgrow (by simp) (by intro k hk; simp [Value.ownBlock] at hk; omega)
    clear hown hgrow hnil
    go_wp2
    go_ret
    exact ⟨HR.out, HB.out⟩
set_option maxHeartbeats 1600000 in
theorem few_empty (ad : Addr) (c n : Nat) (w : World) : Calls Tryd.prog 12 #[.slice (some ad) 0 c, .int .i64 (n : Nat)] w fun e w' => FewRet w [] e w' ∧ Go.RowKit.Below w.heap.size w w' := by
  obtain ⟨i0, hi, hz0, hz1, hz2⟩ := info_parts info32
  have HRT := hidM (fun (w' : World) (v : Value) (h1 : w'.ownsRow w.heap.size 32 2 v ([] : List FileB).length (flatK encF 2 ([] : List FileB).toArray).toList) h2 => few_ret (w := w) h1 h2)
  have g1 : decide ((n : Int) < 0) = false := by simp
  go_enter Tryd.func12, Tryd.ntmps12
  go_wp2_with (at_builtin; refine wpList_append_own _ rfl _ _ 22 rfl w.heap.size 32 i0 (.agg #[.string .empty, .string .empty]) 2 32 Tryd.underlying22 hi hz0 hz1 hz2 rfl (by decide) _ _ _ rfl (World.ownsRow_made w #[] 0 (Nat.le_refl _) (Nat.zero_le _) (by simp)) ad 0 c [] rfl ?qc1 ?qc2 ?qc3 ?qc4 ?qc5 ?qc6 ?_)
  case qc1 => rfl
  case qc2 => intro j u hj; simp at hj
  case qc3 => intro u hu; simp at hu
  case qc4 => unfold maxLen; omega
  case qc5 => omega
  case qc6 => simp
  intro v' w1 hown hgrow hnil
  have HR := hidM (HRT.out w1 v' (by rw [show (flatK encF 2 ([] : List FileB).toArray).toList = [] by simp [flatK]]; simpa using hown) hnil)
  have HB : Hid (Go.RowKit.Below w.heap.size w w1) := ((Go.RowKit.Below.refl _ w).alloc (Nat.le_refl _) _).grown hgrow (by simp) (by intro k hk; simp [Value.ownBlock] at hk; omega)
  clear hown hgrow hnil
  go_wp2
  go_ret
  exact ⟨HR.out, HB.out⟩
/-- the files that a row holds, with where it lies -/
theorem few_any (v : Value) (n : Nat) (fs : List FileB) (w : World) (h : FilesV w v fs) (hn : n ≤ 100000) :
    Calls Tryd.prog 12 #[v, .int .i64 (n : Nat)] w fun e w' => FewRet w (fs.take n) e w' ∧ Go.RowKit.Below w.heap.size w w' := by
  rcases h with ⟨rfl, rfl⟩ | ⟨a, c, rfl, rfl⟩ | ⟨b, off, c, rfl, hf, hc⟩
  · simpa using few_nil n w
  · simpa using few_empty a c n w
  · exact few_at b off c n fs w hf hc hn
end Go.Proofs.YtolohndbbnbfbaaDoor
