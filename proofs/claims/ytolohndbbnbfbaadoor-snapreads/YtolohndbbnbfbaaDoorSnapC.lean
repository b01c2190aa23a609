/-
  Files compared by their paths; looked for by halving.
-/
import Derived.Test.YtolohndbbnbfbaaDoorSnapB
namespace Go.Proofs.YtolohndbbnbfbaaDoor
open Go.RowKit

def fileV (f : FileB) : Value := .agg #[.string f.1, .string f.2]
set_option maxHeartbeats 1600000 in
theorem newCmp_any (f g : FileB) (w : World) :
    Calls Tryd.prog 48 #[fileV f, fileV g] w fun e w' => e = .returned (.int .i64 (Lib.compareBytes f.1.data.toList g.1.data.toList)) ∧ w' = (w.alloc (.cells #[.string f.1, .string f.2] 32)).alloc (.cells #[.string g.1, .string g.2] 32) := by
  unfold fileV
  go_enter Tryd.func48, Tryd.ntmps48
  go_wp2_with fail
  refine (Tryd.strings_Compare f.1 g.1 _).mono ?_
  rintro _ w1 ⟨rfl, rfl⟩
  go_wp2_with fail
  go_ret
  exact ⟨rfl, rfl⟩
theorem placeCmp_any (f : FileB) (p : ByteArray) (w : World) :
    Calls Tryd.prog 72 #[fileV f, .string p] w fun e w' => e = .returned (.int .i64 (Lib.compareBytes f.1.data.toList p.data.toList)) ∧ w' = (w.alloc (.cells #[.string f.1, .string f.2] 32)) := by
  unfold fileV
  go_enter Tryd.func72, Tryd.ntmps72
  go_wp2_with fail
  refine (Tryd.strings_Compare f.1 p _).mono ?_
  rintro _ w1 ⟨rfl, rfl⟩
  go_wp2_with fail
  go_ret
  exact ⟨rfl, rfl⟩
/-- how a file's path stands to p -/
def cmpP (p : ByteArray) (f : FileB) : Int := Lib.compareBytes f.1.data.toList p.data.toList
/-- where p stands, or would stand -/
structure Spot (fs : List FileB) (p : ByteArray) (i : Nat) : Prop where
  le : i ≤ fs.length
  lo : ∀ t (h : t < fs.length), t < i → cmpP p fs[t] < 0
  hi : ∀ t (h : t < fs.length), i ≤ t → 0 ≤ cmpP p fs[t]
/-- rising by paths, as far as p can tell -/
def Mono (fs : List FileB) (p : ByteArray) : Prop := ∀ a b (hb : b < fs.length) (h : a ≤ b), cmpP p fs[b] < 0 → cmpP p (fs[a]'(Nat.lt_of_le_of_lt h hb)) < 0
def thereB (fs : List FileB) (p : ByteArray) (i : Nat) : Bool := match fs[i]? with | some f => cmpP p f == 0 | none => false
set_option maxHeartbeats 3200000 in
theorem bsearch_at (b off c : Nat) (fs : List FileB) (p : ByteArray) (w : World) (hb : b < w.heap.size) (hf : FilesAt w b off fs) (hl : fs.length ≤ 1000000) (hm : Mono fs p) :
    Calls Tryd.prog 71 #[.slice (some ⟨b, off, none⟩) fs.length c, .string p, .func (.func 72) #[] #[]] w fun e w' => (∃ i, Spot fs p i ∧ e = .returned (.tuple #[.int .i64 (i : Nat), .bool (thereB fs p i)])) ∧ Below w.heap.size w w' := by
  have HF := hidM hf
  have HM := hidM hm
  have HP := hidM (fun f W => placeCmp_any f p W)
  clear hf hm
  go_enter Tryd.func71, Tryd.ntmps71
  go_wp2_with fail
  go_loopw [9, 10, 11] (fun x y _ wr => ∃ (i j : Nat), i ≤ j ∧ j ≤ fs.length ∧ x = .int .i64 i ∧ y = .int .i64 j ∧ (∀ t (h : t < fs.length), t < i → cmpP p fs[t] < 0) ∧ (∀ t (h : t < fs.length), j ≤ t → 0 ≤ cmpP p fs[t]) ∧ Below w.heap.size w wr) (fun x y _ _ => (intOf y).toNat - (intOf x).toNat)
  case atStart => exact ⟨0, fs.length, Nat.zero_le _, Nat.le_refl _, rfl, rfl, fun t _ ht => by omega, fun t h ht => by omega, Below.refl _ _⟩
  case round =>
    obtain ⟨i, j, hij, hj, rfl, rfl, hlo, hhi, hb2⟩ := hrel
    have HLO := hidM hlo
    have HHI := hidM hhi
    have HB := hidM hb2
    clear hlo hhi hb2
    by_cases hlt : i < j
    · have kk : (i : Int) < (j : Int) := by omega
      obtain ⟨h, hh⟩ : ∃ h, h = (i + j) / 2 := ⟨_, rfl⟩
      have h1 : i ≤ h := by omega
      have h2 : h < j := by omega
      have r1 : ((i : Int) + (j : Int)) / 2 = (h : Int) := by omega
      have hlen : h < fs.length := by omega
      have kl : (h : Int) < (fs.length : Int) := by omega
      have hc1 := (HF.out.below HB.out hb h hlen).1
      have hc2 := (HF.out.below HB.out hb h hlen).2
      have HCM : Hid (∀ W, Calls Tryd.prog 72 #[.agg #[.string fs[h].1, .string fs[h].2], .string p] W fun e w' => e = .returned (.int .i64 (cmpP p fs[h])) ∧ w' = W.alloc (.cells #[.string fs[h].1, .string fs[h].2] 32)) := HP.out fs[h]
      clear hh
      by_cases hneg : cmpP p fs[h] < 0
      · have HN : Hid (∀ t (hx : t < fs.length), t < h + 1 → cmpP p fs[t] < 0) := fun t hx ht => HM.out t h hlen (by omega) hneg
        generalize hcm : cmpP p fs[h] = cm at *
        generalize fs[h].1 = P at *
        generalize fs[h].2 = D at *
        have g : decide (cm < 0) = true := by simp; exact hneg
        go_wp2_with fail
        refine (HCM.out _).mono ?_
        rintro _ w2 ⟨rfl, rfl⟩
        go_wp2_with fail
        go_roundw
        case rel => exact ⟨h + 1, j, by omega, by omega, by go_num, rfl, HN.out, HHI.out, HB.out.alloc HB.out.size _⟩
        case measure => (show ((j : Nat) : Int).toNat - ((h : Int) + 1).toNat < ((j : Nat) : Int).toNat - ((i : Nat) : Int).toNat); omega
      · have HN : Hid (∀ t (hx : t < fs.length), h ≤ t → 0 ≤ cmpP p fs[t]) := fun t hx ht => by
          refine Classical.byContradiction fun hn => hneg ?_
          exact HM.out h t hx ht (by omega)
        generalize hcm : cmpP p fs[h] = cm at *
        generalize fs[h].1 = P at *
        generalize fs[h].2 = D at *
        have g : decide (cm < 0) = false := by simp; omega
        go_wp2_with fail
        refine (HCM.out _).mono ?_
        rintro _ w2 ⟨rfl, rfl⟩
        go_wp2_with fail
        go_roundw
        case rel => exact ⟨i, h, by omega, by omega, rfl, rfl, HLO.out, HN.out, HB.out.alloc HB.out.size _⟩
        case measure => (show ((h : Nat) : Int).toNat - ((i : Nat) : Int).toNat < ((j : Nat) : Int).toNat - ((i : Nat) : Int).toNat); omega
    · obtain rfl : i = j := by omega
      have HSP : Hid (Spot fs p i) := ⟨hj, HLO.out, HHI.out⟩
      by_cases hlen : i < fs.length
      · have kl : (i : Int) < (fs.length : Int) := by omega
        have hc1 := (HF.out.below HB.out hb i hlen).1
        have hc2 := (HF.out.below HB.out hb i hlen).2
        have HCM : Hid (∀ W, Calls Tryd.prog 72 #[.agg #[.string fs[i].1, .string fs[i].2], .string p] W fun e w' => e = .returned (.int .i64 (cmpP p fs[i])) ∧ w' = W.alloc (.cells #[.string fs[i].1, .string fs[i].2] 32)) := HP.out fs[i]
        have HTH : Hid (thereB fs p i = (cmpP p fs[i] == 0)) := by unfold Hid thereB; rw [List.getElem?_eq_getElem hlen]
        generalize cmpP p fs[i] = cm at *
        generalize fs[i].1 = P at *
        generalize fs[i].2 = D at *
        go_wp2_with fail
        refine (HCM.out _).mono ?_
        rintro _ w2 ⟨rfl, rfl⟩
        go_wp2_with fail
        go_ret2
        exact ⟨⟨i, HSP.out, by rw [HTH.out]; rfl⟩, HB.out.alloc HB.out.size _⟩
      · obtain rfl : i = fs.length := by omega
        have HTH : Hid (thereB fs p fs.length = false) := by unfold Hid thereB; rw [List.getElem?_eq_none (Nat.le_refl _)]
        go_wp2_with fail
        go_ret2
        exact ⟨⟨fs.length, HSP.out, by rw [HTH.out]; rfl⟩, HB.out⟩
end Go.Proofs.YtolohndbbnbfbaaDoor
