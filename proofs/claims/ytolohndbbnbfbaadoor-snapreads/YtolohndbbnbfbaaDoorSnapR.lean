/-
  Answers that the document fixes.
-/
import Derived.Test.YtolohndbbnbfbaaDoorSnapQ
namespace Go.Proofs.YtolohndbbnbfbaaDoor
open Go.RowKit

def awF : List FileB := [(⟨#[101]⟩, ⟨#[49]⟩), (⟨#[97, 47, 98]⟩, ⟨#[]⟩)]
def awG : List FileB := [(⟨#[97, 47, 98]⟩, ⟨#[]⟩), (⟨#[101]⟩, ⟨#[49]⟩)]
theorem awF_size : sizeF awF = 1 := rfl
theorem awF_clean : ∀ f ∈ awF, cleanB f.1 = true := by
  intro f hf
  simp only [awF, List.mem_cons, List.not_mem_nil, or_false] at hf
  rcases hf with rfl | rfl <;> decide +kernel
theorem awG_rise : RiseS awG := by
  unfold RiseS awG
  simp only [List.pairwise_cons, List.mem_cons, List.not_mem_nil, or_false, forall_eq, List.Pairwise.nil, and_true, false_imp_iff, implies_true]
  decide +kernel
theorem awF_perm : awG.Perm awF := by
  unfold awG awF
  exact List.Perm.swap _ _ _
theorem awF_ok : OkF awF := by
  refine ⟨awF_clean, (Apart.perm awF_perm).1 awG_rise.apart, ?_⟩
  intro f hf g hg
  simp only [awF, List.mem_cons, List.not_mem_nil, or_false] at hf hg
  rcases hf with rfl | rfl <;> rcases hg with rfl | rfl <;> decide +kernel
theorem awF_big : ¬ bigF awF := by
  unfold bigF
  rw [awF_size]
  decide
theorem map_ba {l m : List ByteArray} (h : l.map (fun b => b.data.toList) = m.map (fun b => b.data.toList)) : l = m :=
  (List.map_inj_right (fun _ _ h => ba_eq h)).1 h
theorem awG_list : listL awG ⟨#[]⟩ = [⟨#[97, 47]⟩, ⟨#[101]⟩] ∧ listE awG ⟨#[]⟩ = 0 := by
  constructor
  · unfold listL
    rw [if_pos (show (ByteArray.mk #[]).size = 0 from rfl)]
    exact map_ba (by decide +kernel)
  · unfold listE; rw [if_pos (show (ByteArray.mk #[]).size = 0 from rfl)]
set_option maxHeartbeats 1600000 in
theorem awake7_any (w : World) : Calls Tryd.prog 15 #[] w fun e w' => e = .returned (.bool true) ∧ Below w.heap.size w w' := by
  have HN : Hid (Calls Tryd.prog 13 #[.slice (some ⟨w.heap.size, 0, none⟩) 2 2] (w.alloc (.cells #[.string ⟨#[101]⟩, .string ⟨#[49]⟩, .string ⟨#[97, 47, 98]⟩, .string ⟨#[]⟩] 32)) fun e w' => NewPost (w.alloc (.cells #[.string ⟨#[101]⟩, .string ⟨#[49]⟩, .string ⟨#[97, 47, 98]⟩, .string ⟨#[]⟩] 32)) awF e w' ∧ Below (w.alloc (.cells #[.string ⟨#[101]⟩, .string ⟨#[49]⟩, .string ⟨#[97, 47, 98]⟩, .string ⟨#[]⟩] 32)).heap.size (w.alloc (.cells #[.string ⟨#[101]⟩, .string ⟨#[49]⟩, .string ⟨#[97, 47, 98]⟩, .string ⟨#[]⟩] 32)) w') := by
    refine new_any w.heap.size 0 2 awF _ (by simp) (fun i hi => ?_) (by rw [awF_size]; decide) (by decide)
    have : i < 2 := hi
    match i, this with
    | 0, _ => exact ⟨by simp [awF], by simp [awF]⟩
    | 1, _ => exact ⟨by simp [awF], by simp [awF]⟩
  go_enter Tryd.func15, Tryd.ntmps15
  go_wp2_with fail
  refine HN.out.mono ?_
  rintro _ w1 ⟨hp, hb1⟩
  have HB1 : Hid (Below w.heap.size w w1) := ((Below.refl _ w).alloc (Nat.le_refl _) _).trans (hb1.mono (by simp))
  rcases hp with ⟨hx, _⟩ | ⟨_, hx, _⟩ | ⟨_, _, gs, q, b, c, hperm, hrs, hF, hq, hbb, rfl⟩
  · exact absurd hx awF_big
  · exact absurd awF_ok hx
  obtain rfl : gs = awG := RiseS.one (hperm.trans awF_perm.symm) hrs awG_rise
  have HF := hidM hF
  clear HN hb1 hperm hrs hF hq hbb
  have HP : Hid (∀ f ∈ awG, f.1.size ≤ 200) := fun f hf => clean_size (awF_clean f (awF_perm.mem_iff.1 hf))
  unfold newR
  go_wp2_with fail
  refine (List_any q b 0 c awG ⟨#[]⟩ _ HF.out (by decide) awG_rise.rise HP.out).mono ?_
  rintro _ w2 ⟨⟨v, hv, rfl⟩, hb2⟩
  rw [awG_list.1] at hv
  rw [awG_list.2]
  have HV := hidM hv.strs
  have HF2 := hidM (HF.out.below hb2)
  have HB2 : Hid (Below w.heap.size w w2) := HB1.out.trans (hb2.mono HB1.out.size)
  clear hv hb2
  go_wp2_with fail
  refine (Get_any q b 0 c awG ⟨#[101]⟩ _ HF2.out (by decide) awG_rise.rise).mono ?_
  rintro _ w3 ⟨hg, hb3⟩
  have HV3 := hidM (HV.out.below hb3)
  have HB3 : Hid (Below w.heap.size w w3) := HB2.out.trans (hb3.mono HB2.out.size)
  clear hb3
  rcases hg with ⟨f, hf, he, rfl⟩ | ⟨hno, _⟩
  · obtain rfl : f = (⟨#[101]⟩, ⟨#[49]⟩) := by
      simp only [awG, List.mem_cons, List.not_mem_nil, or_false] at hf
      rcases hf with rfl | rfl
      · have := congrArg (fun b : ByteArray => b.size) he
        simp at this
        exact absurd this (by decide)
      · rfl
    clear hf he
    go_wp2_with fail
    refine (same_any v _ [⟨#[97, 47]⟩, ⟨#[101]⟩] [⟨#[97, 47]⟩, ⟨#[101]⟩] _ (HV3.out.below ((Below.refl _ _).alloc (Nat.le_refl _) _)) ⟨_, _, rfl, fun _ => ⟨w3.heap.size, rfl, by simp, fun j hj => ?_⟩⟩ (by decide)).mono ?_
    · have : j < 2 := hj
      match j, this with
      | 0, _ => simp
      | 1, _ => simp
    rintro _ w4 ⟨rfl, hb4⟩
    have HB4 : Hid (Below w.heap.size w w4) := (HB3.out.alloc HB3.out.size _).trans (hb4.mono (by have := HB3.out.size; simp; omega))
    have hsame : sameB [⟨#[97, 47]⟩, ⟨#[101]⟩] [⟨#[97, 47]⟩, ⟨#[101]⟩] = true := by unfold sameB; simp
    rw [hsame]
    clear hb4
    go_wp2_with fail
    go_ret
    exact ⟨rfl, HB4.out⟩
  · exact absurd rfl (hno (⟨#[101]⟩, ⟨#[49]⟩) (by simp [awG]))
end Go.Proofs.YtolohndbbnbfbaaDoor
