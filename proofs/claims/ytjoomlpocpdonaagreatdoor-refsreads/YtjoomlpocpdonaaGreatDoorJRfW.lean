/-
  Open, and what the document fixes.
  Answers that the document fixes.
-/
import Derived.Test.YtjoomlpocpdonaaGreatDoorJRfS
namespace Go.Proofs.YtjoomlpocpdonaaGreatDoor
open Go.RowKit

def packedL : List UInt8 := [112, 97, 99, 107, 101, 100, 45, 114, 101, 102, 115]
def textL (gs : List FileB) : List UInt8 := (getL gs packedL).getD []
def OpenPost (w0 : World) (b off c : Nat) (gs : List FileB) (e : Ending) (w : World) : Prop :=
  ((parsed (textL gs)).1 ≠ 0 ∧ e = .returned (.tuple #[.pointer none, .int .i64 ((parsed (textL gs)).1 : Nat)])) ∨
  ((parsed (textL gs)).1 = 0 ∧ ∃ r mb, w0.heap.size ≤ r ∧ RefsAt w r b off c mb gs (parsed (textL gs)).2 ∧ e = .returned (.tuple #[.pointer (some ⟨r, 0, none⟩), .int .i64 0]))
set_option maxHeartbeats 1600000 in
theorem open_any (q b off c : Nat) (gs : List FileB) (m : Int) (w : World) (hF : Folder w q b off c gs) (hr : RiseS gs) (hl : gs.length ≤ 2000) (hs : ∀ f ∈ gs, f.2.size ≤ 4194304) (hg : GOk m w) :
    Calls Tryz.prog 9 #[.pointer (some ⟨q, 0, none⟩)] w fun e w' => OpenPost w b off c gs e w' ∧ Below w.heap.size w w' := by
  have HG := hidM hg
  have HF := hidM hF
  have HRS := hidM hr
  have HL := hidM hl
  have HS := hidM hs
  have HGT := hidM (Get_any q b off c gs ⟨#[112, 97, 99, 107, 101, 100, 45, 114, 101, 102, 115]⟩ w hF (by omega) hr.rise)
  clear hg hF hr hl hs
  obtain ⟨ANS, hans⟩ : ∃ ANS, parsed (textL gs) = ANS := ⟨_, rfl⟩
  have HP : Hid (∀ e W, (ANS.1 ≠ 0 ∧ e = .returned (.tuple #[.pointer none, .int .i64 (ANS.1 : Nat)])) ∨ (ANS.1 = 0 ∧ ∃ r mb, w.heap.size ≤ r ∧ RefsAt W r b off c mb gs ANS.2 ∧ e = .returned (.tuple #[.pointer (some ⟨r, 0, none⟩), .int .i64 0])) → OpenPost w b off c gs e W) := fun e W h => by
    unfold OpenPost; rw [hans]; exact h
  have HA := hidM hans
  clear hans
  have HTX : Hid (∀ e, GetPost gs ⟨#[112, 97, 99, 107, 101, 100, 45, 114, 101, 102, 115]⟩ e → ∃ (T : ByteArray) (er : Nat), e = .returned (.tuple #[.string T, .int .i64 (er : Nat)]) ∧ (er = 0 ∨ er = 7) ∧ T.size ≤ 4194304 ∧ parsed T.data.toList = ANS) := fun e h => by
    rcases get_cases HRS.out.apart h with ⟨f, hf, h1, h2⟩ | ⟨h1, h2⟩
    · refine ⟨f.2, 0, h2, .inl rfl, HS.out f hf, ?_⟩
      rw [← HA.out]
      unfold textL
      rw [show getL gs packedL = some f.2.data.toList from h1]; rfl
    · refine ⟨.empty, 7, h2, .inr rfl, by decide, ?_⟩
      rw [← HA.out]
      unfold textL
      rw [show getL gs packedL = none from h1]; rfl
  go_enter Tryz.func9, Tryz.ntmps9
  go_wp2_with fail
  refine HGT.out.mono ?_
  rintro e1 w1 ⟨hp, hb1⟩
  obtain ⟨T, er, rfl, her, htz, hpa⟩ := HTX.out _ hp
  have HPA := hidM (parse_any T m w1 htz (HG.out.below hb1))
  rw [hpa] at HPA
  have HB1 := hidM hb1
  clear hp hb1 hpa htz HTX HGT HA
  have key : Hid (ANS.1 = 0 ∨ ANS.1 ≠ 0) := by unfold Hid; omega
  rcases her with rfl | rfl
  all_goals
    go_wp2_with fail
    refine HPA.out.mono ?_
    rintro e2 w2 ⟨hp2, hb2⟩
    have HB2 := hidM (HB1.out.trans (hb2.mono HB1.out.size))
    clear hb2
    rcases hp2 with ⟨h0, rfl⟩ | ⟨h0, mb, hmb, hpk, hok, rfl⟩
    · have her2 : ((ANS.1 : Int) == 0) = false := by simp; omega
      have HFI : Hid (∀ e, e = .returned (.tuple #[.pointer none, .int .i64 (ANS.1 : Nat)]) → OpenPost w b off c gs e w2) := fun e he => HP.out e w2 (.inl ⟨h0, he⟩)
      clear h0
      go_wp2_with fail
      go_ret2
      exact ⟨HFI.out _ rfl, HB2.out⟩
    · have hF2 := HF.out.below HB2.out
      have c0 := hF2.cell
      have HFI : Hid (∀ e, e = .returned (.tuple #[.pointer (some ⟨w2.heap.size, 0, none⟩), .int .i64 0]) → OpenPost w b off c gs e (w2.alloc (.cells #[.slice (some ⟨b, off, none⟩) gs.length c, .map (some mb)] 62))) := fun e he => by
        have hbb : Below w2.heap.size w2 (w2.alloc (.cells #[.slice (some ⟨b, off, none⟩) gs.length c, .map (some mb)] 62)) := (Below.refl _ _).alloc (Nat.le_refl _) _
        refine HP.out e _ (.inr ⟨h0, w2.heap.size, mb, HB2.out.size, ⟨⟨?_, (hF2.below hbb).files, by simp, (hF2.below hbb).blt, hF2.cap⟩, ?_, hpk.keep hbb hpk.lt, HRS.out, hok, HL.out, HS.out⟩, he⟩)
        · rw [World.cell?_alloc_mark _ _ 62 (0, 0) 0]; rfl
        · rw [World.cell?_alloc_mark _ _ 62 (0, 0) 1]; rfl
      clear h0 hmb hpk hok hF2
      go_wp2_with fail
      go_ret2
      exact ⟨HFI.out _ rfl, HB2.out.alloc HB2.out.size _⟩
end Go.Proofs.YtjoomlpocpdonaaGreatDoor
namespace Go.Proofs.YtjoomlpocpdonaaGreatDoor
open Go.RowKit

def pkL : List UInt8 := [35, 32, 120, 10, 52, 98, 56, 50, 53, 100, 99, 54, 52, 50, 99, 98, 54, 101, 98, 57, 97, 48, 54, 48, 101, 53, 52, 98, 102, 56, 100, 54, 57, 50, 56, 56, 102, 98, 101, 101, 52, 57, 48, 52, 32, 114, 101, 102, 115, 47, 104, 101, 97, 100, 115, 47, 109, 97, 105, 110, 10]
theorem pk_eq : ((⟨#[35, 32, 120, 10]⟩ : ByteArray) ++ ⟨#[52, 98, 56, 50, 53, 100, 99, 54, 52, 50, 99, 98, 54, 101, 98, 57, 97, 48, 54, 48, 101, 53, 52, 98, 102, 56, 100, 54, 57, 50, 56, 56, 102, 98, 101, 101, 52, 57, 48, 52]⟩ ++ ⟨#[32, 114, 101, 102, 115, 47, 104, 101, 97, 100, 115, 47, 109, 97, 105, 110, 10]⟩) = mkB pkL := ba_eq (by rw [mkB_list, ByteArray.data_append, ByteArray.data_append, Array.toList_append, Array.toList_append]; rfl)
def hdB : ByteArray := ⟨#[114, 101, 102, 58, 32, 114, 101, 102, 115, 47, 104, 101, 97, 100, 115, 47, 109, 97, 105, 110, 10]⟩
def awF : List FileB := [(⟨#[72, 69, 65, 68]⟩, hdB), (⟨#[112, 97, 99, 107, 101, 100, 45, 114, 101, 102, 115]⟩, mkB pkL)]
def awR : List RowR := [⟨[114, 101, 102, 115, 47, 104, 101, 97, 100, 115, 47, 109, 97, 105, 110], idH, []⟩]
theorem awF_size : sizeF awF = 82 := by decide +kernel
theorem awF_clean : ∀ f ∈ awF, cleanB f.1 = true := by
  intro f hf
  simp only [awF, List.mem_cons, List.not_mem_nil, or_false] at hf
  rcases hf with rfl | rfl <;> rw [clean_eq] <;> decide +kernel
theorem awF_rise : RiseS awF := by
  unfold RiseS awF
  simp only [List.pairwise_cons, List.mem_cons, List.not_mem_nil, or_false, forall_eq, List.Pairwise.nil, and_true, false_imp_iff, implies_true]
  decide +kernel
theorem awF_ok : OkF awF := by
  refine ⟨awF_clean, awF_rise.apart, ?_⟩
  intro f hf g hg
  simp only [awF, List.mem_cons, List.not_mem_nil, or_false] at hf hg
  rcases hf with rfl | rfl <;> rcases hg with rfl | rfl <;> decide +kernel
theorem awF_big : ¬ bigF awF := by
  unfold bigF
  rw [awF_size]
  decide
theorem aw_parsed : parsed (textL awF) = (0, awR) := by
  have : textL awF = pkL := by decide +kernel
  rw [this]
  have h1 : (parsed pkL).1 = 0 := by decide +kernel
  have h2 : (parsed pkL).2.map (fun r => (r.name, r.id, r.peeled)) = awR.map (fun r => (r.name, r.id, r.peeled)) := by decide +kernel
  have h3 : (parsed pkL).2 = awR := (List.map_inj_right (fun a b h => by cases a; cases b; simp at h; simp [h])).1 h2
  exact Prod.ext h1 h3
theorem aw_look : lookL (getL awF) awR (⟨#[72, 69, 65, 68]⟩ : ByteArray).data.toList = (0, idH) := by decide +kernel
set_option maxHeartbeats 1600000 in
theorem awake_any (m : Int) (w : World) (hg : GOk m w) : Calls Tryz.prog 8 #[] w fun e w' => e = .returned (.bool true) ∧ Below w.heap.size w w' := by
  have HG := hidM hg
  clear hg
  obtain ⟨C, hC⟩ : ∃ C : Array Value, C = #[.string ⟨#[72, 69, 65, 68]⟩, .string ⟨#[114, 101, 102, 58, 32, 114, 101, 102, 115, 47, 104, 101, 97, 100, 115, 47, 109, 97, 105, 110, 10]⟩, .string ⟨#[112, 97, 99, 107, 101, 100, 45, 114, 101, 102, 115]⟩, .string ((⟨#[35, 32, 120, 10]⟩ : ByteArray) ++ ⟨#[52, 98, 56, 50, 53, 100, 99, 54, 52, 50, 99, 98, 54, 101, 98, 57, 97, 48, 54, 48, 101, 53, 52, 98, 102, 56, 100, 54, 57, 50, 56, 56, 102, 98, 101, 101, 52, 57, 48, 52]⟩ ++ ⟨#[32, 114, 101, 102, 115, 47, 104, 101, 97, 100, 115, 47, 109, 97, 105, 110, 10]⟩)] := ⟨_, rfl⟩
  have HN : Hid (Calls Tryz.prog 7 #[.slice (some ⟨w.heap.size, 0, none⟩) 2 2] (w.alloc (.cells C 48)) fun e w' => NewPost (w.alloc (.cells C 48)) awF e w' ∧ Below (w.alloc (.cells C 48)).heap.size (w.alloc (.cells C 48)) w') := by
    rw [hC, pk_eq]
    refine new_any w.heap.size 0 2 awF _ (by simp) (fun i hi => ?_) (by rw [awF_size]; decide) (by decide)
    have : i < 2 := hi
    match i, this with
    | 0, _ => exact ⟨by rw [World.cell?_alloc_mark _ _ 48 (0, 0) _]; rfl, by rw [World.cell?_alloc_mark _ _ 48 (0, 0) _]; rfl⟩
    | 1, _ => exact ⟨by rw [World.cell?_alloc_mark _ _ 48 (0, 0) _]; rfl, by rw [World.cell?_alloc_mark _ _ 48 (0, 0) _]; rfl⟩
  have HB0 : Hid (Below w.heap.size w (w.alloc (.cells C 48))) := (Below.refl _ _).alloc (Nat.le_refl _) _
  rw [hC] at HN HB0
  go_enter Tryz.func8, Tryz.ntmps8
  go_wp2_with fail
  refine HN.out.mono ?_
  rintro _ w1 ⟨hp, hb1⟩
  have HB1 := hidM (HB0.out.trans (hb1.mono HB0.out.size))
  rcases hp with ⟨hx, _⟩ | ⟨_, hx, _⟩ | ⟨_,_, gs, q, b, c, hperm, hrs, hF, hq, hbb, rfl⟩
  · exact absurd hx awF_big
  · exact absurd awF_ok hx
  obtain rfl : gs = awF := RiseS.one hperm hrs awF_rise
  have HO := hidM (open_any q b 0 c awF m w1 hF awF_rise (by decide) (fun f hf => by
    simp only [awF, List.mem_cons, List.not_mem_nil, or_false] at hf
    rcases hf with rfl | rfl
    · decide
    · rw [mkB_size]; decide) (HG.out.below HB1.out))
  clear HN hb1 hperm hrs hF hq hbb HB0
  unfold newR
  go_wp2_with fail
  refine HO.out.mono ?_
  rintro _ w2 ⟨hp2, hb2⟩
  unfold OpenPost at hp2
  rw [aw_parsed] at hp2
  have HB2 := hidM (HB1.out.trans (hb2.mono HB1.out.size))
  rcases hp2 with ⟨hx, _⟩ | ⟨_, r, mb, hr, hR, rfl⟩
  · exact absurd rfl hx
  have HL := hidM (lookup_any r b 0 c mb awF awR ⟨#[72, 69, 65, 68]⟩ m w2 hR (HG.out.below HB2.out))
  rw [aw_look, pair_out, show mkB (0, idH).2 = ⟨#[52, 98, 56, 50, 53, 100, 99, 54, 52, 50, 99, 98, 54, 101, 98, 57, 97, 48, 54, 48, 101, 53, 52, 98, 102, 56, 100, 54, 57, 50, 56, 56, 102, 98, 101, 101, 52, 57, 48, 52]⟩ from rfl] at HL
  clear hb2 hr hR HO HB1
  go_wp2_with fail
  refine HL.out.mono ?_
  rintro _ w3 ⟨rfl, hb3⟩
  have HB3 := hidM (HB2.out.trans (hb3.mono HB2.out.size))
  clear hb3 HL
  go_wp2_with fail
  go_ret
  exact ⟨rfl, HB3.out⟩
end Go.Proofs.YtjoomlpocpdonaaGreatDoor
