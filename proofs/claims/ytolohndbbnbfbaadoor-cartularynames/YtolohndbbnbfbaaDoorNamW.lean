/-
  CartularyNames: objects kept as texts under their names in a folder are read back by their names.
-/
import Derived.Test.YtolohndbbnbfbaaDoorNamA
import Derived.Deep.RegionHeld3
import Derived.Deep.DeepCutAuto
namespace Go.Proofs.YtolohndbbnbfbaaDoor
open Go.RowKit

/-- the objects that a slice holds -/
def ObjsAt (w : World) (a : Option Addr) (len : Nat) (f : Nat → Int × ByteArray) : Prop := ∀ i, i < len → ∃ b off, a = some ⟨b, off, none⟩ ∧ b < w.heap.size ∧ w.cell? ⟨b, off + i * 2, none⟩ = some (.int .i64 (f i).1) ∧ w.cell? ⟨b, off + i * 2 + 1, none⟩ = some (.string (f i).2)
theorem cell_new2_at (w : World) (u v : Value) (t : Nat) : ∀ j x, [u, v][j]? = some x → (w.alloc (.cells #[u, v] t)).cell? ((⟨w.heap.size, 0, none⟩ : Addr).add j) = some x := by
  intro j x hj
  rcases j with _ | _ | j
  · simp at hj; subst hj; rw [Addr.add_lit]; simp
  · simp at hj; subst hj; rw [Addr.add_lit]; simp
  · simp at hj
set_option maxRecDepth 100000 in
set_option maxHeartbeats 6400000 in
theorem names_walk (a : Option Addr) (len c : Nat) (f : Nat → Int × ByteArray) (w : World) (hL : LaidAt w) (hf : ObjsAt w a len f) :
    Calls Tryd.prog 11 #[.slice a len c] w fun e w' => e = .returned (.bool true) ∧ Below w.heap.size w w' := by
  have HL := hidM hL
  have HF := hidM hf
  obtain ⟨i0, hi, hz0, hz1, hz2⟩ := info_parts info32
  have HID := hidM (fun W (hl : LaidAt W) => id_any 3 ⟨#[]⟩ W hl)
  rw [show checkE 3 (ByteArray.mk #[]).size = 0 from blob_zero, show idT 3 (ByteArray.mk #[]).data.toList = emptyId from empty_id] at HID
  unfold emptyId at HID
  clear hL hf
  go_enter Tryd.func11, Tryd.ntmps11
  go_wp2_with fail
  refine (HID.out _ HL.out).mono ?_
  rintro _ w1 ⟨rfl, hb1⟩
  have HB1 := hidM hb1
  have hs1 := hb1.size
  clear hb1 HID
  go_wp2_with fail
  have HO0 : Hid (OwnF (w1.alloc (.cells #[] 32)) w.heap.size (.slice (some ⟨w1.heap.size, 0, none⟩) 0 0) []) := ⟨by rw [flat_list]; exact World.ownsRow_made w1 #[] 0 hs1 (Nat.zero_le _) (by simp), by simp⟩
  go_loopw [5, 6] (fun v i wr => ∃ (n : Nat) (F : List FileB), n ≤ 20 ∧ i = .int .i64 n ∧ F.length ≤ n ∧ OwnF wr w.heap.size v F ∧ GoodF F ∧ Below w.heap.size w wr) (fun _ i _ => 20 - (intOf i).toNat)
  case atStart => exact ⟨0, [], by omega, rfl, by simp, HO0.out, (fun f hf => absurd hf (List.not_mem_nil)), HB1.out.alloc hs1 _⟩
  case round =>
    obtain ⟨n, F, hn, rfl, hFl, hown, hgood, hbr⟩ := hrel
    have HO := hidM hown
    have HG := hidM hgood
    have HB := hidM hbr
    have hszr := hbr.size
    clear hown hgood hbr HO0
    by_cases hlt : n < len ∧ n < 20
    · obtain ⟨hlt1, hlt2⟩ := hlt
      have k1 : (n : Int) < (len : Int) := by omega
      have k2 : (n : Int) < 20 := by omega
      have k0 : (0 : Int) ≤ (n : Int) := by omega
      obtain ⟨b, off, rfl, hbl, c0, c1⟩ := HF.out n hlt1
      have d0 : wr.cell? ⟨b, off + n * 2, none⟩ = some (.int .i64 (f n).1) := (HB.out.cell (p := ⟨b, off + n * 2, none⟩) hbl).trans c0
      have d1 : wr.cell? ⟨b, off + n * 2 + 1, none⟩ = some (.string (f n).2) := (HB.out.cell (p := ⟨b, off + n * 2 + 1, none⟩) hbl).trans c1
      have hne : b ≠ wr.heap.size := by omega
      have hne' : wr.heap.size ≠ b := by omega
      have HFW : Hid (∀ W, Calls Tryd.prog 44 #[.string (f n).2, .int .i64 300] W fun e w' => e = .returned (.string (fewB (f n).2 300)) ∧ w' = W) := fun W => few1_any (f n).2 300 W
      have hds := fewB_size (f n).2 300
      generalize (f n).1 = K at *
      generalize fewB (f n).2 300 = D at *
      generalize (f n).2 = DD at *
      clear c0 c1
      go_upto_region 8 with fail
      go_cut [7] (fun s7 wx => s7 = .pointer (some ⟨wr.heap.size, 0, none⟩) ∧ wx = (wr.alloc (.cells #[.int .i64 K, .string D] 52)).drew)
      case first =>
        go_region_held3 (fun w' => w'.cell? ⟨b, off + n * 2, none⟩ = some (.int .i64 K) ∧ w'.cell? ⟨b, off + n * 2 + 1, none⟩ = some (.string DD)) (go_keep)
          (first
            | (go_at_call 44; with_reducible refine (HFW.out _).mono ?_; rintro e w' ⟨rfl, rfl⟩))
        all_goals (go_wp2_with fail; go_meet; exact ⟨rfl, rfl⟩)
      case rest =>
        obtain ⟨rfl, rfl⟩ := hcut
        have HB0 : Hid (Below wr.heap.size wr (wr.alloc (.cells #[.int .i64 K, .string D] 52)).drew) := below_drewN ((Below.refl _ _).alloc (Nat.le_refl _) _) 1
        have HG0 : Hid ((wr.alloc (.cells #[.int .i64 K, .string D] 52)).drew.heap[wr.heap.size]? = some (.cells #[.int .i64 K, .string D] 52 (0, 0))) := heap_alloc_new wr _
        have HZ0 : Hid (wr.heap.size < (wr.alloc (.cells #[.int .i64 K, .string D] 52)).drew.heap.size) := by unfold Hid; show wr.heap.size < (wr.alloc _).heap.size; simp
        generalize (wr.alloc (.cells #[.int .i64 K, .string D] 52)).drew = w2 at *
        have HBw2 : Hid (Below w.heap.size w w2) := HB.out.trans (HB0.out.mono hszr)
        have HO2 : Hid (OwnF w2 w.heap.size u5 F) := HO.out.kept HB0.out
        generalize wr.heap.size = P at *
        obtain ⟨g, cF, rfl, hg1, hg2, hgc, hfa⟩ := HO2.out.shape
        have HFA := hidM hfa
        clear hfa HB0 HO HFW d0 d1 hne hne'
        have x0 : w2.cell? ⟨P, 0, none⟩ = some (.int .i64 K) := by rw [cell_of_row w2 _ 0 _ 52 (0, 0) HG0.out]; rfl
        have x1 : w2.cell? ⟨P, 1, none⟩ = some (.string D) := by rw [cell_of_row w2 _ 1 _ 52 (0, 0) HG0.out]; rfl
        have HIDK := hidM (fun W (hl : LaidAt W) => id_any K D W hl)
        have HENC := hidM (fun W (hl : LaidAt W) => encode_any K D W hl)
        have hll : D.data.toList.length = D.size := by simp
        by_cases hce : checkE K D.size = 0
        · have HKE : Hid (∀ X : FileB, X.1 = ({ data := #[120, 47] } : ByteArray) ++ ⟨(idT K D.data.toList).toArray⟩ → X.2 = ⟨(encT K D.data.toList).toArray⟩ → ∃ k d, checkE k d.length = 0 ∧ X = keptAs k d) := fun X e1 e2 => ⟨K, D.data.toList, by rw [hll]; exact hce, by
            refine Prod.ext ?_ e2
            rw [e1]; unfold keptAs; apply ByteArray.ext; simp [ByteArray.data_append]⟩
          have hidl : (⟨(idT K D.data.toList).toArray⟩ : ByteArray).size ≤ 40 := by
            show (idT K D.data.toList).toArray.size ≤ 40
            rw [List.size_toArray, id_len (by rw [hll]; exact hce)]; exact Nat.le_refl _
          rw [hce] at HIDK HENC
          generalize (⟨(idT K D.data.toList).toArray⟩ : ByteArray) = ID at *
          generalize (⟨(encT K D.data.toList).toArray⟩ : ByteArray) = TX at *
          clear hce hll
          go_wp2_with fail
          refine (HIDK.out _ (HL.out.below HBw2.out)).mono ?_
          rintro _ w3 ⟨rfl, hb3⟩
          have HBw3 : Hid (Below w.heap.size w w3) := HBw2.out.trans (hb3.mono HBw2.out.size)
          have HO3 : Hid (OwnF w3 w.heap.size (.slice (some ⟨g, 0, none⟩) F.length cF) F) := HO2.out.kept hb3
          have HG3 : Hid (w3.heap[P]? = some (.cells #[.int .i64 K, .string D] 52 (0, 0))) := (hb3.block _ HZ0.out).trans HG0.out
          clear hb3 x0 x1 HO2 HFA hg2
          have x0 : w3.cell? ⟨P, 0, none⟩ = some (.int .i64 K) := by rw [cell_of_row w3 _ 0 _ 52 (0, 0) HG3.out]; rfl
          have x1 : w3.cell? ⟨P, 1, none⟩ = some (.string D) := by rw [cell_of_row w3 _ 1 _ 52 (0, 0) HG3.out]; rfl
          go_wp2_with fail
          refine (HENC.out _ (HL.out.below HBw3.out)).mono ?_
          rintro _ w4 ⟨rfl, hb4⟩
          have HBw4 : Hid (Below w.heap.size w w4) := HBw3.out.trans (hb4.mono HBw3.out.size)
          have HO4 : Hid (OwnF w4 w.heap.size (.slice (some ⟨g, 0, none⟩) F.length cF) F) := HO3.out.kept hb4
          clear hb4 x0 x1 HO3 HG3 HG0 HZ0
          have HFG : Hid (FilesAt w4 g 0 F ∧ g < w4.heap.size) := by
            obtain ⟨g', c', he, _, h2, _, h3⟩ := HO4.out.shape
            cases he
            exact ⟨h3, h2⟩
          go_wp2_with fail
          go_loopw [12, 75] (fun t j wx => ∃ (bb : Bool) (m : Nat), t = .bool bb ∧ j = .int .i64 m ∧ m ≤ F.length ∧ Below w4.heap.size w4 wx) (fun _ j _ => F.length - (intOf j).toNat)
          case atStart => exact ⟨false, 0, rfl, rfl, Nat.zero_le _, Below.refl _ _⟩
          case round =>
            obtain ⟨bb, m, rfl, rfl, hm, hbx⟩ := hrel
            have HBX := hidM hbx
            have hsx := hbx.size
            clear hbx
            by_cases hml : m < F.length
            · have mk : (m : Int) < (F.length : Int) := by omega
              have y0 := (HFG.out.1.below HBX.out HFG.out.2 m hml).1
              have y1 := (HFG.out.1.below HBX.out HFG.out.2 m hml).2
              have hfl : F.length ≤ 20 := by omega
              generalize F[m].1 = X at *
              generalize F[m].2 = Y at *
              simp only [Nat.zero_add] at y0 y1
              cases bb
              · cases hxe : (X.toList == (({ data := #[120, 47] } : ByteArray) ++ ID).toList)
                · go_wp2_with fail
                  go_roundw
                  case rel => exact ⟨_, m + 1, rfl, by go_num, by omega, HBX.out.alloc hsx _⟩
                  case measure => (show F.length - ((m : Int) + 1).toNat < F.length - ((m : Int)).toNat); omega
                · go_wp2_with fail
                  go_roundw
                  case rel => exact ⟨_, m + 1, rfl, by go_num, by omega, HBX.out.alloc hsx _⟩
                  case measure => (show F.length - ((m : Int) + 1).toNat < F.length - ((m : Int)).toNat); omega
              · go_wp2_with fail
                go_roundw
                case rel => exact ⟨_, m + 1, rfl, by go_num, by omega, HBX.out.alloc hsx _⟩
                case measure => (show F.length - ((m : Int) + 1).toNat < F.length - ((m : Int)).toNat); omega
            · obtain rfl : m = F.length := by omega
              have HOX : Hid (OwnF wr w.heap.size (.slice (some ⟨g, 0, none⟩) F.length cF) F) := HO4.out.kept HBX.out
              have HBWX : Hid (Below w.heap.size w wr) := HBw4.out.trans (HBX.out.mono HBw4.out.size)
              have hswx := HBWX.out.size
              have hfl : F.length ≤ 20 := by omega
              clear HO4 HFG HIDK HENC HBX hsx
              cases bb
              · have hcat : ({ data := #[120, 47] } ++ ID : ByteArray).size ≤ 42 := by rw [ByteArray.size_append]; show 2 + ID.size ≤ 42; omega
                go_wp2_with (first
                  | (at_builtin; refine wpList_append_own _ rfl _ _ 22 rfl w.heap.size 32 i0 (.agg #[.string .empty, .string .empty]) 2 32 Tryd.underlying22 hi hz0 hz1 hz2 rfl (by decide) _ _ _ rfl (World.ownsRow.alloc HOX.out.1 _) ⟨wr.heap.size, 0, none⟩ 1 1 [.string ({ data := #[120, 47] } ++ ID), .string TX] ?d0 rfl ?d1 ?d2 ?d3 ?d4 ?d5 ?_))
                case d0 => rfl
                case d1 => exact cell_new2_at _ _ _ _
                case d2 => intro u hu; simp at hu; rcases hu with rfl | rfl <;> rfl
                case d3 => unfold maxLen; omega
                case d4 => omega
                case d5 => simp; omega
                intro v' w5 hown' hgrow hnil
                have HO5 : Hid (OwnF w5 w.heap.size v' (F ++ [({ data := #[120, 47] } ++ ID, TX)])) := OwnF.push hown' hnil
                have HB5 : Hid (Below w.heap.size w w5) := (HBWX.out.alloc hswx _).grown hgrow (by simp; omega) (fun k hk => by simp [Value.ownBlock] at hk; omega)
                have HG5 : Hid (GoodF (F ++ [({ data := #[120, 47] } ++ ID, TX)])) := fun x hx => by
                  rcases List.mem_append.1 hx with hx | hx
                  · exact HG.out x hx
                  · obtain rfl := List.mem_singleton.1 hx
                    exact HKE.out _ rfl rfl
                clear hown' hgrow hnil
                go_wp2_with fail
                go_roundw
                case rel => exact ⟨n + 1, _, by omega, by go_num, by simp; omega, HO5.out, HG5.out, HB5.out⟩
                case measure => (show 20 - ((n : Int) + 1).toNat < 20 - ((n : Int)).toNat); omega
              · go_wp2_with fail
                go_roundw
                case rel => exact ⟨n + 1, F, by omega, by go_num, by omega, HOX.out, HG.out, HBWX.out⟩
                case measure => (show 20 - ((n : Int) + 1).toNat < 20 - ((n : Int)).toNat); omega
        · have hce10 : checkE K D.size = 10 := by
            unfold checkE at hce ⊢
            by_cases hnm : nameL K = []
            · rw [if_pos hnm]
            · rw [if_neg hnm, if_neg (by omega)] at hce; exact absurd rfl hce
          rw [hce10] at HIDK
          generalize (⟨(idT K D.data.toList).toArray⟩ : ByteArray) = ID at *
          clear hce hce10 hll HENC
          go_wp2_with fail
          refine (HIDK.out _ (HL.out.below HBw2.out)).mono ?_
          rintro _ w3 ⟨rfl, hb3⟩
          have HBw3 : Hid (Below w.heap.size w w3) := HBw2.out.trans (hb3.mono HBw2.out.size)
          have HO3 : Hid (OwnF w3 w.heap.size (.slice (some ⟨g, 0, none⟩) F.length cF) F) := HO2.out.kept hb3
          clear hb3 x0 x1 HO2 HFA
          go_wp2_with fail
          go_roundw
          case rel => exact ⟨n + 1, F, by omega, by go_num, by omega, HO3.out, HG.out, HBw3.out⟩
          case measure => (show 20 - ((n : Int) + 1).toNat < 20 - ((n : Int)).toNat); omega
    · obtain ⟨g, cF, rfl, hg1, hg2, hgc, hfa⟩ := HO.out.shape
      have HFA := hidM hfa
      have hfl : F.length ≤ 20 := by omega
      clear hfa HO
      by_cases hc : n < len
      · have e1 : (n : Int) < (len : Int) := by omega
        have e2 : decide ((n : Int) < 20) = false := by simp; omega
        clear hlt hc
        go_wp2_with fail
        refine (new_any g 0 cF F _ hg2 HFA.out (by have := good_size HG.out hfl; omega) (by omega)).mono ?_
        rintro _ w5 ⟨hp, hb5⟩
        have HB5 : Hid (Below w.heap.size w w5) := HB.out.trans (hb5.mono HB.out.size)
        clear hb5
        rcases hp with ⟨hx, _⟩ | ⟨_, hx, rfl⟩ | ⟨_, _, gs, q, b2, c2, hperm, hrs, hFo, _, _, rfl⟩
        · exact absurd hx (good_big HG.out hfl)
        · have h1 := good_one HG.out hx
          have e3 : decide ((1 : Int) < (F.length : Int)) = true := by simp; omega
          clear hx h1
          unfold newR
          go_wp2_with fail
          go_ret
          exact ⟨rfl, HB5.out⟩
        · have hgl : gs.length = F.length := hperm.length_eq
          have hgs : gs.length ≤ 20 := by omega
          have HGL := hidM hgl
          have HGG := hidM (HG.out.perm hperm)
          have HRS := hidM hrs
          have HFO := hidM hFo
          have HUN := hidM (fun W hW => Under_any q b2 0 c2 gs ⟨#[120, 47]⟩ W hW (by omega) hrs.rise)
          rw [good_und HGG.out] at HUN
          have HPL : Hid ((pathsL gs).length = F.length) := by unfold Hid pathsL; simp [hgl]
          clear hgl hperm hrs hFo HFA
          unfold newR
          go_wp2_with fail
          refine (len_any q b2 0 c2 gs _ HFO.out).mono ?_
          rintro _ w6 ⟨rfl, rfl⟩
          rw [HGL.out]
          go_wp2_with fail
          refine (HUN.out _ HFO.out).mono ?_
          rintro _ w7 ⟨⟨v1, hv1, rfl⟩, hb7⟩
          obtain ⟨a1, cc1, hvv, _⟩ := hv1.strs
          rw [HPL.out] at hvv
          subst hvv
          have HF7 := hidM (HFO.out.below hb7)
          have HB7 : Hid (Below w.heap.size w w7) := HB5.out.trans (hb7.mono HB5.out.size)
          clear hb7 hv1
          go_wp2_with fail
          refine (HUN.out _ HF7.out).mono ?_
          rintro _ w8 ⟨⟨v2, hv2, rfl⟩, hb8⟩
          obtain ⟨a2, cc2, hvv, hs2⟩ := hv2.strs
          rw [HPL.out] at hvv
          subst hvv
          have HS2 : Hid (∀ m (h : m < gs.length), ∃ g2, a2 = some ⟨g2, 0, none⟩ ∧ g2 < w8.heap.size ∧ w8.cell? ⟨g2, m, none⟩ = some (.string gs[m].1)) := fun m h => by
            obtain ⟨g2, h1, h2, h3⟩ := hs2 (fun hh => by have := HPL.out; have h8 := HGL.out; rw [hh] at this; simp at this; omega)
            have := h3 m (by rw [HPL.out, ← HGL.out]; exact h)
            exact ⟨g2, h1, h2, by rw [this]; simp [pathsL]⟩
          have HF8 := hidM (HF7.out.below hb8)
          have HB8 : Hid (Below w.heap.size w w8) := HB7.out.trans (hb8.mono HB7.out.size)
          clear hb8 hv2 hs2 HUN
          go_wp2_with fail
          go_loopw [137] (fun i wx => ∃ (m : Nat), m ≤ F.length ∧ i = .int .i64 m ∧ Below w8.heap.size w8 wx) (fun i _ => F.length - (intOf i).toNat)
          case atStart => exact ⟨0, Nat.zero_le _, rfl, Below.refl _ _⟩
          case round =>
            obtain ⟨m, hm, rfl, hbx⟩ := hrel
            have HBX := hidM hbx
            have HFX := hidM (HF8.out.below hbx)
            have HBWX : Hid (Below w.heap.size w wr) := HB8.out.trans (hbx.mono HB8.out.size)
            clear hbx
            by_cases hmf : m < F.length
            · have mk : (m : Int) < (F.length : Int) := by omega
              have hml : m < gs.length := by have := HGL.out; omega
              obtain ⟨g2, rfl, hg2', y0⟩ := HS2.out m hml
              have y1 : wr.cell? ⟨g2, m, none⟩ = some (.string gs[m].1) := (HBX.out.cell (p := ⟨g2, m, none⟩) hg2').trans y0
              have HGET := hidM (Get_any q b2 0 c2 gs gs[m].1 wr HFX.out (by omega) HRS.out.rise)
              have HMEM : Hid (gs[m] ∈ gs) := List.getElem_mem hml
              clear y0
              go_wp2_with fail
              refine HGET.out.mono ?_
              rintro _ w9 ⟨hg, hb9⟩
              have HB9 : Hid (Below w.heap.size w w9) := HBWX.out.trans (hb9.mono HBWX.out.size)
              have HX9 : Hid (Below w8.heap.size w8 w9) := HBX.out.trans (hb9.mono HBX.out.size)
              clear hb9
              rcases hg with ⟨x, hx, hxe, rfl⟩ | ⟨hno, _⟩
              · obtain ⟨kk, dd, hck, rfl⟩ := HGG.out x hx
                have hdec := kept_dec hck
                have HDE : Hid (∀ W, NamesAt W → Calls Tryd.prog 35 #[.string (keptAs kk dd).2] W fun e w' => e = .returned (.tuple #[.agg #[.int .i64 kk, .string ⟨dd.toArray⟩], .int .i64 0]) ∧ Below W.heap.size W w') := fun W hW => by
                  have h := decode_any (keptAs kk dd).2 W (by have := kept_size kk dd; omega) hW
                  have e9 : (keptAs kk dd).2.data.toList = encT kk dd := by simp [keptAs]
                  rw [e9, hdec.1] at h
                  simp only [hdec.2] at h
                  exact h
                have HIK : Hid (∀ W, LaidAt W → Calls Tryd.prog 29 #[.agg #[.int .i64 kk, .string ⟨dd.toArray⟩]] W fun e w' => e = .returned (.tuple #[.string ⟨(idT kk dd).toArray⟩, .int .i64 0]) ∧ Below W.heap.size W w') := fun W hW => by
                  have h := id_any kk ⟨dd.toArray⟩ W hW
                  have e9 : (ByteArray.mk dd.toArray).data.toList = dd := by simp
                  have e8 : (ByteArray.mk dd.toArray).size = dd.length := by show dd.toArray.size = _; simp
                  rw [e9, e8, hck] at h
                  exact h
                have hidl : (⟨(idT kk dd).toArray⟩ : ByteArray).size ≤ 40 := by
                  show (idT kk dd).toArray.size ≤ 40
                  rw [List.size_toArray, id_len hck]; exact Nat.le_refl _
                have eQ : ((({ data := #[120, 47] } : ByteArray) ++ ⟨(idT kk dd).toArray⟩).toList == gs[m].1.toList) = true := by
                  rw [← hxe]
                  have : ({ data := #[120, 47] } : ByteArray) ++ ⟨(idT kk dd).toArray⟩ = (keptAs kk dd).1 := by unfold keptAs; apply ByteArray.ext; simp [ByteArray.data_append]
                  rw [this]; simp
                generalize (⟨(idT kk dd).toArray⟩ : ByteArray) = ID at *
                generalize (keptAs kk dd).2 = TX at *
                generalize (⟨dd.toArray⟩ : ByteArray) = DT at *
                generalize gs[m].1 = PP at *
                clear hx hxe hck hdec
                go_wp2_with fail
                refine (HDE.out _ (HL.out.below HB9.out).names).mono ?_
                rintro _ w10 ⟨rfl, hb10⟩
                have HB10 : Hid (Below w.heap.size w w10) := HB9.out.trans (hb10.mono HB9.out.size)
                have HX10 : Hid (Below w8.heap.size w8 w10) := HX9.out.trans (hb10.mono HX9.out.size)
                clear hb10
                go_wp2_with fail
                refine (HIK.out _ (HL.out.below (HB10.out.alloc HB10.out.size _))).mono ?_
                rintro _ w11 ⟨rfl, hb11⟩
                have HX11 : Hid (Below w8.heap.size w8 w11) := (HX10.out.alloc HX10.out.size _).trans (hb11.mono (by have := HX10.out.size; simp; omega))
                clear hb11
                go_wp2_with fail
                go_roundw
                case rel => exact ⟨m + 1, by omega, by go_num, HX11.out⟩
                case measure => (show F.length - ((m : Int) + 1).toNat < F.length - ((m : Int)).toNat); omega
              · exact absurd rfl (hno _ HMEM.out)
            · obtain rfl : m = F.length := by omega
              go_wp2_with fail
              go_ret
              exact ⟨rfl, HBWX.out⟩
      · have e1 : decide ((n : Int) < (len : Int)) = false := by simp; omega
        have e2 : ¬ (n : Int) < (len : Int) := by omega
        clear hlt hc
        go_wp2_with fail
        refine (new_any g 0 cF F _ hg2 HFA.out (by have := good_size HG.out hfl; omega) (by omega)).mono ?_
        rintro _ w5 ⟨hp, hb5⟩
        have HB5 : Hid (Below w.heap.size w w5) := HB.out.trans (hb5.mono HB.out.size)
        clear hb5
        rcases hp with ⟨hx, _⟩ | ⟨_, hx, rfl⟩ | ⟨_, _, gs, q, b2, c2, hperm, hrs, hFo, _, _, rfl⟩
        · exact absurd hx (good_big HG.out hfl)
        · have h1 := good_one HG.out hx
          have e3 : decide ((1 : Int) < (F.length : Int)) = true := by simp; omega
          clear hx h1
          unfold newR
          go_wp2_with fail
          go_ret
          exact ⟨rfl, HB5.out⟩
        · have hgl : gs.length = F.length := hperm.length_eq
          have hgs : gs.length ≤ 20 := by omega
          have HGL := hidM hgl
          have HGG := hidM (HG.out.perm hperm)
          have HRS := hidM hrs
          have HFO := hidM hFo
          have HUN := hidM (fun W hW => Under_any q b2 0 c2 gs ⟨#[120, 47]⟩ W hW (by omega) hrs.rise)
          rw [good_und HGG.out] at HUN
          have HPL : Hid ((pathsL gs).length = F.length) := by unfold Hid pathsL; simp [hgl]
          clear hgl hperm hrs hFo HFA
          unfold newR
          go_wp2_with fail
          refine (len_any q b2 0 c2 gs _ HFO.out).mono ?_
          rintro _ w6 ⟨rfl, rfl⟩
          rw [HGL.out]
          go_wp2_with fail
          refine (HUN.out _ HFO.out).mono ?_
          rintro _ w7 ⟨⟨v1, hv1, rfl⟩, hb7⟩
          obtain ⟨a1, cc1, hvv, _⟩ := hv1.strs
          rw [HPL.out] at hvv
          subst hvv
          have HF7 := hidM (HFO.out.below hb7)
          have HB7 : Hid (Below w.heap.size w w7) := HB5.out.trans (hb7.mono HB5.out.size)
          clear hb7 hv1
          go_wp2_with fail
          refine (HUN.out _ HF7.out).mono ?_
          rintro _ w8 ⟨⟨v2, hv2, rfl⟩, hb8⟩
          obtain ⟨a2, cc2, hvv, hs2⟩ := hv2.strs
          rw [HPL.out] at hvv
          subst hvv
          have HS2 : Hid (∀ m (h : m < gs.length), ∃ g2, a2 = some ⟨g2, 0, none⟩ ∧ g2 < w8.heap.size ∧ w8.cell? ⟨g2, m, none⟩ = some (.string gs[m].1)) := fun m h => by
            obtain ⟨g2, h1, h2, h3⟩ := hs2 (fun hh => by have := HPL.out; have h8 := HGL.out; rw [hh] at this; simp at this; omega)
            have := h3 m (by rw [HPL.out, ← HGL.out]; exact h)
            exact ⟨g2, h1, h2, by rw [this]; simp [pathsL]⟩
          have HF8 := hidM (HF7.out.below hb8)
          have HB8 : Hid (Below w.heap.size w w8) := HB7.out.trans (hb8.mono HB7.out.size)
          clear hb8 hv2 hs2 HUN
          go_wp2_with fail
          go_loopw [137] (fun i wx => ∃ (m : Nat), m ≤ F.length ∧ i = .int .i64 m ∧ Below w8.heap.size w8 wx) (fun i _ => F.length - (intOf i).toNat)
          case atStart => exact ⟨0, Nat.zero_le _, rfl, Below.refl _ _⟩
          case round =>
            obtain ⟨m, hm, rfl, hbx⟩ := hrel
            have HBX := hidM hbx
            have HFX := hidM (HF8.out.below hbx)
            have HBWX : Hid (Below w.heap.size w wr) := HB8.out.trans (hbx.mono HB8.out.size)
            clear hbx
            by_cases hmf : m < F.length
            · have mk : (m : Int) < (F.length : Int) := by omega
              have hml : m < gs.length := by have := HGL.out; omega
              obtain ⟨g2, rfl, hg2', y0⟩ := HS2.out m hml
              have y1 : wr.cell? ⟨g2, m, none⟩ = some (.string gs[m].1) := (HBX.out.cell (p := ⟨g2, m, none⟩) hg2').trans y0
              have HGET := hidM (Get_any q b2 0 c2 gs gs[m].1 wr HFX.out (by omega) HRS.out.rise)
              have HMEM : Hid (gs[m] ∈ gs) := List.getElem_mem hml
              clear y0
              go_wp2_with fail
              refine HGET.out.mono ?_
              rintro _ w9 ⟨hg, hb9⟩
              have HB9 : Hid (Below w.heap.size w w9) := HBWX.out.trans (hb9.mono HBWX.out.size)
              have HX9 : Hid (Below w8.heap.size w8 w9) := HBX.out.trans (hb9.mono HBX.out.size)
              clear hb9
              rcases hg with ⟨x, hx, hxe, rfl⟩ | ⟨hno, _⟩
              · obtain ⟨kk, dd, hck, rfl⟩ := HGG.out x hx
                have hdec := kept_dec hck
                have HDE : Hid (∀ W, NamesAt W → Calls Tryd.prog 35 #[.string (keptAs kk dd).2] W fun e w' => e = .returned (.tuple #[.agg #[.int .i64 kk, .string ⟨dd.toArray⟩], .int .i64 0]) ∧ Below W.heap.size W w') := fun W hW => by
                  have h := decode_any (keptAs kk dd).2 W (by have := kept_size kk dd; omega) hW
                  have e9 : (keptAs kk dd).2.data.toList = encT kk dd := by simp [keptAs]
                  rw [e9, hdec.1] at h
                  simp only [hdec.2] at h
                  exact h
                have HIK : Hid (∀ W, LaidAt W → Calls Tryd.prog 29 #[.agg #[.int .i64 kk, .string ⟨dd.toArray⟩]] W fun e w' => e = .returned (.tuple #[.string ⟨(idT kk dd).toArray⟩, .int .i64 0]) ∧ Below W.heap.size W w') := fun W hW => by
                  have h := id_any kk ⟨dd.toArray⟩ W hW
                  have e9 : (ByteArray.mk dd.toArray).data.toList = dd := by simp
                  have e8 : (ByteArray.mk dd.toArray).size = dd.length := by show dd.toArray.size = _; simp
                  rw [e9, e8, hck] at h
                  exact h
                have hidl : (⟨(idT kk dd).toArray⟩ : ByteArray).size ≤ 40 := by
                  show (idT kk dd).toArray.size ≤ 40
                  rw [List.size_toArray, id_len hck]; exact Nat.le_refl _
                have eQ : ((({ data := #[120, 47] } : ByteArray) ++ ⟨(idT kk dd).toArray⟩).toList == gs[m].1.toList) = true := by
                  rw [← hxe]
                  have : ({ data := #[120, 47] } : ByteArray) ++ ⟨(idT kk dd).toArray⟩ = (keptAs kk dd).1 := by unfold keptAs; apply ByteArray.ext; simp [ByteArray.data_append]
                  rw [this]; simp
                generalize (⟨(idT kk dd).toArray⟩ : ByteArray) = ID at *
                generalize (keptAs kk dd).2 = TX at *
                generalize (⟨dd.toArray⟩ : ByteArray) = DT at *
                generalize gs[m].1 = PP at *
                clear hx hxe hck hdec
                go_wp2_with fail
                refine (HDE.out _ (HL.out.below HB9.out).names).mono ?_
                rintro _ w10 ⟨rfl, hb10⟩
                have HB10 : Hid (Below w.heap.size w w10) := HB9.out.trans (hb10.mono HB9.out.size)
                have HX10 : Hid (Below w8.heap.size w8 w10) := HX9.out.trans (hb10.mono HX9.out.size)
                clear hb10
                go_wp2_with fail
                refine (HIK.out _ (HL.out.below (HB10.out.alloc HB10.out.size _))).mono ?_
                rintro _ w11 ⟨rfl, hb11⟩
                have HX11 : Hid (Below w8.heap.size w8 w11) := (HX10.out.alloc HX10.out.size _).trans (hb11.mono (by have := HX10.out.size; simp; omega))
                clear hb11
                go_wp2_with fail
                go_roundw
                case rel => exact ⟨m + 1, by omega, by go_num, HX11.out⟩
                case measure => (show F.length - ((m : Int) + 1).toNat < F.length - ((m : Int)).toNat); omega
              · exact absurd rfl (hno _ HMEM.out)
            · obtain rfl : m = F.length := by omega
              go_wp2_with fail
              go_ret
              exact ⟨rfl, HBWX.out⟩
end Go.Proofs.YtolohndbbnbfbaaDoor
