/-
  ObjectTexts: the walk.
-/
import Derived.Test.YtolohndbbnbfbaaDoorTxtB
namespace Go.Proofs.YtolohndbbnbfbaaDoor
open Go.RowKit

/-- the box of the argument stands, and nothing elder has turned -/
def ObjS (w : World) (k : Int) (d : ByteArray) (V : World) : Prop := Below w.heap.size w V ∧ w.heap.size < V.heap.size ∧ V.heap[w.heap.size]? = some (.cells #[.int .i64 k, .string d] 52 (0, 0))
theorem ObjS.drew {w V : World} {k : Int} {d : ByteArray} (h : Hid (ObjS w k d V)) : Hid (ObjS w k d V.drew) := ⟨h.out.1.trans ⟨rfl, rfl, rfl, Nat.le_refl _, fun _ _ => rfl⟩, h.out.2.1, h.out.2.2⟩
theorem ObjS.drewN {w V : World} {k : Int} {d : ByteArray} {m : Nat} (h : Hid (ObjS w k d V)) : Hid (ObjS w k d (V.drewN m)) := ⟨below_drewN h.out.1 m, h.out.2.1, h.out.2.2⟩
theorem ObjS.next {w V V' : World} {k : Int} {d : ByteArray} (h : ObjS w k d V) (hb : Below V.heap.size V V') : ObjS w k d V' :=
  ⟨two_le h.1 hb h.1.size, Nat.lt_of_lt_of_le h.2.1 hb.size, (hb.block _ h.2.1).trans h.2.2⟩
theorem ObjS.laid {w V : World} {k : Int} {d : ByteArray} (h : ObjS w k d V) (hL : LaidAt w) : LaidAt V := hL.below h.1
theorem ObjS.full {w V : World} {k : Int} {d : ByteArray} (h : ObjS w k d V) : V.cell? ⟨w.heap.size, 0, none⟩ = some (.int .i64 k) ∧ V.cell? ⟨w.heap.size, 1, none⟩ = some (.string d) ∧ Hid (ObjS w k d V) :=
  ⟨by rw [cell_of_row V _ 0 _ 52 (0, 0) h.2.2]; rfl, by rw [cell_of_row V _ 1 _ 52 (0, 0) h.2.2]; rfl, h⟩

set_option maxHeartbeats 6400000 in
theorem texts_no (k : Int) (d : ByteArray) (w : World) (hL : LaidAt w) (h : checkE k d.size ≠ 0) :
    Calls Tryd.prog 7 #[.agg #[.int .i64 k, .string d]] w fun e w' => e = .returned (.bool true) ∧ Below w.heap.size w w' := by
  have HL := hidM hL
  have HRC := hidM (fun W => rcheck_any k d W)
  have H31 : Hid (∀ V, Hid (ObjS w k d V) → Calls Tryd.prog 31 #[] V fun e w' => e = .returned (.bool true) ∧ w'.cell? ⟨w.heap.size, 0, none⟩ = some (.int .i64 k) ∧ w'.cell? ⟨w.heap.size, 1, none⟩ = some (.string d) ∧ Hid (ObjS w k d w')) := fun V hV => (awake_any V (hV.out.laid HL.out)).mono fun e w' h => ⟨h.1, (hV.out.next h.2).full⟩
  have H32 : Hid (∀ V, Hid (ObjS w k d V) → Calls Tryd.prog 32 #[.agg #[.int .i64 k, .string d]] V fun e w' => e = .returned (.int .i64 (checkE k d.size : Nat)) ∧ w'.cell? ⟨w.heap.size, 0, none⟩ = some (.int .i64 k) ∧ w'.cell? ⟨w.heap.size, 1, none⟩ = some (.string d) ∧ Hid (ObjS w k d w')) := fun V hV => (check_any k d V (hV.out.laid HL.out).names).mono fun e w' h => ⟨h.1, (hV.out.next h.2).full⟩
  have H33 : Hid (∀ V, Hid (ObjS w k d V) → Calls Tryd.prog 33 #[.int .i64 k] V fun e w' => e = .returned (.string ⟨(nameL k).toArray⟩) ∧ w' = V) := fun V hV => name_any k V (hV.out.laid HL.out).names
  have H34 : Hid (∀ V, Hid (ObjS w k d V) → Calls Tryd.prog 34 #[.int .i64 k] V fun e w' => e = .returned (.string ⟨(nameL k).toArray⟩) ∧ w'.cell? ⟨w.heap.size, 0, none⟩ = some (.int .i64 k) ∧ w'.cell? ⟨w.heap.size, 1, none⟩ = some (.string d) ∧ Hid (ObjS w k d w')) := fun V hV => (rname_any k V).mono fun e w' h => ⟨h.1, (hV.out.next h.2).full⟩
  generalize (⟨(nameL k).toArray⟩ : ByteArray) = NM at *
  have HEN := hidM (fun W (hl : LaidAt W) => encode_no k d W hl h)
  have HID := hidM (fun W (hl : LaidAt W) => id_no k d W hl h)
  generalize checkE k d.size = E at *
  have g0 : ((E : Int) == 0) = false := beq_false_of_ne (by omega)
  have HBW : Hid (Below w.heap.size w (w.alloc (.cells #[.int .i64 k, .string d] 52))) := (Below.refl _ _).alloc (Nat.le_refl _) _
  have HGW : Hid ((w.alloc (.cells #[.int .i64 k, .string d] 52)).heap[w.heap.size]? = some (.cells #[.int .i64 k, .string d] 52 (0, 0))) := heap_alloc_new w _
  have HZW : Hid (w.heap.size < (w.alloc (.cells #[.int .i64 k, .string d] 52)).heap.size) := by unfold Hid; simp
  clear hL
  go_enter Tryd.func7, Tryd.ntmps7
  go_wp2_with fail
  generalize w.alloc (.cells #[.int .i64 k, .string d] 52) = W at *
  have HLW := hidM (HL.out.below HBW.out)
  have x0 : W.cell? ⟨w.heap.size, 0, none⟩ = some (.int .i64 k) := by rw [cell_of_row W _ 0 _ 52 (0, 0) HGW.out]; rfl
  have x1 : W.cell? ⟨w.heap.size, 1, none⟩ = some (.string d) := by rw [cell_of_row W _ 1 _ 52 (0, 0) HGW.out]; rfl
  refine (HEN.out _ HLW.out).mono ?_
  rintro _ w1 ⟨rfl, hb⟩
  have HBw1 := hidM (two_le HBW.out hb HBW.out.size)
  have HGw1 : Hid (w1.heap[w.heap.size]? = some (.cells #[.int .i64 k, .string d] 52 (0, 0))) := (hb.block _ HZW.out).trans HGW.out
  have HZw1 : Hid (w.heap.size < w1.heap.size) := Nat.lt_of_lt_of_le HZW.out hb.size
  have HLw1 := hidM (HL.out.below HBw1.out)
  clear hb x0 x1
  have x0 : w1.cell? ⟨w.heap.size, 0, none⟩ = some (.int .i64 k) := by rw [cell_of_row w1 _ 0 _ 52 (0, 0) HGw1.out]; rfl
  have x1 : w1.cell? ⟨w.heap.size, 1, none⟩ = some (.string d) := by rw [cell_of_row w1 _ 1 _ 52 (0, 0) HGw1.out]; rfl
  go_wp2_with fail
  refine (HID.out _ HLw1.out).mono ?_
  rintro _ w2 ⟨rfl, hb⟩
  have HBw2 := hidM (two_le HBw1.out hb HBw1.out.size)
  have HGw2 : Hid (w2.heap[w.heap.size]? = some (.cells #[.int .i64 k, .string d] 52 (0, 0))) := (hb.block _ HZw1.out).trans HGw1.out
  have HZw2 : Hid (w.heap.size < w2.heap.size) := Nat.lt_of_lt_of_le HZw1.out hb.size
  have HLw2 := hidM (HL.out.below HBw2.out)
  clear hb x0 x1
  have x0 : w2.cell? ⟨w.heap.size, 0, none⟩ = some (.int .i64 k) := by rw [cell_of_row w2 _ 0 _ 52 (0, 0) HGw2.out]; rfl
  have x1 : w2.cell? ⟨w.heap.size, 1, none⟩ = some (.string d) := by rw [cell_of_row w2 _ 1 _ 52 (0, 0) HGw2.out]; rfl
  go_wp2_with fail
  refine (HRC.out _).mono ?_
  rintro _ w3 ⟨rfl, hb⟩
  have HBw3 := hidM (two_le HBw2.out hb HBw2.out.size)
  have HGw3 : Hid (w3.heap[w.heap.size]? = some (.cells #[.int .i64 k, .string d] 52 (0, 0))) := (hb.block _ HZw2.out).trans HGw2.out
  have HZw3 : Hid (w.heap.size < w3.heap.size) := Nat.lt_of_lt_of_le HZw2.out hb.size
  have HLw3 := hidM (HL.out.below HBw3.out)
  clear hb x0 x1
  have x0 : w3.cell? ⟨w.heap.size, 0, none⟩ = some (.int .i64 k) := by rw [cell_of_row w3 _ 0 _ 52 (0, 0) HGw3.out]; rfl
  have x1 : w3.cell? ⟨w.heap.size, 1, none⟩ = some (.string d) := by rw [cell_of_row w3 _ 1 _ 52 (0, 0) HGw3.out]; rfl
  have HS3 : Hid (ObjS w k d w3) := ⟨HBw3.out, HZw3.out, HGw3.out⟩
  clear HBW HGW HZW HLW HBw1 HGw1 HZw1 HLw1 HBw2 HGw2 HZw2 HLw2 HBw3 HGw3 HZw3 HLw3 HEN HID HRC
  go_wp2_with fail
  go_region_held3 (fun w' => w'.cell? ⟨w.heap.size, 0, none⟩ = some (.int .i64 k) ∧ w'.cell? ⟨w.heap.size, 1, none⟩ = some (.string d) ∧ Hid (ObjS w k d w'))
    (first | exact hS34 | exact hS32 | exact hS31 | exact ObjS.full (Hid.out (by repeat (first | exact HS3 | exact hS34.2.2 | exact hS32.2.2 | exact hS31.2.2 | apply ObjS.drew | apply ObjS.drewN))))
    (first
      | (go_at_call 31; with_reducible refine (H31.out _ (by repeat (first | exact HS3 | exact hS34.2.2 | exact hS32.2.2 | exact hS31.2.2 | apply ObjS.drew | apply ObjS.drewN))).mono ?_; rintro e w4 ⟨rfl, hS31⟩)
      | (go_at_call 32; with_reducible refine (H32.out _ (by repeat (first | exact HS3 | exact hS34.2.2 | exact hS32.2.2 | exact hS31.2.2 | apply ObjS.drew | apply ObjS.drewN))).mono ?_; rintro e w5 ⟨rfl, hS32⟩)
      | (go_at_call 33; with_reducible refine (H33.out _ (by repeat (first | exact HS3 | exact hS34.2.2 | exact hS32.2.2 | exact hS31.2.2 | apply ObjS.drew | apply ObjS.drewN))).mono ?_; rintro e w6 ⟨rfl, rfl⟩)
      | (go_at_call 34; with_reducible refine (H34.out _ (by repeat (first | exact HS3 | exact hS34.2.2 | exact hS32.2.2 | exact hS31.2.2 | apply ObjS.drew | apply ObjS.drewN))).mono ?_; rintro e w7 ⟨rfl, hS34⟩))
  have HBw7 := hidM hS34.2.2.out.1
  have HZw7 := hidM hS34.2.2.out.2.1
  have HGw7 := hidM hS34.2.2.out.2.2
  have HLw7 := hidM (HL.out.below HBw7.out)
  clear hS31 hS32 hS34 HS3
  clear x0 x1
  have x0 : w7.cell? ⟨w.heap.size, 0, none⟩ = some (.int .i64 k) := by rw [cell_of_row w7 _ 0 _ 52 (0, 0) HGw7.out]; rfl
  have x1 : w7.cell? ⟨w.heap.size, 1, none⟩ = some (.string d) := by rw [cell_of_row w7 _ 1 _ 52 (0, 0) HGw7.out]; rfl
  go_wp2_with fail
  go_ret
  exact ⟨rfl, HBw7.out⟩

set_option maxHeartbeats 6400000 in
theorem texts_small (k : Int) (d : ByteArray) (w : World) (hL : LaidAt w) (h : checkE k d.size = 0) (h10 : d.size ≤ 1000) :
    Calls Tryd.prog 7 #[.agg #[.int .i64 k, .string d]] w fun e w' => e = .returned (.bool true) ∧ Below w.heap.size w w' := by
  have HL := hidM hL
  have HRC := hidM (fun W => rcheck_any k d W)
  have H31 : Hid (∀ V, Hid (ObjS w k d V) → Calls Tryd.prog 31 #[] V fun e w' => e = .returned (.bool true) ∧ w'.cell? ⟨w.heap.size, 0, none⟩ = some (.int .i64 k) ∧ w'.cell? ⟨w.heap.size, 1, none⟩ = some (.string d) ∧ Hid (ObjS w k d w')) := fun V hV => (awake_any V (hV.out.laid HL.out)).mono fun e w' h => ⟨h.1, (hV.out.next h.2).full⟩
  have H32 : Hid (∀ V, Hid (ObjS w k d V) → Calls Tryd.prog 32 #[.agg #[.int .i64 k, .string d]] V fun e w' => e = .returned (.int .i64 (checkE k d.size : Nat)) ∧ w'.cell? ⟨w.heap.size, 0, none⟩ = some (.int .i64 k) ∧ w'.cell? ⟨w.heap.size, 1, none⟩ = some (.string d) ∧ Hid (ObjS w k d w')) := fun V hV => (check_any k d V (hV.out.laid HL.out).names).mono fun e w' h => ⟨h.1, (hV.out.next h.2).full⟩
  have H33 : Hid (∀ V, Hid (ObjS w k d V) → Calls Tryd.prog 33 #[.int .i64 k] V fun e w' => e = .returned (.string ⟨(nameL k).toArray⟩) ∧ w' = V) := fun V hV => name_any k V (hV.out.laid HL.out).names
  have H34 : Hid (∀ V, Hid (ObjS w k d V) → Calls Tryd.prog 34 #[.int .i64 k] V fun e w' => e = .returned (.string ⟨(nameL k).toArray⟩) ∧ w'.cell? ⟨w.heap.size, 0, none⟩ = some (.int .i64 k) ∧ w'.cell? ⟨w.heap.size, 1, none⟩ = some (.string d) ∧ Hid (ObjS w k d w')) := fun V hV => (rname_any k V).mono fun e w' h => ⟨h.1, (hV.out.next h.2).full⟩
  generalize (⟨(nameL k).toArray⟩ : ByteArray) = NM at *
  have g10 : decide ((1000 : Int) < (d.size : Int)) = false := by simp; omega
  have h' := checkE_zero.1 h
  have HEN := hidM (fun W (hl : LaidAt W) => encode_yes k d W hl h'.1 h'.2)
  have HID := hidM (fun W (hl : LaidAt W) => id_yes k d W hl h)
  have HTX := hidM (fun W => rtext_any k d W h'.2)
  have HRI := hidM (fun W => rid_any k d W h'.2)
  have HTS : Hid ((⟨(encL k d.data.toList).toArray⟩ : ByteArray).size ≤ 9223372036854775807) := by
    unfold Hid
    show (encL k d.data.toList).toArray.size ≤ _
    rw [List.size_toArray]
    have := encL_len k d.data.toList (by simpa using h'.2)
    omega
  have HDC : Hid (∀ W, LaidAt W → Calls Tryd.prog 35 #[.string ⟨(encL k d.data.toList).toArray⟩] W fun e w' => e = .returned (.tuple #[.agg #[.int .i64 k, .string d], .int .i64 0]) ∧ Below W.heap.size W w') := fun W hl => by
    have hh := decode_any ⟨(encL k d.data.toList).toArray⟩ W HTS.out hl.names
    rw [show (⟨(encL k d.data.toList).toArray⟩ : ByteArray).data.toList = encL k d.data.toList from rfl, dec_enc k d.data.toList h'.1 (by simpa using h'.2)] at hh
    have hk := (kind_name k h'.1).2
    rw [show ((k.toNat : Nat) : Int) = k by omega] at hh
    exact hh
  rw [h] at H32 HRC
  generalize (⟨(encL k d.data.toList).toArray⟩ : ByteArray) = T at *
  generalize (⟨(hexL (sha1L (encL k d.data.toList))).toArray⟩ : ByteArray) = R at *
  clear h h'
  have HBW : Hid (Below w.heap.size w (w.alloc (.cells #[.int .i64 k, .string d] 52))) := (Below.refl _ _).alloc (Nat.le_refl _) _
  have HGW : Hid ((w.alloc (.cells #[.int .i64 k, .string d] 52)).heap[w.heap.size]? = some (.cells #[.int .i64 k, .string d] 52 (0, 0))) := heap_alloc_new w _
  have HZW : Hid (w.heap.size < (w.alloc (.cells #[.int .i64 k, .string d] 52)).heap.size) := by unfold Hid; simp
  clear hL
  go_enter Tryd.func7, Tryd.ntmps7
  go_wp2_with fail
  generalize w.alloc (.cells #[.int .i64 k, .string d] 52) = W at *
  have HLW := hidM (HL.out.below HBW.out)
  have x0 : W.cell? ⟨w.heap.size, 0, none⟩ = some (.int .i64 k) := by rw [cell_of_row W _ 0 _ 52 (0, 0) HGW.out]; rfl
  have x1 : W.cell? ⟨w.heap.size, 1, none⟩ = some (.string d) := by rw [cell_of_row W _ 1 _ 52 (0, 0) HGW.out]; rfl
  refine (HEN.out _ HLW.out).mono ?_
  rintro _ w1 ⟨rfl, hb⟩
  have HBw1 := hidM (two_le HBW.out hb HBW.out.size)
  have HGw1 : Hid (w1.heap[w.heap.size]? = some (.cells #[.int .i64 k, .string d] 52 (0, 0))) := (hb.block _ HZW.out).trans HGW.out
  have HZw1 : Hid (w.heap.size < w1.heap.size) := Nat.lt_of_lt_of_le HZW.out hb.size
  have HLw1 := hidM (HL.out.below HBw1.out)
  clear hb x0 x1
  have x0 : w1.cell? ⟨w.heap.size, 0, none⟩ = some (.int .i64 k) := by rw [cell_of_row w1 _ 0 _ 52 (0, 0) HGw1.out]; rfl
  have x1 : w1.cell? ⟨w.heap.size, 1, none⟩ = some (.string d) := by rw [cell_of_row w1 _ 1 _ 52 (0, 0) HGw1.out]; rfl
  go_wp2_with fail
  refine (HID.out _ HLw1.out).mono ?_
  rintro _ w2 ⟨rfl, hb⟩
  have HBw2 := hidM (two_le HBw1.out hb HBw1.out.size)
  have HGw2 : Hid (w2.heap[w.heap.size]? = some (.cells #[.int .i64 k, .string d] 52 (0, 0))) := (hb.block _ HZw1.out).trans HGw1.out
  have HZw2 : Hid (w.heap.size < w2.heap.size) := Nat.lt_of_lt_of_le HZw1.out hb.size
  have HLw2 := hidM (HL.out.below HBw2.out)
  clear hb x0 x1
  have x0 : w2.cell? ⟨w.heap.size, 0, none⟩ = some (.int .i64 k) := by rw [cell_of_row w2 _ 0 _ 52 (0, 0) HGw2.out]; rfl
  have x1 : w2.cell? ⟨w.heap.size, 1, none⟩ = some (.string d) := by rw [cell_of_row w2 _ 1 _ 52 (0, 0) HGw2.out]; rfl
  go_wp2_with fail
  refine (HRC.out _).mono ?_
  rintro _ w3 ⟨rfl, hb⟩
  have HBw3 := hidM (two_le HBw2.out hb HBw2.out.size)
  have HGw3 : Hid (w3.heap[w.heap.size]? = some (.cells #[.int .i64 k, .string d] 52 (0, 0))) := (hb.block _ HZw2.out).trans HGw2.out
  have HZw3 : Hid (w.heap.size < w3.heap.size) := Nat.lt_of_lt_of_le HZw2.out hb.size
  have HLw3 := hidM (HL.out.below HBw3.out)
  clear hb x0 x1
  have x0 : w3.cell? ⟨w.heap.size, 0, none⟩ = some (.int .i64 k) := by rw [cell_of_row w3 _ 0 _ 52 (0, 0) HGw3.out]; rfl
  have x1 : w3.cell? ⟨w.heap.size, 1, none⟩ = some (.string d) := by rw [cell_of_row w3 _ 1 _ 52 (0, 0) HGw3.out]; rfl
  have HS3 : Hid (ObjS w k d w3) := ⟨HBw3.out, HZw3.out, HGw3.out⟩
  clear HBW HGW HZW HLW HBw1 HGw1 HZw1 HLw1 HBw2 HGw2 HZw2 HLw2 HBw3 HGw3 HZw3 HLw3 HEN HID HRC
  go_wp2_with fail
  go_region_held3 (fun w' => w'.cell? ⟨w.heap.size, 0, none⟩ = some (.int .i64 k) ∧ w'.cell? ⟨w.heap.size, 1, none⟩ = some (.string d) ∧ Hid (ObjS w k d w'))
    (first | exact hS34 | exact hS32 | exact hS31 | exact ObjS.full (Hid.out (by repeat (first | exact HS3 | exact hS34.2.2 | exact hS32.2.2 | exact hS31.2.2 | apply ObjS.drew | apply ObjS.drewN))))
    (first
      | (go_at_call 31; with_reducible refine (H31.out _ (by repeat (first | exact HS3 | exact hS34.2.2 | exact hS32.2.2 | exact hS31.2.2 | apply ObjS.drew | apply ObjS.drewN))).mono ?_; rintro e w4 ⟨rfl, hS31⟩)
      | (go_at_call 32; with_reducible refine (H32.out _ (by repeat (first | exact HS3 | exact hS34.2.2 | exact hS32.2.2 | exact hS31.2.2 | apply ObjS.drew | apply ObjS.drewN))).mono ?_; rintro e w5 ⟨rfl, hS32⟩)
      | (go_at_call 33; with_reducible refine (H33.out _ (by repeat (first | exact HS3 | exact hS34.2.2 | exact hS32.2.2 | exact hS31.2.2 | apply ObjS.drew | apply ObjS.drewN))).mono ?_; rintro e w6 ⟨rfl, rfl⟩)
      | (go_at_call 34; with_reducible refine (H34.out _ (by repeat (first | exact HS3 | exact hS34.2.2 | exact hS32.2.2 | exact hS31.2.2 | apply ObjS.drew | apply ObjS.drewN))).mono ?_; rintro e w7 ⟨rfl, hS34⟩))
  have HBw7 := hidM hS34.2.2.out.1
  have HZw7 := hidM hS34.2.2.out.2.1
  have HGw7 := hidM hS34.2.2.out.2.2
  have HLw7 := hidM (HL.out.below HBw7.out)
  clear hS31 hS32 hS34 HS3
  clear x0 x1
  have x0 : w7.cell? ⟨w.heap.size, 0, none⟩ = some (.int .i64 k) := by rw [cell_of_row w7 _ 0 _ 52 (0, 0) HGw7.out]; rfl
  have x1 : w7.cell? ⟨w.heap.size, 1, none⟩ = some (.string d) := by rw [cell_of_row w7 _ 1 _ 52 (0, 0) HGw7.out]; rfl
  go_wp2_with fail
  refine (HDC.out _ HLw7.out).mono ?_
  rintro _ w8 ⟨rfl, hb⟩
  have HBw8 := hidM (two_le HBw7.out hb HBw7.out.size)
  have HGw8 : Hid (w8.heap[w.heap.size]? = some (.cells #[.int .i64 k, .string d] 52 (0, 0))) := (hb.block _ HZw7.out).trans HGw7.out
  have HZw8 : Hid (w.heap.size < w8.heap.size) := Nat.lt_of_lt_of_le HZw7.out hb.size
  clear hb x0 x1
  have HB9 : Hid (Below w.heap.size w (w8.alloc (.cells #[.int .i64 k, .string d] 52))) := HBw8.out.alloc HBw8.out.size _
  have HG9 : Hid ((w8.alloc (.cells #[.int .i64 k, .string d] 52)).heap[w.heap.size]? = some (.cells #[.int .i64 k, .string d] 52 (0, 0))) := by
    unfold Hid; rw [heap_alloc_old w8 _ HZw8.out]; exact HGw8.out
  have HK9 : Hid ((w8.alloc (.cells #[.int .i64 k, .string d] 52)).heap[w8.heap.size]? = some (.cells #[.int .i64 k, .string d] 52 (0, 0))) := heap_alloc_new w8 _
  have HY9 : Hid (w8.heap.size < (w8.alloc (.cells #[.int .i64 k, .string d] 52)).heap.size) := by unfold Hid; simp
  have hx0 : w8.cell? ⟨w.heap.size, 0, none⟩ = some (.int .i64 k) := by rw [cell_of_row w8 _ 0 _ 52 (0, 0) HGw8.out]; rfl
  have hx1 : w8.cell? ⟨w.heap.size, 1, none⟩ = some (.string d) := by rw [cell_of_row w8 _ 1 _ 52 (0, 0) HGw8.out]; rfl
  have x0 : (w8.alloc (.cells #[.int .i64 k, .string d] 52)).cell? ⟨w.heap.size, 0, none⟩ = some (.int .i64 k) := by rw [cell_of_row _ _ 0 _ 52 (0, 0) HG9.out]; rfl
  have x1 : (w8.alloc (.cells #[.int .i64 k, .string d] 52)).cell? ⟨w.heap.size, 1, none⟩ = some (.string d) := by rw [cell_of_row _ _ 1 _ 52 (0, 0) HG9.out]; rfl
  go_wp2_with fail
  generalize w8.alloc (.cells #[.int .i64 k, .string d] 52) = V at *
  refine (HTX.out _).mono ?_
  rintro _ w9 ⟨rfl, hb⟩
  have HBw9 := hidM (two_le HB9.out hb HB9.out.size)
  have HGw9 : Hid (w9.heap[w.heap.size]? = some (.cells #[.int .i64 k, .string d] 52 (0, 0))) := (hb.block _ (Nat.lt_trans HZw8.out HY9.out)).trans HG9.out
  have HKw9 : Hid (w9.heap[w8.heap.size]? = some (.cells #[.int .i64 k, .string d] 52 (0, 0))) := (hb.block _ HY9.out).trans HK9.out
  have HYw9 : Hid (w8.heap.size < w9.heap.size) := Nat.lt_of_lt_of_le HY9.out hb.size
  clear hb x0 x1 hx0 hx1
  have x0 : w9.cell? ⟨w.heap.size, 0, none⟩ = some (.int .i64 k) := by rw [cell_of_row w9 _ 0 _ 52 (0, 0) HGw9.out]; rfl
  have x1 : w9.cell? ⟨w.heap.size, 1, none⟩ = some (.string d) := by rw [cell_of_row w9 _ 1 _ 52 (0, 0) HGw9.out]; rfl
  have y0 : w9.cell? ⟨w8.heap.size, 0, none⟩ = some (.int .i64 k) := by rw [cell_of_row w9 _ 0 _ 52 (0, 0) HKw9.out]; rfl
  have y1 : w9.cell? ⟨w8.heap.size, 1, none⟩ = some (.string d) := by rw [cell_of_row w9 _ 1 _ 52 (0, 0) HKw9.out]; rfl
  go_wp2_with fail
  refine (HRI.out _).mono ?_
  rintro _ w10 ⟨rfl, hb⟩
  have HBX := hidM (two_le HBw9.out hb HBw9.out.size)
  have HGX : Hid (w10.heap[w.heap.size]? = some (.cells #[.int .i64 k, .string d] 52 (0, 0))) := (hb.block _ (Nat.lt_trans HZw8.out HYw9.out)).trans HGw9.out
  have HKX : Hid (w10.heap[w8.heap.size]? = some (.cells #[.int .i64 k, .string d] 52 (0, 0))) := (hb.block _ HYw9.out).trans HKw9.out
  clear hb x0 x1 y0 y1
  have x0 : w10.cell? ⟨w.heap.size, 0, none⟩ = some (.int .i64 k) := by rw [cell_of_row w10 _ 0 _ 52 (0, 0) HGX.out]; rfl
  have x1 : w10.cell? ⟨w.heap.size, 1, none⟩ = some (.string d) := by rw [cell_of_row w10 _ 1 _ 52 (0, 0) HGX.out]; rfl
  have y0 : w10.cell? ⟨w8.heap.size, 0, none⟩ = some (.int .i64 k) := by rw [cell_of_row w10 _ 0 _ 52 (0, 0) HKX.out]; rfl
  have y1 : w10.cell? ⟨w8.heap.size, 1, none⟩ = some (.string d) := by rw [cell_of_row w10 _ 1 _ 52 (0, 0) HKX.out]; rfl
  go_wp2_with fail
  go_ret
  exact ⟨rfl, HBX.out⟩

set_option maxHeartbeats 6400000 in
theorem texts_great (k : Int) (d : ByteArray) (w : World) (hL : LaidAt w) (h : checkE k d.size = 0) (h10 : 1000 < d.size) :
    Calls Tryd.prog 7 #[.agg #[.int .i64 k, .string d]] w fun e w' => e = .returned (.bool true) ∧ Below w.heap.size w w' := by
  have HL := hidM hL
  have HRC := hidM (fun W => rcheck_any k d W)
  have H31 : Hid (∀ V, Hid (ObjS w k d V) → Calls Tryd.prog 31 #[] V fun e w' => e = .returned (.bool true) ∧ w'.cell? ⟨w.heap.size, 0, none⟩ = some (.int .i64 k) ∧ w'.cell? ⟨w.heap.size, 1, none⟩ = some (.string d) ∧ Hid (ObjS w k d w')) := fun V hV => (awake_any V (hV.out.laid HL.out)).mono fun e w' h => ⟨h.1, (hV.out.next h.2).full⟩
  have H32 : Hid (∀ V, Hid (ObjS w k d V) → Calls Tryd.prog 32 #[.agg #[.int .i64 k, .string d]] V fun e w' => e = .returned (.int .i64 (checkE k d.size : Nat)) ∧ w'.cell? ⟨w.heap.size, 0, none⟩ = some (.int .i64 k) ∧ w'.cell? ⟨w.heap.size, 1, none⟩ = some (.string d) ∧ Hid (ObjS w k d w')) := fun V hV => (check_any k d V (hV.out.laid HL.out).names).mono fun e w' h => ⟨h.1, (hV.out.next h.2).full⟩
  have H33 : Hid (∀ V, Hid (ObjS w k d V) → Calls Tryd.prog 33 #[.int .i64 k] V fun e w' => e = .returned (.string ⟨(nameL k).toArray⟩) ∧ w' = V) := fun V hV => name_any k V (hV.out.laid HL.out).names
  have H34 : Hid (∀ V, Hid (ObjS w k d V) → Calls Tryd.prog 34 #[.int .i64 k] V fun e w' => e = .returned (.string ⟨(nameL k).toArray⟩) ∧ w'.cell? ⟨w.heap.size, 0, none⟩ = some (.int .i64 k) ∧ w'.cell? ⟨w.heap.size, 1, none⟩ = some (.string d) ∧ Hid (ObjS w k d w')) := fun V hV => (rname_any k V).mono fun e w' h => ⟨h.1, (hV.out.next h.2).full⟩
  generalize (⟨(nameL k).toArray⟩ : ByteArray) = NM at *
  have g10 : decide ((1000 : Int) < (d.size : Int)) = true := by simp; omega
  have h' := checkE_zero.1 h
  have HEN := hidM (fun W (hl : LaidAt W) => encode_yes k d W hl h'.1 h'.2)
  have HID := hidM (fun W (hl : LaidAt W) => id_yes k d W hl h)
  have HTX := hidM (fun W => rtext_any k d W h'.2)
  have HRI := hidM (fun W => rid_any k d W h'.2)
  have HTS : Hid ((⟨(encL k d.data.toList).toArray⟩ : ByteArray).size ≤ 9223372036854775807) := by
    unfold Hid
    show (encL k d.data.toList).toArray.size ≤ _
    rw [List.size_toArray]
    have := encL_len k d.data.toList (by simpa using h'.2)
    omega
  have HDC : Hid (∀ W, LaidAt W → Calls Tryd.prog 35 #[.string ⟨(encL k d.data.toList).toArray⟩] W fun e w' => e = .returned (.tuple #[.agg #[.int .i64 k, .string d], .int .i64 0]) ∧ Below W.heap.size W w') := fun W hl => by
    have hh := decode_any ⟨(encL k d.data.toList).toArray⟩ W HTS.out hl.names
    rw [show (⟨(encL k d.data.toList).toArray⟩ : ByteArray).data.toList = encL k d.data.toList from rfl, dec_enc k d.data.toList h'.1 (by simpa using h'.2)] at hh
    have hk := (kind_name k h'.1).2
    rw [show ((k.toNat : Nat) : Int) = k by omega] at hh
    exact hh
  rw [h] at H32 HRC
  generalize (⟨(encL k d.data.toList).toArray⟩ : ByteArray) = T at *
  generalize (⟨(hexL (sha1L (encL k d.data.toList))).toArray⟩ : ByteArray) = R at *
  clear h h'
  have HBW : Hid (Below w.heap.size w (w.alloc (.cells #[.int .i64 k, .string d] 52))) := (Below.refl _ _).alloc (Nat.le_refl _) _
  have HGW : Hid ((w.alloc (.cells #[.int .i64 k, .string d] 52)).heap[w.heap.size]? = some (.cells #[.int .i64 k, .string d] 52 (0, 0))) := heap_alloc_new w _
  have HZW : Hid (w.heap.size < (w.alloc (.cells #[.int .i64 k, .string d] 52)).heap.size) := by unfold Hid; simp
  clear hL
  go_enter Tryd.func7, Tryd.ntmps7
  go_wp2_with fail
  generalize w.alloc (.cells #[.int .i64 k, .string d] 52) = W at *
  have HLW := hidM (HL.out.below HBW.out)
  have x0 : W.cell? ⟨w.heap.size, 0, none⟩ = some (.int .i64 k) := by rw [cell_of_row W _ 0 _ 52 (0, 0) HGW.out]; rfl
  have x1 : W.cell? ⟨w.heap.size, 1, none⟩ = some (.string d) := by rw [cell_of_row W _ 1 _ 52 (0, 0) HGW.out]; rfl
  refine (HEN.out _ HLW.out).mono ?_
  rintro _ w1 ⟨rfl, hb⟩
  have HBw1 := hidM (two_le HBW.out hb HBW.out.size)
  have HGw1 : Hid (w1.heap[w.heap.size]? = some (.cells #[.int .i64 k, .string d] 52 (0, 0))) := (hb.block _ HZW.out).trans HGW.out
  have HZw1 : Hid (w.heap.size < w1.heap.size) := Nat.lt_of_lt_of_le HZW.out hb.size
  have HLw1 := hidM (HL.out.below HBw1.out)
  clear hb x0 x1
  have x0 : w1.cell? ⟨w.heap.size, 0, none⟩ = some (.int .i64 k) := by rw [cell_of_row w1 _ 0 _ 52 (0, 0) HGw1.out]; rfl
  have x1 : w1.cell? ⟨w.heap.size, 1, none⟩ = some (.string d) := by rw [cell_of_row w1 _ 1 _ 52 (0, 0) HGw1.out]; rfl
  go_wp2_with fail
  refine (HID.out _ HLw1.out).mono ?_
  rintro _ w2 ⟨rfl, hb⟩
  have HBw2 := hidM (two_le HBw1.out hb HBw1.out.size)
  have HGw2 : Hid (w2.heap[w.heap.size]? = some (.cells #[.int .i64 k, .string d] 52 (0, 0))) := (hb.block _ HZw1.out).trans HGw1.out
  have HZw2 : Hid (w.heap.size < w2.heap.size) := Nat.lt_of_lt_of_le HZw1.out hb.size
  have HLw2 := hidM (HL.out.below HBw2.out)
  clear hb x0 x1
  have x0 : w2.cell? ⟨w.heap.size, 0, none⟩ = some (.int .i64 k) := by rw [cell_of_row w2 _ 0 _ 52 (0, 0) HGw2.out]; rfl
  have x1 : w2.cell? ⟨w.heap.size, 1, none⟩ = some (.string d) := by rw [cell_of_row w2 _ 1 _ 52 (0, 0) HGw2.out]; rfl
  go_wp2_with fail
  refine (HRC.out _).mono ?_
  rintro _ w3 ⟨rfl, hb⟩
  have HBw3 := hidM (two_le HBw2.out hb HBw2.out.size)
  have HGw3 : Hid (w3.heap[w.heap.size]? = some (.cells #[.int .i64 k, .string d] 52 (0, 0))) := (hb.block _ HZw2.out).trans HGw2.out
  have HZw3 : Hid (w.heap.size < w3.heap.size) := Nat.lt_of_lt_of_le HZw2.out hb.size
  have HLw3 := hidM (HL.out.below HBw3.out)
  clear hb x0 x1
  have x0 : w3.cell? ⟨w.heap.size, 0, none⟩ = some (.int .i64 k) := by rw [cell_of_row w3 _ 0 _ 52 (0, 0) HGw3.out]; rfl
  have x1 : w3.cell? ⟨w.heap.size, 1, none⟩ = some (.string d) := by rw [cell_of_row w3 _ 1 _ 52 (0, 0) HGw3.out]; rfl
  have HS3 : Hid (ObjS w k d w3) := ⟨HBw3.out, HZw3.out, HGw3.out⟩
  clear HBW HGW HZW HLW HBw1 HGw1 HZw1 HLw1 HBw2 HGw2 HZw2 HLw2 HBw3 HGw3 HZw3 HLw3 HEN HID HRC
  go_wp2_with fail
  go_region_held3 (fun w' => w'.cell? ⟨w.heap.size, 0, none⟩ = some (.int .i64 k) ∧ w'.cell? ⟨w.heap.size, 1, none⟩ = some (.string d) ∧ Hid (ObjS w k d w'))
    (first | exact hS34 | exact hS32 | exact hS31 | exact ObjS.full (Hid.out (by repeat (first | exact HS3 | exact hS34.2.2 | exact hS32.2.2 | exact hS31.2.2 | apply ObjS.drew | apply ObjS.drewN))))
    (first
      | (go_at_call 31; with_reducible refine (H31.out _ (by repeat (first | exact HS3 | exact hS34.2.2 | exact hS32.2.2 | exact hS31.2.2 | apply ObjS.drew | apply ObjS.drewN))).mono ?_; rintro e w4 ⟨rfl, hS31⟩)
      | (go_at_call 32; with_reducible refine (H32.out _ (by repeat (first | exact HS3 | exact hS34.2.2 | exact hS32.2.2 | exact hS31.2.2 | apply ObjS.drew | apply ObjS.drewN))).mono ?_; rintro e w5 ⟨rfl, hS32⟩)
      | (go_at_call 33; with_reducible refine (H33.out _ (by repeat (first | exact HS3 | exact hS34.2.2 | exact hS32.2.2 | exact hS31.2.2 | apply ObjS.drew | apply ObjS.drewN))).mono ?_; rintro e w6 ⟨rfl, rfl⟩)
      | (go_at_call 34; with_reducible refine (H34.out _ (by repeat (first | exact HS3 | exact hS34.2.2 | exact hS32.2.2 | exact hS31.2.2 | apply ObjS.drew | apply ObjS.drewN))).mono ?_; rintro e w7 ⟨rfl, hS34⟩))
  have HBw7 := hidM hS34.2.2.out.1
  have HZw7 := hidM hS34.2.2.out.2.1
  have HGw7 := hidM hS34.2.2.out.2.2
  have HLw7 := hidM (HL.out.below HBw7.out)
  clear hS31 hS32 hS34 HS3
  clear x0 x1
  have x0 : w7.cell? ⟨w.heap.size, 0, none⟩ = some (.int .i64 k) := by rw [cell_of_row w7 _ 0 _ 52 (0, 0) HGw7.out]; rfl
  have x1 : w7.cell? ⟨w.heap.size, 1, none⟩ = some (.string d) := by rw [cell_of_row w7 _ 1 _ 52 (0, 0) HGw7.out]; rfl
  go_wp2_with fail
  refine (HDC.out _ HLw7.out).mono ?_
  rintro _ w8 ⟨rfl, hb⟩
  have HBw8 := hidM (two_le HBw7.out hb HBw7.out.size)
  have HGw8 : Hid (w8.heap[w.heap.size]? = some (.cells #[.int .i64 k, .string d] 52 (0, 0))) := (hb.block _ HZw7.out).trans HGw7.out
  have HZw8 : Hid (w.heap.size < w8.heap.size) := Nat.lt_of_lt_of_le HZw7.out hb.size
  clear hb x0 x1
  have HB9 : Hid (Below w.heap.size w (w8.alloc (.cells #[.int .i64 k, .string d] 52))) := HBw8.out.alloc HBw8.out.size _
  have HG9 : Hid ((w8.alloc (.cells #[.int .i64 k, .string d] 52)).heap[w.heap.size]? = some (.cells #[.int .i64 k, .string d] 52 (0, 0))) := by
    unfold Hid; rw [heap_alloc_old w8 _ HZw8.out]; exact HGw8.out
  have HK9 : Hid ((w8.alloc (.cells #[.int .i64 k, .string d] 52)).heap[w8.heap.size]? = some (.cells #[.int .i64 k, .string d] 52 (0, 0))) := heap_alloc_new w8 _
  have HY9 : Hid (w8.heap.size < (w8.alloc (.cells #[.int .i64 k, .string d] 52)).heap.size) := by unfold Hid; simp
  have hx0 : w8.cell? ⟨w.heap.size, 0, none⟩ = some (.int .i64 k) := by rw [cell_of_row w8 _ 0 _ 52 (0, 0) HGw8.out]; rfl
  have hx1 : w8.cell? ⟨w.heap.size, 1, none⟩ = some (.string d) := by rw [cell_of_row w8 _ 1 _ 52 (0, 0) HGw8.out]; rfl
  have x0 : (w8.alloc (.cells #[.int .i64 k, .string d] 52)).cell? ⟨w.heap.size, 0, none⟩ = some (.int .i64 k) := by rw [cell_of_row _ _ 0 _ 52 (0, 0) HG9.out]; rfl
  have x1 : (w8.alloc (.cells #[.int .i64 k, .string d] 52)).cell? ⟨w.heap.size, 1, none⟩ = some (.string d) := by rw [cell_of_row _ _ 1 _ 52 (0, 0) HG9.out]; rfl
  go_wp2_with fail
  generalize w8.alloc (.cells #[.int .i64 k, .string d] 52) = V at *
  refine (HTX.out _).mono ?_
  rintro _ w9 ⟨rfl, hb⟩
  have HBw9 := hidM (two_le HB9.out hb HB9.out.size)
  have HGw9 : Hid (w9.heap[w.heap.size]? = some (.cells #[.int .i64 k, .string d] 52 (0, 0))) := (hb.block _ (Nat.lt_trans HZw8.out HY9.out)).trans HG9.out
  have HKw9 : Hid (w9.heap[w8.heap.size]? = some (.cells #[.int .i64 k, .string d] 52 (0, 0))) := (hb.block _ HY9.out).trans HK9.out
  have HYw9 : Hid (w8.heap.size < w9.heap.size) := Nat.lt_of_lt_of_le HY9.out hb.size
  clear hb x0 x1 hx0 hx1
  have x0 : w9.cell? ⟨w.heap.size, 0, none⟩ = some (.int .i64 k) := by rw [cell_of_row w9 _ 0 _ 52 (0, 0) HGw9.out]; rfl
  have x1 : w9.cell? ⟨w.heap.size, 1, none⟩ = some (.string d) := by rw [cell_of_row w9 _ 1 _ 52 (0, 0) HGw9.out]; rfl
  have y0 : w9.cell? ⟨w8.heap.size, 0, none⟩ = some (.int .i64 k) := by rw [cell_of_row w9 _ 0 _ 52 (0, 0) HKw9.out]; rfl
  have y1 : w9.cell? ⟨w8.heap.size, 1, none⟩ = some (.string d) := by rw [cell_of_row w9 _ 1 _ 52 (0, 0) HKw9.out]; rfl
  go_wp2_with fail
  go_ret
  exact ⟨rfl, HBw9.out⟩

theorem texts_walk (k : Int) (d : ByteArray) (w : World) (hL : LaidAt w) :
    Calls Tryd.prog 7 #[.agg #[.int .i64 k, .string d]] w fun e w' => e = .returned (.bool true) ∧ Below w.heap.size w w' := by
  by_cases h : checkE k d.size = 0
  · by_cases h10 : d.size ≤ 1000
    · exact texts_small k d w hL h h10
    · exact texts_great k d w hL h (by omega)
  · exact texts_no k d w hL h
end Go.Proofs.YtolohndbbnbfbaaDoor
