/-
  Walks of the document's tree: Text.
-/
import Derived.Test.YtccohagdfpcplaaDoorTpB
import Derived.Deep.RegionHeld3
namespace Go.Proofs.YtccohagdfpcplaaDoor
open Go.RowKit

/-- an entry of the loop in its box -/
structure TxS (w : World) (B : Nat) (m : Int) (nm id : ByteArray) (V : World) : Prop where
  bel : Below w.heap.size w V
  x : EBox V B m nm id
section
variable {w V w' : World} {B : Nat} {m : Int} {nm id : ByteArray}
theorem TxS.next (H : TxS w B m nm id V) (hb : Below V.heap.size V w') : TxS w B m nm id w' := ⟨H.bel.trans (hb.mono H.bel.size), H.x.below hb⟩
theorem TxS.drew (H : Hid (TxS w B m nm id V)) : Hid (TxS w B m nm id V.drew) := ⟨H.out.bel.drew, H.out.x⟩
theorem TxS.drewN (H : Hid (TxS w B m nm id V)) (n : Nat) : Hid (TxS w B m nm id (V.drewN n)) := ⟨below_drewN H.out.bel n, H.out.x⟩
theorem TxS.full (H : TxS w B m nm id V) : V.cell? ⟨B, 0, none⟩ = some (.int .i64 m) ∧ V.cell? ⟨B, 1, none⟩ = some (.string nm) ∧ V.cell? ⟨B, 2, none⟩ = some (.string id) ∧ Hid (TxS w B m nm id V) := ⟨H.x.c0, H.x.c1, H.x.c2, H⟩
theorem TxS.call {f : Nat} {args : Array Value} {v : Value} (h : Calls Tryd.prog f args V fun x w' => x = .returned v ∧ Below V.heap.size V w') (H : Hid (TxS w B m nm id V)) :
    Calls Tryd.prog f args V fun x w' => x = .returned v ∧ w'.cell? ⟨B, 0, none⟩ = some (.int .i64 m) ∧ w'.cell? ⟨B, 1, none⟩ = some (.string nm) ∧ w'.cell? ⟨B, 2, none⟩ = some (.string id) ∧ Hid (TxS w B m nm id w') := h.mono fun _ _ g => ⟨g.1, TxS.full (H.out.next g.2)⟩
end
theorem size_mk (l : List UInt8) : (⟨l.toArray⟩ : ByteArray).size = l.length := by show l.toArray.size = _; simp
set_option maxHeartbeats 4000000 in
set_option maxRecDepth 100000 in
theorem rtext_any (a : Option Addr) (ca : Nat) (es : List EntB) (w : World) (ha : EntsIn w a es) (h5 : es.length ≤ 500) (hr : ∀ e ∈ es, rightB e.1 e.2.1.data.toList e.2.2.data.toList = true) :
    Calls Tryd.prog 19 #[.slice a es.length ca] w fun e w' => e = .returned (.string ⟨(formL es).toArray⟩) ∧ Below w.heap.size w w' := by
  have HAB : Hid (∀ V k, Below w.heap.size w V → k < es.length → ∃ b1 o1, a = some ⟨b1, o1, none⟩ ∧ EntsAt V b1 o1 es) := fun V k hV hk => by
    obtain ⟨b1, o1, e1, e2⟩ := (ha.below hV).at k hk
    exact ⟨b1, o1, e1, e2⟩
  have HRT : Hid (∀ k, k < es.length → rightB (es.getD k noE).1 (es.getD k noE).2.1.data.toList (es.getD k noE).2.2.data.toList = true) := fun k hk => hr _ (getD_mem hk)
  have HLN := hidM (form_len HRT.out)
  have HNX := hidM (fun k (hk : k < es.length) => form_next hk)
  have HAL : Hid (formL (es.take es.length) = formL es) := by unfold Hid; rw [List.take_length]
  generalize hFA : formL es = FA at *
  clear hFA
  obtain ⟨n, hn⟩ : ∃ n, n = es.length := ⟨_, rfl⟩
  rw [← hn] at HAB HRT HLN HNX HAL h5 ⊢
  have HL := hidM hn
  clear ha hn hr
  go_enter Tryd.func19, Tryd.ntmps19
  go_wp2
  go_loopw [3, 5, 8] (fun tv _ iv wr => ∃ k : Nat, k ≤ n ∧ iv = .int .i64 (k : Int) ∧ tv = .string ⟨(formL (es.take k)).toArray⟩ ∧ Below w.heap.size w wr) (fun _ _ iv _ => n - (intOf iv).toNat)
  case atStart => exact ⟨0, Nat.zero_le _, rfl, rfl, Below.refl _ _⟩
  case round =>
    obtain ⟨k, hk, rfl, rfl, hbel⟩ := hrel
    have HW := hidM hbel
    clear hbel
    by_cases hlt : k < n
    · obtain ⟨b1, o1, rfl, e3⟩ := HAB.out wr k HW.out hlt
      obtain ⟨x0, x1, x2⟩ := e3 k (by rw [← HL.out]; exact hlt)
      have hrk := HRT.out k hlt
      have hnk := HNX.out k hlt
      have hlk := HLN.out k (by omega)
      clear e3 HAB HRT HNX HLN HAL HL
      obtain ⟨F1, hq1⟩ : ∃ F1, F1 = formL (es.take (k + 1)) := ⟨_, rfl⟩
      rw [← hq1] at hnk
      have HQS : Hid ((⟨(formL (es.take (k + 1))).toArray⟩ : ByteArray) = ⟨F1.toArray⟩) := by unfold Hid; rw [← hq1]
      clear hq1
      generalize formL (es.take k) = F0 at *
      generalize es.getD k noE = ek at *
      obtain ⟨m, nm, id⟩ := ek
      simp only at x0 x1 x2
      obtain ⟨q1, q2, q3, q4, q5⟩ := entL_len hrk
      obtain ⟨r1, r2, r3, r4⟩ := right_parts hrk
      simp only at q2 q3 q4 q5 r1
      have HT0 : Hid (∀ V, Calls Tryd.prog 26 #[.int .i64 m] V fun e w' => e = .returned (.string ⟨(octZ m).toArray⟩) ∧ Below V.heap.size V w') := fun V => by
        have h := rmode_any m V
        have hm : modeT m = ⟨(octZ m).toArray⟩ := if_pos r1
        rw [hm] at h
        exact h
      have HU0 := hidM (fun V => runhex_any id V (by omega) q5)
      have hO : (⟨(octZ m).toArray⟩ : ByteArray).size ≤ 6 := by rw [size_mk]; exact q2
      have hU : (⟨(unhexL id.data.toList).toArray⟩ : ByteArray).size ≤ 20 := by rw [size_mk, unhexL_len, len_size]; omega
      have hF : (⟨F0.toArray⟩ : ByteArray).size ≤ 100000 := by rw [size_mk]; omega
      have HF1 : Hid ((⟨F0.toArray⟩ ++ (⟨(octZ m).toArray⟩ ++ ⟨#[32]⟩ ++ nm ++ ⟨#[0]⟩ ++ ⟨(unhexL id.data.toList).toArray⟩) : ByteArray) = ⟨F1.toArray⟩) := by
        apply bytes_ext
        rw [hnk]
        unfold entL
        simp [ByteArray.data_append]
      clear hrk hnk hlk q1 q2 q4 q5 r1 r2 r3 r4
      generalize (⟨(octZ m).toArray⟩ : ByteArray) = O at *
      generalize (⟨(unhexL id.data.toList).toArray⟩ : ByteArray) = U at *
      generalize (⟨F0.toArray⟩ : ByteArray) = S0 at *
      generalize (⟨F1.toArray⟩ : ByteArray) = S1 at *
      have HS0 : Hid (TxS w wr.heap.size m nm id (wr.alloc (.cells #[.int .i64 m, .string nm, .string id] 29))) := ⟨HW.out.alloc HW.out.size _, heap_alloc_new _ _⟩
      have n1 : ¬ 9223372036854775807 < O.size + 1 := by omega
      have n2 : ¬ 9223372036854775807 < O.size + 1 + nm.size := by omega
      have n3 : ¬ 9223372036854775807 < O.size + 1 + nm.size + 1 := by omega
      have n4 : ¬ 9223372036854775807 < O.size + 1 + nm.size + 1 + U.size := by omega
      have n5 : ¬ 9223372036854775807 < S0.size + (O.size + 1 + nm.size + 1 + U.size) := by omega
      go_upto_region 5 with fail
      generalize wr.alloc (.cells #[.int .i64 m, .string nm, .string id] 29) = W at *
      generalize wr.heap.size = B at *
      have HT : Hid (∀ V, Hid (TxS w B m nm id V) → _) := fun V hV => TxS.call (HT0.out V) hV
      have HU : Hid (∀ V, Hid (TxS w B m nm id V) → _) := fun V hV => TxS.call (HU0.out V) hV
      clear HT0 HU0 HW x0 x1 x2
      obtain ⟨c0, c1, c2, _⟩ := TxS.full HS0.out
      go_region_held3 (fun w' => w'.cell? ⟨B, 0, none⟩ = some (.int .i64 m) ∧ w'.cell? ⟨B, 1, none⟩ = some (.string nm) ∧ w'.cell? ⟨B, 2, none⟩ = some (.string id) ∧ Hid (TxS w B m nm id w'))
        (first | exact hS2 | exact hS1 | exact TxS.full (Hid.out (by repeat (first | exact hS2.2.2.2 | exact hS1.2.2.2 | exact HS0 | apply TxS.drew | apply TxS.drewN))))
        (first
          | (go_at_call 26; with_reducible refine (HT.out _ (by repeat (first | exact hS2.2.2.2 | exact hS1.2.2.2 | exact HS0 | apply TxS.drew | apply TxS.drewN))).mono ?_; rintro _ v1 ⟨rfl, hS1⟩)
          | (go_at_call 35; with_reducible refine (HU.out _ (by repeat (first | exact hS2.2.2.2 | exact hS1.2.2.2 | exact HS0 | apply TxS.drew | apply TxS.drewN))).mono ?_; rintro _ v2 ⟨rfl, hS2⟩))
      have HB9 := hidM hS2.2.2.2.out.bel
      clear hS1 hS2 HS0 HT HU c0 c1 c2 n1 n2 n3 n4 n5
      go_wp2
      go_roundw
      case rel => exact ⟨k + 1, by omega, by go_num, by rw [HF1.out, HQS.out], HB9.out⟩
      case measure => simp [intOf]; omega
    · obtain rfl : k = n := by omega
      clear HAB HRT HNX HLN
      rw [HAL.out]
      go_wp2
      go_ret
      exact ⟨rfl, HW.out⟩
end Go.Proofs.YtccohagdfpcplaaDoor
