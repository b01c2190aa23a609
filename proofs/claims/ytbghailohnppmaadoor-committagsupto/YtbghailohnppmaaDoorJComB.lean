/-
  Walks of commit: a line's text, who and when.
  Walks of commit: numbers, minutes, the last blank; whatever isn't in form is given up by a panic.
-/
import Derived.Test.YtbghailohnppmaaDoorJComM
namespace Go.Proofs.YtbghailohnppmaaDoor
open Go.RowKit

def lineB (l : List UInt8) : Bool := !l.isEmpty && decide (l.length ≤ 100) && !l.contains 10 && !l.contains 0
theorem index_has (l : List UInt8) (c : UInt8) : decide (0 ≤ Lib.indexByte l c) = l.contains c := by
  cases e : splitC c l with
  | none =>
    obtain ⟨h1, h2⟩ := split_none e
    rw [h1]
    simp [h2]
  | some pq =>
    obtain ⟨p, q⟩ := pq
    obtain ⟨h1, h2, _⟩ := split_some e
    rw [h1, h2]
    simp
set_option maxHeartbeats 1600000 in
theorem line_any (s : ByteArray) (w : World) : Calls Tryd.prog 14 #[.string s] w fun e w' => e = .returned (.bool (lineB s.data.toList)) ∧ w' = w := by
  have HC : Hid (∀ c : UInt8, Calls Tryd.prog 34 #[.string s, .string ⟨#[c]⟩] w fun e w' => e = .returned (.bool (s.data.toList.contains c)) ∧ w' = w) := fun c => by
    rw [← index_has]
    exact Tryd.strings_Contains_one s c w
  have HR : Hid (lineB s.data.toList = (!s.toList.isEmpty && decide (s.size ≤ 100) && !s.data.toList.contains 10 && !s.data.toList.contains 0)) := by
    unfold Hid lineB
    rw [Lib.toList_data, sl_len]
  generalize lineB s.data.toList = R at *
  have H10 := hidM (HC.out 10)
  have H0 := hidM (HC.out 0)
  clear HC
  generalize s.data.toList.contains 10 = x10 at *
  generalize s.data.toList.contains 0 = x0 at *
  cases he : s.toList.isEmpty with
  | true =>
    have HR2 : Hid (R = false) := by unfold Hid; rw [HR.out, he]; rfl
    clear HR
    go_enter Tryd.func14, Tryd.ntmps14
    go_wp2
    go_ret
    exact ⟨by rw [HR2.out]; rfl, rfl⟩
  | false =>
    by_cases hz : s.size ≤ 100
    · have g1 : (s.size : Int) ≤ 100 := by omega
      have HR2 : Hid (R = (!x10 && !x0)) := by unfold Hid; rw [HR.out, he]; simp [hz]
      clear HR
      cases x10 with
      | true =>
        have HR3 : Hid (R = false) := HR2.out
        clear HR2
        go_enter Tryd.func14, Tryd.ntmps14
        go_wp2_with fail
        refine H10.out.mono ?_
        rintro _ w1 ⟨rfl, hw⟩
        rw [hw]
        go_wp2
        go_ret
        exact ⟨by rw [HR3.out]; rfl, rfl⟩
      | false =>
        have HR3 : Hid (R = !x0) := HR2.out
        clear HR2
        go_enter Tryd.func14, Tryd.ntmps14
        go_wp2_with fail
        refine H10.out.mono ?_
        rintro _ w1 ⟨rfl, hw⟩
        rw [hw]
        go_wp2_with fail
        refine H0.out.mono ?_
        rintro _ w1 ⟨rfl, hw⟩
        rw [hw]
        go_wp2
        go_ret
        exact ⟨by rw [HR3.out]; rfl, rfl⟩
    · have g1 : ¬ (s.size : Int) ≤ 100 := by omega
      have HR2 : Hid (R = false) := by unfold Hid; rw [HR.out]; simp [hz]
      clear HR
      go_enter Tryd.func14, Tryd.ntmps14
      go_wp2
      go_ret
      exact ⟨by rw [HR2.out]; rfl, rfl⟩
/-- who and when, as a value -/
structure Sb where
  who : ByteArray
  time : Int
  zone : Int
def sgOf (s : Sb) : Sg := ⟨s.who.data.toList, s.time, s.zone⟩
def sbV (s : Sb) : Value := .agg #[.string s.who, .int .i64 s.time, .int .i64 s.zone]
def signedG (s : Sg) : Bool := lineB s.who && decide (0 ≤ s.time) && decide (s.time ≤ 253402300799) && decide (-840 ≤ s.zone) && decide (s.zone ≤ 840)
set_option maxHeartbeats 1600000 in
theorem signed_any (s : Sb) (w : World) : Calls Tryd.prog 33 #[sbV s] w fun e w' => e = .returned (.bool (signedG (sgOf s))) ∧ Below w.heap.size w w' := by
  obtain ⟨who, t, z⟩ := s
  unfold sbV
  simp only
  have HL := hidM (fun V => line_any who V)
  have HR : Hid (signedG (sgOf ⟨who, t, z⟩) = (lineB who.data.toList && decide (0 ≤ t) && decide (t ≤ 253402300799) && decide (-840 ≤ z) && decide (z ≤ 840))) := rfl
  generalize signedG (sgOf ⟨who, t, z⟩) = R at *
  generalize lineB who.data.toList = L at *
  have HB0 : Hid (Below w.heap.size w (w.alloc (.cells #[.string who, .int .i64 t, .int .i64 z] 24))) := (Below.refl _ w).alloc (Nat.le_refl _) _
  cases L with
  | false =>
    have HV : Hid (R = false) := by unfold Hid; rw [HR.out]; rfl
    clear HR
    go_enter Tryd.func33, Tryd.ntmps33
    go_wp2_with fail
    refine (HL.out _).mono ?_
    rintro _ w1 ⟨rfl, hw⟩
    rw [hw]
    clear hw
    go_wp2
    go_ret
    exact ⟨by rw [HV.out]; rfl, HB0.out⟩
  | true =>
    by_cases h0 : 0 ≤ t
    · by_cases h1 : t ≤ 253402300799
      · by_cases h2 : -840 ≤ z
        · by_cases h3 : z ≤ 840
          · have HV : Hid (R = true) := by unfold Hid; rw [HR.out]; simp [h0, h1, h2, h3]
            clear HR
            go_enter Tryd.func33, Tryd.ntmps33
            go_wp2_with fail
            refine (HL.out _).mono ?_
            rintro _ w1 ⟨rfl, hw⟩
            rw [hw]
            clear hw
            go_wp2
            go_ret
            exact ⟨by rw [HV.out]; rfl, HB0.out⟩
          · have h3b : decide (z ≤ 840) = false := by simp; omega
            have HV : Hid (R = false) := by unfold Hid; rw [HR.out]; simp [h3]
            clear HR
            go_enter Tryd.func33, Tryd.ntmps33
            go_wp2_with fail
            refine (HL.out _).mono ?_
            rintro _ w1 ⟨rfl, hw⟩
            rw [hw]
            clear hw
            go_wp2
            go_ret
            exact ⟨by rw [HV.out]; rfl, HB0.out⟩
        · have HV : Hid (R = false) := by unfold Hid; rw [HR.out]; simp [h2]
          clear HR
          go_enter Tryd.func33, Tryd.ntmps33
          go_wp2_with fail
          refine (HL.out _).mono ?_
          rintro _ w1 ⟨rfl, hw⟩
          rw [hw]
          clear hw
          go_wp2
          go_ret
          exact ⟨by rw [HV.out]; rfl, HB0.out⟩
      · have HV : Hid (R = false) := by unfold Hid; rw [HR.out]; simp [h1]
        clear HR
        go_enter Tryd.func33, Tryd.ntmps33
        go_wp2_with fail
        refine (HL.out _).mono ?_
        rintro _ w1 ⟨rfl, hw⟩
        rw [hw]
        clear hw
        go_wp2
        go_ret
        exact ⟨by rw [HV.out]; rfl, HB0.out⟩
    · have HV : Hid (R = false) := by unfold Hid; rw [HR.out]; simp [h0]
      clear HR
      go_enter Tryd.func33, Tryd.ntmps33
      go_wp2_with fail
      refine (HL.out _).mono ?_
      rintro _ w1 ⟨rfl, hw⟩
      rw [hw]
      clear hw
      go_wp2
      go_ret
      exact ⟨by rw [HV.out]; rfl, HB0.out⟩
theorem conv_two {wr : World} (c1 c2 : UInt8) (y1 y2 : Nat) (h1 : c1.toNat = y1) (h2 : c2.toNat = y2) : (convert 57 9 (.slice (some ⟨wr.heap.size, 0, none⟩) 2 2)).run Tryd.prog (wr.alloc (.cells #[.int .u8 (y1 : Int), .int .u8 (y2 : Int)] 5)) = .ok (.string ⟨#[c1, c2]⟩) (wr.alloc (.cells #[.int .u8 (y1 : Int), .int .u8 (y2 : Int)] 5)) := by
  subst h1 h2
  have h : OwnB (wr.alloc (.cells #[.int .u8 (c1.toNat : Int), .int .u8 (c2.toNat : Int)] 5)) wr.heap.size (.slice (some ⟨wr.heap.size, 0, none⟩) 2 2) [c1, c2] := ⟨rfl, .inr ⟨wr.heap.size, 2, #[.int .u8 (c1.toNat : Int), .int .u8 (c2.toNat : Int)], rfl, Nat.le_refl _, heap_alloc_new _ _, Nat.le_refl _, by decide, rfl, rfl⟩⟩
  exact conv_own h
theorem two_byte (n : Nat) : (((UInt8.ofNat (48 + n)).toNat : Nat) : Int) = (48 + (n : Int)) % 256 := by
  rw [UInt8.toNat_ofNat']
  omega
set_option maxRecDepth 10000 in
theorem two_any (n : Nat) (w : World) (hn : n ≤ 1000000000000000000) : Calls Tryd.prog 65 #[.int .i64 (n : Int)] w fun e w' => e = .returned (.string ⟨(twoL n).toArray⟩) ∧ Below w.heap.size w w' := by
  have b1 := two_byte (n / 10)
  have b2 := two_byte (n % 10)
  have HC := hidM (fun W => conv_two (wr := W) (UInt8.ofNat (48 + n / 10)) (UInt8.ofNat (48 + n % 10)) _ _ rfl rfl)
  have e1 : (48 + (n : Int) / 10) % 256 = (((UInt8.ofNat (48 + n / 10)).toNat : Nat) : Int) := by rw [b1]; omega
  have e2 : 48 + (n : Int) % 10 = (((UInt8.ofNat (48 + n % 10)).toNat : Nat) : Int) := by rw [b2]; omega
  have e3 : (⟨#[UInt8.ofNat (48 + n / 10), UInt8.ofNat (48 + n % 10)]⟩ : ByteArray) = ⟨(twoL n).toArray⟩ := rfl
  rw [e3] at HC
  clear b1 b2 e3
  generalize (twoL n).toArray = A at *
  generalize (UInt8.ofNat (48 + n / 10)).toNat = x1 at *
  generalize (UInt8.ofNat (48 + n % 10)).toNat = x2 at *
  go_enter Tryd.func65, Tryd.ntmps65
  go_wp2_with fail
  rw [HC.out]
  go_wp2
  go_ret
  exact ⟨rfl, (Below.refl _ _).alloc (Nat.le_refl _) _⟩
theorem ba_app (x y : List UInt8) : (⟨x.toArray⟩ : ByteArray) ++ ⟨y.toArray⟩ = ⟨(x ++ y).toArray⟩ := by
  apply ByteArray.ext
  simp [ByteArray.data_append]
set_option maxRecDepth 10000 in
theorem zone_any (z : Int) (w : World) (hz : z.natAbs ≤ 6000000000000000000) : Calls Tryd.prog 52 #[.int .i64 z] w fun e w' => e = .returned (.string ⟨(zoneL z).toArray⟩) ∧ Below w.heap.size w w' := by
  obtain ⟨n, hn⟩ : ∃ n, z.natAbs = n := ⟨_, rfl⟩
  have H1 := hidM (fun V => two_any (n / 60) V (by omega))
  have H2 := hidM (fun V => two_any (n % 60) V (by omega))
  have e1 : (n : Int) / 60 = ((n / 60 : Nat) : Int) := rfl
  have e2 : (n : Int) % 60 = ((n % 60 : Nat) : Int) := rfl
  rw [← e1] at H1
  rw [← e2] at H2
  clear e1 e2
  have HA : Hid (zoneL z = (if z < 0 then 45 else 43) :: (twoL (n / 60) ++ twoL (n % 60))) := by unfold Hid; rw [← hn]; rfl
  have l1 : (twoL (n / 60)).length = 2 := rfl
  have l2 : (twoL (n % 60)).length = 2 := rfl
  generalize twoL (n / 60) = T1 at *
  generalize twoL (n % 60) = T2 at *
  obtain ⟨S1, hS1⟩ : ∃ S, S = (⟨T1.toArray⟩ : ByteArray) := ⟨_, rfl⟩
  obtain ⟨S2, hS2⟩ : ∃ S, S = (⟨T2.toArray⟩ : ByteArray) := ⟨_, rfl⟩
  have s1 : S1.size = 2 := by rw [hS1]; show T1.toArray.size = 2; rw [List.size_toArray]; exact l1
  have s2 : S2.size = 2 := by rw [hS2]; show T2.toArray.size = 2; rw [List.size_toArray]; exact l2
  rw [← hS1] at H1
  rw [← hS2] at H2
  have n2 : ¬ 9223372036854775807 < 3 + S2.size := by omega
  have HS1 := hidM hS1
  have HS2 := hidM hS2
  clear hS1 hS2 l1 l2
  by_cases h0 : z < 0
  · obtain rfl : z = -(n : Int) := by omega
    have n1 : ¬ 9223372036854775807 < (⟨#[45]⟩ : ByteArray).size + S1.size := by show ¬ _ < 1 + S1.size; omega
    have HR : Hid ((⟨#[45]⟩ : ByteArray) ++ S1 ++ S2 = ⟨(zoneL (-(n : Int))).toArray⟩) := by
      unfold Hid
      rw [HA.out, if_pos h0, HS1.out, HS2.out, show (⟨#[45]⟩ : ByteArray) = ⟨[45].toArray⟩ from rfl, ba_app, ba_app]; rfl
    obtain ⟨Q, hQ⟩ : ∃ Q, (⟨#[45]⟩ : ByteArray) ++ S1 = Q := ⟨_, rfl⟩
    have q3 : Q.size = 3 := by rw [← hQ, ByteArray.size_append, s1]; rfl
    have n2 : ¬ 9223372036854775807 < Q.size + S2.size := by omega
    rw [hQ] at HR
    go_enter Tryd.func52, Tryd.ntmps52
    go_wp2_with fail
    refine (H1.out _).mono ?_
    rintro _ w1 ⟨rfl, hb1⟩
    have HB1 := hidM hb1
    clear hb1
    go_wp2_with fail
    refine (H2.out _).mono ?_
    rintro _ w2 ⟨rfl, hb2⟩
    have HB2 := hidM (HB1.out.trans (hb2.mono HB1.out.size))
    clear hb2
    go_wp2
    go_ret
    exact ⟨by rw [← HR.out]; rfl, HB2.out⟩
  · obtain rfl : z = (n : Int) := by omega
    have n1 : ¬ 9223372036854775807 < (⟨#[43]⟩ : ByteArray).size + S1.size := by show ¬ _ < 1 + S1.size; omega
    have HR : Hid ((⟨#[43]⟩ : ByteArray) ++ S1 ++ S2 = ⟨(zoneL (n : Int)).toArray⟩) := by
      unfold Hid
      rw [HA.out, if_neg h0, HS1.out, HS2.out, show (⟨#[43]⟩ : ByteArray) = ⟨[43].toArray⟩ from rfl, ba_app, ba_app]; rfl
    obtain ⟨Q, hQ⟩ : ∃ Q, (⟨#[43]⟩ : ByteArray) ++ S1 = Q := ⟨_, rfl⟩
    have q3 : Q.size = 3 := by rw [← hQ, ByteArray.size_append, s1]; rfl
    have n2 : ¬ 9223372036854775807 < Q.size + S2.size := by omega
    rw [hQ] at HR
    go_enter Tryd.func52, Tryd.ntmps52
    go_wp2_with fail
    refine (H1.out _).mono ?_
    rintro _ w1 ⟨rfl, hb1⟩
    have HB1 := hidM hb1
    clear hb1
    go_wp2_with fail
    refine (H2.out _).mono ?_
    rintro _ w2 ⟨rfl, hb2⟩
    have HB2 := hidM (HB1.out.trans (hb2.mono HB1.out.size))
    clear hb2
    go_wp2
    go_ret
    exact ⟨by rw [← HR.out]; rfl, HB2.out⟩
theorem itoa_len (n : Int) (h0 : -9223372036854775808 ≤ n) (h1 : n ≤ 9223372036854775807) : (Lib.itoa n).length ≤ 21 := by
  unfold Lib.itoa
  have key : ∀ u : Nat, u ≤ 9223372036854775808 → (Lib.decDigits u).length ≤ 20 := fun u hu => by
    rw [Lib.decDigits_length]
    exact Lib.nDigits_le20 u (by omega)
  split
  · simp only [List.length_cons]
    have := key n.natAbs (by omega)
    omega
  · have := key n.toNat (by omega)
    omega
theorem zone_len (z : Int) : (zoneL z).length = 5 := rfl
def sgB (s : Sb) : ByteArray := ⟨(sgL (sgOf s)).toArray⟩
structure SgX (w : World) (B : Nat) (who : ByteArray) (t z : Int) (V : World) : Prop where
  bel : Below w.heap.size w V
  row : V.heap[B]? = some (.cells #[.string who, .int .i64 t, .int .i64 z] 24 (0, 0))
  laid : LaidAt V
theorem SgX.next {w V w' : World} {B : Nat} {who : ByteArray} {t z : Int} (H : SgX w B who t z V) (hb : Below V.heap.size V w') : SgX w B who t z w' := ⟨H.bel.trans (hb.mono H.bel.size), by
  have hlt : B < V.heap.size := (Array.getElem?_eq_some_iff.1 H.row).1
  rw [hb.block B hlt]; exact H.row, H.laid.below hb⟩
theorem SgX.drew {w V : World} {B : Nat} {who : ByteArray} {t z : Int} (H : Hid (SgX w B who t z V)) : Hid (SgX w B who t z V.drew) := H.out.next ((Below.refl _ V).trans ⟨rfl, rfl, rfl, Nat.le_refl _, fun _ _ => rfl⟩)
theorem SgX.drewN {w V : World} {B : Nat} {who : ByteArray} {t z : Int} {m : Nat} (H : Hid (SgX w B who t z V)) : Hid (SgX w B who t z (V.drewN m)) := H.out.next (below_drewN (Below.refl _ _) m)
theorem SgX.full {w V : World} {B : Nat} {who : ByteArray} {t z : Int} (H : SgX w B who t z V) : V.cell? ⟨B, 0, none⟩ = some (.string who) ∧ V.cell? ⟨B, 1, none⟩ = some (.int .i64 t) ∧ V.cell? ⟨B, 2, none⟩ = some (.int .i64 z) ∧ Hid (SgX w B who t z V) := by
  refine ⟨?_, ?_, ?_, H⟩ <;> rw [cell_of_row _ _ _ _ 24 (0, 0) H.row] <;> rfl
theorem SgX.call {w V : World} {B f : Nat} {who : ByteArray} {t z : Int} {args : Array Value} {v : Value} (h : Calls Tryd.prog f args V fun x w' => x = .returned v ∧ Below V.heap.size V w') (H : Hid (SgX w B who t z V)) :
    Calls Tryd.prog f args V fun x w' => x = .returned v ∧ w'.cell? ⟨B, 0, none⟩ = some (.string who) ∧ w'.cell? ⟨B, 1, none⟩ = some (.int .i64 t) ∧ w'.cell? ⟨B, 2, none⟩ = some (.int .i64 z) ∧ Hid (SgX w B who t z w') :=
  h.mono fun _ _ ⟨hx, hb⟩ => ⟨hx, (H.out.next hb).full⟩
set_option maxHeartbeats 1600000 in
set_option maxRecDepth 10000 in
theorem signature_any (s : Sb) (w : World) (hL : LaidAt w) (h1 : s.who.size ≤ 140737488355328) (h0 : -9223372036854775808 ≤ s.time) (h2 : s.time ≤ 9223372036854775807) (hz : s.zone.natAbs ≤ 6000000000000000000) :
    Calls Tryd.prog 29 #[sbV s] w fun e w' => e = .returned (.string (sgB s)) ∧ Below w.heap.size w w' := by
  have HR : Hid (sgB s = s.who ++ (⟨#[32]⟩ : ByteArray) ++ ⟨(Lib.itoa s.time).toArray⟩ ++ (⟨#[32]⟩ : ByteArray) ++ ⟨(zoneL s.zone).toArray⟩) := by
    unfold Hid sgB sgL sgOf
    apply ByteArray.ext
    simp [ByteArray.data_append]
  generalize sgB s = R at *
  obtain ⟨who, t, z⟩ := s
  unfold sbV
  simp only at h1 h0 h2 hz HR ⊢
  have HI := hidM (fun V hV => itoa_any t h0 h2 V hV)
  have HZ := hidM (fun V => zone_any z V hz)
  have z1 : (⟨(Lib.itoa t).toArray⟩ : ByteArray).size ≤ 21 := by
    show (Lib.itoa t).toArray.size ≤ 21
    rw [List.size_toArray]; exact itoa_len t h0 h2
  have z2 : (⟨(zoneL z).toArray⟩ : ByteArray).size ≤ 5 := Nat.le_refl 5
  generalize (⟨(Lib.itoa t).toArray⟩ : ByteArray) = I at *
  generalize (⟨(zoneL z).toArray⟩ : ByteArray) = Z at *
  have HX : Hid (SgX w w.heap.size who t z (w.alloc (.cells #[.string who, .int .i64 t, .int .i64 z] 24))) := ⟨(Below.refl _ w).alloc (Nat.le_refl _) _, heap_alloc_new w _, hL.below ((Below.refl _ w).alloc (Nat.le_refl _) _)⟩
  obtain ⟨Q1, hQ1⟩ : ∃ Q, who ++ (⟨#[32]⟩ : ByteArray) = Q := ⟨_, rfl⟩
  have n0 : ¬ 9223372036854775807 < who.size + 1 := by omega
  have q1 : Q1.size ≤ 140737488355329 := by rw [← hQ1, ByteArray.size_append]; show who.size + 1 ≤ _; omega
  obtain ⟨Q2, hQ2⟩ : ∃ Q, Q1 ++ I = Q := ⟨_, rfl⟩
  have n1 : ¬ 9223372036854775807 < Q1.size + I.size := by omega
  have q2 : Q2.size ≤ 140737488355350 := by rw [← hQ2, ByteArray.size_append]; omega
  obtain ⟨Q3, hQ3⟩ : ∃ Q, Q2 ++ (⟨#[32]⟩ : ByteArray) = Q := ⟨_, rfl⟩
  have n2 : ¬ 9223372036854775807 < Q2.size + 1 := by omega
  have q3 : Q3.size ≤ 140737488355351 := by rw [← hQ3, ByteArray.size_append]; show Q2.size + 1 ≤ _; omega
  have n3 : ¬ 9223372036854775807 < Q3.size + Z.size := by omega
  rw [hQ1, hQ2, hQ3] at HR
  have HI2 : Hid (∀ V, Hid (SgX w w.heap.size who t z V) → _) := fun V hV => SgX.call (HI.out V hV.out.laid) hV
  have HZ2 : Hid (∀ V, Hid (SgX w w.heap.size who t z V) → _) := fun V hV => SgX.call (HZ.out V) hV
  clear HI HZ hL
  go_enter Tryd.func29, Tryd.ntmps29
  go_wp2_with fail
  generalize w.alloc (.cells #[.string who, .int .i64 t, .int .i64 z] 24) = W at *
  obtain ⟨B, hB⟩ : ∃ B, w.heap.size = B := ⟨_, rfl⟩
  rw [hB] at HX HI2 HZ2
  rw [hB]
  obtain ⟨c0, c1, c2, _⟩ := SgX.full HX.out
  go_region_held3 (fun w' => w'.cell? ⟨B, 0, none⟩ = some (.string who) ∧ w'.cell? ⟨B, 1, none⟩ = some (.int .i64 t) ∧ w'.cell? ⟨B, 2, none⟩ = some (.int .i64 z) ∧ Hid (SgX w B who t z w'))
    (first | exact hS2 | exact hS1 | exact SgX.full (Hid.out (by repeat (first | exact hS2.2.2.2 | exact hS1.2.2.2 | exact HX | apply SgX.drew | apply SgX.drewN))))
    (first
      | (go_at_call 51; with_reducible refine (HI2.out _ (by repeat (first | exact hS2.2.2.2 | exact hS1.2.2.2 | exact HX | apply SgX.drew | apply SgX.drewN))).mono ?_; rintro _ v1 ⟨rfl, hS1⟩)
      | (go_at_call 52; with_reducible refine (HZ2.out _ (by repeat (first | exact hS2.2.2.2 | exact hS1.2.2.2 | exact HX | apply SgX.drew | apply SgX.drewN))).mono ?_; rintro _ v2 ⟨rfl, hS2⟩))
  all_goals (go_wp2; go_ret)
  all_goals exact ⟨by rw [HR.out]; rfl, hS2.2.2.2.out.bel⟩
end Go.Proofs.YtbghailohnppmaaDoor
namespace Go.Proofs.YtbghailohnppmaaDoor
open Go.RowKit

/-- the panic with which reading gives up -/
def gave : Ending := .panicked [{ v := .iface 85 (.agg #[]), recovered := false }]
structure GT (w : World) : Prop where
  laid : LaidAt w
  e3 : ∃ te pe, w.cell? ⟨3, 0, none⟩ = some (.iface te pe)
  e4 : ∃ te pe, w.cell? ⟨4, 0, none⟩ = some (.iface te pe)
theorem GT.below {w w' : World} (h : GT w) (hb : Below w.heap.size w w') : GT w' := by
  obtain ⟨h1, ⟨a, b, h2⟩, ⟨c, d, h3⟩⟩ := h
  exact ⟨h1.below hb, ⟨a, b, (hb.cell (p := ⟨3, 0, none⟩) (World.block_lt_of_cell? w _ h2)).trans h2⟩, ⟨c, d, (hb.cell (p := ⟨4, 0, none⟩) (World.block_lt_of_cell? w _ h3)).trans h3⟩⟩
theorem atoi_ok (s : ByteArray) (w : World) (n : Int) (hs : s.size ≤ 281474976710656) (h : Lib.atoiAll s.data.toList = .ok n) :
    Calls Tryd.prog 81 #[.string s] w fun e w' => e = .returned (.tuple #[.int .i64 n, .nilIface]) ∧ Below w.heap.size w w' := by
  refine (Tryd.strconv_Atoi_ok s (by omega) n h w).mono ?_
  rintro e w' ⟨he, hw⟩
  refine ⟨he, ?_⟩
  rcases hw with rfl | ⟨t, rfl⟩
  · exact Below.refl _ _
  · exact Lib.bytesWorld_below _ _ _
def AtoiBad (w : World) (e : Ending) (w' : World) : Prop := ∃ (k : Int) (N : Nat), -9223372036854775808 ≤ k ∧ k ≤ 9223372036854775807 ∧ e = .returned (.tuple #[.int .i64 k, .iface 119 (.pointer (some ⟨N, 0, none⟩))]) ∧ Below w.heap.size w w'
theorem atoi_bad (s : ByteArray) (w : World) (hG : GT w) (hs : s.size ≤ 281474976710656) (h : ∀ n, Lib.atoiAll s.data.toList ≠ .ok n) :
    Calls Tryd.prog 81 #[.string s] w fun e w' => AtoiBad w e w' := by
  obtain ⟨-, ⟨a, b, h3⟩, ⟨c, d, h4⟩⟩ := hG
  cases e : Lib.atoiAll s.data.toList with
  | ok v => exact absurd e (h v)
  | «syntax» =>
    refine (Tryd.strconv_Atoi_syntax s hs e _ w h3 (.inr ⟨a, b, rfl⟩)).mono ?_
    rintro x w' ⟨N, hx, -, -, hb⟩
    exact ⟨0, N, by decide, by decide, hx, hb⟩
  | range =>
    refine (Tryd.strconv_Atoi_range s hs e _ w h4 (.inr ⟨c, d, rfl⟩)).mono ?_
    rintro x w' ⟨N, hx, -, -, hb⟩
    obtain ⟨b0, b1⟩ := Lib.atoiSat_bounds s.data.toList
    exact ⟨_, N, b0, b1, hx, hb⟩
theorem neq_nil (w : World) : (binOp .neq 61 .nilIface .nilIface).run Tryd.prog w = .ok (.bool false) w := by kernel_rfl
theorem neq_some (p : Addr) (w : World) : (binOp .neq 61 (.iface 119 (.pointer (some p))) .nilIface).run Tryd.prog w = .ok (.bool true) w := by kernel_rfl

theorem number_ok (s : ByteArray) (w : World) (hG : GT w) (n : Int) (hs : s.size ≤ 281474976710656) (h : timeP s.data.toList = some n) :
    Calls Tryd.prog 71 #[.string s] w fun e w' => e = .returned (.int .i64 n) ∧ Below w.heap.size w w' := by
  obtain ⟨h1, h2, h3⟩ := timeP_some h
  have ha := atoi_itoa n h2 h3
  rw [h1] at ha
  have HA := hidM (atoi_ok s w n hs ha)
  have HI := hidM (fun V hV => itoa_any n h2 h3 V hV)
  have hE : (⟨(Lib.itoa n).toArray⟩ : ByteArray) = s := by rw [h1]
  rw [hE] at HI
  have HG := hidM hG.laid
  have hnn := neq_nil
  clear h hG ha h1 hE
  go_enter Tryd.func71, Tryd.ntmps71
  go_wp2_with fail
  refine HA.out.mono ?_
  rintro _ w1 ⟨rfl, hb1⟩
  have HB1 := hidM hb1
  have HG1 := hidM (HG.out.below hb1)
  clear hb1
  go_wp2_with fail
  refine (HI.out _ HG1.out).mono ?_
  rintro _ w2 ⟨rfl, hb2⟩
  have HB2 := hidM (HB1.out.trans (hb2.mono HB1.out.size))
  clear hb2
  go_wp2
  go_ret
  exact ⟨rfl, HB2.out⟩
theorem number_no (s : ByteArray) (w : World) (hG : GT w) (hs : s.size ≤ 281474976710656) (h : timeP s.data.toList = none) :
    Calls Tryd.prog 71 #[.string s] w fun e w' => e = gave ∧ Below w.heap.size w w' := by
  cases e : Lib.atoiAll s.data.toList with
  | ok n =>
    have HA := hidM (atoi_ok s w n hs e)
    obtain ⟨h2, h3⟩ := Lib.atoiAll_bounds e
    have HI := hidM (fun V hV => itoa_any n h2 h3 V hV)
    have hne : ¬ Lib.itoa n = s.data.toList := fun hc => by
      unfold timeP at h
      rw [e] at h
      simp only at h
      rw [if_pos hc] at h
      cases h
    obtain ⟨T, hT⟩ : ∃ T : ByteArray, T = ⟨(Lib.itoa n).toArray⟩ := ⟨_, rfl⟩
    have hb : (T.toList == s.toList) = false := by
      rw [hT, Lib.toList_data, Lib.toList_data]
      simpa using hne
    have hb2 : (T.toList != s.toList) = true := by rw [bne, hb]; rfl
    rw [← hT] at HI
    have HG := hidM hG.laid
    have hnn := neq_nil
    clear h hG e hne hT
    go_enter Tryd.func71, Tryd.ntmps71
    go_wp2_with fail
    refine HA.out.mono ?_
    rintro _ w1 ⟨rfl, hb1⟩
    have HB1 := hidM hb1
    have HG1 := hidM (HG.out.below hb1)
    clear hb1
    go_wp2_with fail
    refine (HI.out _ HG1.out).mono ?_
    rintro _ w2 ⟨rfl, hb2⟩
    have HB2 := hidM (HB1.out.trans (hb2.mono HB1.out.size))
    clear hb2
    go_wp2
    exact ⟨rfl, rfl, HB2.out⟩
  | _ =>
    have HA := hidM (atoi_bad s w hG hs (fun n hn => by rw [e] at hn; cases hn))
    have hnn := neq_some
    clear h hG e
    go_enter Tryd.func71, Tryd.ntmps71
    go_wp2_with fail
    refine HA.out.mono ?_
    rintro _ w1 ⟨k, N, -, -, rfl, hb1⟩
    have HB1 := hidM hb1
    clear hb1
    go_wp2
    exact ⟨rfl, rfl, HB1.out⟩
theorem div_parts {n : Int} (h2 : -9223372036854775808 ≤ n) (h3 : n ≤ 9223372036854775807) : ∃ q r : Int, n.tdiv 100 = q ∧ n.tmod 100 = r ∧ -92233720368547758 ≤ q ∧ q ≤ 92233720368547758 ∧ -99 ≤ r ∧ r ≤ 99 := by
  refine ⟨_,_, rfl, rfl, ?_⟩
  by_cases hn : 0 ≤ n
  · obtain ⟨m, rfl⟩ := Int.eq_ofNat_of_zero_le hn
    rw [show ((m : Nat) : Int).tdiv 100 = ((m / 100 : Nat) : Int) from rfl, show ((m : Nat) : Int).tmod 100 = ((m % 100 : Nat) : Int) from rfl]
    omega
  · obtain ⟨m, hm⟩ := Int.eq_ofNat_of_zero_le (show 0 ≤ -n by omega)
    obtain rfl : n = -((m : Nat) : Int) := by omega
    rw [Int.neg_tdiv, Int.neg_tmod, show ((m : Nat) : Int).tdiv 100 = ((m / 100 : Nat) : Int) from rfl, show ((m : Nat) : Int).tmod 100 = ((m % 100 : Nat) : Int) from rfl]
    omega
theorem minutes_ok (s : ByteArray) (w : World) (z : Int) (hs : s.size ≤ 281474976710656) (h : minP s.data.toList = some z) :
    Calls Tryd.prog 72 #[.string s] w fun e w' => e = .returned (.int .i64 z) ∧ Below w.heap.size w w' := by
  have hz := minP_some h
  cases e : Lib.atoiAll s.data.toList with
  | «syntax» => unfold minP at h; rw [e] at h; cases h
  | range => unfold minP at h; rw [e] at h; cases h
  | ok n =>
    have HA := hidM (atoi_ok s w n hs e)
    obtain ⟨h2, h3⟩ := Lib.atoiAll_bounds e
    obtain ⟨q, r, hq, hr, q0, q1, r0, r1⟩ := div_parts h2 h3
    have hM : q * 60 + r = z := by
      unfold minP at h
      rw [e] at h
      simp only at h
      split at h
      · injection h with h
        rw [← h]; unfold minOf; rw [hq, hr]
      · cases h
    have HZ := hidM (fun V => zone_any (q * 60 + r) V (by omega))
    rw [hM, hz] at HZ
    have hE : (⟨s.data.toList.toArray⟩ : ByteArray) = s := by cases s; rfl
    rw [hE, ← hM] at HZ
    rw [← hM]
    have hnn := neq_nil
    clear h hz hM hE e
    go_enter Tryd.func72, Tryd.ntmps72
    go_wp2_with fail
    refine HA.out.mono ?_
    rintro _ w1 ⟨rfl, hb1⟩
    have HB1 := hidM hb1
    clear hb1
    go_wp2_with fail
    refine (HZ.out _).mono ?_
    rintro _ w2 ⟨rfl, hb2⟩
    have HB2 := hidM (HB1.out.trans (hb2.mono HB1.out.size))
    clear hb2
    go_wp2
    go_ret
    exact ⟨rfl, HB2.out⟩
theorem minutes_no (s : ByteArray) (w : World) (hG : GT w) (hs : s.size ≤ 281474976710656) (h : minP s.data.toList = none) :
    Calls Tryd.prog 72 #[.string s] w fun e w' => e = gave ∧ Below w.heap.size w w' := by
  cases e : Lib.atoiAll s.data.toList with
  | ok n =>
    have HA := hidM (atoi_ok s w n hs e)
    obtain ⟨h2, h3⟩ := Lib.atoiAll_bounds e
    obtain ⟨q, r, hq, hr, q0, q1, r0, r1⟩ := div_parts h2 h3
    have hne : ¬ zoneL (q * 60 + r) = s.data.toList := fun hc => by
      unfold minP at h
      rw [e] at h
      simp only at h
      rw [if_pos (by unfold minOf; rw [hq, hr]; exact hc)] at h
      cases h
    have HZ := hidM (fun V => zone_any (q * 60 + r) V (by omega))
    obtain ⟨T, hT⟩ : ∃ T : ByteArray, T = ⟨(zoneL (q * 60 + r)).toArray⟩ := ⟨_, rfl⟩
    have hb : (T.toList == s.toList) = false := by
      rw [hT, Lib.toList_data, Lib.toList_data]
      simpa using hne
    have hb2 : (T.toList != s.toList) = true := by rw [bne, hb]; rfl
    rw [← hT] at HZ
    have hnn := neq_nil
    clear h hG e hne hT
    go_enter Tryd.func72, Tryd.ntmps72
    go_wp2_with fail
    refine HA.out.mono ?_
    rintro _ w1 ⟨rfl, hb1⟩
    have HB1 := hidM hb1
    clear hb1
    go_wp2_with fail
    refine (HZ.out _).mono ?_
    rintro _ w2 ⟨rfl, hb2⟩
    have HB2 := hidM (HB1.out.trans (hb2.mono HB1.out.size))
    clear hb2
    go_wp2
    exact ⟨rfl, rfl, HB2.out⟩
  | _ =>
    have HA := hidM (atoi_bad s w hG hs (fun n hn => by rw [e] at hn; cases hn))
    have hnn := neq_some
    clear h hG e
    go_enter Tryd.func72, Tryd.ntmps72
    go_wp2_with fail
    refine HA.out.mono ?_
    rintro _ w1 ⟨k, N, k0, k1, rfl, hb1⟩
    obtain ⟨q, r, hq, hr, q0, q1, r0, r1⟩ := div_parts k0 k1
    have HB1 := hidM hb1
    clear hb1
    go_wp2
    exact ⟨rfl, rfl, HB1.out⟩
theorem at_list (s : ByteArray) (j : Nat) (h : j < s.data.toList.length) : s.data[j]! = s.data.toList[j] := by
  have h2 : j < s.data.size := by simpa using h
  rw [getElem!_pos s.data j h2]
  simp
theorem last_idx (s : ByteArray) (c : UInt8) : (last1 c s.data.toList = none ∧ Lib.lastIndexByte s (c.toNat : Int) = -1) ∨
    ∃ p q, last1 c s.data.toList = some (p, q) ∧ Lib.lastIndexByte s (c.toNat : Int) = (p.length : Int) ∧ s.data.toList = p ++ c :: q := by
  rcases Lib.lastIndexByte_spec s (c.toNat : Int) with ⟨h1, h2⟩ | ⟨i, hi, h1, h2, h3⟩
  · refine .inl ⟨last1_no fun hc => ?_, h1⟩
    obtain ⟨j, hj, e⟩ := List.mem_iff_getElem.1 hc
    have := h2 j (by rw [← sl_len]; exact hj)
    rw [at_list s j hj, e] at this
    exact this rfl
  · have hil : i < s.data.toList.length := by rw [sl_len]; exact hi
    have hc : s.data.toList[i] = c := by
      rw [at_list s i hil] at h2
      rw [← UInt8.toNat_inj]
      omega
    have hl : s.data.toList = s.data.toList.take i ++ c :: s.data.toList.drop (i + 1) := by
      rw [← hc, ← List.drop_eq_getElem_cons hil, List.take_append_drop]
    have hn : c ∉ s.data.toList.drop (i + 1) := fun hm => by
      obtain ⟨j, hj, e⟩ := List.mem_iff_getElem.1 hm
      rw [List.getElem_drop] at e
      rw [List.length_drop] at hj
      have := h3 (i + 1 + j) (by omega) (by rw [← sl_len]; omega)
      rw [at_list s _ (by omega), e] at this
      exact this rfl
    refine .inr ⟨_,_, ?_, ?_, hl⟩
    · have := last1_app (c := c) (p := s.data.toList.take i) hn
      rw [← hl] at this
      exact this
    · rw [h1, List.length_take, Nat.min_eq_left (by omega)]
theorem cutLast_no (s : ByteArray) (w : World) (hs : s.size ≤ 281474976710656) (h : last1 32 s.data.toList = none) :
    Calls Tryd.prog 70 #[.string s] w fun e w' => e = gave ∧ Below w.heap.size w w' := by
  have HLI := hidM (fun V => Tryd.strings_LastIndex_one s ⟨#[32]⟩ rfl (by omega) V)
  have hx : Lib.lastIndexByte s 32 = -1 := by
    rcases last_idx s 32 with ⟨-, h1⟩ | ⟨p, q, h1, -⟩
    · exact h1
    · rw [h] at h1; cases h1
  have HX := hidM hx
  clear h hx
  go_enter Tryd.func70, Tryd.ntmps70
  go_wp2_with fail
  refine (HLI.out _).mono ?_
  rintro _ w1 ⟨rfl, hw1⟩
  rw [hw1]
  clear hw1 HLI
  have h32 : (((⟨#[32]⟩ : ByteArray)[0]'(by decide)).toNat : Int) = 32 := rfl
  rw [h32, HX.out]
  go_wp2
  exact ⟨rfl, rfl, Below.refl _ _⟩
set_option maxRecDepth 100000 in
theorem cutLast_ok (s : ByteArray) (w : World) (p q : List UInt8) (hs : s.size ≤ 281474976710656) (h : last1 32 s.data.toList = some (p, q)) :
    Calls Tryd.prog 70 #[.string s] w fun e w' => e = .returned (.tuple #[.string ⟨p.toArray⟩, .string ⟨q.toArray⟩]) ∧ Below w.heap.size w w' := by
  have HLI := hidM (fun V => Tryd.strings_LastIndex_one s ⟨#[32]⟩ rfl (by omega) V)
  obtain ⟨hx, hl⟩ : Lib.lastIndexByte s 32 = (p.length : Int) ∧ s.data.toList = p ++ 32 :: q := by
    rcases last_idx s 32 with ⟨h1, -⟩ | ⟨p', q', h1, h2⟩
    · rw [h] at h1; cases h1
    · rw [h] at h1; injection h1 with h1; injection h1 with e1 e2; subst e1 e2; exact h2
  obtain ⟨n, hn⟩ : ∃ n, p.length = n := ⟨_, rfl⟩
  rw [hn] at hx
  have hsz : n + 1 ≤ s.size := by rw [← sl_len, hl]; simp; omega
  have HP : Hid (s.extract 0 n = ⟨p.toArray⟩) := by
    apply ba_of
    rw [ext_head, hl, ← hn]; simp
  have HQ : Hid (s.extract (n + 1) s.size = ⟨q.toArray⟩) := by
    apply ba_of
    rw [ext_tail, hl, ← hn]; simp
  have HX := hidM hx
  obtain ⟨m, hm⟩ : ∃ m, n + 1 = m := ⟨_, rfl⟩
  rw [hm] at HQ hsz
  have e2 : (n : Int) + 1 = (m : Int) := by omega
  have g4 : n ≤ s.size := by omega
  clear h hx hl hn hm
  go_enter Tryd.func70, Tryd.ntmps70
  go_wp2_with fail
  refine (HLI.out _).mono ?_
  rintro _ w1 ⟨rfl, hw1⟩
  rw [hw1]
  clear hw1 HLI
  have h32 : (((⟨#[32]⟩ : ByteArray)[0]'(by decide)).toNat : Int) = 32 := rfl
  rw [h32, HX.out]
  clear h32
  go_upto_region 4 with fail
  go_quiet (fail)
  go_wp2
  go_ret2
  exact ⟨by rw [← HP.out, ← HQ.out]; rfl, below_drewN (Below.refl _ _) _⟩
end Go.Proofs.YtbghailohnppmaaDoor
