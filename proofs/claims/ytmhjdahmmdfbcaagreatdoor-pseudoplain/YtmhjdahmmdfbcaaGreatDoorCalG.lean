/-
  Walks of calendar: digits, Unstamp.
-/
import Derived.Test.YtmhjdahmmdfbcaaGreatDoorCalF
namespace Go.Proofs.YtmhjdahmmdfbcaaGreatDoor
open Go.RowKit
def isDig (c : UInt8) : Prop := 48 ≤ c.toNat ∧ c.toNat ≤ 57
instance (c : UInt8) : Decidable (isDig c) := by unfold isDig; infer_instance
noncomputable def digB (s : ByteArray) : Bool := decide (∀ c ∈ s.data.toList, isDig c)
set_option maxHeartbeats 1000000 in
set_option maxRecDepth 100000 in
theorem digits_anyK (s : ByteArray) (w : World) (hs : s.size ≤ 14) : Calls Tryz.prog 95 #[.string s] w fun e w' => e = .returned (.bool (digB s)) ∧ w' = w := by
  go_enter Tryz.func95, Tryz.ntmps95
  go_wp2
  go_loopw [3, 6] (fun _ iv wr => ∃ k : Nat, k ≤ s.size ∧ iv = .int .i64 (k : Int) ∧ (∀ j (hj : j < s.size), j < k → isDig s[j]) ∧ wr = w) (fun _ i _ => s.size - (intOf i).toNat)
  case atStart => exact ⟨0, Nat.zero_le _, rfl, fun j _ hj => by omega, rfl⟩
  case round =>
    obtain ⟨k, hk, rfl, hno, hwr⟩ := hrel
    subst hwr
    have HNO := hidM hno
    clear hno
    by_cases hlt : k < s.size
    · have gk : (k : Int) < (s.size : Int) := by omega
      have hin : s[k] ∈ s.data.toList := List.mem_of_getElem? (ba_list s k hlt)
      by_cases h1 : s[k].toNat < 48
      · have HR : Hid (digB s = false) := by
          unfold Hid digB
          exact decide_eq_false fun h => by have := (h _ hin).1; omega
        have b1 : decide ((s[k].toNat : Int) < 48) = true := by simp; omega
        go_wp2
        go_ret
        exact ⟨by rw [HR.out]; rfl, rfl⟩
      · have b1 : decide ((s[k].toNat : Int) < 48) = false := by simp; omega
        by_cases h2 : 57 < s[k].toNat
        · have HR : Hid (digB s = false) := by
            unfold Hid digB
            exact decide_eq_false fun h => by have := (h _ hin).2; omega
          have b2 : decide ((57 : Int) < (s[k].toNat : Int)) = true := by simp; omega
          go_wp2
          go_ret
          exact ⟨by rw [HR.out]; rfl, rfl⟩
        · have b2 : decide ((57 : Int) < (s[k].toNat : Int)) = false := by simp; omega
          have HNX : Hid (∀ j (hj : j < s.size), j < k + 1 → isDig s[j]) := fun j hj hjk => by
            rcases Nat.lt_or_ge j k with h | h
            · exact HNO.out j hj h
            · obtain rfl : j = k := by omega
              exact ⟨by omega, by omega⟩
          go_wp2
          go_roundw
          case rel => exact ⟨k + 1, by omega, by go_num, HNX.out, by first | rfl | trivial⟩
          case measure => simp [intOf]; omega
    · have gk : ¬ (k : Int) < (s.size : Int) := by omega
      have HR : Hid (digB s = true) := by
        unfold Hid digB
        refine decide_eq_true fun c hc => ?_
        obtain ⟨j, hj, rfl⟩ := List.getElem_of_mem hc
        have hj' : j < s.size := by rw [Array.length_toList] at hj; exact hj
        exact HNO.out j hj' (by omega)
      go_wp2
      go_ret
      exact ⟨by rw [HR.out]; rfl, rfl⟩
/-- two digits of a text -/
def two (s : ByteArray) (i : Nat) : Nat := ((s.data.toList.getD i 0).toNat - 48) * 10 + ((s.data.toList.getD (i + 1) 0).toNat - 48)
theorem getD_byte (s : ByteArray) (k : Nat) (h : k < s.size) : s.data.toList.getD k 0 = s[k] := by
  rw [List.getD_eq_getElem?_getD, ba_list s k h]; rfl
theorem dig_at {s : ByteArray} (hd : digB s = true) {k : Nat} (h : k < s.size) : isDig s[k] := by
  unfold digB at hd
  exact of_decide_eq_true hd _ (List.mem_of_getElem? (ba_list s k h))
set_option maxHeartbeats 1000000 in
set_option maxRecDepth 100000 in
theorem two_any (s : ByteArray) (i b : Nat) (w : World) (hs : s.size = 14) (hi : i + 1 < 14) (hd : digB s = true) (hc : w.cell? ⟨b, 0, none⟩ = some (.string s)) :
    Calls Tryz.prog 96 #[.int .i64 (i : Int), .pointer (some ⟨b, 0, none⟩)] w fun e w' => e = .returned (.int .i64 (two s i : Nat)) ∧ ∃ n, w' = w.drewN n := by
  have h0 : i < s.size := by omega
  have h1 : i + 1 < s.size := by omega
  have g0 := dig_at hd h0
  have g1 := dig_at hd h1
  unfold isDig at g0 g1
  have i3 : (i : Int) < 14 := by omega
  have e1 : IntKind.i64.wrap ((i : Int) + 1) = ((i + 1 : Nat) : Int) := by rw [IntKind.wrap_i64]; omega
  have i5 : ((i + 1 : Nat) : Int) < 14 := by omega
  obtain ⟨j, hj⟩ : ∃ j, j = i + 1 := ⟨_, rfl⟩
  obtain ⟨p, hp⟩ : ∃ p, p = s[i].toNat - 48 := ⟨_, rfl⟩
  obtain ⟨q, hq⟩ : ∃ q, q = s[i + 1].toNat - 48 := ⟨_, rfl⟩
  have HT : Hid (two s i = p * 10 + q) := by unfold Hid two; rw [getD_byte s i h0, getD_byte s (i + 1) h1, hp, hq]
  rw [← hj] at e1 i5
  have h1' : j < s.size := by omega
  have hq' : q = s[j].toNat - 48 := by subst hj; exact hq
  have g1' : 48 ≤ s[j].toNat ∧ s[j].toNat ≤ 57 := by subst hj; exact g1
  have e2 : IntKind.u8.wrap ((s[i].toNat : Int) - 48) = (p : Int) := by rw [IntKind.wrap_u8']; omega
  have e3 : IntKind.u8.wrap ((s[j].toNat : Int) - 48) = (q : Int) := by rw [IntKind.wrap_u8']; omega
  have e4 : IntKind.i64.wrap (p : Int) = (p : Int) := by rw [IntKind.wrap_i64]; omega
  have e5 : IntKind.i64.wrap (q : Int) = (q : Int) := by rw [IntKind.wrap_i64]; omega
  have e6 : IntKind.i64.wrap ((p : Int) * 10) = ((p * 10 : Nat) : Int) := by rw [IntKind.wrap_i64]; omega
  have e7 : IntKind.i64.wrap (((p * 10 : Nat) : Int) + (q : Int)) = ((p * 10 + q : Nat) : Int) := by rw [IntKind.wrap_i64]; omega
  generalize p * 10 + q = R at *
  generalize p * 10 = P at *
  clear hd hp hq hq' hj g0 g1 g1' h1
  rw [HT.out]
  go_enter Tryz.func96, Tryz.ntmps96
  go_wp2
  go_quiet (fail)
  go_wp2
  go_ret
  exact ⟨rfl, nq, rfl⟩
/-- the date that a text of fourteen digits says -/
def dateV (s : ByteArray) : Value := .agg #[.int .i64 ((two s 0 * 100 + two s 2 : Nat) : Int), .int .i64 (two s 4 : Nat), .int .i64 (two s 6 : Nat), .int .i64 (two s 8 : Nat), .int .i64 (two s 10 : Nat), .int .i64 (two s 12 : Nat), .int .i64 0]
theorem two_le {s : ByteArray} (hs : s.size = 14) (hd : digB s = true) (i : Nat) (h : i + 1 < 14) : two s i ≤ 99 := by
  have h0 : i < s.size := by omega
  have h1 : i + 1 < s.size := by omega
  have g0 := dig_at hd h0
  have g1 := dig_at hd h1
  unfold isDig at g0 g1
  unfold two
  rw [getD_byte s i h0, getD_byte s (i + 1) h1]
  omega
set_option maxHeartbeats 2000000 in
set_option maxRecDepth 100000 in
theorem unstamp_via (s : ByteArray) (w : World) (hG : GT w) (hs : s.size = 14) (hd : digB s = true) (n e : Int) (hu : ∀ V, GT V → Calls Tryz.prog 97 #[dateV s] V fun x w' => x = .returned (.tuple #[.int .i64 n, .int .i64 e]) ∧ Below V.heap.size V w') :
    Calls Tryz.prog 65 #[.string s] w fun x w' => x = .returned (.tuple #[.int .i64 n, .int .i64 e]) ∧ Below w.heap.size w w' := by
  have HB0 : Hid (Below w.heap.size w (w.alloc (.cells #[.string s] 9))) := (Below.refl _ w).alloc (Nat.le_refl _) _
  have HDG := hidM (digits_anyK s (w.alloc (.cells #[.string s] 9)) (by omega))
  rw [hd] at HDG
  obtain ⟨W, hW⟩ : ∃ W, W = w.alloc (.cells #[.string s] 9) := ⟨_, rfl⟩
  have hW0 : W.cell? ⟨w.heap.size, 0, none⟩ = some (.string s) := by rw [hW]; simp
  have hWc : ∀ n, (W.drewN n).cell? ⟨w.heap.size, 0, none⟩ = W.cell? ⟨w.heap.size, 0, none⟩ := fun n => rfl
  have HT0 : Hid (Calls Tryz.prog 96 #[.int .i64 0, .pointer (some ⟨w.heap.size, 0, none⟩)] W fun e w' => e = .returned (.int .i64 (two s 0 : Nat)) ∧ ∃ m, w' = W.drewN m) := two_any s 0 w.heap.size W hs (by decide) hd hW0
  have HT2 : Hid (∀ n, Calls Tryz.prog 96 #[.int .i64 2, .pointer (some ⟨w.heap.size, 0, none⟩)] (W.drewN n) fun e w' => e = .returned (.int .i64 (two s 2 : Nat)) ∧ ∃ m, w' = W.drewN m) := fun n => (two_any s 2 w.heap.size (W.drewN n) hs (by decide) hd (by rw [hWc]; exact hW0)).mono fun e w' g => ⟨g.1, g.2.elim fun m hm => ⟨n + m, by rw [hm, World.drewN_drewN]⟩⟩
  have HT4 : Hid (∀ n, Calls Tryz.prog 96 #[.int .i64 4, .pointer (some ⟨w.heap.size, 0, none⟩)] (W.drewN n) fun e w' => e = .returned (.int .i64 (two s 4 : Nat)) ∧ ∃ m, w' = W.drewN m) := fun n => (two_any s 4 w.heap.size (W.drewN n) hs (by decide) hd (by rw [hWc]; exact hW0)).mono fun e w' g => ⟨g.1, g.2.elim fun m hm => ⟨n + m, by rw [hm, World.drewN_drewN]⟩⟩
  have HT6 : Hid (∀ n, Calls Tryz.prog 96 #[.int .i64 6, .pointer (some ⟨w.heap.size, 0, none⟩)] (W.drewN n) fun e w' => e = .returned (.int .i64 (two s 6 : Nat)) ∧ ∃ m, w' = W.drewN m) := fun n => (two_any s 6 w.heap.size (W.drewN n) hs (by decide) hd (by rw [hWc]; exact hW0)).mono fun e w' g => ⟨g.1, g.2.elim fun m hm => ⟨n + m, by rw [hm, World.drewN_drewN]⟩⟩
  have HT8 : Hid (∀ n, Calls Tryz.prog 96 #[.int .i64 8, .pointer (some ⟨w.heap.size, 0, none⟩)] (W.drewN n) fun e w' => e = .returned (.int .i64 (two s 8 : Nat)) ∧ ∃ m, w' = W.drewN m) := fun n => (two_any s 8 w.heap.size (W.drewN n) hs (by decide) hd (by rw [hWc]; exact hW0)).mono fun e w' g => ⟨g.1, g.2.elim fun m hm => ⟨n + m, by rw [hm, World.drewN_drewN]⟩⟩
  have HT10 : Hid (∀ n, Calls Tryz.prog 96 #[.int .i64 10, .pointer (some ⟨w.heap.size, 0, none⟩)] (W.drewN n) fun e w' => e = .returned (.int .i64 (two s 10 : Nat)) ∧ ∃ m, w' = W.drewN m) := fun n => (two_any s 10 w.heap.size (W.drewN n) hs (by decide) hd (by rw [hWc]; exact hW0)).mono fun e w' g => ⟨g.1, g.2.elim fun m hm => ⟨n + m, by rw [hm, World.drewN_drewN]⟩⟩
  have HT12 : Hid (∀ n, Calls Tryz.prog 96 #[.int .i64 12, .pointer (some ⟨w.heap.size, 0, none⟩)] (W.drewN n) fun e w' => e = .returned (.int .i64 (two s 12 : Nat)) ∧ ∃ m, w' = W.drewN m) := fun n => (two_any s 12 w.heap.size (W.drewN n) hs (by decide) hd (by rw [hWc]; exact hW0)).mono fun e w' g => ⟨g.1, g.2.elim fun m hm => ⟨n + m, by rw [hm, World.drewN_drewN]⟩⟩
  have HU : Hid (∀ m, Calls Tryz.prog 97 #[dateV s] (W.drewN m) fun x w' => x = .returned (.tuple #[.int .i64 n, .int .i64 e]) ∧ Below w.heap.size w w') := fun m => by
    have hb : Below w.heap.size w (W.drewN m) := below_drewN (by rw [hW]; exact HB0.out) m
    exact (hu _ (hG.below hb)).mono fun x w' g => ⟨g.1, hb.trans (g.2.mono hb.size)⟩
  unfold dateV at HU
  have t0 := two_le hs hd 0 (by decide)
  have t2 := two_le hs hd 2 (by decide)
  have t4 := two_le hs hd 4 (by decide)
  have t6 := two_le hs hd 6 (by decide)
  have t8 := two_le hs hd 8 (by decide)
  have t10 := two_le hs hd 10 (by decide)
  have t12 := two_le hs hd 12 (by decide)
  generalize two s 0 = p0 at *
  generalize two s 2 = p2 at *
  generalize two s 4 = p4 at *
  generalize two s 6 = p6 at *
  generalize two s 8 = p8 at *
  generalize two s 10 = p10 at *
  generalize two s 12 = p12 at *
  have HE : Hid ((p0 : Int) * 100 + (p2 : Int) = ((p0 * 100 + p2 : Nat) : Int)) := by unfold Hid; omega
  have b14 : ((s.size : Int) == 14) = true := by simp; omega
  have HW := hidM hW
  clear hu hd hG hW hWc hW0
  go_enter Tryz.func65, Tryz.ntmps65
  go_wp2_with fail
  refine HDG.out.mono ?_
  rintro _ _ ⟨rfl, rfl⟩
  go_wp2_with fail
  rw [← HW.out]
  refine HT0.out.mono ?_
  rintro _ _ ⟨rfl, n0, rfl⟩
  go_wp2_with fail
  refine (HT2.out n0).mono ?_
  rintro _ _ ⟨rfl, n1, rfl⟩
  go_wp2_with fail
  refine (HT4.out n1).mono ?_
  rintro _ _ ⟨rfl, n2, rfl⟩
  go_wp2_with fail
  refine (HT6.out n2).mono ?_
  rintro _ _ ⟨rfl, n3, rfl⟩
  go_wp2_with fail
  refine (HT8.out n3).mono ?_
  rintro _ _ ⟨rfl, n4, rfl⟩
  go_wp2_with fail
  refine (HT10.out n4).mono ?_
  rintro _ _ ⟨rfl, n5, rfl⟩
  go_wp2_with fail
  refine (HT12.out n5).mono ?_
  rintro _ _ ⟨rfl, n6, rfl⟩
  go_wp2_with fail
  rw [HE.out]
  refine (HU.out n6).mono ?_
  rintro _ w2 ⟨rfl, hb2⟩
  have HB2 := hidM hb2
  clear hb2 HU HT0 HT2 HT4 HT6 HT8 HT10 HT12
  go_wp2
  go_ret2
  exact ⟨rfl, HB2.out⟩
set_option maxHeartbeats 1000000 in
set_option maxRecDepth 100000 in
theorem unstamp_bad (s : ByteArray) (w : World) (h : s.size ≠ 14 ∨ digB s = false) :
    Calls Tryz.prog 65 #[.string s] w fun x w' => x = .returned (.tuple #[.int .i64 0, .int .i64 3]) ∧ Below w.heap.size w w' := by
  have HB0 : Hid (Below w.heap.size w (w.alloc (.cells #[.string s] 9))) := (Below.refl _ w).alloc (Nat.le_refl _) _
  by_cases h14 : s.size = 14
  · have hd : digB s = false := h.resolve_left (fun g => g h14)
    have HDG := hidM (digits_anyK s (w.alloc (.cells #[.string s] 9)) (by omega))
    rw [hd] at HDG
    clear h hd
    go_enter Tryz.func65, Tryz.ntmps65
    go_wp2_with fail
    refine HDG.out.mono ?_
    rintro _ _ ⟨rfl, rfl⟩
    go_wp2
    go_ret2
    exact ⟨rfl, HB0.out⟩
  · have b14 : ((s.size : Int) == 14) = false := by simp; omega
    have b15 : (s.size == 14) = false := by simp; omega
    clear h
    go_enter Tryz.func65, Tryz.ntmps65
    go_wp2
    go_ret2
    exact ⟨rfl, HB0.out⟩
theorem st_text : stampT 2006 1 2 15 4 5 = ⟨#[50, 48, 48, 54, 48, 49, 48, 50, 49, 53, 48, 52, 48, 53]⟩ := by decide +kernel
theorem st_date : IsDate 63271811045 2006 1 2 15 4 5 := by
  refine ⟨⟨by decide, by decide, by decide, by decide, by decide, by decide, by decide +kernel⟩, by decide, by decide, by decide⟩
def uS : ByteArray := ⟨#[50, 48, 48, 48, 48, 50, 50, 57, 48, 48, 48, 48, 48, 48]⟩
theorem uS_dig : digB uS = true := by
  unfold digB
  exact decide_eq_true (by decide)
theorem uS_date : dateV uS = .agg #[.int .i64 ((2000 : Nat) : Int), .int .i64 ((2 : Nat) : Int), .int .i64 ((29 : Nat) : Int), .int .i64 ((0 : Nat) : Int), .int .i64 ((0 : Nat) : Int), .int .i64 ((0 : Nat) : Int), .int .i64 0] := rfl
theorem u_day : IsDay 730178 2000 2 29 := ⟨by decide, by decide, by decide, by decide, by decide, by decide, by decide +kernel⟩
end Go.Proofs.YtmhjdahmmdfbcaaGreatDoor
