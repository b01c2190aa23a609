/-
  Walks of pseudo: oneMore.
-/
import Derived.Test.YtmhjdahmmdfbcaaGreatDoorPsB
namespace Go.Proofs.YtmhjdahmmdfbcaaGreatDoor
open Go.RowKit

theorem byte_inc (c : UInt8) (h : c.toNat ≤ 57) : (c + 1).toNat = c.toNat + 1 := by
  rw [UInt8.toNat_add]
  have : (1 : UInt8).toNat = 1 := rfl
  omega

theorem nineK_succ (l : List UInt8) (m : Nat) : nineK l (m + 1) = if l.getD m 0 = 57 then nineK l m else m + 1 := rfl
theorem moreAt_succ (l : List UInt8) (m : Nat) : moreAt l (m + 1) = l.take m ++ (l.getD m 0 + 1) :: List.replicate (l.length - (m + 1)) 48 := rfl
set_option maxHeartbeats 2000000 in
set_option maxRecDepth 100000 in
theorem oneMore_any (s : ByteArray) (w : World) (hs : s.size ≤ 1000) (h0 : 0 < s.size) (hd : ∀ c ∈ s.data.toList, c.toNat ≤ 57) :
    Calls Tryz.prog 27 #[.string s] w fun e w' => e = .returned (.string ⟨(moreL s.data.toList).toArray⟩) ∧ Below w.heap.size w w' := by
  obtain ⟨cap, w1, hcv, hcap, hcm, hrow, hb1⟩ := row_string w s (by omega)
  have HLen := hidM (len_size s)
  have HD := hidM hd
  have HROW := hidM hrow
  have HB1 := hidM hb1
  clear hd hrow hb1
  generalize s.data.toList = l at *
  obtain ⟨n1, hn1⟩ : ∃ n1 : Nat, s.size = n1 + 1 := ⟨s.size - 1, by omega⟩
  have e1 : (s.size : Int) - 1 = (n1 : Int) := by omega
  have HN1 := hidM hn1
  clear hn1
  go_enter Tryz.func27, Tryz.ntmps27
  go_wp2
  go_loopw [4] (fun iv wr => ∃ (k : Nat) (a : Int), k ≤ s.size ∧ iv = .int .i64 a ∧ a = (k : Int) - 1 ∧ nineK l l.length = nineK l k ∧ DRow wr w.heap.size (l.take k ++ List.replicate (l.length - k) 48) ∧ Below w.heap.size w wr) (fun i _ => ((intOf i) + 1).toNat)
  case atStart => exact ⟨s.size, _, Nat.le_refl _, rfl, by omega, by rw [HLen.out], by rw [← HLen.out, List.take_length, Nat.sub_self]; simpa using HROW.out, HB1.out⟩
  case round =>
    obtain ⟨k, a, hk, rfl, ha, hni, hrw, hbr⟩ := hrel
    have HNI := hidM hni
    have HRW := hidM hrw
    have HBR := hidM hbr
    clear hni hrw hbr HROW HB1 hcv
    cases k with
    | zero =>
      obtain rfl : a = -1 := by omega
      clear ha
      have HR : Hid (moreL l = 49 :: List.replicate l.length 48) := by unfold Hid moreL; rw [HNI.out]; rfl
      have hr2 : DRow wr w.heap.size (List.replicate l.length 48) := by simpa using HRW.out
      have HCV := hidM (hr2.back (cap := cap))
      have HU : Hid ((⟨#[49]⟩ : ByteArray) ++ ⟨(List.replicate l.length 48).toArray⟩ = ⟨(49 :: List.replicate l.length 48).toArray⟩) := by
        unfold Hid
        apply ByteArray.ext
        rw [ByteArray.data_append]
        simp
      have hus : (⟨(List.replicate l.length 48).toArray⟩ : ByteArray).size ≤ 1000 := by
        show (List.replicate l.length (48 : UInt8)).toArray.size ≤ _
        rw [List.size_toArray, List.length_replicate, HLen.out]; omega
      rw [List.length_replicate, HLen.out] at HCV
      clear hr2 HRW HNI
      rw [HLen.out] at HU HR hus
      have hcv := HCV.out
      clear HCV
      generalize (⟨(List.replicate s.size 48).toArray⟩ : ByteArray) = u at *
      go_wp2
      go_ret
      exact ⟨by rw [HR.out, ← HU.out]; rfl, HBR.out⟩
    | succ m =>
      obtain rfl : a = (m : Int) := by omega
      clear ha
      have hml : m < l.length := by rw [HLen.out]; omega
      have gm : (m : Int) < (s.size : Int) := by omega
      have HLL : Hid ((l.take (m + 1) ++ List.replicate (l.length - (m + 1)) 48).length = s.size) := by unfold Hid; rw [← HLen.out]; simp; omega
      have hmr : m < (l.take (m + 1) ++ List.replicate (l.length - (m + 1)) 48).length := by rw [HLL.out]; omega
      have hc := HRW.out.cell m hmr
      have hf := HRW.out.free m hmr
      rw [at_row l m 48 hml hmr] at hc
      have hle := HD.out l[m] (List.getElem_mem hml)
      by_cases h9 : l[m] = 57
      · have HNX : Hid (nineK l l.length = nineK l m) := by unfold Hid; rw [HNI.out, nineK_succ, getD_in l m hml, if_pos h9]
        have HS := HRW.out.set m hmr 48
        rw [set_row l m 48 hml] at HS
        have HS' := hidM HS
        rw [h9] at hc
        clear HS h9 hle HRW HNI
        go_wp2
        go_roundw
        case rel => exact ⟨m, _, by omega, rfl, by go_num, HNX.out, HS'.out, HBR.out.setCell (Nat.le_refl _) _⟩
        case measure => simp [intOf]
      · have b1 : ((l[m].toNat : Int) == 57) = false := by
          simp only [beq_eq_false_iff_ne, ne_eq]
          intro h
          exact h9 (UInt8.toNat_inj.1 (by show l[m].toNat = 57; omega))
        have HR : Hid (moreL l = l.take m ++ (l[m] + 1) :: List.replicate (l.length - (m + 1)) 48) := by
          unfold Hid moreL
          rw [HNI.out, nineK_succ, getD_in l m hml, if_neg h9, moreAt_succ, getD_in l m hml]
        have HS := HRW.out.set m hmr (l[m] + 1)
        rw [set_end l m 48 _ hml, byte_inc _ hle, Int.natCast_add, Int.natCast_one] at HS
        have HL2 : Hid ((l.take m ++ (l[m] + 1) :: List.replicate (l.length - (m + 1)) 48).length = s.size) := by unfold Hid; rw [← HLen.out]; simp; omega
        have hcv := HS.back (cap := cap)
        rw [HL2.out, ← HR.out] at hcv
        clear HS h9 HRW HNI HR HL2
        generalize l[m] = x at *
        obtain ⟨u, hu⟩ : ∃ u, u = (⟨(moreL l).toArray⟩ : ByteArray) := ⟨_, rfl⟩
        rw [← hu] at hcv
        have HU := hidM hu
        clear hu
        go_wp2
        go_ret
        exact ⟨by rw [← HU.out]; rfl, HBR.out.setCell (Nat.le_refl _) _⟩

theorem byte_dec (c : UInt8) (h : 1 ≤ c.toNat) : (c - 1).toNat = c.toNat - 1 := by
  rw [UInt8.toNat_sub]
  have h1 : (1 : UInt8).toNat = 1 := rfl
  have h2 := c.toNat_lt
  omega
theorem noughtK_succ (l : List UInt8) (m : Nat) : noughtK l (m + 1) = if l.getD (m + 1) 0 = 48 then noughtK l m else m + 1 := rfl
theorem noughtK_le (l : List UInt8) : ∀ m, noughtK l m ≤ m
  | 0 => Nat.le_refl _
  | m + 1 => by rw [noughtK_succ]; split <;> have := noughtK_le l m <;> omega
theorem trim_one {c : UInt8} : trim0 [c] = [c] := rfl
theorem trim_no {c d : UInt8} {r : List UInt8} (h : c ≠ 48) : trim0 (c :: d :: r) = c :: d :: r := by simp [trim0, h]
theorem trim_yes {d : UInt8} {r : List UInt8} : trim0 (48 :: d :: r) = d :: r := by simp [trim0]

set_option maxHeartbeats 2000000 in
set_option maxRecDepth 100000 in
theorem oneLess_any (s : ByteArray) (w : World) (hs : s.size ≤ 1000) (h0 : 0 < s.size) (hd : ∀ c ∈ s.data.toList, 1 ≤ c.toNat) :
    Calls Tryz.prog 66 #[.string s] w fun e w' => e = .returned (.string ⟨(lessL s.data.toList).toArray⟩) ∧ Below w.heap.size w w' := by
  obtain ⟨cap, w1, hcv, hcap, hcm, hrow, hb1⟩ := row_string w s (by omega)
  have HLen := hidM (len_size s)
  have HD := hidM hd
  have HROW := hidM hrow
  have HB1 := hidM hb1
  clear hd hrow hb1
  generalize s.data.toList = l at *
  obtain ⟨n1, hn1⟩ : ∃ n1 : Nat, s.size = n1 + 1 := ⟨s.size - 1, by omega⟩
  have e1 : (s.size : Int) - 1 = (n1 : Int) := by omega
  have HN1 := hidM hn1
  have HST : Hid (l.length - 1 = n1) := by unfold Hid; rw [HLen.out]; omega
  clear hn1
  go_enter Tryz.func66, Tryz.ntmps66
  go_wp2
  go_loopw [4] (fun iv wr => ∃ k : Nat, k < s.size ∧ iv = .int .i64 (k : Int) ∧ noughtK l n1 = noughtK l k ∧ DRow wr w.heap.size (l.take (k + 1) ++ List.replicate (l.length - (k + 1)) 57) ∧ Below w.heap.size w wr) (fun i _ => (intOf i).toNat)
  case atStart => exact ⟨n1, by rw [HN1.out]; omega, rfl, rfl, by rw [← HN1.out, ← HLen.out, List.take_length, Nat.sub_self]; simpa using HROW.out, HB1.out⟩
  case round =>
    obtain ⟨k, hk, rfl, hni, hrw, hbr⟩ := hrel
    have HNI := hidM hni
    have HRW := hidM hrw
    have HBR := hidM hbr
    clear hni hrw hbr HROW HB1 hcv
    have hml : k < l.length := by rw [HLen.out]; omega
    have gm : (k : Int) < (s.size : Int) := by omega
    have HLL : Hid ((l.take (k + 1) ++ List.replicate (l.length - (k + 1)) 57).length = s.size) := by unfold Hid; rw [← HLen.out]; simp; omega
    have hmr : k < (l.take (k + 1) ++ List.replicate (l.length - (k + 1)) 57).length := by rw [HLL.out]; omega
    have hc := HRW.out.cell k hmr
    have hf := HRW.out.free k hmr
    rw [at_row l k 57 hml hmr] at hc
    have hle := HD.out l[k] (List.getElem_mem hml)
    by_cases hgo : 0 < k ∧ l[k] = 48
    · obtain ⟨hk0, h9⟩ := hgo
      obtain ⟨m, rfl⟩ : ∃ m, k = m + 1 := ⟨k - 1, by omega⟩
      have HNX : Hid (noughtK l n1 = noughtK l m) := by unfold Hid; rw [HNI.out, noughtK_succ, getD_in l (m + 1) hml, if_pos h9]
      have HS := HRW.out.set (m + 1) hmr 57
      rw [set_row l (m + 1) 57 hml] at HS
      have HS' := hidM HS
      rw [h9] at hc
      clear HS h9 hle HRW HNI
      have g0 : (0 : Int) < ((m + 1 : Nat) : Int) := by omega
      go_wp2
      go_roundw
      case rel => exact ⟨m, by omega, by go_num, HNX.out, HS'.out, HBR.out.setCell (Nat.le_refl _) _⟩
      case measure => simp [intOf]
    · have HR : Hid (lessL l = trim0 (l.take k ++ (l[k] - 1) :: List.replicate (l.length - (k + 1)) 57)) := by
        unfold Hid lessL
        rw [HST.out, HNI.out]
        have hkk : noughtK l k = k := by
          cases k with
          | zero => rfl
          | succ m => rw [noughtK_succ, getD_in l (m + 1) hml, if_neg (fun h => hgo ⟨by omega, h⟩)]
        rw [hkk]
        unfold lessAt
        rw [getD_in l k hml]
      have HS := HRW.out.set k hmr (l[k] - 1)
      rw [set_end l k 57 _ hml] at HS
      have e3 : (l[k].toNat : Int) - 1 = ((l[k] - 1).toNat : Int) := by rw [byte_dec _ hle]; omega
      have hy : (l[k] - 1).toNat < 256 := (l[k] - 1).toNat_lt
      have HL2 : Hid ((l.take k ++ (l[k] - 1) :: List.replicate (l.length - (k + 1)) 57).length = s.size) := by unfold Hid; rw [← HLen.out]; simp; omega
      have HB2 : Hid (Below w.heap.size w (wr.setCell ⟨w.heap.size, k, none⟩ (.int .u8 ((l[k] - 1).toNat : Int)))) := HBR.out.setCell (Nat.le_refl _) _
      have HSS := hidM HS
      clear HS HRW HNI HLL hmr
      generalize l.take k ++ (l[k] - 1) :: List.replicate (l.length - (k + 1)) 57 = L at *
      have b1 : (decide ((0 : Int) < (k : Int)) && ((l[k].toNat : Int) == 48)) = false := by
        cases hb : (decide ((0 : Int) < (k : Int)) && ((l[k].toNat : Int) == 48)) with
        | false => rfl
        | true =>
          simp only [Bool.and_eq_true, decide_eq_true_eq, beq_iff_eq] at hb
          exact absurd ⟨by omega, UInt8.toNat_inj.1 (by show l[k].toNat = 48; omega)⟩ hgo
      generalize (l[k] - 1).toNat = y at *
      generalize l[k] = x at *
      cases L with
      | nil => exact absurd HL2.out (by simp; omega)
      | cons c r =>
        have hz := HSS.out.cell 0 (by simp)
        rw [List.getElem_cons_zero] at hz
        cases r with
        | nil =>
          have hs1 : s.size = 1 := HL2.out.symm
          obtain rfl : k = 0 := by omega
          have hcv := HSS.out.back (cap := cap)
          rw [HL2.out] at hcv
          rw [trim_one] at HR
          have b2 : ¬ (1 : Int) < (s.size : Int) := by omega
          have HH1 := hidM hs1
          clear HSS HL2 HN1 hs1 hz b1 hgo
          go_wp2
          go_ret
          exact ⟨by rw [HR.out]; rfl, HB2.out⟩
        | cons d r =>
          have HRL : Hid (r.length + 2 = s.size) := HL2.out
          have b2 : (1 : Int) < (s.size : Int) := by have := HRL.out; omega
          by_cases h48 : c = 48
          · subst h48
            rw [trim_yes] at HR
            have hcv := HSS.out.back1 (cap := cap - 1)
            obtain ⟨n2, hn2⟩ : ∃ n2 : Nat, n2 = (d :: r).length := ⟨_, rfl⟩
            rw [← hn2] at hcv
            have e4 : (s.size : Int) - 1 = (n2 : Int) := by have := HRL.out; simp at hn2; omega
            have e5 : (n1 : Int) = (n2 : Int) := by omega
            have e6 : s.size - 1 = n2 := by omega
            have hz' : (wr.setCell ⟨w.heap.size, k, none⟩ (.int .u8 (y : Int))).cell? ⟨w.heap.size, 0, none⟩ = some (.int .u8 48) := hz
            clear HSS HL2 hz hn2 hgo
            rcases Nat.eq_zero_or_pos k with rfl | hk0
            · go_wp2
              go_ret
              exact ⟨by rw [HR.out]; rfl, HB2.out⟩
            · have g0 : (0 : Int) < (k : Int) := by omega
              have b4 : ((x.toNat : Int) == 48) = false := by rw [decide_eq_true g0, Bool.true_and] at b1; exact b1
              clear b1
              go_wp2
              go_ret
              exact ⟨by rw [HR.out]; rfl, HB2.out⟩
          · rw [trim_no h48] at HR
            have hcv := HSS.out.back (cap := cap)
            rw [HL2.out] at hcv
            have b3 : ((c.toNat : Int) == 48) = false := by
              simp only [beq_eq_false_iff_ne, ne_eq]
              intro h
              exact h48 (UInt8.toNat_inj.1 (by show c.toNat = 48; omega))
            clear HSS HL2 hgo h48
            rcases Nat.eq_zero_or_pos k with rfl | hk0
            · go_wp2
              go_ret
              exact ⟨by rw [HR.out]; rfl, HB2.out⟩
            · have g0 : (0 : Int) < (k : Int) := by omega
              have b4 : ((x.toNat : Int) == 48) = false := by rw [decide_eq_true g0, Bool.true_and] at b1; exact b1
              clear b1
              go_wp2
              go_ret
              exact ⟨by rw [HR.out]; rfl, HB2.out⟩
end Go.Proofs.YtmhjdahmmdfbcaaGreatDoor
