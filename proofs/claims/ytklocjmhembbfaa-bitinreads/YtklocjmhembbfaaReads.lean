/-
  BitinReads: any row of calls takes just the bits that stand there, and tells how many are left: the walk.
-/
import Derived.Test.YtklocjmhembbfaaOpsDef
import Derived.OpenShut
import Derived.Deep.CutBlock
import Derived.Deep.CutRange
namespace Go.Proofs.Ytklocjmhembbfaa
open Go.RowKit

theorem BAt.only {w w' : World} {g b off : Nat} {l : List Bool} (h : BAt w (some ⟨g, off, none⟩) l) (ho : Only b w w') (hne : g ≠ b) : BAt w' (some ⟨g, off, none⟩) l := by
  rcases h with h0 | ⟨b', o', he, hc⟩
  · exact .inl h0
  · refine .inr ⟨b', o', he, fun i hi => ?_⟩
    simp only [Option.some.injEq, Addr.mk.injEq, and_true] at he
    obtain ⟨rfl, rfl⟩ := he
    exact (World.cell?_of_block (a := ⟨g, off + i, none⟩) (ho.block g hne)).trans (hc i hi)
theorem BAt.sub {w : World} {g : Nat} {l : List Bool} (h : BAt w (some ⟨g, 0, none⟩) l) (n k : Nat) : BAt w (some ⟨g, n, none⟩) ((l.drop n).take k) := by
  rcases h with h0 | ⟨b', o', he, hc⟩
  · subst h0; left; simp
  · simp only [Option.some.injEq, Addr.mk.injEq, and_true] at he
    obtain ⟨rfl, rfl⟩ := he
    refine .inr ⟨g, n, rfl, fun i hi => ?_⟩
    have h1 : n + i < l.length := by rw [List.length_take, List.length_drop] at hi; omega
    have := hc (n + i) h1
    rw [Nat.zero_add] at this
    rw [this]
    simp
/-- How the reader and the document's bits stand. -/
structure RS (w0 : World) (B gb : Nat) (X : ByteArray) (wr : World) (t : Nat) : Prop where
  box : RBox wr B X t
  bat : BAt wr (some ⟨gb, 0, none⟩) (bitsL X.data.toList)
  bel : Below B w0 wr
theorem RS.only {w0 : World} {B gb : Nat} {X : ByteArray} {wr w' : World} {t t' : Nat} (h : RS w0 B gb X wr t) (hr : RBox w' B X t') (ho : Only B wr w') (hne : gb ≠ B) : RS w0 B gb X w' t' :=
  ⟨hr, h.bat.only ho hne, h.bel.trans (ho.below (Nat.le_refl B))⟩
theorem RS.below {w0 : World} {B gb : Nat} {X : ByteArray} {wr w' : World} {t : Nat} (h : RS w0 B gb X wr t) (hb : Below wr.heap.size wr w') : RS w0 B gb X w' t :=
  ⟨h.box.below hb, h.bat.below hb, h.bel.trans (hb.mono (Nat.le_of_lt h.box.lt))⟩
theorem RS.drewN {w0 : World} {B gb : Nat} {X : ByteArray} {wr : World} {t : Nat} (h : RS w0 B gb X wr t) (m : Nat) : RS w0 B gb X (wr.drewN m) t := ⟨h.box, h.bat, below_drewN h.bel m⟩
theorem RS.put {w0 : World} {B gb : Nat} {X : ByteArray} {wr : World} {t : Nat} (h : RS w0 B gb X wr t) (m n : Nat) (hne : gb ≠ B) : RS w0 B gb X ((wr.drewN m).setCell ⟨B, 1, none⟩ (.int .i64 ((t + n : Nat) : Int))) (t + n) :=
  h.only (h.box.put m n) (((Only.refl B wr).drewN m).setCell _ _) hne


theorem ownL_cap {w : World} {B g n c : Nat} {l : List Bool} (h : OwnL w B (.slice (some ⟨g, 0, none⟩) n c) l) : l.length ≤ c := by
  rcases h.2 with ⟨h', _⟩ | ⟨g', cap', cur, h', _, _, hn, _⟩
  · simp at h'
  · simp only [Value.slice.injEq] at h'
    obtain ⟨_, rfl, rfl⟩ := h'
    exact hn
theorem sub_len (X : ByteArray) (t k : Nat) (h : t + k ≤ 8 * X.size) : (((bitsL X.data.toList).drop t).take k).length = k := by
  rw [List.length_take, List.length_drop, bitsL_len]; simp; omega
theorem number_sub (gb t k c : Nat) (X : ByteArray) (w : World) (h : BAt w (some ⟨gb, 0, none⟩) (bitsL X.data.toList)) (hk : t + k ≤ 8 * X.size) (h32 : k ≤ 32) :
    Calls Try.prog 13 #[.slice (some ⟨gb, t, none⟩) k c] w fun e w' => e = .returned (.int .u32 ((bitsN X.data.toList t k : Nat) : Int)) ∧ w' = w := by
  have h1 := number_any (some ⟨gb, t, none⟩) c _ w (by rw [sub_len X t k hk]; omega) (h.sub t k)
  rw [sub_len X t k hk, bitsL_sub, Nat.mod_eq_of_lt] at h1
  · exact h1
  · exact Nat.lt_of_lt_of_le (bitsN_lt _ _ _) (show 2 ^ k ≤ 2 ^ 32 from Nat.pow_le_pow_right (by decide) h32)
theorem text_sub (gb t k c : Nat) (X : ByteArray) (w : World) (h : BAt w (some ⟨gb, 0, none⟩) (bitsL X.data.toList)) (hk : t + k ≤ 8 * X.size) (hX : X.size ≤ 1000) :
    Calls Try.prog 19 #[.slice (some ⟨gb, t, none⟩) k c] w fun e w' => (∃ s : ByteArray, e = .returned (.string s) ∧ le s.data.toList = bitsN X.data.toList t k ∧ s.size = (k + 7) / 8) ∧ Below w.heap.size w w' := by
  have h1 := rtext_any (some ⟨gb, t, none⟩) c _ w (by rw [sub_len X t k hk]; omega) (h.sub t k)
  rw [sub_len X t k hk, bitsL_sub] at h1
  exact h1

theorem bitsN_zero (l : List UInt8) (t : Nat) : bitsN l t 0 = 0 := by unfold bitsN; rw [Nat.pow_zero, Nat.mod_one]
theorem number_sl (gb t k c : Nat) (a : Option Addr) (X : ByteArray) (w : World) (h : BAt w (some ⟨gb, 0, none⟩) (bitsL X.data.toList)) (hk : t + k ≤ 8 * X.size) (h32 : k ≤ 32) (ha : k = 0 ∨ a = some ⟨gb, t, none⟩) :
    Calls Try.prog 13 #[.slice a k c] w fun e w' => e = .returned (.int .u32 ((bitsN X.data.toList t k : Nat) : Int)) ∧ w' = w := by
  rcases ha with rfl | rfl
  · rw [bitsN_zero]
    exact number_any a c [] w (by decide) (.inl rfl)
  · exact number_sub gb t k c X w h hk h32
theorem text_sl (gb t k c : Nat) (a : Option Addr) (X : ByteArray) (w : World) (h : BAt w (some ⟨gb, 0, none⟩) (bitsL X.data.toList)) (hk : t + k ≤ 8 * X.size) (hX : X.size ≤ 1000) (ha : k = 0 ∨ a = some ⟨gb, t, none⟩) :
    Calls Try.prog 19 #[.slice a k c] w fun e w' => (∃ s : ByteArray, e = .returned (.string s) ∧ le s.data.toList = bitsN X.data.toList t k ∧ s.size = (k + 7) / 8) ∧ Below w.heap.size w w' := by
  rcases ha with rfl | rfl
  · rw [bitsN_zero]
    exact rtext_any a c [] w (by decide) (.inl rfl)
  · exact text_sub gb t k c X w h hk hX

theorem extract_le (X : ByteArray) (u n : Nat) (h : u + n ≤ X.size) : le (X.extract u (u + n)).data.toList = bitsN X.data.toList (8 * u) (8 * n) ∧ (X.extract u (u + n)).size = n := by
  refine ⟨?_, by simp; omega⟩
  have e : (X.extract u (u + n)).data.toList = (X.data.toList.drop u).take n := by
    simp [List.take_drop]
  have h1 := peek_bits X.data.toList u 0 n (8 * n) (by omega)
  rw [Nat.add_zero, Nat.pow_zero, Nat.div_one] at h1
  rw [e, ← h1, Nat.mod_eq_of_lt]
  refine Nat.lt_of_lt_of_le (le_lt _) ?_
  rw [pow256]
  exact Nat.pow_le_pow_right (by decide) (by rw [List.length_take]; omega)
theorem text_eq (s t : ByteArray) (h : le s.data.toList = le t.data.toList) (hs : s.size = t.size) : s = t := by
  apply ByteArray.ext
  apply Array.ext'
  exact le_inj _ _ (by simpa using hs) h

set_option maxRecDepth 40000 in
set_option maxHeartbeats 4000000 in
theorem reads_walk (s : ByteArray) (t0 : Int) (a : Option Addr) (len cap : Nat) (f : Nat → OpV) (w : World) (hf : OpsAt w a len f) :
    Calls Try.prog 3 #[.string s, .int .i64 t0, .slice a len cap] w fun e w' => e = .returned (.bool true) ∧ Below w.heap.size w w' := by
  have hlen : len ≤ 9223372036854775807 := by have := hf.1; unfold maxLen at this; omega
  have HF := hidM hf
  clear hf
  go_enter Try.func3, Try.ntmps3
  go_wp2_with fail
  refine (few_any s 200 w).mono ?_
  rintro e w0 ⟨⟨S, rfl, hS, _⟩, rfl⟩
  obtain ⟨m, p, A, hA, e1, e2, e3, e4⟩ := clampA t0 S.size
  have E1 := hidM e1
  have E2 := hidM e2
  clear e1 e2
  go_wp2_with fail
  refine (newR_at S t0 m A _ hA E1.out E2.out).mono ?_
  rintro e w1 ⟨rfl, hr1, hb1⟩
  have HR1 := hidM hr1
  have HB1 := hidM hb1
  clear hr1 hb1
  have hSX : (S.extract A S.size).size ≤ 200 := by simp; omega
  generalize hB : w0.heap.size = B at *
  have HBE := hidM hB
  clear hB
  go_wp2_with fail
  generalize S.extract A S.size = X at *
  refine (rbits_any X w1 (by omega)).mono ?_
  rintro e w2 ⟨⟨v, rfl, hown, gb, cb, rfl⟩, hb2⟩
  clear e3 e4
  have HL : Hid ((bitsL X.data.toList).length = 8 * X.size) := by unfold Hid; rw [bitsL_len]; simp
  have HR2 := hidM (HR1.out.below hb2)
  have HB2 : Hid (Below B w0 w2) := HB1.out.trans (hb2.mono (by rw [← HBE.out]; exact HB1.out.size))
  have HBB : Hid (B < w1.heap.size) := HR1.out.lt
  have hcb : 8 * X.size ≤ cb := by rw [← HL.out]; exact ownL_cap hown
  have hcb : 8 * X.size ≤ cb := by rw [← HL.out]; exact ownL_cap hown
  have hcb : 8 * X.size ≤ cb := by rw [← HL.out]; exact ownL_cap hown
  have hcb : 8 * X.size ≤ cb := by rw [← HL.out]; exact ownL_cap hown
  have hcb : 8 * X.size ≤ cb := by rw [← HL.out]; exact ownL_cap hown
  have hcb : 8 * X.size ≤ cb := by rw [← HL.out]; exact ownL_cap hown
  have hcb : 8 * X.size ≤ cb := by rw [← HL.out]; exact ownL_cap hown
  have hcb : 8 * X.size ≤ cb := by rw [← HL.out]; exact ownL_cap hown
  have hcb : 8 * X.size ≤ cb := by rw [← HL.out]; exact ownL_cap hown
  have hcb : 8 * X.size ≤ cb := by rw [← HL.out]; exact ownL_cap hown
  have HGB : Hid (w1.heap.size ≤ gb) := (World.ownsRow.lt hown gb rfl).1
  rw [HL.out]
  have HA : Hid (BAt w2 (some ⟨gb, 0, none⟩) (bitsL X.data.toList)) := by
    obtain ⟨a', c', hv, hba⟩ := hown.bat
    simp only [Value.slice.injEq] at hv
    rw [← hv.1] at hba
    exact hba
  clear hown hb2 HB1 HR1
  go_wp2
  go_loopw [9, 10, 11, 12, 13, 14, 15, 16, 17, 18, 19, 20, 21] (fun nv i _ _ _ _ _ _ _ _ _ _ _ wr => ∃ (k t l : Nat), k ≤ len ∧ k ≤ 100 ∧ i = .int .i64 k ∧ nv = .int .i64 t ∧ t + l = 8 * X.size ∧ RS w0 B gb X wr t)
    (fun _ i _ _ _ _ _ _ _ _ _ _ _ _ => 100 - (intOf i).toNat)
  case atStart => exact ⟨0, 0, 8 * X.size, by omega, by omega, rfl, rfl, by omega, HR2.out, HA.out, HB2.out⟩
  case round =>
    obtain ⟨k, t, l, hk, hk100, rfl, rfl, htl, hrs⟩ := hrel
    have HTL := hidM htl
    have HS := hidM hrs
    have tl : t ≤ 1600 := by omega
    have HNE : Hid (gb ≠ B) := by have := HGB.out; have := HBB.out; unfold Hid; omega
    clear htl hrs HR2 HA HB2
    by_cases hlt : k < len ∧ k < 100
    · obtain ⟨hl1, hl2⟩ := hlt
      obtain ⟨b, off, rfl, c0, c1, c2, c3⟩ := HF.out.get (by rw [HBE.out]; exact HS.out.bel) k hl1
      have hN := (HF.out.2.1 k).2.1
      generalize (f k).kind = kd at *
      generalize (f k).n = N at *
      generalize (f k).x = x at *
      generalize (f k).text = T at *
      have bN := bounds_i64 hN
      have HQ : Hid (B < wr.heap.size) := HS.out.box.lt
      have HSA := hidM (HS.out.below (w' := wr.alloc (.cells #[.int .i64 kd, .int .i64 N, .int .u32 (x : Int), .string T] 30)) ((Below.refl _ _).alloc (Nat.le_refl _) _))
      have HOA : Hid (OBox (wr.alloc (.cells #[.int .i64 kd, .int .i64 N, .int .u32 (x : Int), .string T] 30)) wr.heap.size kd N x T) := heap_alloc_new wr _
      have hlx : l ≤ 1600 := by have := HTL.out; omega
      have hl8 : 8 * (X.size : Int) - (t : Int) = (l : Int) := by have := HTL.out; omega
      clear hN
      have hcase : N < 0 ∨ 32 < N ∨ (∃ n : Nat, N = (n : Int) ∧ n ≤ 32 ∧ n ≤ l) ∨ (∃ n : Nat, N = (n : Int) ∧ n ≤ 32 ∧ l < n) := by
        by_cases h1 : N < 0
        · exact .inl h1
        · by_cases h2 : 32 < N
          · exact .inr (.inl h2)
          · by_cases h3 : N.toNat ≤ l
            · exact .inr (.inr (.inl ⟨N.toNat, by omega, by omega, h3⟩))
            · exact .inr (.inr (.inr ⟨N.toNat, by omega, by omega, by omega⟩))
      rcases hcase with hN | hN | ⟨n, rfl, hn32, hnl⟩ | ⟨n, rfl, hn32, hnl⟩
      · go_upto_block 2 with fail
        clear c0 c1 c2 c3
        generalize wr.alloc (.cells #[.int .i64 kd, .int .i64 N, .int .u32 (x : Int), .string T] 30) = wa at *
        generalize wr.heap.size = q at *
        have o1 := HOA.out.c1
        go_cut [9, 14, 15, 16, 17, 18, 19, 20, 21] from 38 to 228 (fun s9 _ _ _ _ _ _ _ _ wx => ∃ t' l' : Nat, s9 = .int .i64 t' ∧ t' + l' = 8 * X.size ∧ RS w0 B gb X wx t')
        case first =>
          by_cases hk0 : kd = 0
          · subst hk0
            as_aux_lemma =>
              go_wp2_with fail
              refine (peek_bad _ N _ (.inl hN)).mono ?_
              rintro e v1 ⟨rfl, rfl⟩
              go_wp2_with fail
              all_goals
                first
                  | (have hct : cb = t := by assumption
                     subst hct
                     refine (number_sl gb cb 0 _ _ X _ HSA.out.bat (by have := HTL.out; omega) (by omega) (by first | exact .inl rfl | exact .inr rfl | exact .inl (by omega))).mono ?_)
                  | refine (number_sl gb t 0 _ _ X _ HSA.out.bat (by have := HTL.out; omega) (by omega) (by first | exact .inl rfl | exact .inr rfl | exact .inl (by omega))).mono ?_
                rintro e v2 ⟨rfl, rfl⟩
                rw [bitsN_zero]
                go_wp2_with fail
                go_meet
                case rel => exact ⟨_, l, rfl, HTL.out, HSA.out⟩
          · by_cases hk1 : kd = 1
            · subst hk1
              as_aux_lemma =>
                go_wp2_with fail
                refine (skip_bad _ N _ (.inl hN)).mono ?_
                rintro e v1 ⟨rfl, rfl⟩
                go_wp2_with fail
                go_meet
                case rel => exact ⟨_, l, rfl, HTL.out, HSA.out⟩
            · by_cases hk2 : kd = 2
              · subst hk2
                as_aux_lemma =>
                  go_wp2_with fail
                  refine (bits_bad _ N _ (.inl hN)).mono ?_
                  rintro e v1 ⟨rfl, rfl⟩
                  go_wp2_with fail
                  go_meet
                  case rel => exact ⟨_, l, rfl, HTL.out, HSA.out⟩
              · by_cases hk3 : kd = 3
                · subst hk3
                  as_aux_lemma =>
                    go_wp2_with fail
                    refine (ralign_any _ X t _ HSA.out.box (by omega)).mono ?_
                    rintro e v1 ⟨rfl, rfl⟩
                    have HS3 := hidM (HSA.out.only (HSA.out.box.set ((t + 7) / 8 * 8)) ((Only.refl B wa).setCell _ _) HNE.out)
                    go_wp2_with fail
                    refine (up_any t _ (by omega)).mono ?_
                    rintro e v2 ⟨rfl, rfl⟩
                    go_wp2_with fail
                    go_meet
                    case rel => exact ⟨(t + 7) / 8 * 8, 8 * X.size - (t + 7) / 8 * 8, rfl, by have := HTL.out; omega, HS3.out⟩
                · by_cases hk4 : kd = 4
                  · subst hk4
                    as_aux_lemma =>
                      obtain ⟨u, hu⟩ : ∃ u, u = (t + 7) / 8 := ⟨_, rfl⟩
                      obtain ⟨r, hr⟩ : ∃ r, u + r = X.size := ⟨X.size - u, by have := HTL.out; omega⟩
                      obtain ⟨y, hy⟩ : ∃ y, y = u * 8 := ⟨_, rfl⟩
                      obtain ⟨z, hz⟩ : ∃ z, z = 8 * r := ⟨_, rfl⟩
                      have HU := hidM hu
                      have HRR := hidM hr
                      have HY := hidM hy
                      have HZ := hidM hz
                      have y16 : y ≤ 1600 := by omega
                      have d0 : 8 * (X.size : Int) - (y : Int) = (z : Int) := by omega
                      have d1 : (z : Int).tdiv 8 = (r : Int) := by rw [Int.tdiv_eq_ediv_of_nonneg (by omega)]; omega
                      have d2 : (z : Int) / 8 = (r : Int) := by omega
                      have r200 : r ≤ 200 := by omega
                      have u200 : u ≤ 200 := by omega
                      have z16 : z ≤ 1600 := by omega
                      have HT8 : Hid (t ≤ 8 * X.size) := by have := HTL.out; unfold Hid; omega
                      clear hu hr hy hz hl8
                      go_wp2_with fail
                      refine (bytes_no _ X t u r N _ HSA.out.box (by omega) HT8.out HU.out HRR.out (.inl hN)).mono ?_
                      rintro e v1 ⟨rfl, hr1, ho1⟩
                      rw [← HY.out] at hr1
                      have HS4 := hidM (HSA.out.only hr1 ho1 HNE.out)
                      have o2 := (HOA.out.same (ho1.block q (by have := HQ.out; omega))).c1
                      clear hr1 ho1 o1
                      go_wp2_with fail
                      refine (up_any t _ (by omega)).mono ?_
                      rintro e v2 ⟨rfl, rfl⟩
                      rw [← HU.out, ← HY.out]
                      go_wp2_with fail
                      go_meet
                      case rel => exact ⟨y, z, rfl, by have := HY.out; have := HZ.out; have := HRR.out; omega, HS4.out⟩
                  · have n0 : (kd == 0) = false := by simpa using hk0
                    have n1 : (kd == 1) = false := by simpa using hk1
                    have n2 : (kd == 2) = false := by simpa using hk2
                    have n3 : (kd == 3) = false := by simpa using hk3
                    have n4 : (kd == 4) = false := by simpa using hk4
                    go_wp2_with fail
                    go_meet
                    case rel => exact ⟨t, l, rfl, HTL.out, HSA.out⟩
        case rest =>
          as_aux_lemma =>
            obtain ⟨t', l', rfl, htl', hrs'⟩ := hcut
            have HS' := hidM hrs'
            have HTL' := hidM htl'
            have tl' : t' ≤ 1600 := by omega
            obtain ⟨y, hy⟩ : ∃ y, y = (t' + 7) / 8 := ⟨_, rfl⟩
            have hy2 : y ≤ 1000 := by omega
            have HY := hidM hy
            clear htl' hrs' HSA HOA o1 hl8 hy
            go_wp2_with fail
            refine (left_any _ X t' l' _ HS'.out.box (by omega) HTL'.out).mono ?_
            rintro e v1 ⟨rfl, m1, rfl⟩
            have hl9 : 8 * (X.size : Int) - (t' : Int) = (l' : Int) := by have := HTL'.out; omega
            go_wp2_with fail
            refine (used_any _ X t' _ (HS'.out.drewN m1).box (by omega)).mono ?_
            rintro e v2 ⟨rfl, rfl⟩
            rw [← HY.out]
            go_wp2_with fail
            refine (up_any t' _ (by omega)).mono ?_
            rintro e v3 ⟨rfl, rfl⟩
            rw [← HY.out]
            have d1 : ((y * 8 : Nat) : Int).tdiv 8 = (y : Int) := by rw [Int.tdiv_eq_ediv_of_nonneg (by omega)]; omega
            have d2 : ((y * 8 : Nat) : Int) / 8 = (y : Int) := by omega
            generalize ((y * 8 : Nat) : Int) = z at *
            go_wp2
            refine ⟨⟨k + 1, t', l', by omega, by omega, rfl, rfl, HTL'.out, HS'.out.drewN m1⟩, ?_⟩
            simp [intOf]; omega
      · go_upto_block 2 with fail
        clear c0 c1 c2 c3
        generalize wr.alloc (.cells #[.int .i64 kd, .int .i64 N, .int .u32 (x : Int), .string T] 30) = wa at *
        generalize wr.heap.size = q at *
        have o1 := HOA.out.c1
        go_cut [9, 14, 15, 16, 17, 18, 19, 20, 21] from 38 to 228 (fun s9 _ _ _ _ _ _ _ _ wx => ∃ t' l' : Nat, s9 = .int .i64 t' ∧ t' + l' = 8 * X.size ∧ RS w0 B gb X wx t')
        case first =>
          by_cases hk0 : kd = 0
          · subst hk0
            as_aux_lemma =>
              go_wp2_with fail
              refine (peek_bad _ N _ (.inr hN)).mono ?_
              rintro e v1 ⟨rfl, rfl⟩
              go_wp2_with fail
              all_goals
                first
                  | (have hct : cb = t := by assumption
                     subst hct
                     refine (number_sl gb cb 0 _ _ X _ HSA.out.bat (by have := HTL.out; omega) (by omega) (by first | exact .inl rfl | exact .inr rfl | exact .inl (by omega))).mono ?_)
                  | refine (number_sl gb t 0 _ _ X _ HSA.out.bat (by have := HTL.out; omega) (by omega) (by first | exact .inl rfl | exact .inr rfl | exact .inl (by omega))).mono ?_
                rintro e v2 ⟨rfl, rfl⟩
                rw [bitsN_zero]
                go_wp2_with fail
                go_meet
                case rel => exact ⟨_, l, rfl, HTL.out, HSA.out⟩
          · by_cases hk1 : kd = 1
            · subst hk1
              as_aux_lemma =>
                go_wp2_with fail
                refine (skip_bad _ N _ (.inr hN)).mono ?_
                rintro e v1 ⟨rfl, rfl⟩
                go_wp2_with fail
                go_meet
                case rel => exact ⟨_, l, rfl, HTL.out, HSA.out⟩
            · by_cases hk2 : kd = 2
              · subst hk2
                as_aux_lemma =>
                  go_wp2_with fail
                  refine (bits_bad _ N _ (.inr hN)).mono ?_
                  rintro e v1 ⟨rfl, rfl⟩
                  go_wp2_with fail
                  go_meet
                  case rel => exact ⟨_, l, rfl, HTL.out, HSA.out⟩
              · by_cases hk3 : kd = 3
                · subst hk3
                  as_aux_lemma =>
                    go_wp2_with fail
                    refine (ralign_any _ X t _ HSA.out.box (by omega)).mono ?_
                    rintro e v1 ⟨rfl, rfl⟩
                    have HS3 := hidM (HSA.out.only (HSA.out.box.set ((t + 7) / 8 * 8)) ((Only.refl B wa).setCell _ _) HNE.out)
                    go_wp2_with fail
                    refine (up_any t _ (by omega)).mono ?_
                    rintro e v2 ⟨rfl, rfl⟩
                    go_wp2_with fail
                    go_meet
                    case rel => exact ⟨(t + 7) / 8 * 8, 8 * X.size - (t + 7) / 8 * 8, rfl, by have := HTL.out; omega, HS3.out⟩
                · by_cases hk4 : kd = 4
                  · subst hk4
                    as_aux_lemma =>
                      obtain ⟨u, hu⟩ : ∃ u, u = (t + 7) / 8 := ⟨_, rfl⟩
                      obtain ⟨r, hr⟩ : ∃ r, u + r = X.size := ⟨X.size - u, by have := HTL.out; omega⟩
                      obtain ⟨y, hy⟩ : ∃ y, y = u * 8 := ⟨_, rfl⟩
                      obtain ⟨z, hz⟩ : ∃ z, z = 8 * r := ⟨_, rfl⟩
                      have HU := hidM hu
                      have HRR := hidM hr
                      have HY := hidM hy
                      have HZ := hidM hz
                      have y16 : y ≤ 1600 := by omega
                      have d0 : 8 * (X.size : Int) - (y : Int) = (z : Int) := by omega
                      have d1 : (z : Int).tdiv 8 = (r : Int) := by rw [Int.tdiv_eq_ediv_of_nonneg (by omega)]; omega
                      have d2 : (z : Int) / 8 = (r : Int) := by omega
                      have r200 : r ≤ 200 := by omega
                      have u200 : u ≤ 200 := by omega
                      have z16 : z ≤ 1600 := by omega
                      have HT8 : Hid (t ≤ 8 * X.size) := by have := HTL.out; unfold Hid; omega
                      clear hu hr hy hz hl8
                      obtain ⟨n, rfl⟩ : ∃ n : Nat, N = (n : Int) := ⟨N.toNat, by omega⟩
                      by_cases hnr : n ≤ r
                      · go_wp2_with fail
                        refine (bytes_yes _ X t u r n _ HSA.out.box (by omega) HT8.out HU.out HRR.out hnr).mono ?_
                        rintro e v1 ⟨rfl, hr1, ho1⟩
                        have HS4 := hidM (HSA.out.only hr1 ho1 HNE.out)
                        have HOB := hidM (HOA.out.same (ho1.block q (by have := HQ.out; omega)))
                        have HQ2 : Hid (q < v1.heap.size) := (Array.getElem?_eq_some_iff.1 HOB.out).1
                        have o2 := (HOA.out.same (ho1.block q (by have := HQ.out; omega))).c1
                        have HEX := hidM (extract_le X u n (by have := HRR.out; omega))
                        generalize X.extract u (u + n) = EX at *
                        clear hr1 ho1 o1
                        go_wp2_with fail
                        refine (up_any t _ (by omega)).mono ?_
                        rintro e v2 ⟨rfl, rfl⟩
                        rw [← HU.out, ← HY.out]
                        have hn8 : n ≤ 200 := by omega
                        have HYZ : Hid (y + 8 * n ≤ 8 * X.size) := by have := HY.out; have := HRR.out; unfold Hid; omega
                        have hyz := HYZ.out
                        go_wp2_with fail
                        all_goals
                          first
                            | (have hct : cb = y := by assumption
                               subst hct
                               refine (text_sl gb cb (8 * n) _ _ X _ HS4.out.bat HYZ.out (by omega) (by first | exact .inl rfl | exact .inr rfl | exact .inl (by omega))).mono ?_)
                            | refine (text_sl gb y (8 * n) _ _ X _ HS4.out.bat HYZ.out (by omega) (by first | exact .inl rfl | exact .inr rfl | exact .inl (by omega))).mono ?_
                          rintro e v3 ⟨⟨tx, rfl, htx, hts⟩, hb3⟩
                          have htE : tx = EX := text_eq tx EX (by rw [htx, HEX.out.1, HY.out, Nat.mul_comm u 8]) (by rw [hts, HEX.out.2]; omega)
                          subst htE
                          have HS5 := hidM (HS4.out.below hb3)
                          have o3 := (HOB.out.same (hb3.block q (HQ2.out))).c1
                          clear hb3 htx hts
                          go_wp2_with fail
                          go_meet
                          case rel => exact ⟨_ + 8 * n, z - 8 * n, rfl, by have := HZ.out; have := HY.out; have := HRR.out; omega, by have := HS5.out; rwa [← HY.out] at this⟩
                      · go_wp2_with fail
                        refine (bytes_no _ X t u r (n : Int) _ HSA.out.box (by omega) HT8.out HU.out HRR.out (.inr (by omega))).mono ?_
                        rintro e v1 ⟨rfl, hr1, ho1⟩
                        rw [← HY.out] at hr1
                        have HS4 := hidM (HSA.out.only hr1 ho1 HNE.out)
                        have o2 := (HOA.out.same (ho1.block q (by have := HQ.out; omega))).c1
                        clear hr1 ho1 o1
                        go_wp2_with fail
                        refine (up_any t _ (by omega)).mono ?_
                        rintro e v2 ⟨rfl, rfl⟩
                        rw [← HU.out, ← HY.out]
                        go_wp2_with fail
                        go_meet
                        case rel => exact ⟨y, z, rfl, by have := HY.out; have := HZ.out; have := HRR.out; omega, HS4.out⟩
                  · have n0 : (kd == 0) = false := by simpa using hk0
                    have n1 : (kd == 1) = false := by simpa using hk1
                    have n2 : (kd == 2) = false := by simpa using hk2
                    have n3 : (kd == 3) = false := by simpa using hk3
                    have n4 : (kd == 4) = false := by simpa using hk4
                    go_wp2_with fail
                    go_meet
                    case rel => exact ⟨t, l, rfl, HTL.out, HSA.out⟩
        case rest =>
          as_aux_lemma =>
            obtain ⟨t', l', rfl, htl', hrs'⟩ := hcut
            have HS' := hidM hrs'
            have HTL' := hidM htl'
            have tl' : t' ≤ 1600 := by omega
            obtain ⟨y, hy⟩ : ∃ y, y = (t' + 7) / 8 := ⟨_, rfl⟩
            have hy2 : y ≤ 1000 := by omega
            have HY := hidM hy
            clear htl' hrs' HSA HOA o1 hl8 hy
            go_wp2_with fail
            refine (left_any _ X t' l' _ HS'.out.box (by omega) HTL'.out).mono ?_
            rintro e v1 ⟨rfl, m1, rfl⟩
            have hl9 : 8 * (X.size : Int) - (t' : Int) = (l' : Int) := by have := HTL'.out; omega
            go_wp2_with fail
            refine (used_any _ X t' _ (HS'.out.drewN m1).box (by omega)).mono ?_
            rintro e v2 ⟨rfl, rfl⟩
            rw [← HY.out]
            go_wp2_with fail
            refine (up_any t' _ (by omega)).mono ?_
            rintro e v3 ⟨rfl, rfl⟩
            rw [← HY.out]
            have d1 : ((y * 8 : Nat) : Int).tdiv 8 = (y : Int) := by rw [Int.tdiv_eq_ediv_of_nonneg (by omega)]; omega
            have d2 : ((y * 8 : Nat) : Int) / 8 = (y : Int) := by omega
            generalize ((y * 8 : Nat) : Int) = z at *
            go_wp2
            refine ⟨⟨k + 1, t', l', by omega, by omega, rfl, rfl, HTL'.out, HS'.out.drewN m1⟩, ?_⟩
            simp [intOf]; omega
      · have e3 : (if (l : Int) < (n : Int) then (l : Int) else (n : Int)) = (n : Int) := by rw [if_neg (by omega)]
        have e4 : decide ((n : Int) ≤ (l : Int)) = true := by simp; omega
        go_upto_block 2 with fail
        clear c0 c1 c2 c3
        generalize wr.alloc (.cells #[.int .i64 kd, .int .i64 (n : Int), .int .u32 (x : Int), .string T] 30) = wa at *
        generalize wr.heap.size = q at *
        have o1 := HOA.out.c1
        go_cut [9, 14, 15, 16, 17, 18, 19, 20, 21] from 38 to 228 (fun s9 _ _ _ _ _ _ _ _ wx => ∃ t' l' : Nat, s9 = .int .i64 t' ∧ t' + l' = 8 * X.size ∧ RS w0 B gb X wx t')
        case first =>
          by_cases hk0 : kd = 0
          · subst hk0
            as_aux_lemma =>
              go_wp2_with fail
              refine (peek_any _ X t l n n _ HSA.out.box (by omega) HTL.out hn32 (by omega)).mono ?_
              rintro e v1 ⟨rfl, m1, rfl⟩
              go_wp2_with fail
              all_goals
                first
                  | (have hct : cb = t := by assumption
                     subst hct
                     refine (number_sl gb cb n _ _ X _ (HSA.out.drewN m1).bat (by have := HTL.out; omega) (by omega) (by first | exact .inl rfl | exact .inr rfl | exact .inl (by omega))).mono ?_)
                  | refine (number_sl gb t n _ _ X _ (HSA.out.drewN m1).bat (by have := HTL.out; omega) (by omega) (by first | exact .inl rfl | exact .inr rfl | exact .inl (by omega))).mono ?_
                rintro e v2 ⟨rfl, rfl⟩
                go_wp2_with fail
                go_meet
                case rel => exact ⟨_, l, rfl, HTL.out, HSA.out.drewN m1⟩
          · by_cases hk1 : kd = 1
            · subst hk1
              as_aux_lemma =>
                go_wp2_with fail
                refine (skip_yes _ X t l n _ HSA.out.box (by omega) HTL.out hn32 hnl).mono ?_
                rintro e v1 ⟨rfl, m1, rfl⟩
                have HS1 := hidM (HSA.out.put m1 n HNE.out)
                have o2 := (HOA.out.same (show _ = _ from (((Only.refl B wa).drewN m1).setCell 1 (.int .i64 ((t + n : Nat) : Int))).block q (by have := HQ.out; omega))).c1
                generalize (wa.drewN m1).setCell ⟨B, 1, none⟩ (.int .i64 ((t + n : Nat) : Int)) = wb at *
                go_wp2_with fail
                go_meet
                case rel => exact ⟨t + n, l - n, rfl, by have := HTL.out; omega, HS1.out⟩
            · by_cases hk2 : kd = 2
              · subst hk2
                as_aux_lemma =>
                  go_wp2_with fail
                  refine (bits_yes _ X t l n _ HSA.out.box (by omega) HTL.out hn32 hnl).mono ?_
                  rintro e v1 ⟨rfl, m1, rfl⟩
                  have HS1 := hidM (HSA.out.put m1 n HNE.out)
                  have o2 := (HOA.out.same (show _ = _ from (((Only.refl B wa).drewN m1).setCell 1 (.int .i64 ((t + n : Nat) : Int))).block q (by have := HQ.out; omega))).c1
                  generalize (wa.drewN m1).setCell ⟨B, 1, none⟩ (.int .i64 ((t + n : Nat) : Int)) = wb at *
                  go_wp2_with fail
                  all_goals
                    first
                      | (have hct : cb = t := by assumption
                         subst hct
                         refine (number_sl gb cb n _ _ X _ HS1.out.bat (by have := HTL.out; omega) (by omega) (by first | exact .inl rfl | exact .inr rfl | exact .inl (by omega))).mono ?_)
                      | refine (number_sl gb t n _ _ X _ HS1.out.bat (by have := HTL.out; omega) (by omega) (by first | exact .inl rfl | exact .inr rfl | exact .inl (by omega))).mono ?_
                    rintro e v2 ⟨rfl, rfl⟩
                    go_wp2_with fail
                    go_meet
                    case rel => exact ⟨_ + n, l - n, rfl, by have := HTL.out; omega, HS1.out⟩
              · by_cases hk3 : kd = 3
                · subst hk3
                  as_aux_lemma =>
                    go_wp2_with fail
                    refine (ralign_any _ X t _ HSA.out.box (by omega)).mono ?_
                    rintro e v1 ⟨rfl, rfl⟩
                    have HS3 := hidM (HSA.out.only (HSA.out.box.set ((t + 7) / 8 * 8)) ((Only.refl B wa).setCell _ _) HNE.out)
                    go_wp2_with fail
                    refine (up_any t _ (by omega)).mono ?_
                    rintro e v2 ⟨rfl, rfl⟩
                    go_wp2_with fail
                    go_meet
                    case rel => exact ⟨(t + 7) / 8 * 8, 8 * X.size - (t + 7) / 8 * 8, rfl, by have := HTL.out; omega, HS3.out⟩
                · by_cases hk4 : kd = 4
                  · subst hk4
                    as_aux_lemma =>
                      obtain ⟨u, hu⟩ : ∃ u, u = (t + 7) / 8 := ⟨_, rfl⟩
                      obtain ⟨r, hr⟩ : ∃ r, u + r = X.size := ⟨X.size - u, by have := HTL.out; omega⟩
                      obtain ⟨y, hy⟩ : ∃ y, y = u * 8 := ⟨_, rfl⟩
                      obtain ⟨z, hz⟩ : ∃ z, z = 8 * r := ⟨_, rfl⟩
                      have HU := hidM hu
                      have HRR := hidM hr
                      have HY := hidM hy
                      have HZ := hidM hz
                      have y16 : y ≤ 1600 := by omega
                      have d0 : 8 * (X.size : Int) - (y : Int) = (z : Int) := by omega
                      have d1 : (z : Int).tdiv 8 = (r : Int) := by rw [Int.tdiv_eq_ediv_of_nonneg (by omega)]; omega
                      have d2 : (z : Int) / 8 = (r : Int) := by omega
                      have r200 : r ≤ 200 := by omega
                      have u200 : u ≤ 200 := by omega
                      have z16 : z ≤ 1600 := by omega
                      have HT8 : Hid (t ≤ 8 * X.size) := by have := HTL.out; unfold Hid; omega
                      clear hu hr hy hz hl8
                      by_cases hnr : n ≤ r
                      · go_wp2_with fail
                        refine (bytes_yes _ X t u r n _ HSA.out.box (by omega) HT8.out HU.out HRR.out hnr).mono ?_
                        rintro e v1 ⟨rfl, hr1, ho1⟩
                        have HS4 := hidM (HSA.out.only hr1 ho1 HNE.out)
                        have HOB := hidM (HOA.out.same (ho1.block q (by have := HQ.out; omega)))
                        have HQ2 : Hid (q < v1.heap.size) := (Array.getElem?_eq_some_iff.1 HOB.out).1
                        have o2 := (HOA.out.same (ho1.block q (by have := HQ.out; omega))).c1
                        have HEX := hidM (extract_le X u n (by have := HRR.out; omega))
                        generalize X.extract u (u + n) = EX at *
                        clear hr1 ho1 o1
                        go_wp2_with fail
                        refine (up_any t _ (by omega)).mono ?_
                        rintro e v2 ⟨rfl, rfl⟩
                        rw [← HU.out, ← HY.out]
                        have hn8 : n ≤ 200 := by omega
                        have HYZ : Hid (y + 8 * n ≤ 8 * X.size) := by have := HY.out; have := HRR.out; unfold Hid; omega
                        have hyz := HYZ.out
                        go_wp2_with fail
                        all_goals
                          first
                            | (have hct : cb = y := by assumption
                               subst hct
                               refine (text_sl gb cb (8 * n) _ _ X _ HS4.out.bat HYZ.out (by omega) (by first | exact .inl rfl | exact .inr rfl | exact .inl (by omega))).mono ?_)
                            | refine (text_sl gb y (8 * n) _ _ X _ HS4.out.bat HYZ.out (by omega) (by first | exact .inl rfl | exact .inr rfl | exact .inl (by omega))).mono ?_
                          rintro e v3 ⟨⟨tx, rfl, htx, hts⟩, hb3⟩
                          have htE : tx = EX := text_eq tx EX (by rw [htx, HEX.out.1, HY.out, Nat.mul_comm u 8]) (by rw [hts, HEX.out.2]; omega)
                          subst htE
                          have HS5 := hidM (HS4.out.below hb3)
                          have o3 := (HOB.out.same (hb3.block q (HQ2.out))).c1
                          clear hb3 htx hts
                          go_wp2_with fail
                          go_meet
                          case rel => exact ⟨_ + 8 * n, z - 8 * n, rfl, by have := HZ.out; have := HY.out; have := HRR.out; omega, by have := HS5.out; rwa [← HY.out] at this⟩
                      · go_wp2_with fail
                        refine (bytes_no _ X t u r (n : Int) _ HSA.out.box (by omega) HT8.out HU.out HRR.out (.inr (by omega))).mono ?_
                        rintro e v1 ⟨rfl, hr1, ho1⟩
                        rw [← HY.out] at hr1
                        have HS4 := hidM (HSA.out.only hr1 ho1 HNE.out)
                        have o2 := (HOA.out.same (ho1.block q (by have := HQ.out; omega))).c1
                        clear hr1 ho1 o1
                        go_wp2_with fail
                        refine (up_any t _ (by omega)).mono ?_
                        rintro e v2 ⟨rfl, rfl⟩
                        rw [← HU.out, ← HY.out]
                        go_wp2_with fail
                        go_meet
                        case rel => exact ⟨y, z, rfl, by have := HY.out; have := HZ.out; have := HRR.out; omega, HS4.out⟩
                  · have n0 : (kd == 0) = false := by simpa using hk0
                    have n1 : (kd == 1) = false := by simpa using hk1
                    have n2 : (kd == 2) = false := by simpa using hk2
                    have n3 : (kd == 3) = false := by simpa using hk3
                    have n4 : (kd == 4) = false := by simpa using hk4
                    go_wp2_with fail
                    go_meet
                    case rel => exact ⟨t, l, rfl, HTL.out, HSA.out⟩
        case rest =>
          as_aux_lemma =>
            obtain ⟨t', l', rfl, htl', hrs'⟩ := hcut
            have HS' := hidM hrs'
            have HTL' := hidM htl'
            have tl' : t' ≤ 1600 := by omega
            obtain ⟨y, hy⟩ : ∃ y, y = (t' + 7) / 8 := ⟨_, rfl⟩
            have hy2 : y ≤ 1000 := by omega
            have HY := hidM hy
            clear htl' hrs' HSA HOA o1 hl8 hy
            go_wp2_with fail
            refine (left_any _ X t' l' _ HS'.out.box (by omega) HTL'.out).mono ?_
            rintro e v1 ⟨rfl, m1, rfl⟩
            have hl9 : 8 * (X.size : Int) - (t' : Int) = (l' : Int) := by have := HTL'.out; omega
            go_wp2_with fail
            refine (used_any _ X t' _ (HS'.out.drewN m1).box (by omega)).mono ?_
            rintro e v2 ⟨rfl, rfl⟩
            rw [← HY.out]
            go_wp2_with fail
            refine (up_any t' _ (by omega)).mono ?_
            rintro e v3 ⟨rfl, rfl⟩
            rw [← HY.out]
            have d1 : ((y * 8 : Nat) : Int).tdiv 8 = (y : Int) := by rw [Int.tdiv_eq_ediv_of_nonneg (by omega)]; omega
            have d2 : ((y * 8 : Nat) : Int) / 8 = (y : Int) := by omega
            generalize ((y * 8 : Nat) : Int) = z at *
            go_wp2
            refine ⟨⟨k + 1, t', l', by omega, by omega, rfl, rfl, HTL'.out, HS'.out.drewN m1⟩, ?_⟩
            simp [intOf]; omega
      · have e3 : (if (l : Int) < (n : Int) then (l : Int) else (n : Int)) = (l : Int) := by rw [if_pos (by omega)]
        have e4 : decide ((n : Int) ≤ (l : Int)) = false := by simp; omega
        go_upto_block 2 with fail
        clear c0 c1 c2 c3
        generalize wr.alloc (.cells #[.int .i64 kd, .int .i64 (n : Int), .int .u32 (x : Int), .string T] 30) = wa at *
        generalize wr.heap.size = q at *
        have o1 := HOA.out.c1
        go_cut [9, 14, 15, 16, 17, 18, 19, 20, 21] from 38 to 228 (fun s9 _ _ _ _ _ _ _ _ wx => ∃ t' l' : Nat, s9 = .int .i64 t' ∧ t' + l' = 8 * X.size ∧ RS w0 B gb X wx t')
        case first =>
          by_cases hk0 : kd = 0
          · subst hk0
            as_aux_lemma =>
              go_wp2_with fail
              refine (peek_any _ X t l n l _ HSA.out.box (by omega) HTL.out hn32 (by omega)).mono ?_
              rintro e v1 ⟨rfl, m1, rfl⟩
              go_wp2_with fail
              all_goals
                first
                  | (have hct : cb = t := by assumption
                     subst hct
                     refine (number_sl gb cb l _ _ X _ (HSA.out.drewN m1).bat (by have := HTL.out; omega) (by omega) (by first | exact .inl rfl | exact .inr rfl | exact .inl (by omega))).mono ?_)
                  | refine (number_sl gb t l _ _ X _ (HSA.out.drewN m1).bat (by have := HTL.out; omega) (by omega) (by first | exact .inl rfl | exact .inr rfl | exact .inl (by omega))).mono ?_
                rintro e v2 ⟨rfl, rfl⟩
                go_wp2_with fail
                go_meet
                case rel => exact ⟨_, l, rfl, HTL.out, HSA.out.drewN m1⟩
          · by_cases hk1 : kd = 1
            · subst hk1
              as_aux_lemma =>
                go_wp2_with fail
                refine (skip_no _ X t l n _ HSA.out.box (by omega) HTL.out hn32 hnl).mono ?_
                rintro e v1 ⟨rfl, m1, rfl⟩
                go_wp2_with fail
                go_meet
                case rel => exact ⟨_, l, rfl, HTL.out, HSA.out.drewN m1⟩
            · by_cases hk2 : kd = 2
              · subst hk2
                as_aux_lemma =>
                  go_wp2_with fail
                  refine (bits_no _ X t l n _ HSA.out.box (by omega) HTL.out hn32 hnl).mono ?_
                  rintro e v1 ⟨rfl, m1, rfl⟩
                  go_wp2_with fail
                  go_meet
                  case rel => exact ⟨_, l, rfl, HTL.out, HSA.out.drewN m1⟩
              · by_cases hk3 : kd = 3
                · subst hk3
                  as_aux_lemma =>
                    go_wp2_with fail
                    refine (ralign_any _ X t _ HSA.out.box (by omega)).mono ?_
                    rintro e v1 ⟨rfl, rfl⟩
                    have HS3 := hidM (HSA.out.only (HSA.out.box.set ((t + 7) / 8 * 8)) ((Only.refl B wa).setCell _ _) HNE.out)
                    go_wp2_with fail
                    refine (up_any t _ (by omega)).mono ?_
                    rintro e v2 ⟨rfl, rfl⟩
                    go_wp2_with fail
                    go_meet
                    case rel => exact ⟨(t + 7) / 8 * 8, 8 * X.size - (t + 7) / 8 * 8, rfl, by have := HTL.out; omega, HS3.out⟩
                · by_cases hk4 : kd = 4
                  · subst hk4
                    as_aux_lemma =>
                      obtain ⟨u, hu⟩ : ∃ u, u = (t + 7) / 8 := ⟨_, rfl⟩
                      obtain ⟨r, hr⟩ : ∃ r, u + r = X.size := ⟨X.size - u, by have := HTL.out; omega⟩
                      obtain ⟨y, hy⟩ : ∃ y, y = u * 8 := ⟨_, rfl⟩
                      obtain ⟨z, hz⟩ : ∃ z, z = 8 * r := ⟨_, rfl⟩
                      have HU := hidM hu
                      have HRR := hidM hr
                      have HY := hidM hy
                      have HZ := hidM hz
                      have y16 : y ≤ 1600 := by omega
                      have d0 : 8 * (X.size : Int) - (y : Int) = (z : Int) := by omega
                      have d1 : (z : Int).tdiv 8 = (r : Int) := by rw [Int.tdiv_eq_ediv_of_nonneg (by omega)]; omega
                      have d2 : (z : Int) / 8 = (r : Int) := by omega
                      have r200 : r ≤ 200 := by omega
                      have u200 : u ≤ 200 := by omega
                      have z16 : z ≤ 1600 := by omega
                      have HT8 : Hid (t ≤ 8 * X.size) := by have := HTL.out; unfold Hid; omega
                      clear hu hr hy hz hl8
                      by_cases hnr : n ≤ r
                      · go_wp2_with fail
                        refine (bytes_yes _ X t u r n _ HSA.out.box (by omega) HT8.out HU.out HRR.out hnr).mono ?_
                        rintro e v1 ⟨rfl, hr1, ho1⟩
                        have HS4 := hidM (HSA.out.only hr1 ho1 HNE.out)
                        have HOB := hidM (HOA.out.same (ho1.block q (by have := HQ.out; omega)))
                        have HQ2 : Hid (q < v1.heap.size) := (Array.getElem?_eq_some_iff.1 HOB.out).1
                        have o2 := (HOA.out.same (ho1.block q (by have := HQ.out; omega))).c1
                        have HEX := hidM (extract_le X u n (by have := HRR.out; omega))
                        generalize X.extract u (u + n) = EX at *
                        clear hr1 ho1 o1
                        go_wp2_with fail
                        refine (up_any t _ (by omega)).mono ?_
                        rintro e v2 ⟨rfl, rfl⟩
                        rw [← HU.out, ← HY.out]
                        have hn8 : n ≤ 200 := by omega
                        have HYZ : Hid (y + 8 * n ≤ 8 * X.size) := by have := HY.out; have := HRR.out; unfold Hid; omega
                        have hyz := HYZ.out
                        go_wp2_with fail
                        all_goals
                          first
                            | (have hct : cb = y := by assumption
                               subst hct
                               refine (text_sl gb cb (8 * n) _ _ X _ HS4.out.bat HYZ.out (by omega) (by first | exact .inl rfl | exact .inr rfl | exact .inl (by omega))).mono ?_)
                            | refine (text_sl gb y (8 * n) _ _ X _ HS4.out.bat HYZ.out (by omega) (by first | exact .inl rfl | exact .inr rfl | exact .inl (by omega))).mono ?_
                          rintro e v3 ⟨⟨tx, rfl, htx, hts⟩, hb3⟩
                          have htE : tx = EX := text_eq tx EX (by rw [htx, HEX.out.1, HY.out, Nat.mul_comm u 8]) (by rw [hts, HEX.out.2]; omega)
                          subst htE
                          have HS5 := hidM (HS4.out.below hb3)
                          have o3 := (HOB.out.same (hb3.block q (HQ2.out))).c1
                          clear hb3 htx hts
                          go_wp2_with fail
                          go_meet
                          case rel => exact ⟨_ + 8 * n, z - 8 * n, rfl, by have := HZ.out; have := HY.out; have := HRR.out; omega, by have := HS5.out; rwa [← HY.out] at this⟩
                      · go_wp2_with fail
                        refine (bytes_no _ X t u r (n : Int) _ HSA.out.box (by omega) HT8.out HU.out HRR.out (.inr (by omega))).mono ?_
                        rintro e v1 ⟨rfl, hr1, ho1⟩
                        rw [← HY.out] at hr1
                        have HS4 := hidM (HSA.out.only hr1 ho1 HNE.out)
                        have o2 := (HOA.out.same (ho1.block q (by have := HQ.out; omega))).c1
                        clear hr1 ho1 o1
                        go_wp2_with fail
                        refine (up_any t _ (by omega)).mono ?_
                        rintro e v2 ⟨rfl, rfl⟩
                        rw [← HU.out, ← HY.out]
                        go_wp2_with fail
                        go_meet
                        case rel => exact ⟨y, z, rfl, by have := HY.out; have := HZ.out; have := HRR.out; omega, HS4.out⟩
                  · have n0 : (kd == 0) = false := by simpa using hk0
                    have n1 : (kd == 1) = false := by simpa using hk1
                    have n2 : (kd == 2) = false := by simpa using hk2
                    have n3 : (kd == 3) = false := by simpa using hk3
                    have n4 : (kd == 4) = false := by simpa using hk4
                    go_wp2_with fail
                    go_meet
                    case rel => exact ⟨t, l, rfl, HTL.out, HSA.out⟩
        case rest =>
          as_aux_lemma =>
            obtain ⟨t', l', rfl, htl', hrs'⟩ := hcut
            have HS' := hidM hrs'
            have HTL' := hidM htl'
            have tl' : t' ≤ 1600 := by omega
            obtain ⟨y, hy⟩ : ∃ y, y = (t' + 7) / 8 := ⟨_, rfl⟩
            have hy2 : y ≤ 1000 := by omega
            have HY := hidM hy
            clear htl' hrs' HSA HOA o1 hl8 hy
            go_wp2_with fail
            refine (left_any _ X t' l' _ HS'.out.box (by omega) HTL'.out).mono ?_
            rintro e v1 ⟨rfl, m1, rfl⟩
            have hl9 : 8 * (X.size : Int) - (t' : Int) = (l' : Int) := by have := HTL'.out; omega
            go_wp2_with fail
            refine (used_any _ X t' _ (HS'.out.drewN m1).box (by omega)).mono ?_
            rintro e v2 ⟨rfl, rfl⟩
            rw [← HY.out]
            go_wp2_with fail
            refine (up_any t' _ (by omega)).mono ?_
            rintro e v3 ⟨rfl, rfl⟩
            rw [← HY.out]
            have d1 : ((y * 8 : Nat) : Int).tdiv 8 = (y : Int) := by rw [Int.tdiv_eq_ediv_of_nonneg (by omega)]; omega
            have d2 : ((y * 8 : Nat) : Int) / 8 = (y : Int) := by omega
            generalize ((y * 8 : Nat) : Int) = z at *
            go_wp2
            refine ⟨⟨k + 1, t', l', by omega, by omega, rfl, rfl, HTL'.out, HS'.out.drewN m1⟩, ?_⟩
            simp [intOf]; omega
    · clear HTL tl
      by_cases hl1 : k < len
      · have hl2 : ¬ k < 100 := by omega
        clear hlt
        go_wp2_with fail
        refine (awake_any wr).mono ?_
        rintro e v1 ⟨rfl, hb1⟩
        have HB9 := hidM (HS.out.below hb1).bel
        clear hb1
        go_wp2
        go_ret
        exact ⟨rfl, by rw [HBE.out]; exact HB9.out⟩
      · clear hlt
        go_wp2_with fail
        refine (awake_any wr).mono ?_
        rintro e v1 ⟨rfl, hb1⟩
        have HB9 := hidM (HS.out.below hb1).bel
        clear hb1
        go_wp2
        go_ret
        exact ⟨rfl, by rw [HBE.out]; exact HB9.out⟩
end Go.Proofs.Ytklocjmhembbfaa
