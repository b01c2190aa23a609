/-
  Walks of bitin's Writer, in this seat: Align, Bytes; of its Reader: Align, Bytes.
-/
import Derived.Test.YtpidofgmbjkbiaaBitC
import Derived.Test.YtpidofgmbjkbiaaHufA
import Derived.Lib.AppendStr
namespace Go.Proofs.Ytpidofgmbjkbiaa
open Go.RowKit

set_option maxHeartbeats 1000000 in
theorem walign_any (b N T : Nat) (w : World) (hb : WAt w b N T) (hT : T ≤ 1000000000) :
    Calls Try.prog 36 #[.pointer (some ⟨b, 0, none⟩)] w fun e w' => e = .returned (.tuple #[]) ∧ WAt w' b N ((T + 7) / 8 * 8) ∧ Below b w w' := by
  have HB := hidM hb
  obtain ⟨v, F, q, h, hw, hh, hq, ht, hN⟩ := hb
  have c2 := hw.c2
  have HT := hidM ht
  clear hN hq ht
  by_cases h0 : h = 0
  · subst h0
    have HE : Hid ((T + 7) / 8 * 8 = T) := by have := HT.out; unfold Hid; omega
    go_enter Try.func36, Try.ntmps36
    go_wp2
    exact bodyPost_end (results_none Try.results36 _ _ _) rfl ⟨rfl, by rw [HE.out]; exact HB.out, Below.refl _ _⟩
  · obtain ⟨r, hr⟩ : ∃ r, r + h = 8 := ⟨8 - h, by omega⟩
    have hsub : (8 : Int) - (h : Int) = (r : Int) := by omega
    have HE : Hid ((T + 7) / 8 * 8 = T + r) := by have := HT.out; unfold Hid; omega
    have hpos : 0 < h := by omega
    clear hr
    go_enter Try.func36, Try.ntmps36
    go_wp2_with fail
    refine (wbits_at _ N T 0 r _ HB.out hT (by omega) (by decide)).mono ?_
    rintro e w2 ⟨rfl, hw2, hb2⟩
    rw [Nat.zero_mod, Nat.mul_zero, Nat.add_zero] at hw2
    have HW2 := hidM hw2
    have HB2 := hidM hb2
    clear hw2 hb2
    go_wp2
    exact bodyPost_end (results_none Try.results36 _ _ _) rfl ⟨rfl, by rw [HE.out]; exact HW2.out, HB2.out⟩

theorem WBox.put0 {w w1 : World} {b : Nat} {v v' : Value} {F G : List UInt8} {q h : Nat} (x : WBox w b v F q h) (hg : w.grownBy w1 v.ownBlock)
    (hown : w1.ownsRow (b + 1) 5 1 v' (F.length + G.length) (bytesV F ++ bytesV G)) :
    WBox (w1.setCell ⟨b, 0, none⟩ v') b v' (F ++ G) q h := by
  have hne : some b ≠ v.ownBlock := fun he => by have := (World.ownsRow.lt x.own b he.symm).1; omega
  have hb := (hg.block b x.lt hne).trans x.box
  refine ⟨by rw [heap_setCell_same w1 b _ _ 52 _ hb]; rfl, ?_⟩
  refine ownsRow_setCell_below ?_ (Nat.lt_succ_self b) _
  rw [← bytesV_app, ← List.length_append] at hown
  exact hown

theorem WBox.put0Below {w w0 w1 : World} {b : Nat} {v v' : Value} {F : List UInt8} {q h : Nat} (x : WBox w b v F q h) (hg : w.grownBy w1 v.ownBlock) (hb : Below b w0 w) : Below b w0 (w1.setCell ⟨b, 0, none⟩ v') :=
  below_set (hb.grown hg (Nat.le_of_lt x.lt) (fun k hk => by have := (World.ownsRow.lt x.own k hk).1; omega)) (Nat.le_refl b)

set_option maxHeartbeats 1000000 in
theorem wbytes_any (b N T : Nat) (s : ByteArray) (w : World) (hb : WAt w b N T) (hT : T ≤ 1000000000) (hs : s.size ≤ 1000000000) :
    Calls Try.prog 25 #[.pointer (some ⟨b, 0, none⟩), .string s] w fun e w' => e = .returned (.tuple #[]) ∧ WAt w' b (N + 2 ^ ((T + 7) / 8 * 8) * le s.data.toList) ((T + 7) / 8 * 8 + 8 * s.size) ∧ Below b w w' := by
  obtain ⟨i0, hi, hz0, hz1, hz2⟩ := info_parts Try.info5
  go_enter Try.func25, Try.ntmps25
  go_wp2_with fail
  refine (walign_any b N T w hb hT).mono ?_
  rintro e w1 ⟨rfl, hw1, hb1⟩
  obtain ⟨v, F, q, h, hw, hh, hq, ht, hN⟩ := hw1
  have h0 : h = 0 := by omega
  subst h0
  have q0 : q = 0 := by simpa using hq
  subst q0
  have HW := hidM hw
  have HT := hidM ht
  have HN := hidM hN
  have HB1 := hidM hb1
  have c0 := hw.c0
  have HFL : Hid (F.length ≤ 1000000000) := by unfold Hid; omega
  have HLT := hidM hw.lt
  clear hw ht hN hb1 hb hq hh
  go_wp2_with (first
    | (at_builtin; refine Lib.wpList_append_own_string _ rfl _ _ 49 9 rfl (b + 1) 5 i0 Try.underlying49 Try.underlying9 hi hz0 hz1 hz2 _ _ _ rfl HW.out.own s rfl ?c1 ?c2 ?c3 ?_))
  case c1 => have := HFL.out; unfold maxLen; omega
  case c2 => have := HFL.out; omega
  case c3 => have := HLT.out; omega
  intro v' w2 hown hgrow _
  obtain ⟨a', n', c', rfl⟩ : ∃ a n c, v' = .slice a n c := by
    rcases hown.2 with ⟨h1, _⟩ | ⟨g, cap, cur, h1, _⟩
    · exact ⟨_, _, _, h1⟩
    · exact ⟨_, _, _, h1⟩
  have hl : s.size = s.data.toList.length := by simp
  have hW2 := HW.out.put0 (G := s.data.toList) hgrow (by rw [← hl]; exact hown)
  have HW2 := hidM hW2
  have HB2 := hidM (HW.out.put0Below (v' := .slice a' n' c') hgrow HB1.out)
  have hne : some b ≠ v.ownBlock := fun he => by have := (World.ownsRow.lt HW.out.own b he.symm).1; omega
  have hbx := (hgrow.block b HLT.out hne).trans HW.out.box
  have k0 : w2.cell? ⟨b, 0, none⟩ = some v := by rw [cell_of_row w2 b _ _ 52 (0, 0) hbx]; rfl
  have k1 := frozen_of_row w2 b 0 _ 52 hbx
  clear hown hgrow hne hbx hl hW2 c0
  go_wp2
  refine bodyPost_end (results_none Try.results25 _ _ _) rfl ⟨rfl, ⟨_, F ++ s.data.toList, 0, 0, HW2.out, by decide, by decide, ?_, ?_⟩, HB2.out⟩
  · have := HT.out
    simp
    omega
  · have h1 := HN.out
    have h2 := HT.out
    unfold WNum at h1 ⊢
    rw [Nat.mul_zero, Nat.add_zero] at h1 ⊢
    rw [le_app, h1, ← h2, pow256, Nat.add_zero]

set_option maxHeartbeats 1000000 in
theorem walign_g (b N T : Nat) (G : List (Nat × Obj)) (w : World) (hb : WAtG w b N T G) (hT : T ≤ 1000000000) :
    Calls Try.prog 36 #[.pointer (some ⟨b, 0, none⟩)] w fun e w' => e = .returned (.tuple #[]) ∧ WAtG w' b N ((T + 7) / 8 * 8) G ∧ Below b w w' := by
  have HB := hidM hb
  obtain ⟨v, F, q, h, hw, hh, hq, ht, hN, hne⟩ := hb
  have c2 := hw.c2
  have HT := hidM ht
  clear hN hq ht hne
  by_cases h0 : h = 0
  · subst h0
    have HE : Hid ((T + 7) / 8 * 8 = T) := by have := HT.out; unfold Hid; omega
    go_enter Try.func36, Try.ntmps36
    go_wp2
    exact bodyPost_end (results_none Try.results36 _ _ _) rfl ⟨rfl, by rw [HE.out]; exact HB.out, Below.refl _ _⟩
  · obtain ⟨r, hr⟩ : ∃ r, r + h = 8 := ⟨8 - h, by omega⟩
    have hsub : (8 : Int) - (h : Int) = (r : Int) := by omega
    have HE : Hid ((T + 7) / 8 * 8 = T + r) := by have := HT.out; unfold Hid; omega
    have hpos : 0 < h := by omega
    clear hr
    go_enter Try.func36, Try.ntmps36
    go_wp2_with fail
    refine (wbits_g _ N T 0 r G _ HB.out hT (by omega) (by decide)).mono ?_
    rintro e w2 ⟨rfl, hw2, hb2⟩
    rw [Nat.zero_mod, Nat.mul_zero, Nat.add_zero] at hw2
    have HW2 := hidM hw2
    have HB2 := hidM hb2
    clear hw2 hb2
    go_wp2
    exact bodyPost_end (results_none Try.results36 _ _ _) rfl ⟨rfl, by rw [HE.out]; exact HW2.out, HB2.out⟩

set_option maxHeartbeats 1000000 in
theorem wbytes_g (b N T : Nat) (s : ByteArray) (G : List (Nat × Obj)) (w : World) (hb : WAtG w b N T G) (hH : ∀ p ∈ G, ∀ cur fr, p.2 ≠ .cells cur 5 fr) (hT : T ≤ 1000000000) (hs : s.size ≤ 1000000000) :
    Calls Try.prog 25 #[.pointer (some ⟨b, 0, none⟩), .string s] w fun e w' => e = .returned (.tuple #[]) ∧ WAtG w' b (N + 2 ^ ((T + 7) / 8 * 8) * le s.data.toList) ((T + 7) / 8 * 8 + 8 * s.size) G ∧ Below b w w' := by
  obtain ⟨i0, hi, hz0, hz1, hz2⟩ := info_parts Try.info5
  go_enter Try.func25, Try.ntmps25
  go_wp2_with fail
  refine (walign_g b N T G w hb hT).mono ?_
  rintro e w1 ⟨rfl, hw1, hb1⟩
  obtain ⟨v, F, q, h, hw, hh, hq, ht, hN, hnv⟩ := hw1
  have HNV := hidM hnv
  have h0 : h = 0 := by omega
  subst h0
  have q0 : q = 0 := by simpa using hq
  subst q0
  have HW := hidM hw
  have HT := hidM ht
  have HN := hidM hN
  have HB1 := hidM hb1
  have c0 := hw.c0
  have HFL : Hid (F.length ≤ 1000000000) := by unfold Hid; omega
  have HLT := hidM hw.lt
  clear hw ht hN hb1 hb hq hh hnv
  go_wp2_with (first
    | (at_builtin; refine Lib.wpList_append_own_string _ rfl _ _ 49 9 rfl (b + 1) 5 i0 Try.underlying49 Try.underlying9 hi hz0 hz1 hz2 _ _ _ rfl HW.out.own s rfl ?c1 ?c2 ?c3 ?_))
  case c1 => have := HFL.out; unfold maxLen; omega
  case c2 => have := HFL.out; omega
  case c3 => have := HLT.out; omega
  intro v' w2 hown hgrow _
  obtain ⟨a', n', c', rfl⟩ : ∃ a n c, v' = .slice a n c := by
    rcases hown.2 with ⟨h1, _⟩ | ⟨g, cap, cur, h1, _⟩
    · exact ⟨_, _, _, h1⟩
    · exact ⟨_, _, _, h1⟩
  have hl : s.size = s.data.toList.length := by simp
  have hW2 := HW.out.put0 (G := s.data.toList) hgrow (by rw [← hl]; exact hown)
  have HW2 := hidM hW2
  have HB2 := hidM (HW.out.put0Below (v' := .slice a' n' c') hgrow HB1.out)
  have hne : some b ≠ v.ownBlock := fun he => by have := (World.ownsRow.lt HW.out.own b he.symm).1; omega
  have hbx := (hgrow.block b HLT.out hne).trans HW.out.box
  have k0 : w2.cell? ⟨b, 0, none⟩ = some v := by rw [cell_of_row w2 b _ _ 52 (0, 0) hbx]; rfl
  have k1 := frozen_of_row w2 b 0 _ 52 hbx
  have HG2 : Hid (∀ p ∈ G, some p.1 ≠ (Value.slice a' n' c').ownBlock ∧ (w2.setCell ⟨b, 0, none⟩ (.slice a' n' c')).heap[p.1]? = some p.2 ∧ p.1 ≠ b) := fun p hp => by
    obtain ⟨h1, h2, h3⟩ := HNV.out p hp
    have h4 : (w2.setCell ⟨b, 0, none⟩ (.slice a' n' c')).heap[p.1]? = some p.2 :=
      (Below.heap_setCell w2 ⟨b, 0, none⟩ _ p.1 h3).trans ((hgrow.block p.1 (Array.getElem?_eq_some_iff.1 h2).1 h1).trans h2)
    refine ⟨fun he => ?_, h4, h3⟩
    rcases HW2.out.own.2 with ⟨h5, _⟩ | ⟨g', cp, cur, h5, _, h6, _⟩
    · rw [h5] at he; simp [Value.ownBlock] at he
    · rw [h5] at he
      simp [Value.ownBlock] at he
      rw [← he, h4] at h6
      exact hH p hp cur (0, 0) (by simpa using h6)
  clear hown hgrow hne hbx hl hW2 c0
  go_wp2
  refine bodyPost_end (results_none Try.results25 _ _ _) rfl ⟨rfl, ⟨_, F ++ s.data.toList, 0, 0, HW2.out, by decide, by decide, ?_, ?_, HG2.out⟩, HB2.out⟩
  · have := HT.out
    simp
    omega
  · have h1 := HN.out
    have h2 := HT.out
    unfold WNum at h1 ⊢
    rw [Nat.mul_zero, Nat.add_zero] at h1 ⊢
    rw [le_app, h1, ← h2, pow256, Nat.add_zero]

set_option maxHeartbeats 400000 in
theorem ralign_any (b : Nat) (s : ByteArray) (t : Nat) (w : World) (h : RBox w b s t) (ht : t ≤ 1000000000000) :
    Calls Try.prog 37 #[.pointer (some ⟨b, 0, none⟩)] w fun e w' => e = .returned (.tuple #[]) ∧ w' = w.setCell ⟨b, 1, none⟩ (.int .i64 (((t + 7) / 8 * 8 : Nat) : Int)) := by
  have c1 := h.taken
  have f1 := h.frozen 1
  go_enter Try.func37, Try.ntmps37
  go_wp2_with fail
  refine (used_any b s t w h ht).mono ?_
  rintro e w1 ⟨rfl, rfl⟩
  obtain ⟨u, hu⟩ : ∃ u, u = (t + 7) / 8 := ⟨_, rfl⟩
  have hu2 : u ≤ 1000000000000 := by omega
  rw [← hu]
  have HU := hidM hu
  clear hu
  go_wp2
  refine bodyPost_end (results_none Try.results37 _ _ _) rfl ⟨rfl, ?_⟩
  rw [show 8 * (u : Int) = ((u * 8 : Nat) : Int) by omega, HU.out]

set_option maxHeartbeats 1000000 in
theorem bytes_yes (b : Nat) (s : ByteArray) (t u q n : Nat) (w : World) (h : RBox w b s t) (hs : s.size ≤ 100000000000) (ht : t ≤ 8 * s.size) (hu : u = (t + 7) / 8) (hq : u + q = s.size) (hn : n ≤ q) :
    Calls Try.prog 26 #[.pointer (some ⟨b, 0, none⟩), .int .i64 n] w fun e w' => e = .returned (.tuple #[.string (s.extract u (u + n)), .bool true]) ∧ RBox w' b s (u * 8 + 8 * n) ∧ Only b w w' := by
  have HU := hidM hu
  have HQ := hidM hq
  clear hu hq
  have HUS : u + n ≤ s.size := by have := HQ.out; omega
  go_enter Try.func26, Try.ntmps26
  go_wp2_with fail
  refine (ralign_any b s t w h (by omega)).mono ?_
  rintro e w1 ⟨rfl, rfl⟩
  rw [← HU.out]
  have HR := hidM (h.set (u * 8))
  have HO : Hid (Only b w (w.setCell ⟨b, 1, none⟩ (.int .i64 ((u * 8 : Nat) : Int)))) := (Only.refl b w).setCell _ _
  generalize w.setCell ⟨b, 1, none⟩ (.int .i64 ((u * 8 : Nat) : Int)) = w1 at *
  have HL : Hid (u * 8 + 8 * q = 8 * s.size) := by have := HQ.out; unfold Hid; omega
  have d1 : ((8 * q : Nat) : Int).tdiv 8 = (q : Int) := by rw [Int.tdiv_eq_ediv_of_nonneg (by omega)]; omega
  have d2 : ((8 * q : Nat) : Int) / 8 = (q : Int) := by omega
  have hqq : (q : Int) ≤ 100000000000 := by have := HQ.out; omega
  go_wp2_with fail
  refine (left_any b s (u * 8) (8 * q) w1 HR.out hs HL.out).mono ?_
  rintro e w2 ⟨rfl, m, rfl⟩
  generalize ((8 * q : Nat) : Int) = z at *
  go_wp2_with fail
  refine (used_any b s (u * 8) _ (HR.out.drewN m) (by omega)).mono ?_
  rintro e w3 ⟨rfl, rfl⟩
  rw [show (u * 8 + 7) / 8 = u by omega]
  have c0 := (HR.out.drewN m).text
  have c1 := (HR.out.drewN m).taken
  have f1 := (HR.out.drewN m).frozen 1
  clear d1 d2
  obtain ⟨y, hy⟩ : ∃ y, y = u * 8 := ⟨_, rfl⟩
  have HY := hidM hy
  rw [← hy] at c1
  have hy2 : y ≤ 8 * s.size := by omega
  have HR2 : Hid (RBox ((w1.drewN m).setCell ⟨b, 1, none⟩ (.int .i64 ((u * 8 + 8 * n : Nat) : Int))) b s (u * 8 + 8 * n)) := (HR.out.drewN m).set _
  have HO2 : Hid (Only b w ((w1.drewN m).setCell ⟨b, 1, none⟩ (.int .i64 ((u * 8 + 8 * n : Nat) : Int)))) := (HO.out.drewN m).setCell _ _
  rw [show ((u * 8 + 8 * n : Nat) : Int) = (y : Int) + 8 * (n : Int) by rw [hy]; omega] at HR2 HO2
  clear hy
  go_wp2
  go_ret2
  exact ⟨rfl, HR2.out, HO2.out⟩

set_option maxHeartbeats 400000 in
theorem fewS_any (s : ByteArray) (n : Nat) (w : World) :
    Calls Try.prog 17 #[.string s, .int .i64 n] w fun e w' => (∃ t : ByteArray, e = .returned (.string t) ∧ t.size ≤ n ∧ t.size ≤ s.size) ∧ w' = w := by
  go_enter Try.func17, Try.ntmps17
  go_wp2
  all_goals go_ret
  · rename_i h
    exact ⟨⟨_, rfl, by simp; omega, by simp; omega⟩, rfl⟩
  · rename_i h
    exact ⟨⟨s, rfl, by omega, Nat.le_refl _⟩, rfl⟩

end Go.Proofs.Ytpidofgmbjkbiaa
