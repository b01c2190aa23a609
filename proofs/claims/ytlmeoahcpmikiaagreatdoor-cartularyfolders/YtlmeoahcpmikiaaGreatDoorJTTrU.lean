/-
  Taken over from another program: TrR.
  Taken over from another program: TrS.
  Taken over from another program: TrT.
  Taken over from another program: TrU.
-/
import Derived.Test.YtlmeoahcpmikiaaGreatDoorJTTreE
import Derived.Test.YtlmeoahcpmikiaaGreatDoorTTreG
namespace Go.Proofs.YtlmeoahcpmikiaaGreatDoor.T
open Go.RowKit
/-- where a byte stands first -/
def findI (l : List UInt8) (c : UInt8) : Int := match l.findIdx? (· == c) with | some i => (i : Int) | none => -1
theorem find_some {l : List UInt8} {c : UInt8} {k : Nat} (hk : k < l.length) (h : l.getD k 0 = c) (hb : ∀ j, j < k → l.getD j 0 ≠ c) : findI l c = (k : Int) := by
  have : l.findIdx? (· == c) = some k := by
    rw [List.findIdx?_eq_some_iff_getElem]
    refine ⟨hk, ?_, fun j hj => ?_⟩
    · rw [List.getD_eq_getElem?_getD, List.getElem?_eq_getElem hk] at h
      simpa using h
    · have := hb j hj
      rw [List.getD_eq_getElem?_getD, List.getElem?_eq_getElem (by omega)] at this
      simpa using this
  unfold findI
  rw [this]
theorem find_none {l : List UInt8} {c : UInt8} (h : ∀ j, j < l.length → l.getD j 0 ≠ c) : findI l c = -1 ∧ c ∉ l := by
  have hn : c ∉ l := by
    intro hm
    obtain ⟨i, hi, he⟩ := List.mem_iff_getElem.1 hm
    exact h i hi (by rw [List.getD_eq_getElem?_getD, List.getElem?_eq_getElem hi]; exact he)
  refine ⟨?_, hn⟩
  have : l.findIdx? (· == c) = none := by
    rw [List.findIdx?_eq_none_iff]
    intro x hx
    have : x ≠ c := fun e => hn (e ▸ hx)
    simpa using this
  unfold findI
  rw [this]
theorem find_mem (l : List UInt8) (c : UInt8) : (c ∈ l ∧ 0 ≤ findI l c) ∨ (c ∉ l ∧ findI l c = -1) := by
  by_cases h : c ∈ l
  · refine Or.inl ⟨h, ?_⟩
    unfold findI
    cases hf : l.findIdx? (· == c) with
    | some i => show (0 : Int) ≤ (i : Int); omega
    | none => rw [List.findIdx?_eq_none_iff] at hf; have := hf c h; simp at this
  · refine Or.inr ⟨h, (find_none fun j hj e => h ?_).1⟩
    rw [List.getD_eq_getElem?_getD, List.getElem?_eq_getElem hj] at e
    exact (show l[j] = c from e) ▸ List.getElem_mem hj
set_option maxHeartbeats 800000 in
set_option maxRecDepth 100000 in
theorem rfind_any (s : ByteArray) (c : UInt8) (w : World) (hs : s.size ≤ 140737488355328) : Calls Tryz.prog 77 #[.string s, .int .u8 (c.toNat : Int)] w fun e w' => e = .returned (.int .i64 (findI s.data.toList c)) ∧ w' = w := by
  have HLen := hidM (len_size s)
  have HAT : Hid (∀ m (h : m < s.size), s.data.toList.getD m 0 = s[m]) := fun m h => getD_at s m h
  have HF : Hid (∀ k, k < s.size → s.data.toList.getD k 0 = c → (∀ j, j < k → s.data.toList.getD j 0 ≠ c) → findI s.data.toList c = (k : Int)) := fun k hk h hb => find_some (by rw [HLen.out]; exact hk) h hb
  have HN : Hid ((∀ j, j < s.size → s.data.toList.getD j 0 ≠ c) → findI s.data.toList c = -1) := fun h => (find_none (fun j hj => h j (by rw [← HLen.out]; exact hj))).1
  generalize findI s.data.toList c = R at *
  generalize s.data.toList = l at *
  go_enter Tryz.func77, Tryz.ntmps77
  go_wp2
  go_loop [5] (fun iv => ∃ k : Nat, k ≤ s.size ∧ iv = .int .i64 (k : Int) ∧ ∀ j, j < k → l.getD j 0 ≠ c) (fun i => s.size - (intOf i).toNat)
  case atStart => exact ⟨0, Nat.zero_le _, rfl, fun j hj => by omega⟩
  case round =>
    obtain ⟨k, hk, rfl, hb⟩ := hrel
    have HB := hidM hb
    clear hb
    by_cases hlt : k < s.size
    · have HC := hidM (HAT.out k hlt)
      by_cases hc : s[k] = c
      · have b1 : ((s[k].toNat : Int) == (c.toNat : Int)) = true := by rw [hc]; simp
        have HR := hidM (HF.out k hlt (by rw [HC.out]; exact hc) HB.out)
        clear hc HF HN HAT HC
        go_wp2
        go_ret
        exact ⟨by rw [HR.out]; rfl, rfl⟩
      · have b1 : ((s[k].toNat : Int) == (c.toNat : Int)) = false := by
          simp only [beq_eq_false_iff_ne, ne_eq]
          intro h
          exact hc (UInt8.toNat_inj.1 (by omega))
        have HNX : Hid (∀ j, j < k + 1 → l.getD j 0 ≠ c) := by
          intro j hj
          by_cases e : j = k
          · subst e; rw [HC.out]; exact hc
          · exact HB.out j (by omega)
        clear hc HF HN HAT HC
        go_wp2
        go_round
        case rel => exact ⟨k + 1, by omega, by go_num, HNX.out⟩
        case measure => simp [intOf]; omega
    · have HR := hidM (HN.out (fun j hj => HB.out j (by omega)))
      clear HF HN HAT
      go_wp2
      go_ret
      exact ⟨by rw [HR.out]; rfl, rfl⟩
theorem rid_any (s : ByteArray) (w : World) : Calls Tryz.prog 32 #[.string s] w fun e w' => e = .returned (.bool (idB s.data.toList)) ∧ w' = w := by
  have hl := len_size s
  by_cases h : s.size = 40
  · have b1 : ((s.size : Int) == 40) = true := by rw [h]; decide
    have HP := hidM (hexed_any s w (by unfold maxLen; omega))
    have HR : Hid (idB s.data.toList = hexed s.data.toList) := by unfold Hid idB hexed; rw [hl, h]; rfl
    clear h hl
    generalize hexed s.data.toList = q at *
    go_enter Tryz.func32, Tryz.ntmps32
    go_wp2_with fail
    refine HP.out.mono ?_
    rintro _ w1 ⟨rfl, hb1⟩
    rw [hb1]
    go_wp2
    go_ret
    exact ⟨by rw [HR.out]; rfl, rfl⟩
  · have b1 : ((s.size : Int) == 40) = false := by simp only [beq_eq_false_iff_ne, ne_eq]; omega
    have HR : Hid (idB s.data.toList = false) := by unfold Hid idB; rw [hl, decide_eq_false h, Bool.and_false]
    clear h hl
    go_enter Tryz.func32, Tryz.ntmps32
    go_wp2
    go_ret
    exact ⟨by rw [HR.out]; rfl, rfl⟩
set_option maxHeartbeats 1000000 in
set_option maxRecDepth 100000 in
theorem rkey_any (m : Int) (nm id : ByteArray) (w : World) (hn : nm.size ≤ 140737488355328) :
    Calls Tryz.prog 33 #[.agg #[.int .i64 m, .string nm, .string id]] w fun e w' => e = .returned (.string ⟨(keyL m nm.data.toList).toArray⟩) ∧ Below w.heap.size w w' := by
  have HE0 : Hid (EBox (w.alloc (.cells #[.int .i64 m, .string nm, .string id] 47)) w.heap.size m nm id) := heap_alloc_new w _
  have HB0 : Hid (Below w.heap.size w (w.alloc (.cells #[.int .i64 m, .string nm, .string id] 47))) := (Below.refl _ w).alloc (Nat.le_refl _) _
  have c0 := HE0.out.c0
  have c1 := HE0.out.c1
  have n1 : ¬ 9223372036854775807 < nm.size + 1 := by omega
  go_enter Tryz.func33, Tryz.ntmps33
  by_cases hm : m = 16384
  · have e1 : (m == 16384) = true := by simp; exact hm
    have HR : Hid ((nm ++ ⟨#[47]⟩ : ByteArray) = ⟨(keyL m nm.data.toList).toArray⟩) := by
      refine bytes_ext ?_
      unfold keyL
      rw [if_pos hm]
      simp [ByteArray.data_append]
    clear hm
    go_wp2
    go_ret
    exact ⟨by rw [← HR.out]; rfl, HB0.out⟩
  · have e1 : (m == 16384) = false := by simp; exact hm
    have HR : Hid (nm = ⟨(keyL m nm.data.toList).toArray⟩) := by
      refine bytes_ext ?_
      unfold keyL
      rw [if_neg hm]
    clear hm
    go_wp2
    go_ret
    exact ⟨by rw [← HR.out]; rfl, HB0.out⟩
end Go.Proofs.YtlmeoahcpmikiaaGreatDoor.T
namespace Go.Proofs.YtlmeoahcpmikiaaGreatDoor.T
open Go.RowKit
theorem low_step (l : List UInt8) (k : Nat) (h : k < l.length) : (l.take (k + 1)).map lowC = (l.take k).map lowC ++ [lowC (l.getD k 0)] := by
  rw [List.take_succ_eq_append_getElem h, List.map_append, List.getD_eq_getElem?_getD, List.getElem?_eq_getElem h]
  rfl
theorem low_val (c : UInt8) : (lowC c).toNat = if 65 ≤ c.toNat ∧ c.toNat ≤ 90 then c.toNat + 32 else c.toNat := by
  unfold lowC
  split
  · rw [UInt8.toNat_add]
    have : (32 : UInt8).toNat = 32 := rfl
    omega
  · rfl
set_option maxHeartbeats 2000000 in
set_option maxRecDepth 100000 in
theorem rname_any (s : ByteArray) (w : World) (hs : s.size ≤ 140737488355328) : Calls Tryz.prog 31 #[.string s] w fun e w' => e = .returned (.bool (nameB s.data.toList)) ∧ Below w.heap.size w w' := by
  have HLen := hidM (len_size s)
  have HD : Hid (s.toList = s.data.toList) := Lib.toList_data s
  have HF1 := hidM (fun V => rfind_any s 47 V hs)
  have HF0 := hidM (fun V => rfind_any s 0 V hs)
  have h47 := find_mem s.data.toList 47
  have h00 := find_mem s.data.toList 0
  have HB0 : Hid (Below w.heap.size w (w.alloc (.cells #[] 5))) := (Below.refl _ w).alloc (Nat.le_refl _) _
  by_cases k1 : s.size < 1
  · as_aux_lemma =>
    have HR : Hid (nameB s.data.toList = false) := by unfold Hid nameB; rw [HLen.out]; exact decide_eq_false (fun h => by omega)
    have g1 : (s.size : Int) < 1 := by omega
    clear HF1 HF0 h47 h00
    go_enter Tryz.func31, Tryz.ntmps31
    go_wp2
    go_ret
    exact ⟨by rw [HR.out]; rfl, Below.refl _ _⟩
  have g1 : ¬ (s.size : Int) < 1 := by omega
  by_cases k2 : 100 < s.size
  · as_aux_lemma =>
    have HR : Hid (nameB s.data.toList = false) := by unfold Hid nameB; rw [HLen.out]; exact decide_eq_false (fun h => by omega)
    have g2 : (100 : Int) < (s.size : Int) := by omega
    clear HF1 HF0 h47 h00
    go_enter Tryz.func31, Tryz.ntmps31
    go_wp2
    go_ret
    exact ⟨by rw [HR.out]; rfl, Below.refl _ _⟩
  have g2 : ¬ (100 : Int) < (s.size : Int) := by omega
  cases k3 : s.toList == [46] with
  | true =>
    as_aux_lemma =>
    have HR : Hid (nameB s.data.toList = false) := by unfold Hid nameB; exact decide_eq_false (fun h => h.2.2.2.2.1 (by rw [← HD.out]; exact eq_of_beq k3))
    clear HF1 HF0 h47 h00
    go_enter Tryz.func31, Tryz.ntmps31
    go_wp2
    go_ret
    exact ⟨by rw [HR.out]; rfl, Below.refl _ _⟩
  | false =>
  cases k4 : s.toList == [46, 46] with
  | true =>
    as_aux_lemma =>
    have HR : Hid (nameB s.data.toList = false) := by unfold Hid nameB; exact decide_eq_false (fun h => h.2.2.2.2.2.1 (by rw [← HD.out]; exact eq_of_beq k4))
    clear HF1 HF0 h47 h00
    go_enter Tryz.func31, Tryz.ntmps31
    go_wp2
    go_ret
    exact ⟨by rw [HR.out]; rfl, Below.refl _ _⟩
  | false =>
  have z47 : (((47 : UInt8).toNat : Int)) = 47 := rfl
  have z00 : (((0 : UInt8).toNat : Int)) = 0 := rfl
  rw [z47] at HF1
  rw [z00] at HF0
  clear z47 z00
  rcases h47 with ⟨h47, f47⟩ | ⟨h47, f47⟩
  · as_aux_lemma =>
    have HR : Hid (nameB s.data.toList = false) := by unfold Hid nameB; exact decide_eq_false (fun h => h.2.2.1 h47)
    clear HF0 h00 h47
    generalize findI s.data.toList 47 = q at *
    go_enter Tryz.func31, Tryz.ntmps31
    go_wp2_with fail
    refine (HF1.out _).mono ?_
    rintro _ w1 ⟨rfl, hw1⟩
    rw [hw1]
    go_wp2
    go_ret
    exact ⟨by rw [HR.out]; rfl, Below.refl _ _⟩
  rw [f47] at HF1
  rcases h00 with ⟨h00, f00⟩ | ⟨h00, f00⟩
  · as_aux_lemma =>
    have HR : Hid (nameB s.data.toList = false) := by unfold Hid nameB; exact decide_eq_false (fun h => h.2.2.2.1 h00)
    clear h47 f47 h00
    generalize findI s.data.toList 0 = q at *
    go_enter Tryz.func31, Tryz.ntmps31
    go_wp2_with fail
    refine (HF1.out _).mono ?_
    rintro _ w1 ⟨rfl, hw1⟩
    rw [hw1]
    clear hw1
    go_wp2_with fail
    refine (HF0.out _).mono ?_
    rintro _ w2 ⟨rfl, hw2⟩
    rw [hw2]
    go_wp2
    go_ret
    exact ⟨by rw [HR.out]; rfl, Below.refl _ _⟩
  rw [f00] at HF0
  have HR0 : Hid (nameB s.data.toList = !((⟨(s.data.toList.map lowC).toArray⟩ : ByteArray).toList == [46, 103, 105, 116])) := by
    unfold Hid nameB
    rw [Lib.toList_data]
    show _ = !(s.data.toList.map lowC == [46, 103, 105, 116])
    have e3 : s.data.toList ≠ [46] := fun e => by rw [HD.out, e] at k3; exact absurd k3 (by decide)
    have e4 : s.data.toList ≠ [46, 46] := fun e => by rw [HD.out, e] at k4; exact absurd k4 (by decide)
    by_cases hg : s.data.toList.map lowC = [46, 103, 105, 116]
    · rw [decide_eq_false (fun h => h.2.2.2.2.2.2 hg), hg]; rfl
    · rw [decide_eq_true ⟨by rw [HLen.out]; omega, by rw [HLen.out]; omega, h47, h00, e3, e4, hg⟩, beq_eq_false_iff_ne.2 hg]; rfl
  clear f47 f00 h47 h00
  obtain ⟨i0, hi, hz0, hz1, hz2⟩ := info_parts Tryz.info5
  have hst := own_empty w
  have HAT : Hid (∀ m (h : m < s.size), s.data.toList.getD m 0 = s[m]) := fun m h => getD_at s m h
  have HST : Hid (∀ k, k < s.size → (s.data.toList.take (k + 1)).map lowC = (s.data.toList.take k).map lowC ++ [lowC (s.data.toList.getD k 0)]) := fun k hk => low_step _ k (by rw [HLen.out]; exact hk)
  have HTK : Hid (s.data.toList.take s.size = s.data.toList) := by unfold Hid; rw [← HLen.out]; exact List.take_length
  generalize nameB s.data.toList = RB at *
  have hsz : s.size ≤ 100 := by omega
  generalize s.data.toList = l at *
  clear k1 k2 HD
  go_enter Tryz.func31, Tryz.ntmps31
  go_wp2_with fail
  refine (HF1.out _).mono ?_
  rintro _ w1 ⟨rfl, hw1⟩
  rw [hw1]
  clear hw1 HF1
  go_wp2_with fail
  refine (HF0.out _).mono ?_
  rintro _ w2 ⟨rfl, hw2⟩
  rw [hw2]
  clear hw2 HF0
  go_wp2
  go_loopw [3, 4, 5] (fun v i _ wr => ∃ (k : Nat) (P : List UInt8), k ≤ s.size ∧ i = .int .i64 (k : Int) ∧ P = (l.take k).map lowC ∧ OwnB wr w.heap.size v P ∧ Below w.heap.size w wr) (fun _ i _ _ => s.size - (intOf i).toNat)
  case atStart => exact ⟨0, [], Nat.zero_le _, rfl, rfl, hst, HB0.out⟩
  case round =>
    obtain ⟨k, P, hk, rfl, hP, hownr, hbr⟩ := hrel
    clear hst HB0
    have hB := hbr.size
    by_cases hlt : k < s.size
    · have hl : P.length = k := by rw [hP, List.length_map, List.length_take, HLen.out]; omega
      have HL := hidM hl
      have HV : Hid ((l.take (k + 1)).map lowC = P ++ [lowC s[k]]) := by unfold Hid; rw [HST.out k hlt, HAT.out k hlt, ← hP]
      have hlv := low_val s[k]
      obtain ⟨x, hx⟩ : ∃ x, x = lowC s[k] := ⟨_, rfl⟩
      rw [← hx] at HV hlv
      have HLV := hidM hlv
      have hxb := x.toNat_lt
      have hsb := (s[k]).toNat_lt
      clear hP hl hlv hx HAT HST HTK
      have key : ∀ y : Int, y = (x.toNat : Int) → True := fun _ _ => trivial
      clear key
      by_cases a1 : 65 ≤ s[k].toNat
      · by_cases a2 : s[k].toNat ≤ 90
        · as_aux_lemma =>
          have d1 : decide ((65 : Int) ≤ (s[k].toNat : Int)) = true := by simp; omega
          have d2 : decide ((s[k].toNat : Int) ≤ (90 : Int)) = true := by simp; omega
          have e1 : (s[k].toNat : Int) + 32 = (x.toNat : Int) := by have := HLV.out; rw [if_pos ⟨a1, a2⟩] at this; omega
          clear a1 a2 HLV
          go_wp2_with (first
            | (at_builtin; refine wpList_append_own _ rfl _ _ 74 rfl w.heap.size 5 i0 (.int .u8 0) 1 1 Tryz.underlying74 hi hz0 hz1 hz2 rfl (by decide) _ _ _ rfl (hownr.alloc _) ⟨wr.heap.size, 0, none⟩ 1 1 [.int .u8 (x.toNat : Int)] ?d0 rfl ?d1 ?d2 ?d3 ?d4 ?d5 ?_))
          case d0 => rfl
          case d1 => exact cell_new_eq wr _ _ rfl
          case d2 => intro u hu; simp at hu; subst hu; rfl
          case d3 => have := HL.out; unfold maxLen; omega
          case d4 => have := HL.out; omega
          case d5 => simp; omega
          intro v' w2 hown' hgrow _
          have HO := hidM (own_push hown')
          have HB := hidM (below_push hownr hbr hB hgrow)
          clear hown' hgrow hownr hbr hB
          go_wp2
          go_roundw
          case rel => exact ⟨k + 1, P ++ [x], by omega, by go_num, HV.out.symm, HO.out, HB.out⟩
          case measure => simp [intOf]; omega
        · as_aux_lemma =>
          have d1 : decide ((65 : Int) ≤ (s[k].toNat : Int)) = true := by simp; omega
          have d2 : decide ((s[k].toNat : Int) ≤ (90 : Int)) = false := by simp; omega
          have HE : Hid ((s[k].toNat : Int) = (x.toNat : Int)) := by have := HLV.out; rw [if_neg (fun h => a2 h.2)] at this; unfold Hid; omega
          clear a1 a2 HLV
          go_wp2_with (first
            | (at_builtin; refine wpList_append_own _ rfl _ _ 74 rfl w.heap.size 5 i0 (.int .u8 0) 1 1 Tryz.underlying74 hi hz0 hz1 hz2 rfl (by decide) _ _ _ rfl (hownr.alloc _) ⟨wr.heap.size, 0, none⟩ 1 1 [.int .u8 (x.toNat : Int)] ?d0 rfl ?d1 ?d2 ?d3 ?d4 ?d5 ?_))
          case d0 => rfl
          case d1 => exact cell_new_eq wr _ _ (val_int HE.out)
          case d2 => intro u hu; simp at hu; subst hu; rfl
          case d3 => have := HL.out; unfold maxLen; omega
          case d4 => have := HL.out; omega
          case d5 => simp; omega
          intro v' w2 hown' hgrow _
          have HO := hidM (own_push hown')
          have HB := hidM (below_push hownr hbr hB hgrow)
          clear hown' hgrow hownr hbr hB
          go_wp2
          go_roundw
          case rel => exact ⟨k + 1, P ++ [x], by omega, by go_num, HV.out.symm, HO.out, HB.out⟩
          case measure => simp [intOf]; omega
      · as_aux_lemma =>
        have d1 : decide ((65 : Int) ≤ (s[k].toNat : Int)) = false := by simp; omega
        have HE : Hid ((s[k].toNat : Int) = (x.toNat : Int)) := by have := HLV.out; rw [if_neg (fun h => a1 h.1)] at this; unfold Hid; omega
        clear a1 HLV
        go_wp2_with (first
          | (at_builtin; refine wpList_append_own _ rfl _ _ 74 rfl w.heap.size 5 i0 (.int .u8 0) 1 1 Tryz.underlying74 hi hz0 hz1 hz2 rfl (by decide) _ _ _ rfl (hownr.alloc _) ⟨wr.heap.size, 0, none⟩ 1 1 [.int .u8 (x.toNat : Int)] ?d0 rfl ?d1 ?d2 ?d3 ?d4 ?d5 ?_))
        case d0 => rfl
        case d1 => exact cell_new_eq wr _ _ (val_int HE.out)
        case d2 => intro u hu; simp at hu; subst hu; rfl
        case d3 => have := HL.out; unfold maxLen; omega
        case d4 => have := HL.out; omega
        case d5 => simp; omega
        intro v' w2 hown' hgrow _
        have HO := hidM (own_push hown')
        have HB := hidM (below_push hownr hbr hB hgrow)
        clear hown' hgrow hownr hbr hB
        go_wp2
        go_roundw
        case rel => exact ⟨k + 1, P ++ [x], by omega, by go_num, HV.out.symm, HO.out, HB.out⟩
        case measure => simp [intOf]; omega
    · as_aux_lemma =>
      have hPl : P = l.map lowC := by rw [hP, show k = s.size by omega, HTK.out]
      have hconv := conv_own hownr
      rw [hPl] at hconv
      have HB := hidM hbr
      clear hownr hbr hB hP hPl HAT HST HTK
      generalize (⟨(l.map lowC).toArray⟩ : ByteArray) = TX at *
      cases hq : TX.toList == [46, 103, 105, 116] with
      | true =>
        have HR : Hid (RB = false) := by unfold Hid; rw [HR0.out, hq]; rfl
        clear HR0
        go_wp2
        go_ret
        exact ⟨by rw [HR.out]; rfl, HB.out⟩
      | false =>
        have HR : Hid (RB = true) := by unfold Hid; rw [HR0.out, hq]; rfl
        clear HR0
        go_wp2
        go_ret
        exact ⟨by rw [HR.out]; rfl, HB.out⟩
end Go.Proofs.YtlmeoahcpmikiaaGreatDoor.T
namespace Go.Proofs.YtlmeoahcpmikiaaGreatDoor.T
open Go.RowKit
def modI : Array Value := #[.int .i64 16384, .int .i64 33188, .int .i64 33261, .int .i64 40960, .int .i64 57344]
def modT : List ByteArray := [⟨#[52, 48, 48, 48, 48]⟩, ⟨#[49, 48, 48, 54, 52, 52]⟩, ⟨#[49, 48, 48, 55, 53, 53]⟩, ⟨#[49, 50, 48, 48, 48, 48]⟩, ⟨#[49, 54, 48, 48, 48, 48]⟩]
def modS : Array Value := (modT.map Value.string).toArray
set_option maxHeartbeats 400000 in
set_option maxRecDepth 100000 in
theorem modes_any (w : World) : Calls Tryz.prog 76 #[] w fun e w' => e = .returned (.tuple #[.slice (some ⟨w.heap.size, 0, none⟩) 5 5, .slice (some ⟨w.heap.size + 1, 0, none⟩) 5 5]) ∧ w' = (w.alloc (.cells modI 3)).alloc (.cells modS 9) := by
  go_enter Tryz.func76, Tryz.ntmps76
  go_wp2
  go_ret2
  exact ⟨rfl, rfl⟩
theorem five {k : Nat} (h : k < 5) : k = 0 ∨ k = 1 ∨ k = 2 ∨ k = 3 ∨ k = 4 := by omega
theorem mod_text (k : Nat) (h : k < 5) : modT.getD k ⟨#[]⟩ = ⟨(octZ (modeI k)).toArray⟩ := by
  have key : ∀ j : Nat, j < 5 → (modT.getD j ⟨#[]⟩).data.toList = octZ (modeI j) := by
    intro j hj
    rcases five hj with rfl | rfl | rfl | rfl | rfl
    all_goals
      unfold octZ
      rw [if_neg (by decide)]
      repeat rw [octN_ge (by decide)]
      rw [octN_lt (by decide)]
      decide
  apply bytes_ext
  rw [key k h]
theorem mod_at (k : Nat) (h : k < 5) : modI[k]? = some (.int .i64 (modeI k)) ∧ modS[k]? = some (.string (modT.getD k ⟨#[]⟩)) := by
  rcases five h with rfl | rfl | rfl | rfl | rfl <;> exact ⟨rfl, rfl⟩
theorem mod_mem (m : Int) : m ∈ modesL ↔ ∃ k, k < 5 ∧ modeI k = m := by
  constructor
  · intro h
    simp only [modesL, List.mem_cons, List.not_mem_nil, or_false] at h
    rcases h with rfl | rfl | rfl | rfl | rfl
    · exact ⟨0, by decide, rfl⟩
    · exact ⟨1, by decide, rfl⟩
    · exact ⟨2, by decide, rfl⟩
    · exact ⟨3, by decide, rfl⟩
    · exact ⟨4, by decide, rfl⟩
  · rintro ⟨k, hk, rfl⟩
    rcases five hk with rfl | rfl | rfl | rfl | rfl <;> decide
/-- a mode as it is written; empty: it is none -/
def modeT (m : Int) : ByteArray := if m ∈ modesL then ⟨(octZ m).toArray⟩ else ⟨#[]⟩
set_option maxHeartbeats 1000000 in
set_option maxRecDepth 100000 in
theorem rmode_any (m : Int) (w : World) : Calls Tryz.prog 30 #[.int .i64 m] w fun e w' => e = .returned (.string (modeT m)) ∧ Below w.heap.size w w' := by
  have HM := hidM (modes_any w)
  have HB0 : Hid (Below w.heap.size w ((w.alloc (.cells modI 3)).alloc (.cells modS 9))) := ((Below.refl _ w).alloc (Nat.le_refl _) _).alloc (by simp) _
  have hA : ((w.alloc (.cells modI 3)).alloc (.cells modS 9)).heap[w.heap.size]? = some (.cells modI 3 (0, 0)) := (heap_alloc_old _ _ (by simp)).trans (heap_alloc_new _ _)
  have hS : ((w.alloc (.cells modI 3)).alloc (.cells modS 9)).heap[w.heap.size + 1]? = some (.cells modS 9 (0, 0)) := by
    have := heap_alloc_new (w.alloc (.cells modI 3)) (.cells modS 9)
    rw [show (w.alloc (.cells modI 3)).heap.size = w.heap.size + 1 by simp] at this
    exact this
  have HCA : Hid (∀ k, k < 5 → ((w.alloc (.cells modI 3)).alloc (.cells modS 9)).cell? ⟨w.heap.size, k, none⟩ = some (.int .i64 (modeI k))) := fun k hk => by
    rw [cell_of_row _ _ _ _ 3 (0, 0) hA]; exact (mod_at k hk).1
  have HCS : Hid (∀ k, k < 5 → ((w.alloc (.cells modI 3)).alloc (.cells modS 9)).cell? ⟨w.heap.size + 1, k, none⟩ = some (.string (modT.getD k ⟨#[]⟩))) := fun k hk => by
    rw [cell_of_row _ _ _ _ 9 (0, 0) hS]; exact (mod_at k hk).2
  clear hA hS
  go_enter Tryz.func30, Tryz.ntmps30
  go_wp2_with fail
  refine HM.out.mono ?_
  rintro _ w1 ⟨rfl, hw1⟩
  rw [hw1]
  clear hw1 HM
  generalize (w.alloc (.cells modI 3)).alloc (.cells modS 9) = W at *
  go_wp2
  go_loopw [5, 6, 13] (fun _ _ iv wr => ∃ k : Nat, k ≤ 5 ∧ iv = .int .i64 (k : Int) ∧ (∀ j, j < k → modeI j ≠ m) ∧ W = wr) (fun _ _ iv _ => 5 - (intOf iv).toNat)
  case atStart => exact ⟨0, by decide, rfl, fun j hj => by omega, rfl⟩
  case round =>
    obtain ⟨k, hk, rfl, hno, hwr⟩ := hrel
    subst hwr
    have HNO := hidM hno
    clear hno
    by_cases hlt : k < 5
    · have gk : (k : Int) < 5 := by omega
      have ca := HCA.out k hlt
      have cs := HCS.out k hlt
      by_cases he : modeI k = m
      · have b1 : (modeI k == m) = true := by rw [he]; simp
        have HR : Hid (modeT m = modT.getD k ⟨#[]⟩) := by
          unfold Hid modeT
          rw [if_pos ((mod_mem m).2 ⟨k, hlt, he⟩), mod_text k hlt, he]
        generalize modT.getD k ⟨#[]⟩ = tx at *
        generalize modeI k = mk at *
        clear he HNO
        go_wp2
        go_ret
        exact ⟨by rw [HR.out]; rfl, HB0.out⟩
      · have b1 : (modeI k == m) = false := by simp; exact he
        have HNX : Hid (∀ j, j < k + 1 → modeI j ≠ m) := by
          intro j hj
          by_cases e : j = k
          · subst e; exact he
          · exact HNO.out j (by omega)
        generalize modT.getD k ⟨#[]⟩ = tx at *
        generalize modeI k = mk at *
        clear he HNO
        go_wp2
        go_roundw
        case rel => exact ⟨k + 1, by omega, by go_num, HNX.out, by first | rfl | trivial⟩
        case measure => simp [intOf]; omega
    · have gk : ¬ (k : Int) < 5 := by omega
      have HR : Hid (modeT m = ⟨#[]⟩) := by
        unfold Hid modeT
        rw [if_neg]
        intro hm
        obtain ⟨j, hj, e⟩ := (mod_mem m).1 hm
        exact HNO.out j (by omega) e
      go_wp2
      go_ret
      exact ⟨by rw [HR.out]; rfl, HB0.out⟩
theorem mode_empty (m : Int) : (modeT m).toList.isEmpty = !decide (m ∈ modesL) := by
  unfold modeT
  by_cases h : m ∈ modesL
  · rw [if_pos h, decide_eq_true h]
    obtain ⟨k, hk, rfl⟩ := (mod_mem m).1 h
    rw [← mod_text k hk]
    rcases five hk with rfl | rfl | rfl | rfl | rfl <;> decide +kernel
  · rw [if_neg h, decide_eq_false h]; decide +kernel
end Go.Proofs.YtlmeoahcpmikiaaGreatDoor.T
namespace Go.Proofs.YtlmeoahcpmikiaaGreatDoor.T
open Go.RowKit
theorem less_cons (x y : UInt8) (a b : List UInt8) : Op.bytesLess (x :: a) (y :: b) = (decide (x < y) || (x == y && Op.bytesLess a b)) := rfl
theorem less_trans : ∀ (a b c : List UInt8), Op.bytesLess a b = true → Op.bytesLess b c = true → Op.bytesLess a c = true
  | [], [], _, h, _ => by cases h
  | [], _ :: _, [], _, h => by cases h
  | [], _ :: _,_ :: _,_,_ => rfl
  | _ :: _, [], _, h, _ => by cases h
  | _ :: _,_ :: _, [], _, h => by cases h
  | x :: a, y :: b, z :: c, h1, h2 => by
    rw [less_cons, Bool.or_eq_true, Bool.and_eq_true, decide_eq_true_eq, beq_iff_eq] at h1 h2 ⊢
    rcases h1 with h1 | ⟨rfl, h1⟩
    · rcases h2 with h2 | ⟨rfl, _⟩
      · exact Or.inl (UInt8.lt_trans h1 h2)
      · exact Or.inl h1
    · rcases h2 with h2 | ⟨rfl, h2⟩
      · exact Or.inl h2
      · exact Or.inr ⟨rfl, less_trans a b c h1 h2⟩
def keyE (es : List EntB) (i : Nat) : List UInt8 := keyL (es.getD i noE).1 (es.getD i noE).2.1.data.toList
/-- an entry that the document's Check lets by -/
def rstep (es : List EntB) (i : Nat) : Prop := rightB (es.getD i noE).1 (es.getD i noE).2.1.data.toList (es.getD i noE).2.2.data.toList = true ∧ ∀ j, j < i → (es.getD j noE).2.1.data.toList ≠ (es.getD i noE).2.1.data.toList ∧ Op.bytesLess (keyE es j) (keyE es i) = true
theorem step_iff {es : List EntB} {i : Nat} (hi : i < es.length) : stepB es i = true ↔ rightB (es.getD i noE).1 (es.getD i noE).2.1.data.toList (es.getD i noE).2.2.data.toList = true ∧ (∀ j, j < i → (es.getD j noE).2.1.data.toList ≠ (es.getD i noE).2.1.data.toList) ∧ (i = 0 ∨ Op.bytesLess (keyE es (i - 1)) (keyE es i) = true) := by
  unfold stepB keyE
  rw [Bool.and_eq_true, Bool.and_eq_true, Bool.or_eq_true, decide_eq_true_eq, decide_eq_true_eq, List.count_eq_zero]
  have hm : (es.getD i noE).2.1.data.toList ∉ (es.take i).map (fun e => e.2.1.data.toList) ↔ ∀ j, j < i → (es.getD j noE).2.1.data.toList ≠ (es.getD i noE).2.1.data.toList := by
    constructor
    · intro h j hj e
      apply h
      rw [← e]
      refine List.mem_map.2 ⟨es.getD j noE, ?_, rfl⟩
      rw [List.getD_eq_getElem?_getD, List.getElem?_eq_getElem (by omega)]
      exact List.mem_take_iff_getElem.2 ⟨j, by omega, rfl⟩
    · intro h hc
      obtain ⟨e, he, hn⟩ := List.mem_map.1 hc
      obtain ⟨j, hj, rfl⟩ := List.mem_take_iff_getElem.1 he
      refine h j (by omega) ?_
      rw [← hn, List.getD_eq_getElem?_getD, List.getElem?_eq_getElem (by omega)]
      rfl
  rw [hm, and_assoc]
theorem step_all {es : List EntB} : (∀ i, i < es.length → stepB es i = true) ↔ ∀ i, i < es.length → rstep es i := by
  constructor
  · intro h
    have chain : ∀ i, i < es.length → ∀ j, j < i → Op.bytesLess (keyE es j) (keyE es i) = true := by
      intro i
      induction i with
      | zero => intro _ j hj; omega
      | succ i ih =>
        intro hi j hj
        have h1 := ((step_iff hi).1 (h _ hi)).2.2
        rcases h1 with h1 | h1
        · omega
        · rw [Nat.add_sub_cancel] at h1
          by_cases e : j = i
          · subst e; exact h1
          · exact less_trans _ _ _ (ih (by omega) j (by omega)) h1
    exact fun i hi => ⟨((step_iff hi).1 (h i hi)).1, fun j hj => ⟨((step_iff hi).1 (h i hi)).2.1 j hj, chain i hi j hj⟩⟩
  · intro h i hi
    refine (step_iff hi).2 ⟨(h i hi).1, fun j hj => ((h i hi).2 j hj).1, ?_⟩
    by_cases e : i = 0
    · exact Or.inl e
    · exact Or.inr ((h i hi).2 (i - 1) (by omega)).2
theorem chkr_no {es : List EntB} {i : Nat} (hi : i < es.length) (h : ¬ rstep es i) : checkZ es = 4 := by
  unfold checkZ
  rw [if_neg]
  intro e
  exact h (step_all.1 (fun j hj => List.all_eq_true.1 e j (List.mem_range.2 hj)) i hi)
theorem chkr_yes {es : List EntB} (h : ∀ i, i < es.length → rstep es i) : checkZ es = 0 := chk_yes (step_all.2 h)
/-- the two boxes -/
structure YS (w : World) (bx yb : Nat) (m : Int) (nm id : ByteArray) (pm : Int) (pn pid : ByteArray) (V : World) : Prop where
  bel : Below w.heap.size w V
  x : EBox V bx m nm id
  y : EBox V yb pm pn pid
section
variable {w V w' : World} {bx yb : Nat} {m pm : Int} {nm id pn pid : ByteArray}
theorem YS.next (H : YS w bx yb m nm id pm pn pid V) (hb : Below V.heap.size V w') : YS w bx yb m nm id pm pn pid w' := ⟨H.bel.trans (hb.mono H.bel.size), H.x.below hb, H.y.below hb⟩
theorem YS.drew (H : Hid (YS w bx yb m nm id pm pn pid V)) : Hid (YS w bx yb m nm id pm pn pid V.drew) := ⟨H.out.bel.drew, H.out.x, H.out.y⟩
theorem YS.full (H : YS w bx yb m nm id pm pn pid V) : V.cell? ⟨bx, 0, none⟩ = some (.int .i64 m) ∧ V.cell? ⟨bx, 1, none⟩ = some (.string nm) ∧ V.cell? ⟨bx, 2, none⟩ = some (.string id) ∧ V.cell? ⟨yb, 0, none⟩ = some (.int .i64 pm) ∧ V.cell? ⟨yb, 1, none⟩ = some (.string pn) ∧ V.cell? ⟨yb, 2, none⟩ = some (.string pid) ∧ Hid (YS w bx yb m nm id pm pn pid V) := ⟨H.x.c0, H.x.c1, H.x.c2, H.y.c0, H.y.c1, H.y.c2, H⟩
theorem YS.call {f : Nat} {args : Array Value} {v : Value} (h : Calls Tryz.prog f args V fun x w' => x = .returned v ∧ Below V.heap.size V w') (H : Hid (YS w bx yb m nm id pm pn pid V)) :
    Calls Tryz.prog f args V fun x w' => x = .returned v ∧ w'.cell? ⟨bx, 0, none⟩ = some (.int .i64 m) ∧ w'.cell? ⟨bx, 1, none⟩ = some (.string nm) ∧ w'.cell? ⟨bx, 2, none⟩ = some (.string id) ∧ w'.cell? ⟨yb, 0, none⟩ = some (.int .i64 pm) ∧ w'.cell? ⟨yb, 1, none⟩ = some (.string pn) ∧ w'.cell? ⟨yb, 2, none⟩ = some (.string pid) ∧ Hid (YS w bx yb m nm id pm pn pid w') :=
  h.mono fun _ _ ⟨hx, hb⟩ => ⟨hx, (H.out.next hb).full⟩
end
set_option maxHeartbeats 8000000 in
set_option maxRecDepth 100000 in
theorem rcheck_some (b off cap len : Nat) (es : List EntB) (w : World) (hl : es.length = len) (h500 : len ≤ 500) (hcl : len ≤ cap) (hb : b < w.heap.size) (hE : EntsAt w b off es) (hO : ∀ e ∈ es, OkE e) :
    Calls Tryz.prog 7 #[.slice (some ⟨b, off, none⟩) len cap] w fun e w' => e = .returned (.int .i64 (checkZ es)) ∧ Below w.heap.size w w' := by
  have HE := hidM hE
  have HO := hidM hO
  have HL := hidM hl
  have HNO : Hid (∀ i, i < len → ¬ rstep es i → checkZ es = 4) := fun i hi h => chkr_no (by rw [HL.out]; exact hi) h
  have HYES : Hid ((∀ i, i < len → rstep es i) → checkZ es = 0) := fun h => chkr_yes (fun i hi => h i (by rw [← HL.out]; exact hi))
  clear hE hO hl
  generalize checkZ es = R at *
  have g5 : ¬ (500 : Int) < (len : Int) := by omega
  go_enter Tryz.func7, Tryz.ntmps7
  go_wp2
  go_loopw [3, 4, 6, 12] (fun _ _ _ i wr => ∃ k : Nat, k ≤ len ∧ i = .int .i64 k ∧ Below w.heap.size w wr ∧ ∀ i, i < k → rstep es i) (fun _ _ _ i _ => len - (intOf i).toNat)
  case atStart => exact ⟨0, Nat.zero_le _, rfl, Below.refl _ _, fun i hi => by omega⟩
  case round =>
    obtain ⟨k, hk, rfl, hbel, hst⟩ := hrel
    have HST := hidM hst
    have HBL := hidM hbel
    have HER := hidM (HE.out.below hbel hb)
    clear hst hbel
    by_cases hlt : k < len
    · have gk : (k : Int) < (len : Int) := by omega
      obtain ⟨c0, c1, c2⟩ := HER.out k (by rw [HL.out]; exact hlt)
      have okk := HO.out (es.getD k noE) (getD_mem (by rw [HL.out]; exact hlt))
      obtain ⟨m, hm⟩ : ∃ m, m = (es.getD k noE).1 := ⟨_, rfl⟩
      obtain ⟨nm, hnm⟩ : ∃ nm, nm = (es.getD k noE).2.1 := ⟨_, rfl⟩
      obtain ⟨id, hid⟩ : ∃ id, id = (es.getD k noE).2.2 := ⟨_, rfl⟩
      rw [← hm] at c0
      rw [← hnm] at c1
      rw [← hid] at c2
      have hz := zero29
      have HRS : Hid (rstep es k ↔ rightB m nm.data.toList id.data.toList = true ∧ ∀ j, j < k → (es.getD j noE).2.1.data.toList ≠ nm.data.toList ∧ Op.bytesLess (keyE es j) (keyL m nm.data.toList) = true) := by
        unfold Hid rstep
        rw [show keyE es k = keyL (es.getD k noE).1 (es.getD k noE).2.1.data.toList from rfl, hm, hnm, hid]
      have hns : nm.size ≤ 140737488355328 := by rw [hnm]; exact okk.2.2.1
      have his : id.size ≤ 140737488355328 := by rw [hid]; exact okk.2.2.2
      clear hm hnm hid okk
      have HE1 : Hid (EBox (wr.alloc (.cells #[.int .i64 m, .string nm, .string id] 47)) wr.heap.size m nm id) := heap_alloc_new wr _
      have HB1 : Hid (Below w.heap.size w (wr.alloc (.cells #[.int .i64 m, .string nm, .string id] 47))) := HBL.out.alloc HBL.out.size _
      have HMO := hidM (fun V => rmode_any m V)
      have HME := hidM (mode_empty m)
      generalize modeT m = tx at *
      have HNA := hidM (fun V => rname_any nm V hns)
      have HIA := hidM (fun V => rid_any id V)
      go_upto_region 6 with fail
      generalize wr.alloc (.cells #[.int .i64 m, .string nm, .string id] 47) = W at *
      generalize wr.heap.size = bx at *
      clear c0 c1 c2
      have c0 := HE1.out.c0
      have c1 := HE1.out.c1
      have c2 := HE1.out.c2
      go_wp2_with fail
      refine (HMO.out _).mono ?_
      rintro _ w2 ⟨rfl, hb2⟩
      have HE2 := hidM (HE1.out.below hb2)
      have HB2 := hidM (HB1.out.trans (hb2.mono HB1.out.size))
      clear hb2 HMO HE1 HB1 c0 c1 c2
      have c1 := HE2.out.c1
      have c2 := HE2.out.c2
      cases hmo : tx.toList.isEmpty with
      | true =>
        as_aux_lemma =>
        have H4 : Hid (R = 4) := HNO.out k hlt (fun h => by
          have h1 := (HRS.out.1 h).1
          unfold rightB at h1
          rw [HME.out] at hmo
          have h2 : decide (m ∈ modesL) = false := by simpa using hmo
          rw [h2] at h1; cases h1)
        go_wp2
        go_ret
        exact ⟨by rw [H4.out]; rfl, HB2.out⟩
      | false =>
        have hmm : decide (m ∈ modesL) = true := by have := HME.out; rw [hmo] at this; simpa using this.symm
        have HMM := hidM hmm
        clear hmm
        go_wp2_with fail
        refine (HNA.out _).mono ?_
        rintro _ w3 ⟨rfl, hb3⟩
        have HE3 := hidM (HE2.out.below hb3)
        have HB3 := hidM (HB2.out.trans (hb3.mono HB2.out.size))
        clear hb3 HNA HE2 HB2 c1 c2
        have c2 := HE3.out.c2
        cases hna : nameB nm.data.toList with
        | false =>
          as_aux_lemma =>
          have H4 : Hid (R = 4) := HNO.out k hlt (fun h => by
            have h1 := (HRS.out.1 h).1
            unfold rightB at h1
            rw [hna, Bool.and_false, Bool.false_and] at h1; cases h1)
          clear hna
          go_wp2
          go_ret
          exact ⟨by rw [H4.out]; rfl, HB3.out⟩
        | true =>
          go_wp2_with fail
          refine (HIA.out _).mono ?_
          rintro _ w4 ⟨rfl, hw4⟩
          rw [hw4]
          clear hw4 HIA
          cases hia : idB id.data.toList with
          | false =>
            as_aux_lemma =>
            have H4 : Hid (R = 4) := HNO.out k hlt (fun h => by
              have h1 := (HRS.out.1 h).1
              unfold rightB at h1
              rw [hia, Bool.and_false] at h1; cases h1)
            clear hia
            go_wp2
            go_ret
            exact ⟨by rw [H4.out]; rfl, HB3.out⟩
          | true =>
            have HRI : Hid (rightB m nm.data.toList id.data.toList = true) := by unfold Hid rightB; rw [HMM.out, hna, hia]; rfl
            clear hna hia c2 HMM HME
            have gkc : (k : Int) ≤ (cap : Int) := by omega
            have kc : k ≤ cap := by omega
            have k500 : k ≤ 500 := by omega
            have k0 : (0 : Int) ≤ (k : Int) := by omega
            have kw : IntKind.i64.wrap (k : Int) = (k : Int) := by rw [IntKind.wrap_i64]; omega
            obtain ⟨K2, hK2⟩ : ∃ K2 : ByteArray, K2 = ⟨(keyL m nm.data.toList).toArray⟩ := ⟨_, rfl⟩
            have HK2 := hidM hK2
            clear hK2
            have HKX : Hid (∀ V, Calls Tryz.prog 33 #[.agg #[.int .i64 m, .string nm, .string id]] V fun e w' => e = .returned (.string K2) ∧ Below V.heap.size V w') := fun V => by rw [HK2.out]; exact rkey_any m nm id V hns
            have HNX0 : Hid ((∀ j, j < k → (es.getD j noE).2.1.data.toList ≠ nm.data.toList ∧ Op.bytesLess (keyE es j) (keyL m nm.data.toList) = true) → ∀ i, i < k + 1 → rstep es i) := fun h i hi => by
              rcases Nat.lt_or_ge i k with h1 | h1
              · exact HST.out i h1
              · obtain rfl : i = k := by omega
                exact HRS.out.2 ⟨HRI.out, h⟩
            have HN4 : Hid (∀ j, j < k → ¬ ((es.getD j noE).2.1.data.toList ≠ nm.data.toList ∧ Op.bytesLess (keyE es j) (keyL m nm.data.toList) = true) → R = 4) := fun j hj h => HNO.out k hlt (fun hr => h ((HRS.out.1 hr).2 j hj))
            clear HST HRS HRI HNO HYES HER HBL
            go_wp2
            go_loopw [6, 37] (fun _ jv wq => ∃ j : Nat, j ≤ k ∧ jv = .int .i64 (j : Int) ∧ Below w.heap.size w wq ∧ EBox wq bx m nm id ∧ ∀ i, i < j → (es.getD i noE).2.1.data.toList ≠ nm.data.toList ∧ Op.bytesLess (keyE es i) (keyL m nm.data.toList) = true) (fun _ jv _ => k - (intOf jv).toNat)
            case atStart => exact ⟨0, Nat.zero_le _, rfl, HB3.out, HE3.out, fun i hi => by omega⟩
            case round =>
              obtain ⟨j, hj, rfl, hbq, hxq, hal⟩ := hrel
              have HAL := hidM hal
              have HBQ := hidM hbq
              have HXQ := hidM hxq
              have HEQ := hidM (HE.out.below hbq hb)
              clear hal hbq hxq HB3 HE3
              by_cases hjk : j < k
              · have gj : (j : Int) < (k : Int) := by omega
                obtain ⟨c0, c1, c2⟩ := HEQ.out j (by rw [HL.out]; omega)
                have okj := HO.out (es.getD j noE) (getD_mem (by rw [HL.out]; omega))
                obtain ⟨pm, hpm⟩ : ∃ m, m = (es.getD j noE).1 := ⟨_, rfl⟩
                obtain ⟨pn, hpn⟩ : ∃ nm, nm = (es.getD j noE).2.1 := ⟨_, rfl⟩
                obtain ⟨pid, hpid⟩ : ∃ id, id = (es.getD j noE).2.2 := ⟨_, rfl⟩
                rw [← hpm] at c0
                rw [← hpn] at c1
                rw [← hpid] at c2
                have hps : pn.size ≤ 140737488355328 := by rw [hpn]; exact okj.2.2.1
                have HKE : Hid (keyE es j = keyL pm pn.data.toList) := by unfold Hid keyE; rw [hpm, hpn]
                have HPN := hidM hpn
                clear hpm hpn hpid okj
                have hz := zero29
                have HY : Hid (YS w bx wr.heap.size m nm id pm pn pid (wr.alloc (.cells #[.int .i64 pm, .string pn, .string pid] 47))) := ⟨HBQ.out.alloc HBQ.out.size _, (heap_alloc_old _ _ HXQ.out.lt).trans HXQ.out, heap_alloc_new _ _⟩
                obtain ⟨K1, hK1⟩ : ∃ K1 : ByteArray, K1 = ⟨(keyL pm pn.data.toList).toArray⟩ := ⟨_, rfl⟩
                have HK1 := hidM hK1
                clear hK1
                have HKY : Hid (∀ V, Calls Tryz.prog 33 #[.agg #[.int .i64 pm, .string pn, .string pid]] V fun e w' => e = .returned (.string K1) ∧ Below V.heap.size V w') := fun V => by rw [HK1.out]; exact rkey_any pm pn pid V hps
                go_upto_region 11 with fail
                generalize wr.alloc (.cells #[.int .i64 pm, .string pn, .string pid] 47) = WQ at *
                generalize wr.heap.size = yb at *
                clear c0 c1 c2 HBQ HXQ HEQ
                cases hne : pn.toList == nm.toList with
                | true =>
                  as_aux_lemma =>
                  have H4 : Hid (R = 4) := HN4.out j hjk (fun h => h.1 (by rw [← HPN.out, ← Lib.toList_data, ← Lib.toList_data]; exact eq_of_beq hne))
                  clear HNX0 HN4 HAL HKX HKY
                  refine wp_region_noPanic ?_
                  refine wp_region_held_drew (S := (fun w' => w'.cell? ⟨bx, 0, none⟩ = some (.int .i64 m) ∧ w'.cell? ⟨bx, 1, none⟩ = some (.string nm) ∧ w'.cell? ⟨bx, 2, none⟩ = some (.string id) ∧ w'.cell? ⟨yb, 0, none⟩ = some (.int .i64 pm) ∧ w'.cell? ⟨yb, 1, none⟩ = some (.string pn) ∧ w'.cell? ⟨yb, 2, none⟩ = some (.string pid) ∧ Hid (YS w bx yb m nm id pm pn pid w'))) (by kernel_rfl) ?_ (fun hHeld => ?_)
                  · exact YS.full (YS.drew HY).out
                  refine wpAnyH_take (i := 0) (v := ?_) rfl (by kernel_rfl) (by kernel_rfl) (by kernel_rfl) (fun _ _ _ h => h) (Or.inl ⟨by kernel_rfl, ?_⟩) (by assumption) ?_
                  rotate_left
                  · intro w hSw
                    clear hSw
                    go_simp
                    try with_reducible rfl
                  change wpAnyH _ _ _ _ _ _ _ (⟨#[_,_,_,_,_,_,_,_,_,_,_,_,_,_,_,_,_,_,_,_,_,_,_,_,_,_,_,_,_,_,_,_,_,_,_,_,_,_,_,_,_,_,_,_,_,_,_,_,_,_,_,_,_,_,_], _⟩ : Act) _
                  refine wpAnyH_take (i := 1) (v := ?_) rfl (by kernel_rfl) (by kernel_rfl) (by kernel_rfl) (fun _ _ _ h => h) (Or.inl ⟨by kernel_rfl, ?_⟩) (by assumption) ?_
                  rotate_left
                  · intro w hSw
                    obtain ⟨k0, k1, k2, k3, k4, k5, _⟩ := hSw
                    go_simp
                    try with_reducible rfl
                  change wpAnyH _ _ _ _ _ _ _ (⟨#[_,_,_,_,_,_,_,_,_,_,_,_,_,_,_,_,_,_,_,_,_,_,_,_,_,_,_,_,_,_,_,_,_,_,_,_,_,_,_,_,_,_,_,_,_,_,_,_,_,_,_,_,_,_,_], _⟩ : Act) _
                  refine wpAnyH_take (i := 2) (v := ?_) rfl (by kernel_rfl) (by kernel_rfl) (by kernel_rfl) (fun _ _ _ h => h) (Or.inl ⟨by kernel_rfl, ?_⟩) (by assumption) ?_
                  rotate_left
                  · intro w hSw
                    clear hSw
                    go_simp
                    try with_reducible rfl
                  change wpAnyH _ _ _ _ _ _ _ (⟨#[_,_,_,_,_,_,_,_,_,_,_,_,_,_,_,_,_,_,_,_,_,_,_,_,_,_,_,_,_,_,_,_,_,_,_,_,_,_,_,_,_,_,_,_,_,_,_,_,_,_,_,_,_,_,_], _⟩ : Act) _
                  refine wpAnyH_take (i := 3) (v := ?_) rfl (by kernel_rfl) (by kernel_rfl) (by kernel_rfl) (fun _ _ _ h => h) (Or.inl ⟨by kernel_rfl, ?_⟩) (by assumption) ?_
                  rotate_left
                  · intro w hSw
                    obtain ⟨k0, k1, k2, k3, k4, k5, _⟩ := hSw
                    go_simp
                    try with_reducible rfl
                  change wpAnyH _ _ _ _ _ _ _ (⟨#[_,_,_,_,_,_,_,_,_,_,_,_,_,_,_,_,_,_,_,_,_,_,_,_,_,_,_,_,_,_,_,_,_,_,_,_,_,_,_,_,_,_,_,_,_,_,_,_,_,_,_,_,_,_,_], _⟩ : Act) _
                  refine wpAnyH_take (i := 4) (v := ?_) rfl (by kernel_rfl) (by kernel_rfl) (by kernel_rfl) (fun _ _ _ h => h) (Or.inl ⟨by kernel_rfl, ?_⟩) (by assumption) ?_
                  rotate_left
                  · intro w hSw
                    clear hSw
                    go_simp
                    try with_reducible rfl
                  change wpAnyH _ _ _ _ _ _ _ (⟨#[_,_,_,_,_,_,_,_,_,_,_,_,_,_,_,_,_,_,_,_,_,_,_,_,_,_,_,_,_,_,_,_,_,_,_,_,_,_,_,_,_,_,_,_,_,_,_,_,_,_,_,_,_,_,_], _⟩ : Act) _
                  refine wpAnyH_take (i := 5) (v := ?_) rfl (by kernel_rfl) (by kernel_rfl) (by kernel_rfl) (fun _ _ _ h => h) (Or.inl ⟨by kernel_rfl, ?_⟩) (by assumption) ?_
                  rotate_left
                  · intro w hSw
                    clear hSw
                    go_simp
                    try with_reducible rfl
                  change wpAnyH _ _ _ _ _ _ _ (⟨#[_,_,_,_,_,_,_,_,_,_,_,_,_,_,_,_,_,_,_,_,_,_,_,_,_,_,_,_,_,_,_,_,_,_,_,_,_,_,_,_,_,_,_,_,_,_,_,_,_,_,_,_,_,_,_], _⟩ : Act) _
                  refine wpAnyH_take (i := 6) (v := undef) rfl (by kernel_rfl) (by kernel_rfl) (by kernel_rfl) (fun _ _ _ h => h) (Or.inr ⟨by kernel_rfl, rfl⟩) (by assumption) ?_
                  change wpAnyH _ _ _ _ _ _ _ (⟨#[_,_,_,_,_,_,_,_,_,_,_,_,_,_,_,_,_,_,_,_,_,_,_,_,_,_,_,_,_,_,_,_,_,_,_,_,_,_,_,_,_,_,_,_,_,_,_,_,_,_,_,_,_,_,_], _⟩ : Act) _
                  refine wpAnyH_take (i := 8) (v := undef) rfl (by kernel_rfl) (by kernel_rfl) (by kernel_rfl) (fun _ _ _ h => h) (Or.inr ⟨by kernel_rfl, rfl⟩) (by assumption) ?_
                  change wpAnyH _ _ _ _ _ _ _ (⟨#[_,_,_,_,_,_,_,_,_,_,_,_,_,_,_,_,_,_,_,_,_,_,_,_,_,_,_,_,_,_,_,_,_,_,_,_,_,_,_,_,_,_,_,_,_,_,_,_,_,_,_,_,_,_,_], _⟩ : Act) _
                  refine wpAnyH_ready (rs := [7]) (by kernel_rfl) (by simp) ?_
                  refine AllReadyH.cons rfl (fun K hK => ?_) AllReadyH.nil
                  go_simp
                  refine hK.out _ _ hHeld (fun hHeld => ?_)
                  clear hK K
                  change wpAnyH _ _ _ _ _ _ _ (⟨#[_,_,_,_,_,_,_,_,_,_,_,_,_,_,_,_,_,_,_,_,_,_,_,_,_,_,_,_,_,_,_,_,_,_,_,_,_,_,_,_,_,_,_,_,_,_,_,_,_,_,_,_,_,_,_], _⟩ : Act) _
                  refine wpAnyH_ready (rs := [9]) (by kernel_rfl) (by simp) ?_
                  refine AllReadyH.cons rfl (fun K hK => ?_) AllReadyH.nil
                  go_simp
                  refine hK.out _ _ hHeld (fun hHeld => ?_)
                  clear hK K
                  change wpAnyH _ _ _ _ _ _ _ (⟨#[_,_,_,_,_,_,_,_,_,_,_,_,_,_,_,_,_,_,_,_,_,_,_,_,_,_,_,_,_,_,_,_,_,_,_,_,_,_,_,_,_,_,_,_,_,_,_,_,_,_,_,_,_,_,_], _⟩ : Act) _
                  refine wpAnyH_take (i := 10) (v := undef) rfl (by kernel_rfl) (by kernel_rfl) (by kernel_rfl) (fun _ _ _ h => h) (Or.inr ⟨by kernel_rfl, rfl⟩) (by assumption) ?_
                  change wpAnyH _ _ _ _ _ _ _ (⟨#[_,_,_,_,_,_,_,_,_,_,_,_,_,_,_,_,_,_,_,_,_,_,_,_,_,_,_,_,_,_,_,_,_,_,_,_,_,_,_,_,_,_,_,_,_,_,_,_,_,_,_,_,_,_,_], _⟩ : Act) _
                  refine wpAnyH_take (i := 11) (v := ?_) rfl (by kernel_rfl) (by kernel_rfl) (by kernel_rfl) (fun _ _ _ h => h) (Or.inl ⟨by kernel_rfl, ?_⟩) (by assumption) ?_
                  rotate_left
                  · intro w hSw
                    clear hSw
                    go_simp
                    try with_reducible rfl
                  change wpAnyH _ _ _ _ _ _ _ (⟨#[_,_,_,_,_,_,_,_,_,_,_,_,_,_,_,_,_,_,_,_,_,_,_,_,_,_,_,_,_,_,_,_,_,_,_,_,_,_,_,_,_,_,_,_,_,_,_,_,_,_,_,_,_,_,_], _⟩ : Act) _
                  refine wpAnyH_done (by kernel_rfl) ?_ _
                  refine NoPanic.normal ?_
                  have HBZ := hidM hHeld.2.2.2.2.2.2.out.bel
                  clear hHeld
                  go_wp2
                  go_ret
                  exact ⟨by rw [H4.out]; rfl, HBZ.out⟩
                | false =>
                  as_aux_lemma =>
                  have hnn : pn.data.toList ≠ nm.data.toList := fun e => by rw [Lib.toList_data, Lib.toList_data, e] at hne; simp at hne
                  have HNN := hidM hnn
                  clear hnn
                  have H28Y : Hid (∀ V, Hid (YS w bx yb m nm id pm pn pid V) → _) := fun V hV => YS.call (HKY.out V) hV
                  have H28X : Hid (∀ V, Hid (YS w bx yb m nm id pm pn pid V) → _) := fun V hV => YS.call (HKX.out V) hV
                  clear HKX HKY
                  refine wp_region_noPanic ?_
                  refine wp_region_held_drew (S := (fun w' => w'.cell? ⟨bx, 0, none⟩ = some (.int .i64 m) ∧ w'.cell? ⟨bx, 1, none⟩ = some (.string nm) ∧ w'.cell? ⟨bx, 2, none⟩ = some (.string id) ∧ w'.cell? ⟨yb, 0, none⟩ = some (.int .i64 pm) ∧ w'.cell? ⟨yb, 1, none⟩ = some (.string pn) ∧ w'.cell? ⟨yb, 2, none⟩ = some (.string pid) ∧ Hid (YS w bx yb m nm id pm pn pid w'))) (by kernel_rfl) ?_ (fun hHeld => ?_)
                  · exact YS.full (YS.drew HY).out
                  refine wpAnyH_take (i := 0) (v := ?_) rfl (by kernel_rfl) (by kernel_rfl) (by kernel_rfl) (fun _ _ _ h => h) (Or.inl ⟨by kernel_rfl, ?_⟩) (by assumption) ?_
                  rotate_left
                  · intro w hSw
                    clear hSw
                    go_simp
                    try with_reducible rfl
                  change wpAnyH _ _ _ _ _ _ _ (⟨#[_,_,_,_,_,_,_,_,_,_,_,_,_,_,_,_,_,_,_,_,_,_,_,_,_,_,_,_,_,_,_,_,_,_,_,_,_,_,_,_,_,_,_,_,_,_,_,_,_,_,_,_,_,_,_], _⟩ : Act) _
                  refine wpAnyH_take (i := 1) (v := ?_) rfl (by kernel_rfl) (by kernel_rfl) (by kernel_rfl) (fun _ _ _ h => h) (Or.inl ⟨by kernel_rfl, ?_⟩) (by assumption) ?_
                  rotate_left
                  · intro w hSw
                    obtain ⟨k0, k1, k2, k3, k4, k5, _⟩ := hSw
                    go_simp
                    try with_reducible rfl
                  change wpAnyH _ _ _ _ _ _ _ (⟨#[_,_,_,_,_,_,_,_,_,_,_,_,_,_,_,_,_,_,_,_,_,_,_,_,_,_,_,_,_,_,_,_,_,_,_,_,_,_,_,_,_,_,_,_,_,_,_,_,_,_,_,_,_,_,_], _⟩ : Act) _
                  refine wpAnyH_take (i := 2) (v := ?_) rfl (by kernel_rfl) (by kernel_rfl) (by kernel_rfl) (fun _ _ _ h => h) (Or.inl ⟨by kernel_rfl, ?_⟩) (by assumption) ?_
                  rotate_left
                  · intro w hSw
                    clear hSw
                    go_simp
                    try with_reducible rfl
                  change wpAnyH _ _ _ _ _ _ _ (⟨#[_,_,_,_,_,_,_,_,_,_,_,_,_,_,_,_,_,_,_,_,_,_,_,_,_,_,_,_,_,_,_,_,_,_,_,_,_,_,_,_,_,_,_,_,_,_,_,_,_,_,_,_,_,_,_], _⟩ : Act) _
                  refine wpAnyH_take (i := 3) (v := ?_) rfl (by kernel_rfl) (by kernel_rfl) (by kernel_rfl) (fun _ _ _ h => h) (Or.inl ⟨by kernel_rfl, ?_⟩) (by assumption) ?_
                  rotate_left
                  · intro w hSw
                    obtain ⟨k0, k1, k2, k3, k4, k5, _⟩ := hSw
                    go_simp
                    try with_reducible rfl
                  change wpAnyH _ _ _ _ _ _ _ (⟨#[_,_,_,_,_,_,_,_,_,_,_,_,_,_,_,_,_,_,_,_,_,_,_,_,_,_,_,_,_,_,_,_,_,_,_,_,_,_,_,_,_,_,_,_,_,_,_,_,_,_,_,_,_,_,_], _⟩ : Act) _
                  refine wpAnyH_take (i := 4) (v := ?_) rfl (by kernel_rfl) (by kernel_rfl) (by kernel_rfl) (fun _ _ _ h => h) (Or.inl ⟨by kernel_rfl, ?_⟩) (by assumption) ?_
                  rotate_left
                  · intro w hSw
                    clear hSw
                    go_simp
                    try with_reducible rfl
                  change wpAnyH _ _ _ _ _ _ _ (⟨#[_,_,_,_,_,_,_,_,_,_,_,_,_,_,_,_,_,_,_,_,_,_,_,_,_,_,_,_,_,_,_,_,_,_,_,_,_,_,_,_,_,_,_,_,_,_,_,_,_,_,_,_,_,_,_], _⟩ : Act) _
                  refine wpAnyH_take (i := 5) (v := ?_) rfl (by kernel_rfl) (by kernel_rfl) (by kernel_rfl) (fun _ _ _ h => h) (Or.inl ⟨by kernel_rfl, ?_⟩) (by assumption) ?_
                  rotate_left
                  · intro w hSw
                    clear hSw
                    go_simp
                    try with_reducible rfl
                  change wpAnyH _ _ _ _ _ _ _ (⟨#[_,_,_,_,_,_,_,_,_,_,_,_,_,_,_,_,_,_,_,_,_,_,_,_,_,_,_,_,_,_,_,_,_,_,_,_,_,_,_,_,_,_,_,_,_,_,_,_,_,_,_,_,_,_,_], _⟩ : Act) _
                  refine wpAnyH_take (i := 6) (v := ?_) rfl (by kernel_rfl) (by kernel_rfl) (by kernel_rfl) (fun _ _ _ h => h) (Or.inl ⟨by kernel_rfl, ?_⟩) (by assumption) ?_
                  rotate_left
                  · intro w hSw
                    obtain ⟨k0, k1, k2, k3, k4, k5, _⟩ := hSw
                    go_simp
                    try with_reducible rfl
                  change wpAnyH _ _ _ _ _ _ _ (⟨#[_,_,_,_,_,_,_,_,_,_,_,_,_,_,_,_,_,_,_,_,_,_,_,_,_,_,_,_,_,_,_,_,_,_,_,_,_,_,_,_,_,_,_,_,_,_,_,_,_,_,_,_,_,_,_], _⟩ : Act) _
                  refine wpAnyH_take (i := 8) (v := ?_) rfl (by kernel_rfl) (by kernel_rfl) (by kernel_rfl) (fun _ _ _ h => h) (Or.inl ⟨by kernel_rfl, ?_⟩) (by assumption) ?_
                  rotate_left
                  · intro w hSw
                    obtain ⟨k0, k1, k2, k3, k4, k5, _⟩ := hSw
                    go_simp
                    try with_reducible rfl
                  change wpAnyH _ _ _ _ _ _ _ (⟨#[_,_,_,_,_,_,_,_,_,_,_,_,_,_,_,_,_,_,_,_,_,_,_,_,_,_,_,_,_,_,_,_,_,_,_,_,_,_,_,_,_,_,_,_,_,_,_,_,_,_,_,_,_,_,_], _⟩ : Act) _
                  refine wpAnyH_ready (rs := [7]) (by kernel_rfl) (by simp) ?_
                  refine AllReadyH.cons rfl (fun K hK => ?_) AllReadyH.nil
                  go_simp
                  with_reducible refine (H28Y.out _ hHeld.2.2.2.2.2.2).mono ?_
                  rintro _ v1 ⟨rfl, hS⟩
                  refine hK.out _ _ hS (fun hHeld => ?_)
                  clear hK K hS
                  change wpAnyH _ _ _ _ _ _ _ (⟨#[_,_,_,_,_,_,_,_,_,_,_,_,_,_,_,_,_,_,_,_,_,_,_,_,_,_,_,_,_,_,_,_,_,_,_,_,_,_,_,_,_,_,_,_,_,_,_,_,_,_,_,_,_,_,_], _⟩ : Act) _
                  refine wpAnyH_ready (rs := [9]) (by kernel_rfl) (by simp) ?_
                  refine AllReadyH.cons rfl (fun K hK => ?_) AllReadyH.nil
                  go_simp
                  with_reducible refine (H28X.out _ hHeld.2.2.2.2.2.2).mono ?_
                  rintro _ v2 ⟨rfl, hS⟩
                  refine hK.out _ _ hS (fun hHeld => ?_)
                  clear hK K hS
                  change wpAnyH _ _ _ _ _ _ _ (⟨#[_,_,_,_,_,_,_,_,_,_,_,_,_,_,_,_,_,_,_,_,_,_,_,_,_,_,_,_,_,_,_,_,_,_,_,_,_,_,_,_,_,_,_,_,_,_,_,_,_,_,_,_,_,_,_], _⟩ : Act) _
                  refine wpAnyH_take (i := 10) (v := ?_) rfl (by kernel_rfl) (by kernel_rfl) (by kernel_rfl) (fun _ _ _ h => h) (Or.inl ⟨by kernel_rfl, ?_⟩) (by assumption) ?_
                  rotate_left
                  · intro w hSw
                    clear hSw
                    go_simp
                    try with_reducible rfl
                  change wpAnyH _ _ _ _ _ _ _ (⟨#[_,_,_,_,_,_,_,_,_,_,_,_,_,_,_,_,_,_,_,_,_,_,_,_,_,_,_,_,_,_,_,_,_,_,_,_,_,_,_,_,_,_,_,_,_,_,_,_,_,_,_,_,_,_,_], _⟩ : Act) _
                  refine wpAnyH_take (i := 11) (v := ?_) rfl (by kernel_rfl) (by kernel_rfl) (by kernel_rfl) (fun _ _ _ h => h) (Or.inl ⟨by kernel_rfl, ?_⟩) (by assumption) ?_
                  rotate_left
                  · intro w hSw
                    clear hSw
                    go_simp
                    try with_reducible rfl
                  change wpAnyH _ _ _ _ _ _ _ (⟨#[_,_,_,_,_,_,_,_,_,_,_,_,_,_,_,_,_,_,_,_,_,_,_,_,_,_,_,_,_,_,_,_,_,_,_,_,_,_,_,_,_,_,_,_,_,_,_,_,_,_,_,_,_,_,_], _⟩ : Act) _
                  refine wpAnyH_done (by kernel_rfl) ?_ _
                  refine NoPanic.normal ?_
                  have HBZ := hidM hHeld.2.2.2.2.2.2.out
                  clear hHeld H28X H28Y
                  have HBV : Hid (Op.bytesLess (keyE es j) (keyL m nm.data.toList) = Op.bytesLess K1.toList K2.toList) := by
                    unfold Hid; rw [HKE.out, Lib.toList_data, Lib.toList_data, HK1.out, HK2.out]
                  generalize Op.bytesLess K1.toList K2.toList = bl at *
                  cases bl with
                  | false =>
                    have H4 : Hid (R = 4) := HN4.out j hjk (fun h => by have := h.2; rw [HBV.out] at this; cases this)
                    go_wp2
                    go_ret
                    exact ⟨by rw [H4.out]; rfl, HBZ.out.bel⟩
                  | true =>
                    have HAX : Hid (∀ i, i < j + 1 → (es.getD i noE).2.1.data.toList ≠ nm.data.toList ∧ Op.bytesLess (keyE es i) (keyL m nm.data.toList) = true) := fun i hi => by
                      rcases Nat.lt_or_ge i j with h1 | h1
                      · exact HAL.out i h1
                      · obtain rfl : i = j := by omega
                        exact ⟨by rw [← HPN.out]; exact HNN.out, HBV.out⟩
                    go_wp2
                    go_roundw
                    case rel => exact ⟨j + 1, by omega, by go_num, HBZ.out.bel, HBZ.out.x, HAX.out⟩
                    case measure => simp [intOf]; omega
              · as_aux_lemma =>
                obtain rfl : j = k := by omega
                have gj : ¬ (j : Int) < (j : Int) := by omega
                have HNX := hidM (HNX0.out HAL.out)
                clear HNX0 HN4 HAL
                go_wp2
                go_roundw
                case rel => exact ⟨j + 1, by omega, by go_num, HBQ.out, HNX.out⟩
                case measure => simp [intOf]; omega
    · as_aux_lemma =>
      have gk : ¬ (k : Int) < (len : Int) := by omega
      have H0 : Hid (R = 0) := HYES.out (fun i hi => HST.out i (by omega))
      go_wp2
      go_ret
      exact ⟨by rw [H0.out]; rfl, HBL.out⟩
set_option maxRecDepth 100000 in
theorem rcheck_big (a : Option Addr) (cap len : Nat) (w : World) (h500 : 500 < len) :
    Calls Tryz.prog 7 #[.slice a len cap] w fun e w' => e = .returned (.int .i64 2) ∧ Below w.heap.size w w' := by
  have g5 : (500 : Int) < (len : Int) := by omega
  go_enter Tryz.func7, Tryz.ntmps7
  go_wp2
  go_ret
  exact ⟨rfl, Below.refl _ _⟩
set_option maxRecDepth 100000 in
theorem rcheck_nil (a : Option Addr) (cap : Nat) (w : World) :
    Calls Tryz.prog 7 #[.slice a 0 cap] w fun e w' => e = .returned (.int .i64 0) ∧ Below w.heap.size w w' := by
  go_enter Tryz.func7, Tryz.ntmps7
  go_wp2
  refine wp_loop_rounds 1 ?_
  rw [rounds_succ]
  go_wp2
  go_ret
  exact ⟨rfl, Below.refl _ _⟩
theorem rcheck_any (a : Option Addr) (cap : Nat) (es : List EntB) (w : World) (hc : es.length ≤ cap) (hE : EntsIn w a es) (hO : ∀ e ∈ es, OkE e) :
    Calls Tryz.prog 7 #[.slice a es.length cap] w fun e w' => e = .returned (.int .i64 (checkV es)) ∧ Below w.heap.size w w' := by
  by_cases h5 : 500 < es.length
  · unfold checkV
    rw [if_pos h5]
    exact rcheck_big a cap es.length w h5
  · have hv : checkV es = checkZ es := by unfold checkV; rw [if_neg h5]
    rw [hv]
    rcases hE with rfl | ⟨b, off, rfl, h1, h2⟩
    · exact rcheck_nil a cap w
    · exact rcheck_some b off cap es.length es w rfl (by omega) hc h1 h2 hO
end Go.Proofs.YtlmeoahcpmikiaaGreatDoor.T
