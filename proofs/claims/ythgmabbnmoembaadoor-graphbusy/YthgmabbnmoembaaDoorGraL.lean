/-
  Whole numbers as floats; ways of unit steps.
-/
import Derived.Test.YthgmabbnmoembaaDoorGraG
namespace Go.Proofs.YthgmabbnmoembaaDoor
open Go.RowKit

def mantN (n : Nat) : Nat := if n = 0 then 0 else n * 2 ^ (52 - n.log2)
def expoN (n : Nat) : Int := if n = 0 then -1074 else (n.log2 : Int) - 52
theorem read_all : ∀ n : Fin 241, Ieee.double.read (fz n.val) = .number false (mantN n.val) (expoN n.val) := by decide +kernel
theorem log_all : ∀ n : Fin 241, n.val.log2 ≤ 7 := by decide +kernel
theorem order_of (m m' : Nat) (i j : Int) : Ieee.Datum.order (.number false m i) (.number false m' j) = some (compare ((m <<< (i - min i j).toNat : Nat) : Int) ((m' <<< (j - min i j).toNat : Nat) : Int)) := rfl
theorem cmp_lt {a b : Int} (h : a < b) : compare a b = .lt := by simp [compare, compareOfLessAndEq, h]
theorem cmp_eq (a : Int) : compare a a = .eq := by simp [compare, compareOfLessAndEq]
theorem cmp_gt {a b : Int} (h : b < a) : compare a b = .gt := by
  have h1 : ¬ a < b := by omega
  have h2 : ¬ a = b := by omega
  simp [compare, compareOfLessAndEq, h1, h2]
/-- how the two stand, brought to one place -/
theorem keys {a b : Nat} (ha : a ≤ 240) (hb : b ≤ 240) : ∃ k l : Nat, Ieee.double.order (fz a) (fz b) = some (compare (k : Int) (l : Int)) ∧ (a < b → k < l) ∧ (a = b → k = l) ∧ (b < a → l < k) := by
  have ra := read_all ⟨a, by omega⟩
  have rb := read_all ⟨b, by omega⟩
  have la := log_all ⟨a, by omega⟩
  have lb := log_all ⟨b, by omega⟩
  simp only at ra rb la lb
  refine ⟨_, _, by unfold Ieee.Format.order; rw [ra, rb, order_of], ?_, ?_, ?_⟩
  all_goals
    rw [Nat.shiftLeft_eq, Nat.shiftLeft_eq]
    unfold mantN expoN
    by_cases h0 : a = 0
    · by_cases h1 : b = 0
      · subst h0; subst h1; simp
      · have hp : 0 < b * 2 ^ (52 - b.log2) := Nat.mul_pos (by omega) (Nat.pow_pos (by omega))
        simp only [h0, h1, if_true, if_false, Nat.zero_mul]
        intro h
        first | omega | (exfalso; omega) | exact Nat.mul_pos hp (Nat.pow_pos (by omega))
    · by_cases h1 : b = 0
      · have hp : 0 < a * 2 ^ (52 - a.log2) := Nat.mul_pos (by omega) (Nat.pow_pos (by omega))
        simp only [h0, h1, if_true, if_false, Nat.zero_mul]
        intro h
        first | omega | (exfalso; omega) | exact Nat.mul_pos hp (Nat.pow_pos (by omega))
      · simp only [h0, h1, if_false]
        have ea : (((a.log2 : Int) - 52) - min ((a.log2 : Int) - 52) ((b.log2 : Int) - 52)).toNat = a.log2 - min a.log2 b.log2 := by omega
        have eb : (((b.log2 : Int) - 52) - min ((a.log2 : Int) - 52) ((b.log2 : Int) - 52)).toNat = b.log2 - min a.log2 b.log2 := by omega
        rw [ea, eb, Nat.mul_assoc, Nat.mul_assoc, ← Nat.pow_add, ← Nat.pow_add]
        have fa : 52 - a.log2 + (a.log2 - min a.log2 b.log2) = 52 - min a.log2 b.log2 := by omega
        have fb : 52 - b.log2 + (b.log2 - min a.log2 b.log2) = 52 - min a.log2 b.log2 := by omega
        rw [fa, fb]
        intro h
        first | exact Nat.mul_lt_mul_of_pos_right h (Nat.pow_pos (by omega)) | rw [h]
theorem ord_lt {a b : Nat} (ha : a ≤ 240) (hb : b ≤ 240) (h : a < b) : FloatKind.f64.format.order (fz a) (fz b) = some .lt := by
  obtain ⟨k, l, h1, h2, _, _⟩ := keys ha hb
  show Ieee.double.order _ _ = _
  rw [h1, cmp_lt (by have := h2 h; omega)]
theorem ord_eq {a : Nat} (ha : a ≤ 240) : FloatKind.f64.format.order (fz a) (fz a) = some .eq := by
  obtain ⟨k, l, h1, _, h2, _⟩ := keys ha ha
  show Ieee.double.order _ _ = _
  rw [h1, h2 rfl, cmp_eq]
theorem ord_gt {a b : Nat} (ha : a ≤ 240) (hb : b ≤ 240) (h : b < a) : FloatKind.f64.format.order (fz a) (fz b) = some .gt := by
  obtain ⟨k, l, h1, _, _, h2⟩ := keys ha hb
  show Ieee.double.order _ _ = _
  rw [h1, cmp_gt (by have := h2 h; omega)]
theorem ord_is_eq {a b : Nat} (ha : a ≤ 240) (hb : b ≤ 240) : (FloatKind.f64.format.order (fz a) (fz b) == some .eq) = decide (a = b) := by
  rcases Nat.lt_trichotomy a b with h | h | h
  · rw [ord_lt ha hb h]
    have : ¬ a = b := by omega
    simp [this]
  · subst h; rw [ord_eq ha]; simp
  · rw [ord_gt ha hb h]
    have : ¬ a = b := by omega
    simp [this]
theorem ord_is_lt {a b : Nat} (ha : a ≤ 240) (hb : b ≤ 240) : (FloatKind.f64.format.order (fz a) (fz b) == some .lt) = decide (a < b) := by
  rcases Nat.lt_trichotomy a b with h | h | h
  · rw [ord_lt ha hb h]; simp [h]
  · subst h; rw [ord_eq ha]; simp
  · rw [ord_gt ha hb h]
    have : ¬ a < b := by omega
    simp [this]
theorem add_one : ∀ n : Fin 241, floatBits .add .f64 (fz n.val) 4607182418800017408 = some (fz (n.val + 1)) := by decide +kernel
theorem add_zero : ∀ n : Fin 241, floatBits .add .f64 (fz n.val) 0 = some (fz n.val) := by decide +kernel
theorem sub_one : ∀ n : Fin 241, floatBits .add .f64 (fz (n.val + 1)) 13830554455654793216 = some (fz n.val) := by decide +kernel
theorem sum_of {a b c d re im : Nat} (h1 : floatBits .add .f64 a c = some re) (h2 : floatBits .add .f64 b d = some im) (w : World) : (binOp .add 40 (.complex .f64 a b) (.complex .f64 c d)).run Tryd.prog w = .ok (.complex .f64 re im) w :=
  run_complex_sum w .add (.inl rfl) 40 .f64 a b c d re im (by unfold cSumBits; rw [h1, h2]; rfl)
theorem down_of {x y : Nat} (hx : x ≤ 240) (hy : y ≤ 240) (w : World) : (binOp .add 40 (cz x y) (.complex .f64 0 4607182418800017408)).run Tryd.prog w = .ok (cz x (y + 1)) w := sum_of (add_zero ⟨x, by omega⟩) (add_one ⟨y, by omega⟩) w
theorem right_of {x y : Nat} (hx : x ≤ 240) (hy : y ≤ 240) (w : World) : (binOp .add 40 (cz x y) (.complex .f64 4607182418800017408 0)).run Tryd.prog w = .ok (cz (x + 1) y) w := sum_of (add_one ⟨x, by omega⟩) (add_zero ⟨y, by omega⟩) w
theorem left_of {x y : Nat} (hx : x ≤ 240) (hy : y ≤ 240) (w : World) : (binOp .add 40 (cz (x + 1) y) (.complex .f64 13830554455654793216 0)).run Tryd.prog w = .ok (cz x y) w := sum_of (sub_one ⟨x, by omega⟩) (add_zero ⟨y, by omega⟩) w
def stepV (x y u v : Nat) : Value := if y < v then .complex .f64 0 4607182418800017408 else if x < u then .complex .f64 4607182418800017408 0 else .complex .f64 13830554455654793216 0
set_option maxHeartbeats 1000000 in
theorem step_any (x y u v : Nat) (w : World) (hx : x ≤ 240) (hy : y ≤ 240) (hu : u ≤ 240) (hv : v ≤ 240) :
    Calls Tryd.prog 23 #[cz x y, cz u v] w fun e w' => e = .returned (stepV x y u v) ∧ w' = w := by
  have e1 := ord_is_lt hy hv
  have e2 := ord_is_lt hx hu
  unfold cz
  by_cases h1 : y < v
  · have HR : Hid (stepV x y u v = .complex .f64 0 4607182418800017408) := by unfold Hid stepV; rw [if_pos h1]
    have d1 : decide (y < v) = true := by simpa using h1
    rw [d1] at e1
    clear e2 h1 d1
    generalize fz x = fx at *
    generalize fz y = fy at *
    generalize fz u = fu at *
    generalize fz v = fv at *
    go_enter Tryd.func23, Tryd.ntmps23
    go_wp2
    go_ret
    exact ⟨by rw [HR.out]; rfl, rfl⟩
  · have d1 : decide (y < v) = false := by simpa using h1
    rw [d1] at e1
    by_cases h2 : x < u
    · have HR : Hid (stepV x y u v = .complex .f64 4607182418800017408 0) := by unfold Hid stepV; rw [if_neg h1, if_pos h2]
      have d2 : decide (x < u) = true := by simpa using h2
      rw [d2] at e2
      clear h1 h2 d1 d2
      generalize fz x = fx at *
      generalize fz y = fy at *
      generalize fz u = fu at *
      generalize fz v = fv at *
      go_enter Tryd.func23, Tryd.ntmps23
      go_wp2
      go_ret
      exact ⟨by rw [HR.out]; rfl, rfl⟩
    · have HR : Hid (stepV x y u v = .complex .f64 13830554455654793216 0) := by unfold Hid stepV; rw [if_neg h1, if_neg h2]
      have d2 : decide (x < u) = false := by simpa using h2
      rw [d2] at e2
      clear h1 h2 d1 d2
      generalize fz x = fx at *
      generalize fz y = fy at *
      generalize fz u = fu at *
      generalize fz v = fv at *
      go_enter Tryd.func23, Tryd.ntmps23
      go_wp2
      go_ret
      exact ⟨by rw [HR.out]; rfl, rfl⟩
def lenOf : Value → Nat | .slice _ n _ => n | _ => 0
/-- where a way stands behind t steps -/
def wayY (y v t : Nat) : Nat := if t ≤ v - y then y + t else v
def wayX (x u d t : Nat) : Nat := if t ≤ d then x else if x < u then x + (t - d) else x - (t - d)
def wayN (x y u v : Nat) : Nat := (v - y) + (if x < u then u - x else x - u)
def wayL (x y u v k : Nat) : List Value := (List.range k).map fun s => cz (wayX x u (v - y) (s + 1)) (wayY y v (s + 1))
theorem wayL_next (x y u v k : Nat) : wayL x y u v (k + 1) = wayL x y u v k ++ [cz (wayX x u (v - y) (k + 1)) (wayY y v (k + 1))] := by unfold wayL; rw [List.range_succ, List.map_append]; rfl
theorem wayL_len (x y u v k : Nat) : (wayL x y u v k).length = k := by unfold wayL; simp
set_option maxHeartbeats 2000000 in
theorem way_any (x y u v : Nat) (w : World) (hx : x ≤ 40) (hu : u ≤ 40) (hyv : y ≤ v) (hv : v ≤ 200) :
    Calls Tryd.prog 16 #[cz x y, cz u v] w fun e w' => ∃ wv, e = .returned wv ∧ OwnV 40 w' w.heap.size wv (wayL x y u v (wayN x y u v)) ∧ Below w.heap.size w w' := by
  obtain ⟨n, hn⟩ : ∃ n, wayN x y u v = n := ⟨_, rfl⟩
  have HN := hidM hn
  rw [hn]
  have hn2 : n ≤ 240 := by rw [← hn]; unfold wayN; split <;> omega
  clear hn
  have HS0 : Hid (cz x y = cz (wayX x u (v - y) 0) (wayY y v 0)) := by unfold Hid wayX wayY; simp
  obtain ⟨V, hV⟩ : ∃ V, cz u v = V := ⟨_, rfl⟩
  have HV := hidM hV
  rw [HS0.out, hV]
  obtain ⟨vr, vi, hvri⟩ : ∃ a b, V = .complex .f64 a b := ⟨_, _, hV.symm⟩
  clear hV
  go_enter Tryd.func16, Tryd.ntmps16
  go_wp2
  go_loopw [5, 6] (fun wv av wr => ∃ (k : Nat), k ≤ n ∧ av = cz (wayX x u (v - y) k) (wayY y v k) ∧ Hid (OwnV 40 wr w.heap.size wv (wayL x y u v k)) ∧ Hid (Below w.heap.size w wr)) (fun wv _ _ => 240 - lenOf wv)
  case atStart => exact ⟨0, Nat.zero_le _, rfl, World.ownsRow_nil _ _ _ _, Below.refl _ _⟩
  case round =>
    obtain ⟨k, hk, rfl, HO, HB⟩ := hrel
    obtain ⟨wa, wc, hwv, hwc, -⟩ := HO.out.shape
    rw [wayL_len] at hwv hwc
    subst hwv
    by_cases hlt : k < n
    · have hle : ¬ (wayX x u (v - y) k = u ∧ wayY y v k = v) := by
        rw [← HN.out] at hlt
        unfold wayN at hlt
        unfold wayX wayY
        split <;> split at hlt <;> (try split) <;> omega
      have hpx : wayX x u (v - y) k ≤ 240 := by
        rw [← HN.out] at hlt
        unfold wayN at hlt
        unfold wayX
        split <;> (try split) <;> split at hlt <;> omega
      have hpy : wayY y v k ≤ 240 := by unfold wayY; split <;> omega
      have HNX := hidM (wayL_next x y u v k)
      have HST := hidM (step_any (wayX x u (v - y) k) (wayY y v k) u v wr hpx hpy (by omega) (by omega))
      have hneq : ((FloatKind.f64.format.order (fz (wayX x u (v - y) k)) (fz u) == some .eq) && (FloatKind.f64.format.order (fz (wayY y v k)) (fz v) == some .eq)) = false := by
        rw [ord_is_eq hpx (by omega), ord_is_eq hpy (by omega)]
        by_cases h1 : wayX x u (v - y) k = u
        · have h2 : ¬ wayY y v k = v := fun h => hle ⟨h1, h⟩
          simp [h2]
        · simp [h1]
      have hsum : ∀ W : World, (binOp .add 40 (cz (wayX x u (v - y) k) (wayY y v k)) (stepV (wayX x u (v - y) k) (wayY y v k) u v)).run Tryd.prog W = .ok (cz (wayX x u (v - y) (k + 1)) (wayY y v (k + 1))) W := by
        intro W
        unfold stepV
        by_cases h1 : wayY y v k < v
        · rw [if_pos h1]
          have e1 : wayX x u (v - y) (k + 1) = wayX x u (v - y) k := by
            unfold wayY at h1
            unfold wayX
            split at h1
            · rw [if_pos (by omega), if_pos (by omega)]
            · omega
          have e2 : wayY y v (k + 1) = wayY y v k + 1 := by
            unfold wayY at h1 ⊢
            split at h1
            · rw [if_pos (by omega), if_pos (by omega)]; omega
            · omega
          rw [e1, e2]
          exact down_of hpx hpy W
        · rw [if_neg h1]
          have hkd : v - y ≤ k := by
            unfold wayY at h1
            split at h1 <;> omega
          have e2 : wayY y v (k + 1) = wayY y v k := by
            unfold wayY
            rw [if_neg (by omega)]
            split <;> omega
          by_cases h2 : wayX x u (v - y) k < u
          · rw [if_pos h2]
            have hxu : x < u := by
              by_cases hxu : x < u
              · exact hxu
              · exfalso
                rw [← HN.out] at hlt
                unfold wayN at hlt
                rw [if_neg hxu] at hlt
                unfold wayX at h2
                split at h2
                · omega
                · omega
            have e1 : wayX x u (v - y) (k + 1) = wayX x u (v - y) k + 1 := by
              unfold wayX
              rw [if_neg (by omega), if_pos hxu]
              split
              · omega
              · first | omega | (rw [if_pos hxu]; omega)
            rw [e1, e2]
            exact right_of hpx hpy W
          · rw [if_neg h2]
            have hxu : ¬ x < u := by
              intro hxu
              rw [← HN.out] at hlt
              unfold wayN at hlt
              rw [if_pos hxu] at hlt
              unfold wayX at h2
              split at h2
              · omega
              · first | omega | (rw [if_pos hxu] at h2; omega)
            have e1 : wayX x u (v - y) k = wayX x u (v - y) (k + 1) + 1 := by
              rw [← HN.out] at hlt
              unfold wayN at hlt
              rw [if_neg hxu] at hlt
              unfold wayX
              rw [if_neg (show ¬ k + 1 ≤ v - y by omega), if_neg hxu]
              split
              · omega
              · omega
            rw [e1, e2]
            exact left_of (by omega) hpy W
      have HVU := hidM (show cz u v = V from HV.out)
      rw [HVU.out] at HST
      obtain ⟨sv, hsv⟩ : ∃ s, stepV (wayX x u (v - y) k) (wayY y v k) u v = s := ⟨_, rfl⟩
      rw [hsv] at HST hsum
      obtain ⟨sr, si, hsri⟩ : ∃ a b, sv = .complex .f64 a b := by rw [← hsv]; unfold stepV; split; exact ⟨_, _, rfl⟩; split <;> exact ⟨_, _, rfl⟩
      clear hsv hle
      have HVE : Hid (V = .complex .f64 (fz u) (fz v)) := HVU.out.symm
      rw [HVE.out] at HST ⊢
      subst hsri
      unfold cz at HST hsum HNX ⊢
      generalize fz (wayX x u (v - y) k) = ar at *
      generalize fz (wayY y v k) = ai at *
      obtain ⟨br, hbr⟩ : ∃ br, fz (wayX x u (v - y) (k + 1)) = br := ⟨_, rfl⟩
      obtain ⟨bi, hbi⟩ : ∃ bi, fz (wayY y v (k + 1)) = bi := ⟨_, rfl⟩
      rw [hbr, hbi] at hsum HNX
      have HBR := hidM hbr
      have HBI := hidM hbi
      clear hbr hbi
      generalize fz u = fu at *
      generalize fz v = fv at *
      have k240 : (k : Int) < 240 := by omega
      have hBs := HB.out.size
      have HBW : Hid (Below wr.heap.size wr (wr.alloc (.cells #[.complex .f64 br bi] 40))) := (Below.refl _ wr).alloc (Nat.le_refl _) _
      have HO2 : Hid (OwnV 40 (wr.alloc (.cells #[.complex .f64 br bi] 40)) w.heap.size (.slice wa k wc) (wayL x y u v k)) := by
        have h9 := OwnV.below HO.out HBW.out
        first | exact h9 | (rw [wayL_len] at h9; exact h9)
      clear HN HS0
      go_wp2_with (first | (go_at_call 23; refine HST.out.mono ?_; rintro _ wq ⟨rfl, hq⟩; rw [hq]; clear hq) | (at_builtin; go_loud (refine wpList_append_own_at _ rfl _ _ 24 rfl w.heap.size 40 I40 (.complex .f64 0 0) 1 16 Tryd.underlying24 I40a I40b I40c I40d rfl (by decide) (.slice wa k wc) k (wayL x y u v k) rfl ?ra0 ⟨wr.heap.size, 0, none⟩ 1 1 [.complex .f64 br bi] ?rad ?ra1 ?ra2 ?ra3 ?ra4 ?ra5 ?ra6 ?_)))
      try (case ra0 => have h9 := HO2.out; unfold OwnV at h9; rwa [wayL_len] at h9)
      try (case rad => rfl)
      try (case ra1 => rfl)
      try (case ra2 => exact World.news_of_block (heap_alloc_new _ _))
      try (case ra3 => first | rfl | (intro u hu; simp at hu; subst hu; rfl))
      try (case ra4 => unfold maxLen; omega)
      try (case ra5 => omega)
      try (case ra6 => first | omega | (simp; omega))
      intro v3 w3 hown hgrow hnil hat3
      have HO3 : Hid (OwnV 40 w3 w.heap.size v3 (wayL x y u v (k + 1))) := by
        unfold Hid OwnV
        rw [HNX.out, List.length_append, wayL_len]
        exact hown
      have HB3 : Hid (Below w.heap.size w w3) := (HB.out.alloc hBs _).grown hgrow (by simp; omega) (fun b hb => (OwnV.lt HO2.out hb).1)
      obtain ⟨na, nc, hnv, -⟩ := HO3.out.shape
      rw [wayL_len] at hnv
      subst hnv
      clear hown hgrow hnil hat3 HO2 HBW hsum HST
      go_wp2
      go_roundw
      case rel => exact ⟨k + 1, by omega, by rw [HBR.out, HBI.out], HO3, HB3⟩
      case measure => (show 240 - (k + 1) < 240 - k); omega
    · have hkn : k = n := by omega
      have hex : wayX x u (v - y) k = u ∧ wayY y v k = v := by
        rw [hkn, ← HN.out]
        unfold wayN wayX wayY
        split <;> (constructor <;> (split <;> (try split) <;> omega))
      have hneq : ((FloatKind.f64.format.order (fz u) (fz u) == some .eq) && (FloatKind.f64.format.order (fz v) (fz v) == some .eq)) = true := by
        rw [ord_is_eq (by omega) (by omega), ord_is_eq (by omega) (by omega)]
        simp
      rw [hex.1, hex.2]
      have HVE : Hid (V = .complex .f64 (fz u) (fz v)) := (show cz u v = V from HV.out).symm
      rw [HVE.out]
      rw [hkn] at HO ⊢
      unfold cz
      generalize fz u = fu at *
      generalize fz v = fv at *
      clear hex HS0
      go_wp2
      go_ret
      exact ⟨_, rfl, by first | exact HO.out | (rw [wayL_len] at HO; exact HO.out), HB.out⟩
end Go.Proofs.YthgmabbnmoembaaDoor
