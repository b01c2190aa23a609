/-
  Is a history in form? (older, Check, and the document's Check)
-/
import Derived.Test.YthgmabbnmoembaaDoorGraA
namespace Go.Proofs.YthgmabbnmoembaaDoor
open Go.RowKit

def okAt (i n : Int) (ps : List Int) (k : Nat) : Bool := decide (i < ps.getD k 0) && (decide (ps.getD k 0 < n) && !decide (ps.getD k 0 ∈ ps.take k))
def olderB (i n : Int) (ps : List Int) : Bool := (List.range ps.length).all fun k => okAt i n ps k
theorem gd_at {l : List Int} {k : Nat} (h : k < l.length) : l.getD k 0 = l[k] := by rw [List.getD_eq_getElem?_getD, List.getElem?_eq_getElem h]; rfl
theorem gdL_at {l : List (List Int)} {k : Nat} (h : k < l.length) : l.getD k [] = l[k] := by rw [List.getD_eq_getElem?_getD, List.getElem?_eq_getElem h]; rfl
theorem okAt_at {i n : Int} {ps : List Int} {k : Nat} (h : k < ps.length) : okAt i n ps k = (decide (i < ps[k]) && (decide (ps[k] < n) && !decide (ps[k] ∈ ps.take k))) := by unfold okAt; rw [gd_at h]
theorem older_no {i n : Int} {ps : List Int} {k : Nat} (h : k < ps.length) (hk : okAt i n ps k = false) : olderB i n ps = false := by
  unfold olderB; rw [List.all_eq_false]; exact ⟨k, List.mem_range.2 h, by rw [hk]; simp⟩
theorem older_yes {i n : Int} {ps : List Int} (h : ∀ k, k < ps.length → okAt i n ps k = true) : olderB i n ps = true := by
  unfold olderB; rw [List.all_eq_true]; exact fun k hk => h k (List.mem_range.1 hk)
theorem older_at {i n : Int} {ps : List Int} (h : olderB i n ps = true) (k : Nat) (hk : k < ps.length) : i < ps[k] ∧ ps[k] < n ∧ ps[k] ∉ ps.take k := by
  unfold olderB at h; rw [List.all_eq_true] at h
  have := h k (List.mem_range.2 hk)
  rw [okAt_at hk] at this
  simpa using this
def checkE (L : List (List Int)) : Nat := if 200 < L.length then 2 else if (List.range L.length).all (fun i => olderB i L.length (L.getD i [])) then 0 else 4
theorem check_big {L : List (List Int)} (h : 200 < L.length) : checkE L = 2 := by unfold checkE; rw [if_pos h]
theorem check_no {L : List (List Int)} (h : ¬ 200 < L.length) {i : Nat} (hi : i < L.length) (ho : olderB i L.length L[i] = false) : checkE L = 4 := by
  unfold checkE; rw [if_neg h, if_neg]
  intro h1
  rw [List.all_eq_true] at h1
  have := h1 i (List.mem_range.2 hi)
  rw [gdL_at hi, ho] at this
  cases this
theorem check_yes {L : List (List Int)} (h : ¬ 200 < L.length) (ho : ∀ i (hi : i < L.length), olderB i L.length L[i] = true) : checkE L = 0 := by
  unfold checkE; rw [if_neg h, if_pos]
  rw [List.all_eq_true]
  intro i hi
  have hi := List.mem_range.1 hi
  rw [gdL_at hi]
  exact ho i hi
theorem check_ok {L : List (List Int)} (h : checkE L = 0) : L.length ≤ 200 ∧ ∀ i (hi : i < L.length), olderB i L.length L[i] = true := by
  unfold checkE at h
  split at h
  · cases h
  · rename_i h2
    split at h
    · rename_i h3
      rw [List.all_eq_true] at h3
      refine ⟨by omega, fun i hi => ?_⟩
      have := h3 i (List.mem_range.2 hi)
      rwa [gdL_at hi] at this
    · cases h
set_option maxHeartbeats 1000000 in
theorem older_any (v : Value) (l : List Int) (i n : Int) (w : World) (hv : IntsV w v l) (hl : l.length ≤ 1000000) :
    Calls Tryd.prog 22 #[v, .int .i64 i, .int .i64 n] w fun e w' => e = .returned (.bool (olderB i n l)) ∧ w' = w := by
  obtain ⟨a, cp, rfl, hcp, han, hst⟩ := hv
  have HST := hidM hst
  clear hst
  have HC : Hid (∀ k, k ≤ l.length → ∀ c, Calls Tryd.prog 28 #[.slice a k cp, .int .i64 c] w fun e w' => e = .returned (.bool (decide (c ∈ l.take k))) ∧ w' = w) := by
    intro k hk c
    have hlt : (l.take k).length = k := by simp; omega
    refine contains_any _ (l.take k) c w ⟨a, cp, by rw [hlt], by omega, han, fun hne => ?_⟩ (by omega)
    obtain ⟨g, o, h1, h2, h3⟩ := HST.out (fun h => by rw [h] at hne; simp at hne)
    refine ⟨g, o, h1, h2, fun j hj => ?_⟩
    rw [h3 j (by rw [hlt] at hj; omega), List.getElem_take]
  clear han
  go_enter Tryd.func22, Tryd.ntmps22
  go_wp2
  go_loop [11] (fun iv => ∃ (k : Nat), k ≤ l.length ∧ iv = .int .i64 k ∧ Hid (∀ j, j < k → okAt i n l j = true)) (fun iv => l.length - (intOf iv).toNat)
  case atStart => exact ⟨0, Nat.zero_le _, rfl, fun j h => by omega⟩
  case round =>
    obtain ⟨k, hk, rfl, hd⟩ := hrel
    by_cases hlt : k < l.length
    · have kk : (k : Int) < (l.length : Int) := by omega
      obtain ⟨g, o, ha, hg, hat⟩ := HST.out (fun h => by rw [h] at hlt; simp at hlt)
      have ck := hat k hlt
      have HOK := hidM (okAt_at (i := i) (n := n) hlt)
      have HNO := hidM (fun h => older_no (i := i) (n := n) hlt h)
      have HCK := hidM (HC.out k hk)
      have kcp : (k : Int) ≤ (cp : Int) := by omega
      subst ha
      clear hat
      generalize l[k] = p at *
      by_cases h1 : p ≤ i
      · have HR := hidM (HNO.out (by rw [HOK.out]; simp; omega))
        go_wp2
        go_ret
        exact ⟨by rw [HR.out]; rfl, rfl⟩
      · by_cases h2 : n ≤ p
        · have HR := hidM (HNO.out (by rw [HOK.out]; simp; omega))
          go_wp2
          go_ret
          exact ⟨by rw [HR.out]; rfl, rfl⟩
        · by_cases hm : p ∈ l.take k
          · have HR := hidM (HNO.out (by rw [HOK.out]; simp [hm]))
            have hd1 : decide (p ∈ l.take k) = true := by simpa using hm
            have HCP := hidM (HCK.out p)
            rw [hd1] at HCP
            go_wp2_with (go_at_call 28; refine HCP.out.mono ?_; rintro _ _ ⟨rfl, rfl⟩)
            go_ret
            exact ⟨by rw [HR.out]; rfl, rfl⟩
          · have hd1 : decide (p ∈ l.take k) = false := by simpa using hm
            have HN : Hid (∀ j, j < k + 1 → okAt i n l j = true) := fun j hj => by
              by_cases h5 : j < k
              · exact hd.out j h5
              · have : j = k := by omega
                subst this; rw [HOK.out]; simp [hm]; omega
            have HCP := hidM (HCK.out p)
            rw [hd1] at HCP
            go_wp2_with (go_at_call 28; refine HCP.out.mono ?_; rintro _ _ ⟨rfl, rfl⟩)
            go_round
            case rel => exact ⟨k + 1, by omega, by go_num, HN⟩
            case measure => (show l.length - ((k : Int) + 1).toNat < l.length - ((k : Int)).toNat); omega
    · have HR : Hid (olderB i n l = true) := older_yes fun j hj => hd.out j (by omega)
      have kk : ¬ (k : Int) < (l.length : Int) := by omega
      go_wp2
      go_ret
      exact ⟨by rw [HR.out]; rfl, rfl⟩
set_option maxHeartbeats 1000000 in
theorem check_any (v : Value) (L : List (List Int)) (w : World) (hv : RowsV w v L) (hL : L.length ≤ 1000000) (hl : ∀ l ∈ L, l.length ≤ 1000000) :
    Calls Tryd.prog 13 #[v] w fun e w' => e = .returned (.int .i64 (checkE L : Nat)) ∧ w' = w := by
  obtain ⟨a, cp, rfl, hcp, hst⟩ := hv
  have HST := hidM hst
  clear hst
  obtain ⟨n, hn⟩ : ∃ n, L.length = n := ⟨_, rfl⟩
  have HN := hidM hn
  rw [hn] at hL hcp ⊢
  clear hn
  by_cases hb : 200 < n
  · have HR : Hid (checkE L = 2) := check_big (by rw [HN.out]; exact hb)
    have g0 : (200 : Int) < (n : Int) := by omega
    go_enter Tryd.func13, Tryd.ntmps13
    go_wp2
    go_ret
    exact ⟨by rw [HR.out]; rfl, rfl⟩
  · have g0 : ¬ (200 : Int) < (n : Int) := by omega
    go_enter Tryd.func13, Tryd.ntmps13
    go_wp2
    go_loop [10] (fun iv => ∃ (k : Nat), k ≤ n ∧ iv = .int .i64 k ∧ Hid (∀ j (h : j < L.length), j < k → olderB j L.length L[j] = true)) (fun iv => n - (intOf iv).toNat)
    case atStart => exact ⟨0, Nat.zero_le _, rfl, fun j _ h => by omega⟩
    case round =>
      obtain ⟨k, hk, rfl, hd⟩ := hrel
      by_cases hlt : k < n
      · have kk : (k : Int) < (n : Int) := by omega
        have hkl : k < L.length := by rw [HN.out]; exact hlt
        obtain ⟨g, o, ha, hg, hat⟩ := HST.out (fun h => by rw [h] at hkl; simp at hkl)
        obtain ⟨u, ck, hu⟩ := hat k hkl
        have HO := hidM (older_any u L[k] k n w hu (hl _ (List.getElem_mem hkl)))
        obtain ⟨ua, un, uc, hus⟩ : ∃ ua un uc, u = .slice ua un uc := by obtain ⟨x, y, z, _⟩ := hu; exact ⟨_, _, _, z⟩
        subst hus
        subst ha
        clear hat hu
        cases hob : olderB k n L[k] with
        | true =>
          have HN2 : Hid (∀ j (h : j < L.length), j < k + 1 → olderB j L.length L[j] = true) := fun j h hj => by
            by_cases h5 : j < k
            · exact hd.out j h h5
            · have : j = k := by omega
              subst this; rw [HN.out]; exact hob
          rw [hob] at HO
          clear hob
          go_wp2_with (go_at_call 22; refine HO.out.mono ?_; rintro _ _ ⟨rfl, rfl⟩)
          go_round
          case rel => exact ⟨k + 1, by omega, by go_num, HN2⟩
          case measure => (show n - ((k : Int) + 1).toNat < n - ((k : Int)).toNat); omega
        | false =>
          have HR : Hid (checkE L = 4) := check_no (by rw [HN.out]; exact hb) hkl (by rw [HN.out]; exact hob)
          rw [hob] at HO
          clear hob
          go_wp2_with (go_at_call 22; refine HO.out.mono ?_; rintro _ _ ⟨rfl, rfl⟩)
          go_ret
          exact ⟨by rw [HR.out]; rfl, rfl⟩
      · have HR : Hid (checkE L = 0) := check_yes (by rw [HN.out]; exact hb) fun j hj => hd.out j hj (by have := HN.out; omega)
        have kk : ¬ (k : Int) < (n : Int) := by omega
        go_wp2
        go_ret
        exact ⟨by rw [HR.out]; rfl, rfl⟩
set_option maxHeartbeats 2000000 in
theorem rcheck_any (v : Value) (L : List (List Int)) (w : World) (hv : RowsV w v L) (hL : L.length ≤ 1000000) (hl : ∀ l ∈ L, l.length ≤ 1000000) :
    Calls Tryd.prog 14 #[v] w fun e w' => e = .returned (.int .i64 (checkE L : Nat)) ∧ w' = w := by
  obtain ⟨a, cp, rfl, hcp, hst⟩ := hv
  have HST := hidM hst
  clear hst
  obtain ⟨n, hn⟩ : ∃ n, L.length = n := ⟨_, rfl⟩
  have HN := hidM hn
  rw [hn] at hL hcp ⊢
  clear hn
  by_cases hb : 200 < n
  · have HR : Hid (checkE L = 2) := check_big (by rw [HN.out]; exact hb)
    have g0 : (200 : Int) < (n : Int) := by omega
    go_enter Tryd.func14, Tryd.ntmps14
    go_wp2
    go_ret
    exact ⟨by rw [HR.out]; rfl, rfl⟩
  · have g0 : ¬ (200 : Int) < (n : Int) := by omega
    go_enter Tryd.func14, Tryd.ntmps14
    go_wp2
    go_loop [13] (fun iv => ∃ (k : Nat), k ≤ n ∧ iv = .int .i64 k ∧ Hid (∀ j (h : j < L.length), j < k → olderB j L.length L[j] = true)) (fun iv => n - (intOf iv).toNat)
    case atStart => exact ⟨0, Nat.zero_le _, rfl, fun j _ h => by omega⟩
    case round =>
      obtain ⟨k, hk, rfl, hd⟩ := hrel
      by_cases hlt : k < n
      · have kk : (k : Int) < (n : Int) := by omega
        have hkl : k < L.length := by rw [HN.out]; exact hlt
        obtain ⟨g, o, ha, hg, hat⟩ := HST.out (fun h => by rw [h] at hkl; simp at hkl)
        obtain ⟨u, ck, hu⟩ := hat k hkl
        have hm0 := hl _ (List.getElem_mem hkl)
        have HNO : Hid (olderB k n L[k] = false → checkE L = 4) := fun h => check_no (by rw [HN.out]; exact hb) hkl (by rw [HN.out]; exact h)
        have HYE : Hid (olderB k n L[k] = true → ∀ j (h : j < L.length), j < k + 1 → olderB j L.length L[j] = true) := fun hob j h hj => by
            by_cases h5 : j < k
            · exact hd.out j h h5
            · have : j = k := by omega
              subst this; rw [HN.out]; exact hob
        generalize L[k] = l at *
        obtain ⟨ua, uc, rfl, hucp, -, hus⟩ := hu
        have HUS := hidM hus
        obtain ⟨m, hm⟩ : ∃ m, l.length = m := ⟨_, rfl⟩
        have HM := hidM hm
        rw [hm] at ck hm0
        subst ha
        clear hat hus hd hm hucp
        go_wp2
        go_loop [20] (fun iv => ∃ (q : Nat), q ≤ m ∧ iv = .int .i64 q ∧ Hid (∀ j, j < q → okAt k n l j = true)) (fun iv => m - (intOf iv).toNat)
        case atStart => exact ⟨0, Nat.zero_le _, rfl, fun j h => by omega⟩
        case round =>
          obtain ⟨q, hq, rfl, hdq⟩ := hrel
          by_cases hlq : q < m
          · have kq : (q : Int) < (m : Int) := by omega
            have hql : q < l.length := by rw [HM.out]; exact hlq
            obtain ⟨g2, o2, ha2, hg2, hat2⟩ := HUS.out (fun h => by rw [h] at hql; simp at hql)
            subst ha2
            have cq := hat2 q hql
            have HOK := hidM (okAt_at (i := k) (n := n) hql)
            have HR4 := hidM (fun h => HNO.out (older_no (i := k) (n := n) hql h))
            have HAT := hidM hat2
            clear hat2
            obtain ⟨p, hp⟩ : ∃ p, l[q] = p := ⟨_, rfl⟩
            rw [hp] at cq HOK
            by_cases h1 : p ≤ (k : Int)
            · have HR := hidM (HR4.out (by rw [HOK.out]; simp; omega))
              clear hp
              go_wp2
              go_ret
              exact ⟨by rw [HR.out]; rfl, rfl⟩
            · by_cases h2 : (n : Int) ≤ p
              · have HR := hidM (HR4.out (by rw [HOK.out]; simp; omega))
                clear hp
                go_wp2
                go_ret
                exact ⟨by rw [HR.out]; rfl, rfl⟩
              · have HP := hidM hp
                clear hp
                go_wp2
                go_loop [7] (fun iv => ∃ (s : Nat), s ≤ q ∧ iv = .int .i64 s ∧ Hid (∀ j (h : j < l.length), j < s → l[j] ≠ p)) (fun iv => q - (intOf iv).toNat)
                case atStart => exact ⟨0, Nat.zero_le _, rfl, fun j _ h => by omega⟩
                case round =>
                  obtain ⟨s, hs, rfl, hds⟩ := hrel
                  by_cases hls : s < q
                  · have ks : (s : Int) < (q : Int) := by omega
                    have ksm : (s : Int) < (m : Int) := by omega
                    have hsl : s < l.length := by omega
                    have cs := HAT.out s hsl
                    by_cases he : l[s] = p
                    · have HR := hidM (HR4.out (by
                        rw [HOK.out]
                        have : p ∈ l.take q := by rw [← he]; exact List.mem_take_iff_getElem.2 ⟨s, by omega, rfl⟩
                        simp [this]))
                      rw [he] at cs
                      clear he
                      go_wp2
                      go_ret
                      exact ⟨by rw [HR.out]; rfl, rfl⟩
                    · have e1 : (l[s] == p) = false := by simp; omega
                      have HN2 : Hid (∀ j (h : j < l.length), j < s + 1 → l[j] ≠ p) := fun j h hj => by
                        by_cases h5 : j < s
                        · exact hds.out j h h5
                        · have : j = s := by omega
                          subst this; exact he
                      generalize l[s] = y at *
                      clear he
                      go_wp2
                      go_round
                      case rel => exact ⟨s + 1, by omega, by go_num, HN2⟩
                      case measure => (show q - ((s : Int) + 1).toNat < q - ((s : Int)).toNat); omega
                  · have ks : ¬ (s : Int) < (q : Int) := by omega
                    have HN2 : Hid (∀ j, j < q + 1 → okAt k n l j = true) := fun j hj => by
                      by_cases h5 : j < q
                      · exact hdq.out j h5
                      · have : j = q := by omega
                        subst this
                        rw [HOK.out]
                        have : p ∉ l.take j := fun hm => by
                          obtain ⟨t, ht, hte⟩ := List.mem_take_iff_getElem.1 hm
                          exact hds.out t (by omega) (by omega) hte
                        simp [this]; omega
                    go_wp2
                    go_round
                    case rel => exact ⟨q + 1, by omega, by go_num, HN2⟩
                    case measure => (show m - ((q : Int) + 1).toNat < m - ((q : Int)).toNat); omega
          · have HN2 := hidM (HYE.out (older_yes fun j hj => hdq.out j (by have := HM.out; omega)))
            have kq : ¬ (q : Int) < (m : Int) := by omega
            go_wp2
            go_round
            case rel => exact ⟨k + 1, by omega, by go_num, HN2⟩
            case measure => (show n - ((k : Int) + 1).toNat < n - ((k : Int)).toNat); omega
      · have HR : Hid (checkE L = 0) := check_yes (by rw [HN.out]; exact hb) fun j hj => hd.out j hj (by have := HN.out; omega)
        have kk : ¬ (k : Int) < (n : Int) := by omega
        go_wp2
        go_ret
        exact ⟨by rw [HR.out]; rfl, rfl⟩
end Go.Proofs.YthgmabbnmoembaaDoor
