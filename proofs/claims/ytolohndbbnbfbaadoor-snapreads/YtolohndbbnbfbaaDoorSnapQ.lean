/-
  Two lists held against each other; answers that the document fixes.
-/
import Derived.Test.YtolohndbbnbfbaaDoorSnapP
namespace Go.Proofs.YtolohndbbnbfbaaDoor
open Go.RowKit

/-- the list of texts that a value is -/
def StrsV (w : World) (v : Value) (l : List ByteArray) : Prop := ∃ a c, v = .slice a l.length c ∧ (l ≠ [] → ∃ g, a = some ⟨g, 0, none⟩ ∧ g < w.heap.size ∧ StrsAt w g l)
theorem OwnS.strs {w : World} {B : Nat} {v : Value} {l : List ByteArray} (h : OwnS w B v l) : StrsV w v l := by
  obtain ⟨a, c, hv, hs⟩ := h.shape
  exact ⟨a, c, hv, fun hne => by obtain ⟨g, h1, _, h2, h3⟩ := hs hne; exact ⟨g, h1, h2, h3⟩⟩
theorem StrsV.below {w w' : World} {v : Value} {l : List ByteArray} (h : StrsV w v l) (hb : Below w.heap.size w w') : StrsV w' v l := by
  obtain ⟨a, c, hv, hs⟩ := h
  exact ⟨a, c, hv, fun hne => by obtain ⟨g, h1, h2, h3⟩ := hs hne; exact ⟨g, h1, Nat.lt_of_lt_of_le h2 hb.size, h3.below hb h2⟩⟩
/-- alike up to k -/
def SameTo (l m : List ByteArray) (k : Nat) : Prop := ∀ t (h : t < l.length) (h2 : t < m.length), t < k → l[t] = m[t]
open Classical in
noncomputable def sameB (l m : List ByteArray) : Bool := decide (l = m)
set_option maxHeartbeats 1600000 in
theorem same_any (v1 v2 : Value) (l m : List ByteArray) (w : World) (h1 : StrsV w v1 l) (h2 : StrsV w v2 m) (hl : l.length ≤ 1000000) :
    Calls Tryd.prog 24 #[v1, v2] w fun e w' => e = .returned (.bool (sameB l m)) ∧ Below w.heap.size w w' := by
  obtain ⟨a1, c1, rfl, hs1⟩ := h1
  obtain ⟨a2, c2, rfl, hs2⟩ := h2
  have HS1 := hidM hs1
  have HS2 := hidM hs2
  clear hs1 hs2
  by_cases hlen : l.length = m.length
  · have HE := hidM hlen
    have g0 : ((l.length : Int) == (m.length : Int)) = true := by simp; omega
    clear hlen
    go_enter Tryd.func24, Tryd.ntmps24
    go_wp2
    go_loopw [5, 13] (fun _ i wr => ∃ (k : Nat), k ≤ l.length ∧ i = .int .i64 k ∧ SameTo l m k ∧ Below w.heap.size w wr) (fun _ i _ => l.length - (intOf i).toNat)
    case atStart => exact ⟨0, Nat.zero_le _, rfl, fun t _ _ h => by omega, Below.refl _ _⟩
    case round =>
      obtain ⟨k, hk, rfl, hd, hb⟩ := hrel
      have HD := hidM hd
      have HB := hidM hb
      clear hd hb
      by_cases hlt : k < l.length
      · have kk : (k : Int) < (l.length : Int) := by omega
        have hlt2 : k < m.length := by have := HE.out; omega
        have kk2 : (k : Int) < (m.length : Int) := by omega
        have k0 : (0 : Int) ≤ (k : Int) := by omega
        obtain ⟨g, rfl, hg, hst⟩ := HS1.out (fun h => by rw [h] at hlt; simp at hlt)
        obtain ⟨g2, rfl, hg2, hst2⟩ := HS2.out (fun h => by rw [h] at hlt2; simp at hlt2)
        have d1 := (hst.below HB.out hg) k hlt
        have d2 := (hst2.below HB.out hg2) k hlt2
        clear hst hst2
        by_cases he : l[k] = m[k]
        · have HN : Hid (SameTo l m (k + 1)) := fun t h h9 ht => by
            by_cases h5 : t < k
            · exact HD.out t h h9 h5
            · have : t = k := by omega
              subst this; exact he
          rw [he] at d1
          generalize m[k] = X at *
          clear he
          go_wp2
          go_quiet (fail)
          go_wp2
          go_roundw
          case rel => exact ⟨k + 1, by omega, by go_num, HN.out, below_drewN HB.out _⟩
          case measure => (show l.length - ((k : Int) + 1).toNat < l.length - ((k : Int)).toNat); omega
        · have HT : Hid (sameB l m = false) := by
            unfold Hid sameB
            simp only [decide_eq_false_iff_not]
            intro h
            subst h
            exact he rfl
          have e1 : (l[k].toList == m[k].toList) = false := by
            rw [ByteArray.toList_eq, ByteArray.toList_eq]
            exact beq_false_of_ne fun h => he (ba_eq h)
          generalize m[k] = X at *
          generalize l[k] = Y at *
          clear he
          go_wp2
          go_quiet (fail)
          go_wp2
          go_ret
          exact ⟨by rw [HT.out]; rfl, below_drewN HB.out _⟩
      · have HT : Hid (sameB l m = true) := by
          unfold Hid sameB
          simp only [decide_eq_true_eq]
          refine List.ext_getElem HE.out fun t h9 h8 => HD.out t h9 h8 (by omega)
        have kk : ¬ (k : Int) < (l.length : Int) := by omega
        go_wp2
        go_ret
        exact ⟨by rw [HT.out]; rfl, HB.out⟩
  · have HT : Hid (sameB l m = false) := by
      unfold Hid sameB
      simp only [decide_eq_false_iff_not]
      intro h; exact hlen (by rw [h])
    have g0 : ((l.length : Int) == (m.length : Int)) = false := by simp; omega
    clear hlen
    go_enter Tryd.func24, Tryd.ntmps24
    go_wp2
    go_ret
    exact ⟨by rw [HT.out]; rfl, Below.refl _ _⟩
end Go.Proofs.YtolohndbbnbfbaaDoor
