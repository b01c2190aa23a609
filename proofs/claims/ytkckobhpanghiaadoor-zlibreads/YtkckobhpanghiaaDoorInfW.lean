/-
  Walks of inflate: how often a length repeats, which one.
-/
import Derived.Test.YtkckobhpanghiaaDoorInfU
namespace Go.Proofs.YtkckobhpanghiaaDoor
open Go.RowKit

/-- what readTimes answers -/
def TimesPost (X : ByteArray) (t s rb : Nat) (e : Ending) (w' : World) : Prop :=
  (num X.data.toList t (timesOf s).2 = none ∧ ∃ y : Int, e = .returned (.tuple #[.int .i64 y, .int .i64 6])) ∨
  (∃ x, num X.data.toList t (timesOf s).2 = some x ∧ x < 128 ∧ e = .returned (.tuple #[.int .i64 (((timesOf s).1 + x : Nat) : Int), .int .i64 0]) ∧ RBox w' rb X (t + (timesOf s).2))
set_option maxHeartbeats 1000000 in
set_option maxRecDepth 100000 in
theorem readTimes_any (db rb : Nat) (X : ByteArray) (t l s : Nat) (w : World) (hS : w.cell? ⟨db, 0, none⟩ = some (.pointer (some ⟨rb, 0, none⟩))) (hr : RBox w rb X t) (hX : X.size ≤ 100000000000) (hl : t + l = 8 * X.size) (hs2 : s ≤ 320) :
    Calls Tryd.prog 102 #[.pointer (some ⟨db, 0, none⟩), .int .i64 (s : Int)] w fun e w' => TimesPost X t s rb e w' ∧ Only rb w w' := by
  have HB := hidM (fun n hn => sbits_any db rb X t l n w hS hr hX hl hn)
  clear hr hl
  by_cases h16 : s = 16
  · subst h16
    have HP : Hid (timesOf 16 = (3, 2)) := rfl
    unfold TimesPost
    rw [HP.out]
    go_enter Tryd.func102, Tryd.ntmps102
    go_wp2_with fail
    refine (HB.out 2 (by decide)).mono ?_
    rintro _ w1 ⟨hp, ho⟩
    have HO := hidM ho
    clear ho
    rcases hp with ⟨x, h1, h2, rfl, h3⟩ | ⟨h1, rfl, h3⟩
    · have hx : x < 128 := Nat.lt_of_lt_of_le h2 (by decide)
      have H1 := hidM h1
      have H3 := hidM h3
      clear h1 h2 h3
      go_wp2
      go_ret2
      exact ⟨.inr ⟨x, H1.out, hx, by simp, H3.out⟩, HO.out⟩
    · have H1 := hidM h1
      clear h1 h3
      go_wp2
      go_ret2
      exact ⟨.inl ⟨H1.out, _, rfl⟩, HO.out⟩
  · by_cases h17 : s = 17
    · subst h17
      have HP : Hid (timesOf 17 = (3, 3)) := rfl
      unfold TimesPost
      rw [HP.out]
      go_enter Tryd.func102, Tryd.ntmps102
      go_wp2_with fail
      refine (HB.out 3 (by decide)).mono ?_
      rintro _ w1 ⟨hp, ho⟩
      have HO := hidM ho
      clear ho
      rcases hp with ⟨x, h1, h2, rfl, h3⟩ | ⟨h1, rfl, h3⟩
      · have hx : x < 128 := Nat.lt_of_lt_of_le h2 (by decide)
        have H1 := hidM h1
        have H3 := hidM h3
        clear h1 h2 h3
        go_wp2
        go_ret2
        exact ⟨.inr ⟨x, H1.out, hx, by simp, H3.out⟩, HO.out⟩
      · have H1 := hidM h1
        clear h1 h3
        go_wp2
        go_ret2
        exact ⟨.inl ⟨H1.out, _, rfl⟩, HO.out⟩
    · have e1 : ((s : Int) == 16) = false := by simp; omega
      have e2 : ((s : Int) == 17) = false := by simp; omega
      have HP : Hid (timesOf s = (11, 7)) := by unfold Hid timesOf; rw [if_neg h16, if_neg h17]
      unfold TimesPost
      rw [HP.out]
      clear h16 h17
      go_enter Tryd.func102, Tryd.ntmps102
      go_wp2_with fail
      refine (HB.out 7 (by decide)).mono ?_
      rintro _ w1 ⟨hp, ho⟩
      have HO := hidM ho
      clear ho
      rcases hp with ⟨x, h1, h2, rfl, h3⟩ | ⟨h1, rfl, h3⟩
      · have hx : x < 128 := h2
        have H1 := hidM h1
        have H3 := hidM h3
        clear h1 h2 h3
        go_wp2
        go_ret2
        exact ⟨.inr ⟨x, H1.out, hx, by simp, H3.out⟩, HO.out⟩
      · have H1 := hidM h1
        clear h1 h3
        go_wp2
        go_ret2
        exact ⟨.inl ⟨H1.out, _, rfl⟩, HO.out⟩

/-- lengths in a row of the call's own -/
def natsV (l : List Nat) : List Value := l.map fun (n : Nat) => .int .i64 (n : Int)
def OwnN (w : World) (base : Nat) (v : Value) (l : List Nat) : Prop := w.ownsRow base 3 1 v l.length (natsV l)
theorem natsV_app (l m : List Nat) : natsV (l ++ m) = natsV l ++ natsV m := by unfold natsV; rw [List.map_append]
theorem natsV_at (l : List Nat) (j : Nat) (h : j < l.length) : (natsV l)[j]? = some (.int .i64 (l[j] : Int)) := by unfold natsV; simp [h]
theorem OwnN.shape {w : World} {B : Nat} {v : Value} {l : List Nat} (h : OwnN w B v l) : ∃ a c, v = .slice a l.length c ∧ (0 < l.length → ∃ g, a = some ⟨g, 0, none⟩ ∧ B ≤ g ∧ g < w.heap.size ∧ ∀ j (hj : j < l.length), w.cell? ⟨g, j, none⟩ = some (.int .i64 (l[j] : Int))) := by
  have h' := h
  rcases h.2 with ⟨h0, h1⟩ | ⟨g, cap, cur, hv, hg, hc, hr⟩
  · exact ⟨none, 0, by rw [h0, h1], fun hp => by omega⟩
  · subst hv
    refine ⟨_, cap, rfl, fun _ => ⟨g, rfl, hg, (Array.getElem?_eq_some_iff.1 hc).1, fun j hj => ?_⟩⟩
    have := World.ownsRow.cells h' (g := g) rfl j (.int .i64 (l[j] : Int)) (natsV_at l j hj)
    rw [Addr.add_lit, Nat.zero_add] at this
    exact this
set_option maxHeartbeats 1000000 in
set_option maxRecDepth 100000 in
theorem repeated_any (s : Nat) (v : Value) (B : Nat) (l : List Nat) (w : World) (h : OwnN w B v l) (hn : s = 16 → l ≠ []) (hl : l.length ≤ 1000) :
    Calls Tryd.prog 103 #[.int .i64 (s : Int), v] w fun e w' => e = .returned (.int .i64 ((if s = 16 then l.getLast?.getD 0 else 0 : Nat) : Int)) ∧ w' = w := by
  obtain ⟨a, c, rfl, hsh⟩ := h.shape
  have HSH := hidM hsh
  clear hsh h
  by_cases h16 : s = 16
  · have hne := hn h16
    have h0 : 0 < l.length := List.length_pos_iff.2 hne
    obtain ⟨g, rfl, _, _, hcell⟩ := HSH.out h0
    obtain ⟨m, hm⟩ : ∃ m, m = l.length - 1 := ⟨_, rfl⟩
    have hml : m < l.length := by omega
    have c1 := hcell m hml
    have HLast : Hid (l.getLast?.getD 0 = l[m]) := by
      unfold Hid
      rw [List.getLast?_eq_getElem?, ← hm, List.getElem?_eq_getElem hml]; rfl
    have e1 : (l.length : Int) - 1 = (m : Int) := by omega
    have e2 : (m : Int) < (l.length : Int) := by omega
    rw [if_pos h16, HLast.out]
    generalize l[m] = z at *
    subst h16
    clear hcell hn hm hne HSH HLast
    go_enter Tryd.func103, Tryd.ntmps103
    go_wp2
    go_ret
    exact ⟨rfl, rfl⟩
  · have e1 : ((s : Int) == 16) = false := by simp; omega
    rw [if_neg h16]
    clear HSH hn
    go_enter Tryd.func103, Tryd.ntmps103
    go_wp2
    go_ret
    exact ⟨rfl, rfl⟩
end Go.Proofs.YtkckobhpanghiaaDoor
