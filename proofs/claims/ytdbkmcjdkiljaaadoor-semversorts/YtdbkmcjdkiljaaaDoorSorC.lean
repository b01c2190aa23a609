/-
  Walks of semver: Sort of any list that was handed in or made.
-/
import Derived.Test.YtdbkmcjdkiljaaaDoorSorB
import Derived.Test.YtdbkmcjdkiljaaaDoorShelZ
namespace Go.Proofs.YtdbkmcjdkiljaaaDoor
open Go.RowKit Go.Sort

/-- a slice of texts: empty, or in a row one behind the other -/
def SliV (w : World) (v : Value) (l : List ByteArray) : Prop := ∃ a cap, v = .slice a l.length cap ∧ l.length ≤ cap ∧ (l = [] ∨ ∃ b off, a = some ⟨b, off, none⟩ ∧ b < w.heap.size ∧ StrsO w b off l)
theorem SliV.kept {w w' : World} {v : Value} {l : List ByteArray} (h : SliV w v l) (hb : Below w.heap.size w w') : SliV w' v l := by
  obtain ⟨a, cap, hv, hc, h | ⟨b, off, ha, hlt, hs⟩⟩ := h
  · exact ⟨a, cap, hv, hc, Or.inl h⟩
  · exact ⟨a, cap, hv, hc, Or.inr ⟨b, off, ha, Nat.lt_of_lt_of_le hlt hb.size, fun j hj => (hb.cell (p := ⟨b, off + j, none⟩) hlt).trans (hs j hj)⟩⟩
def SliRet (l : List ByteArray) (e : Ending) (w : World) : Prop := ∃ v, e = .returned v ∧ SliV w v l
set_option maxHeartbeats 1600000 in
set_option maxRecDepth 100000 in
theorem sort_sli (v : Value) (l : List ByteArray) (w : World) (hs : ∀ x ∈ l, x.size ≤ 9223372036854775807) (hl : l.length ≤ 1000) (hv : SliV w v l) :
    Calls Tryd.prog 21 #[v] w fun e w' => SliRet (sortL l) e w' ∧ Below w.heap.size w w' := by
  obtain ⟨a, cap, rfl, hcap, h | ⟨b, off, rfl, hlt, hc⟩⟩ := hv
  · subst h
    have HSN := hidM (fun p c V => Tryd.slices_SortFunc_none (α := Txt) p c (.func (.func 43) #[] #[]) V)
    have e0 : sortL [] = [] := by have := sortL_len []; exact List.length_eq_zero_iff.1 (by rw [this]; rfl)
    have HR : Hid (∀ (a : Option Addr) (c : Nat) (V : World), SliRet (sortL []) (.returned (.slice a 0 c)) V) := fun a c V => ⟨_, rfl, a, c, by rw [e0]; rfl, by rw [e0]; exact Nat.zero_le _, Or.inl e0⟩
    clear e0
    show Calls Tryd.prog 21 #[.slice a 0 cap] w _
    cases a with
    | none =>
      have HCN := hidM (Tryd.slices_Clone_nil 0 cap w)
      go_enter Tryd.func21, Tryd.ntmps21
      go_wp2_with fail
      refine HCN.out.mono ?_
      rintro _ w1 ⟨rfl, h1⟩
      rw [h1]
      clear h1
      go_wp2_with fail
      refine (HSN.out _ _ _).mono ?_
      rintro _ w2 ⟨rfl, h2⟩
      rw [h2]
      clear h2
      go_wp2
      go_ret
      exact ⟨HR.out _ _ _, Below.refl _ _⟩
    | some a =>
      have HCZ := hidM (Tryd.slices_Clone_string_zero a cap w)
      go_enter Tryd.func21, Tryd.ntmps21
      go_wp2_with fail
      refine HCZ.out.mono ?_
      rintro _ w1 ⟨v, rfl, hown, hnn, hb1⟩
      have HB := hidM hb1
      rcases hown.2 with ⟨hnil, hn0⟩ | ⟨g, c2, cur, rfl, _⟩
      · exact absurd hnil hnn
      · clear hown hnn hb1
        go_wp2_with fail
        refine (HSN.out _ _ _).mono ?_
        rintro _ w2 ⟨rfl, h2⟩
        rw [h2]
        clear h2
        go_wp2
        go_ret
        exact ⟨HR.out _ _ _, HB.out⟩
  · refine (sort_any b off cap l w hs hl hc).mono ?_
    rintro e w' ⟨⟨g, c2, rfl, hg1, hg2, hc2, hst⟩, hb⟩
    refine ⟨⟨_, rfl, some ⟨g, 0, none⟩, c2, by rw [sortL_len], by rw [sortL_len]; exact hc2, Or.inr ⟨g, 0, rfl, hg2, fun j hj => by rw [Nat.zero_add]; exact hst j hj⟩⟩, hb⟩
end Go.Proofs.YtdbkmcjdkiljaaaDoor
