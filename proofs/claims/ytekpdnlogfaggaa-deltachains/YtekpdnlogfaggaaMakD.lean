/-
  blocks: the places of the base's blocks.
-/
import Derived.Test.YtekpdnlogfaggaaMakC
import Derived.Maps.OwnSet
namespace Go.Proofs.Ytekpdnlogfaggaa
open Go.RowKit Go.Maps

theorem law9 : Keyed Try.prog 9 := string_keyed Try.underlying9
theorem zero3 (w : World) : (zeroValue 3).run Try.prog w = .ok (.int .i64 0) w := Try.zeroValue3 w
/-- Each key that is there is a block of the base, and its number is the block's place. -/
def GoodM (base : ByteArray) (D : DataW Unit) : Prop :=
  ∀ (k : List UInt8) (c : Int), Maps.has D (.string k) = true → D.atKey (.string k) (.lit (.int .i64 0)) = .lit (.int .i64 c) → ∃ p : Nat, c = (p : Int) ∧ p + 16 ≤ base.size ∧ (base.extract p (p + 16)).data.toList = k
theorem goodM_empty (base : ByteArray) : GoodM base (.map []) := by
  intro k c h; simp [Maps.has] at h
theorem goodM_put {base : ByteArray} {D : DataW Unit} (h : GoodM base D) (hD : IsMap D) (p : Nat) (hp : p + 16 ≤ base.size) :
    GoodM base (D.put (.string (base.extract p (p + 16)).data.toList) (.lit (.int .i64 (p : Int)))) := by
  intro k c hh ha
  by_cases hk : k = (base.extract p (p + 16)).data.toList
  · subst hk
    rw [atKey_put_same hD (show WideAt.IsKeyLit (.string _) from trivial)] at ha
    simp only [DataW.lit.injEq, Lit.int.injEq, true_and] at ha
    exact ⟨p, ha.symm, hp, rfl⟩
  · have hne : (Lit.string k) ≠ .string (base.extract p (p + 16)).data.toList := fun e => hk (by simpa using e)
    rw [has_put_other hne] at hh
    rw [atKey_put_other hne] at ha
    exact h k c hh ha
theorem wpList_look_f {w : World} {ops : Array Oper} {rest : List Oper} {o : Oper} {a : Act} {Q : Exit → Act → World → Prop} (hg : o.guard = none) (m x : Operand) (hop : o.op = Op.lookup 47 m x true) (b n : Nat) (D : DataW Unit)
    (hm : a.eval m = .map (some b)) (hown : w.ownsMap Try.prog 9 (plainElem Try.prog 3) b n D) (s : ByteArray) (hx : a.eval x = .string s) (hs : s.size ≤ maxLen) (f : Bool) (hf : Maps.has D (.string s.data.toList) = f)
    (hK : ∀ c : Int, D.atKey (.string s.data.toList) (.lit (.int .i64 0)) = .lit (.int .i64 c) → wpList Try.prog ops Q rest (a.put o.dst (.tuple #[.int .i64 c, .bool f])) w) :
    wpList Try.prog ops Q (o :: rest) a w := by
  subst hf
  exact wpList_lookup_own_ok_int _ hg _ _ 47 hop 9 3 .i64 law9 Try.underlying47 Try.underlying3 (zero3 _) b n D hm hown _ _ hx (WideMaps.keyOf_string_mk Try.underlying9 hs) (fun c h _ => hK c h)
def MapAt (w : World) (b : Nat) (base : ByteArray) : Prop := ∃ (n : Nat) (D : DataW Unit), w.ownsMap Try.prog 9 (plainElem Try.prog 3) b n D ∧ GoodM base D
def BlkPost (base : ByteArray) (w : World) (e : Ending) (w' : World) : Prop := e = .returned (.map (some w.heap.size)) ∧ MapAt w' w.heap.size base ∧ Below w.heap.size w w'

set_option maxHeartbeats 1600000 in
theorem blocks_any (base : ByteArray) (w : World) (hb : base.size ≤ 1000000) :
    Calls Try.prog 21 #[.string base] w fun e w' => BlkPost base w e w' := by
  have hmm := @run_makeMap Try.prog
  go_enter Try.func21, Try.ntmps21
  go_wp2
  go_loopw [4] (fun x wr => ∃ (k n : Nat) (D : DataW Unit), n ≤ k ∧ k ≤ base.size + 16 ∧ x = .int .i64 (k : Int) ∧ wr.ownsMap Try.prog 9 (plainElem Try.prog 3) w.heap.size n D ∧ GoodM base D ∧ Below w.heap.size w wr) (fun x _ => base.size + 16 - (intOf x).toNat)
  case atStart => exact ⟨0, 0, .map [], Nat.le_refl _, Nat.zero_le _, rfl, World.ownsMap_made _ _ _ _, goodM_empty base, (Below.refl _ _).alloc (Nat.le_refl _) _⟩
  case round =>
    obtain ⟨k, n, D, hnk, hk, rfl, hM, hG, hBl⟩ := hrel
    have HM := hidM hM
    have HG := hidM hG
    have HB := hidM hBl
    clear hM hG hBl
    obtain ⟨z, hz⟩ : ∃ z, k + 16 = z := ⟨_, rfl⟩
    have hz' : (k : Int) + 16 = (z : Int) := by omega
    by_cases h16 : z ≤ base.size
    · have h16' : (z : Int) ≤ base.size := by omega
      have hkz : k ≤ z := by omega
      have hxs : (base.extract k z).size ≤ maxLen := by simp only [ByteArray.size_extract]; unfold maxLen; omega
      have HZ := hidM hz
      have n1 : n < maxLen := by unfold maxLen; omega
      clear hz
      cases hf : Maps.has D (.string (base.extract k z).data.toList) with
      | true =>
        have HF := hidM hf
        clear hf
        go_wp2_with (first
          | (at_lookup; go_loud (refine wpList_look_f rfl _ _ rfl w.heap.size n D rfl HM.out _ rfl hxs true HF.out ?_; intro c hat; clear hat)))
        refine ⟨⟨z, n, D, by omega, by omega, rfl, HM.out, HG.out, HB.out⟩, ?_⟩
        simp [intOf]; omega
      | false =>
        have HF := hidM hf
        clear hf
        go_wp2_with (first
          | (at_lookup; go_loud (refine wpList_look_f rfl _ _ rfl w.heap.size n D rfl HM.out _ rfl hxs false HF.out ?_; intro c hat; clear hat))
          | (at_mapUpdate; go_loud (refine wpList_mapUpdate_own _ rfl _ _ _ 47 rfl 9 3 law9 Try.underlying47 _ w.heap.size n D rfl HM.out n1 _ _ _ rfl rfl (WideMaps.keyOf_string_mk Try.underlying9 hxs) _ [] (plainElem_int Try.underlying3 (WalkArith.wf_i64 (by omega))) ?_; intro w1 hown1 hgrow1)))
        have hG1 := goodM_put HG.out HM.out.isMap k (by have := HZ.out; omega)
        rw [HZ.out] at hG1
        refine ⟨⟨z, n + 1, _, by omega, by omega, rfl, hown1, hG1, HB.out.grown hgrow1 HB.out.size (fun j hj => by cases hj; exact Nat.le_refl _)⟩, ?_⟩
        simp [intOf]; omega
    · have h16' : ¬ (z : Int) ≤ base.size := by omega
      go_wp2
      go_ret
      exact ⟨rfl, ⟨n, D, HM.out, HG.out⟩, HB.out⟩
end Go.Proofs.Ytekpdnlogfaggaa
