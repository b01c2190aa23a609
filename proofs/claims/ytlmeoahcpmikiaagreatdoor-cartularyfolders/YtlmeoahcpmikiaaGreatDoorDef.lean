/-
  Taken over from another program: Def.
-/
import Derived.Test.YtlmeoahcpmikiaaGreatDoorDefM
import Derived.Test.YtlmeoahcpmikiaaGreatDoorJInfR
import Derived.Test.YtlmeoahcpmikiaaGreatDoorJFixC
import Derived.Test.YtlmeoahcpmikiaaGreatDoorJInfV
import Derived.Test.YtlmeoahcpmikiaaGreatDoorFnd
import Derived.Test.YtlmeoahcpmikiaaGreatDoorJStoB
namespace Go.Proofs.YtlmeoahcpmikiaaGreatDoor
open Go.RowKit
open Go.RowKit
open Go.RowKit Go.Maps
open Go.RowKit Go.Maps
open Go.RowKit
/-- the writer at b has worked: of all others no row of bytes alone has turned -/
structure WKept (b : Nat) (w w' : World) : Prop where
  below : Below b w w'
  keep : ∀ k, k < w.heap.size → k ≠ b → (∀ cur fr, w.heap[k]? ≠ some (.cells cur 5 fr)) → w'.heap[k]? = w.heap[k]?
theorem WKept.refl (b : Nat) (w : World) : WKept b w w := ⟨Below.refl _ _, fun _ _ _ _ => rfl⟩
theorem WKept.trans {b : Nat} {w w' w'' : World} (h : WKept b w w') (k : WKept b w' w'') : WKept b w w'' :=
  ⟨h.below.trans k.below, fun i h1 h2 h3 => by
    have a := h.keep i h1 h2 h3
    exact (k.keep i (Nat.lt_of_lt_of_le h1 h.below.size) h2 (fun cur fr => by rw [a]; exact h3 cur fr)).trans a⟩
theorem WKept.of_below {b : Nat} {w w' : World} (h : Below w.heap.size w w') (hb : b ≤ w.heap.size) : WKept b w w' := ⟨h.mono hb, fun k h1 _ _ => h.block k h1⟩
/-- all blocks that are no rows of bytes, but b -/
def keepG (w : World) (b : Nat) : List (Nat × Obj) := (List.range w.heap.size).filterMap fun k => match (w.heap[k]? : Option Obj) with
  | some (Obj.cells cur t fr) => if t = 5 ∨ k = b then none else some (k, Obj.cells cur t fr)
  | some o => if k = b then none else some (k, o)
  | none => none
theorem keepG_mem {w : World} {b : Nat} {p : Nat × Obj} (h : p ∈ keepG w b) : w.heap[p.1]? = some p.2 ∧ p.1 ≠ b ∧ ∀ cur fr, p.2 ≠ .cells cur 5 fr := by
  unfold keepG at h
  obtain ⟨k, _, hk⟩ := List.mem_filterMap.1 h
  cases ho : w.heap[k]? with
  | none => rw [ho] at hk; simp at hk
  | some o =>
    rw [ho] at hk
    cases o with
    | cells cur t fr =>
      simp only at hk
      split at hk
      · cases hk
      · rename_i hn
        simp only [Option.some.injEq] at hk
        subst hk
        exact ⟨ho, fun e => hn (.inr e), fun cur' fr' e => by simp only [Obj.cells.injEq] at e; exact hn (.inl e.2.1)⟩
    | _ =>
      simp only at hk
      split at hk
      · cases hk
      · rename_i hn
        simp only [Option.some.injEq] at hk
        subst hk
        exact ⟨ho, hn, fun _ _ e => by cases e⟩
theorem keepG_of {w : World} {b k : Nat} {o : Obj} (h : w.heap[k]? = some o) (hb : k ≠ b) (h5 : ∀ cur fr, o ≠ .cells cur 5 fr) : (k, o) ∈ keepG w b := by
  unfold keepG
  refine List.mem_filterMap.2 ⟨k, List.mem_range.2 (Array.getElem?_eq_some_iff.1 h).1, ?_⟩
  rw [h]
  cases o with
  | cells cur t fr =>
    simp only
    rw [if_neg (fun e => by rcases e with rfl | e; exact h5 _ _ rfl; exact hb e)]
  | _ =>
    simp only
    rw [if_neg hb]
theorem WAt.toG {w : World} {b N T : Nat} (h : WAt w b N T) : WAtG w b N T (keepG w b) := by
  obtain ⟨v, F, q, hh, hw, h1, h2, h3, h4⟩ := h
  refine ⟨v, F, q, hh, hw, h1, h2, h3, h4, fun p hp => ?_⟩
  obtain ⟨q1, q2, q3⟩ := keepG_mem hp
  refine ⟨fun e => ?_, q1, q2⟩
  rcases hw.own.2 with ⟨h0, _⟩ | ⟨g, cap, cur, hv, _, hc, _⟩
  · rw [h0] at e; simp [Value.ownBlock] at e
  · rw [hv] at e
    simp only [Value.ownBlock, Option.some.injEq] at e
    rw [e] at q1
    rw [q1] at hc
    simp only [Option.some.injEq] at hc
    exact q3 _ _ hc
theorem WAtG.toK {w w' : World} {b N T : Nat} (h : WAtG w' b N T (keepG w b)) (hb : Below b w w') : WAt w' b N T ∧ WKept b w w' := by
  obtain ⟨v, F, q, hh, hw, h1, h2, h3, h4, h5⟩ := h
  refine ⟨⟨v, F, q, hh, hw, h1, h2, h3, h4⟩, hb, fun k hk hkb hn => ?_⟩
  cases ho : w.heap[k]? with
  | none => have := Array.getElem?_eq_none_iff.1 ho; omega
  | some o =>
    have := (h5 (k, o) (keepG_of ho hkb (fun cur fr e => hn cur fr (by rw [ho, e])))).2.1
    exact this
theorem wbits_k (b N T x n : Nat) (w : World) (hb : WAt w b N T) (hT : T ≤ 1000000000) (hn : n ≤ 32) (hx : x < 4294967296) :
    Calls Tryz.prog 170 #[.pointer (some ⟨b, 0, none⟩), .int .u32 x, .int .i64 n] w fun e w' => e = .returned (.tuple #[]) ∧ WAt w' b (N + 2 ^ T * (x % 2 ^ n)) (T + n) ∧ WKept b w w' :=
  (wbits_g b N T x n _ w hb.toG hT hn hx).mono fun _ _ h => ⟨h.1, h.2.1.toK h.2.2⟩
theorem wcode_k (b N T x n : Nat) (w : World) (hb : WAt w b N T) (hT : T ≤ 1000000000) (hn : n ≤ 32) (hn1 : 1 ≤ n) (hx : x < 4294967296) :
    Calls Tryz.prog 174 #[.pointer (some ⟨b, 0, none⟩), .int .u32 x, .int .i64 n] w fun e w' => e = .returned (.tuple #[]) ∧ WAt w' b (N + 2 ^ T * turned x n) (T + n) ∧ WKept b w w' :=
  (wcode_g b N T x n _ w hb.toG hT hn hn1 hx).mono fun _ _ h => ⟨h.1, h.2.1.toK h.2.2⟩
theorem TabS.wkept {w w' : World} {b tb L B E : Nat} {ln : Nat → Nat} (h : TabS w tb ln L B E) (hb : b < B) (hE : E ≤ w.heap.size) (hk : WKept b w w') : TabS w' tb ln L B E := by
  obtain ⟨g, gs, gc, gg, M, hg, h2, h3, h4, h5, h6, q1, q2, q3, q4⟩ := h
  obtain ⟨hs, hs1, hs2⟩ := hg.sym
  obtain ⟨hc, hc1, hc2⟩ := hg.cod
  obtain ⟨hv, hv1, hv2⟩ := hg.giv
  have k1 := hk.keep tb (by omega) (by omega) (fun cur fr e => by have := hg.tab; unfold TBox at this; rw [this] at e; simp at e)
  have k2 := hk.keep gs (by omega) (by omega) (fun cur fr e => by have := hs1; unfold ABox at this; rw [this] at e; simp at e)
  have k3 := hk.keep gc (by omega) (by omega) (fun cur fr e => by have := hc1; unfold ABox at this; rw [this] at e; simp at e)
  have k4 := hk.keep gg (by omega) (by omega) (fun cur fr e => by have := hv1; unfold ABox at this; rw [this] at e; simp at e)
  exact ⟨g, gs, gc, gg, M, ⟨hg.tab.same k1, ⟨hs, hs1.same k2, hs2⟩, ⟨hc, hc1.same k3, hc2⟩, ⟨hv, hv1.same k4, hv2⟩⟩, h2, h3, h4, h5, h6, q1, q2, q3, q4⟩
theorem len_fits : ∀ σ : Fin 286, ∀ l : Fin 259, 257 ≤ σ.val → (lenOf σ.val).1 ≤ l.val → (σ.val = 285 ∨ l.val < (lenOf (σ.val + 1)).1) → l.val < (lenOf σ.val).1 + 2 ^ (lenOf σ.val).2 := by decide +kernel
theorem dist_fits (k d : Nat) (hk : k ≤ 29) (hd : d ≤ 32768) (h1 : (distOf k).1 ≤ d) (h2 : k = 29 ∨ d < (distOf (k + 1)).1) : d < (distOf k).1 + 2 ^ (distOf k).2 := by
  have key : ∀ k : Fin 30, k.val = 29 ∧ 32768 < (distOf k.val).1 + 2 ^ (distOf k.val).2 ∨ (distOf (k.val + 1)).1 = (distOf k.val).1 + 2 ^ (distOf k.val).2 := by decide +kernel
  have key2 : 32768 < (distOf 29).1 + 2 ^ (distOf 29).2 := by decide
  rcases h2 with rfl | h2
  · omega
  · rcases key ⟨k, by omega⟩ with ⟨h3, _⟩ | h3
    · simp only at h3
      subst h3
      omega
    · simp only at h3
      omega
/-- what putLength leaves -/
def PutLPost (b N T l : Nat) (w w' : World) : Prop :=
  ∃ σ x, 257 ≤ σ ∧ σ ≤ 285 ∧ l = (lenOf σ).1 + x ∧ x < 2 ^ (lenOf σ).2 ∧ WAt w' b (litN N T σ + 2 ^ (T + fixLit.ln σ) * x) (T + fixLit.ln σ + (lenOf σ).2) ∧ WKept b w w'
set_option maxHeartbeats 2000000 in
set_option maxRecDepth 100000 in
theorem putLength_any (b tb B E N T l : Nat) (w : World) (hb : WAt w b N T) (hT : T ≤ 100000000) (ht : TabS w tb fixLit.ln fixLit.L B E) (hl : 3 ≤ l) (hl2 : l ≤ 258) :
    Calls Tryz.prog 176 #[.pointer (some ⟨b, 0, none⟩), .pointer (some ⟨tb, 0, none⟩), .int .i64 (l : Int)] w fun e w' => e = .returned (.tuple #[]) ∧ PutLPost b N T l w w' := by
  have HB := hidM hb
  have HT := hidM ht
  clear hb ht
  have HL0 := hidM (lengthOf_any 285 w (by decide) (by decide))
  go_enter Tryz.func176, Tryz.ntmps176
  go_wp2_with fail
  refine HL0.out.mono ?_
  rintro _ w0 ⟨rfl, h0⟩
  rw [h0]
  clear h0 w0 HL0
  go_wp2
  go_loopw [6, 7, 8] (fun sv bv nv wr => ∃ σ : Nat, 257 ≤ σ ∧ σ ≤ 285 ∧ (σ = 285 ∨ l < (lenOf (σ + 1)).1) ∧ sv = .int .i64 (σ : Int) ∧ bv = .int .i64 ((lenOf σ).1 : Int) ∧ nv = .int .i64 ((lenOf σ).2 : Int) ∧ wr = w) (fun sv _ _ _ => (intOf sv).toNat)
  case atStart => exact ⟨285, by decide, by decide, .inl rfl, rfl, rfl, rfl, rfl⟩
  case round =>
    obtain ⟨σ, h1, h2, h3, rfl, rfl, rfl, hwr⟩ := hrel
    rw [hwr]
    clear hwr
    by_cases hgt : l < (lenOf σ).1
    · have g1 : (l : Int) < ((lenOf σ).1 : Int) := by omega
      have hσ : 257 < σ := by
        by_cases h : σ = 257
        · subst h
          have : (lenOf 257).1 = 3 := by decide
          omega
        · omega
      obtain ⟨τ, hτ⟩ : ∃ τ, σ = τ + 1 := ⟨σ - 1, by omega⟩
      subst hτ
      have e1 : ((τ + 1 : Nat) : Int) - 1 = (τ : Int) := by omega
      have HLT := hidM (lengthOf_any τ w (by omega) (by omega))
      have HGT := hidM hgt
      clear h3 hgt
      generalize hp1 : (lenOf (τ + 1)).1 = p1 at *
      have HP1 := hidM hp1
      clear hp1
      generalize (lenOf (τ + 1)).2 = p2 at *
      go_wp2_with fail
      refine HLT.out.mono ?_
      rintro _ w0 ⟨rfl, h0⟩
      rw [h0]
      clear h0 w0 HLT
      go_wp2
      go_roundw
      case rel => exact ⟨τ, by omega, by omega, .inr (by rw [HP1.out]; exact HGT.out), rfl, rfl, rfl, trivial⟩
      case measure => (show ((τ : Int)).toNat < (((τ + 1 : Nat) : Int)).toNat); omega
    · have g1 : ¬ (l : Int) < ((lenOf σ).1 : Int) := by omega
      have hfit : l < (lenOf σ).1 + 2 ^ (lenOf σ).2 := len_fits ⟨σ, by omega⟩ ⟨l, by omega⟩ h1 (by show (lenOf σ).1 ≤ l; omega) h3
      have hle := lenOf_le h1 h2
      obtain ⟨x, hx⟩ : ∃ x, x = l - (lenOf σ).1 := ⟨_, rfl⟩
      have e2 : (l : Int) - ((lenOf σ).1 : Int) = (x : Int) := by omega
      have hxl : x < 2 ^ (lenOf σ).2 := by omega
      have HLX : Hid (l = (lenOf σ).1 + x) := by unfold Hid; omega
      have x40 : x ≤ 40000 := by omega
      have e3 : IntKind.u32.wrap (x : Int) = (x : Int) := by rw [IntKind.wrap_u32]; omega
      have hσL : σ < fixLit.L := by show σ < 288; omega
      have HCI := hidM (code_in tb σ fixLit.ln fixLit.L w HT.out.tab hσL)
      have hc32 := code32 fixLit.ln fixLit.L σ fixLit_ok.short fixLit_ok.fits hσL
      have hln := fixLit_ok.short σ
      have hl1 : 1 ≤ fixLit.ln σ := fix_pos σ hσL
      have HPOST : Hid (∀ w', WAt w' b (litN N T σ + 2 ^ (T + fixLit.ln σ) * x) (T + fixLit.ln σ + (lenOf σ).2) → WKept b w w' → PutLPost b N T l w w') := fun w' q1 q2 => ⟨σ, x, h1, h2, HLX.out, hxl, q1, q2⟩
      have hmod : x % 2 ^ (lenOf σ).2 = x := Nat.mod_eq_of_lt hxl
      have HMOD := hidM hmod
      have HNN : Hid (litN N T σ = N + 2 ^ T * turned (codeC fixLit.ln fixLit.L σ) (fixLit.ln σ)) := rfl
      clear h3 hgt hfit hx hxl hmod
      generalize codeC fixLit.ln fixLit.L σ = cc at *
      generalize litN N T σ = N1 at *
      generalize fixLit.ln σ = n1 at *
      generalize (lenOf σ).2 = n2 at *
      generalize (lenOf σ).1 = p1 at *
      go_wp2_with fail
      refine HCI.out.mono ?_
      rintro _ w1 ⟨rfl, hb1⟩
      have hbl : b < w.heap.size := HB.out.lt
      have HW1 := hidM (HB.out.below hb1)
      have HK1 : Hid (WKept b w w1) := WKept.of_below hb1 (Nat.le_of_lt hbl)
      clear hb1 HCI
      go_wp2_with fail
      refine (wcode_k b N T cc n1 w1 HW1.out (by omega) (by omega) hl1 hc32.2).mono ?_
      rintro _ w2 ⟨rfl, hw2, hk2⟩
      rw [← HNN.out] at hw2
      have HW2 := hidM hw2
      have HK2 : Hid (WKept b w w2) := HK1.out.trans hk2
      clear hw2 hk2 HW1 HK1
      go_wp2_with fail
      refine (wbits_k b N1 (T + n1) x n2 w2 HW2.out (by omega) (by omega) (by omega)).mono ?_
      rintro _ w3 ⟨rfl, hw3, hk3⟩
      rw [HMOD.out] at hw3
      have HP := hidM (HPOST.out w3 hw3 (HK2.out.trans hk3))
      clear hw3 hk3
      go_wp2
      exact bodyPost_end (results_none rfl _ _ _) rfl ⟨rfl, HP.out⟩
/-- what putDistance leaves -/
def PutDPost (b N T l : Nat) (w w' : World) : Prop :=
  ∃ σ x, 0 ≤ σ ∧ σ ≤ 29 ∧ l = (distOf σ).1 + x ∧ x < 2 ^ (distOf σ).2 ∧ WAt w' b (disN N T σ + 2 ^ (T + fixDist.ln σ) * x) (T + fixDist.ln σ + (distOf σ).2) ∧ WKept b w w'
set_option maxHeartbeats 2000000 in
set_option maxRecDepth 100000 in
theorem putDistance_any (b tb B E N T l : Nat) (w : World) (hb : WAt w b N T) (hT : T ≤ 100000000) (ht : TabS w tb fixDist.ln fixDist.L B E) (hl : 1 ≤ l) (hl2 : l ≤ 32768) :
    Calls Tryz.prog 177 #[.pointer (some ⟨b, 0, none⟩), .pointer (some ⟨tb, 0, none⟩), .int .i64 (l : Int)] w fun e w' => e = .returned (.tuple #[]) ∧ PutDPost b N T l w w' := by
  have HB := hidM hb
  have HT := hidM ht
  clear hb ht
  have HL0 := hidM (distanceOf_any 29 w (by decide))
  go_enter Tryz.func177, Tryz.ntmps177
  go_wp2_with fail
  refine HL0.out.mono ?_
  rintro _ w0 ⟨rfl, h0⟩
  rw [h0]
  clear h0 w0 HL0
  go_wp2
  go_loopw [6, 7, 8] (fun sv bv nv wr => ∃ σ : Nat, 0 ≤ σ ∧ σ ≤ 29 ∧ (σ = 29 ∨ l < (distOf (σ + 1)).1) ∧ sv = .int .i64 (σ : Int) ∧ bv = .int .i64 ((distOf σ).1 : Int) ∧ nv = .int .i64 ((distOf σ).2 : Int) ∧ wr = w) (fun sv _ _ _ => (intOf sv).toNat)
  case atStart => exact ⟨29, by decide, by decide, .inl rfl, rfl, rfl, rfl, rfl⟩
  case round =>
    obtain ⟨σ, h1, h2, h3, rfl, rfl, rfl, hwr⟩ := hrel
    rw [hwr]
    clear hwr
    by_cases hgt : l < (distOf σ).1
    · have g1 : (l : Int) < ((distOf σ).1 : Int) := by omega
      have hσ : 0 < σ := by
        by_cases h : σ = 0
        · subst h
          have : (distOf 0).1 = 1 := by decide
          omega
        · omega
      obtain ⟨τ, hτ⟩ : ∃ τ, σ = τ + 1 := ⟨σ - 1, by omega⟩
      subst hτ
      have e1 : ((τ + 1 : Nat) : Int) - 1 = (τ : Int) := by omega
      have HLT := hidM (distanceOf_any τ w (by omega))
      have HGT := hidM hgt
      clear h3 hgt
      generalize hp1 : (distOf (τ + 1)).1 = p1 at *
      have HP1 := hidM hp1
      clear hp1
      generalize (distOf (τ + 1)).2 = p2 at *
      go_wp2_with fail
      refine HLT.out.mono ?_
      rintro _ w0 ⟨rfl, h0⟩
      rw [h0]
      clear h0 w0 HLT
      go_wp2
      go_roundw
      case rel => exact ⟨τ, by omega, by omega, .inr (by rw [HP1.out]; exact HGT.out), rfl, rfl, rfl, trivial⟩
      case measure => (show ((τ : Int)).toNat < (((τ + 1 : Nat) : Int)).toNat); omega
    · have g1 : ¬ (l : Int) < ((distOf σ).1 : Int) := by omega
      have hfit : l < (distOf σ).1 + 2 ^ (distOf σ).2 := dist_fits σ l h2 hl2 (by omega) h3
      have hle := distOf_le h2
      obtain ⟨x, hx⟩ : ∃ x, x = l - (distOf σ).1 := ⟨_, rfl⟩
      have e2 : (l : Int) - ((distOf σ).1 : Int) = (x : Int) := by omega
      have hxl : x < 2 ^ (distOf σ).2 := by omega
      have HLX : Hid (l = (distOf σ).1 + x) := by unfold Hid; omega
      have x40 : x ≤ 40000 := by omega
      have e3 : IntKind.u32.wrap (x : Int) = (x : Int) := by rw [IntKind.wrap_u32]; omega
      have hσL : σ < fixDist.L := by show σ < 32; omega
      have HCI := hidM (code_in tb σ fixDist.ln fixDist.L w HT.out.tab hσL)
      have hc32 := code32 fixDist.ln fixDist.L σ fixDist_ok.short fixDist_ok.fits hσL
      have hln := fixDist_ok.short σ
      have hl1 : 1 ≤ fixDist.ln σ := by show 1 ≤ if σ < 32 then 5 else 0; rw [if_pos (by omega)]; decide
      have HPOST : Hid (∀ w', WAt w' b (disN N T σ + 2 ^ (T + fixDist.ln σ) * x) (T + fixDist.ln σ + (distOf σ).2) → WKept b w w' → PutDPost b N T l w w') := fun w' q1 q2 => ⟨σ, x, h1, h2, HLX.out, hxl, q1, q2⟩
      have hmod : x % 2 ^ (distOf σ).2 = x := Nat.mod_eq_of_lt hxl
      have HMOD := hidM hmod
      have HNN : Hid (disN N T σ = N + 2 ^ T * turned (codeC fixDist.ln fixDist.L σ) (fixDist.ln σ)) := rfl
      clear h3 hgt hfit hx hxl hmod
      generalize codeC fixDist.ln fixDist.L σ = cc at *
      generalize disN N T σ = N1 at *
      generalize fixDist.ln σ = n1 at *
      generalize (distOf σ).2 = n2 at *
      generalize (distOf σ).1 = p1 at *
      go_wp2_with fail
      refine HCI.out.mono ?_
      rintro _ w1 ⟨rfl, hb1⟩
      have hbl : b < w.heap.size := HB.out.lt
      have HW1 := hidM (HB.out.below hb1)
      have HK1 : Hid (WKept b w w1) := WKept.of_below hb1 (Nat.le_of_lt hbl)
      clear hb1 HCI
      go_wp2_with fail
      refine (wcode_k b N T cc n1 w1 HW1.out (by omega) (by omega) hl1 hc32.2).mono ?_
      rintro _ w2 ⟨rfl, hw2, hk2⟩
      rw [← HNN.out] at hw2
      have HW2 := hidM hw2
      have HK2 : Hid (WKept b w w2) := HK1.out.trans hk2
      clear hw2 hk2 HW1 HK1
      go_wp2_with fail
      refine (wbits_k b N1 (T + n1) x n2 w2 HW2.out (by omega) (by omega) (by omega)).mono ?_
      rintro _ w3 ⟨rfl, hw3, hk3⟩
      rw [HMOD.out] at hw3
      have HP := hidM (HPOST.out w3 hw3 (HK2.out.trans hk3))
      clear hw3 hk3
      go_wp2
      exact bodyPost_end (results_none rfl _ _ _) rfl ⟨rfl, HP.out⟩
/-- a fixed block that is being written: the writer at b, the sets' pointers at sb, the finder -/
structure FixSt (w0 w : World) (s : ByteArray) (b sb t1 t2 E fb mb eb A N T : Nat) : Prop where
  wat : WAt w b N T
  two : Two w sb (.pointer (some ⟨t1, 0, none⟩)) (.pointer (some ⟨t2, 0, none⟩))
  lit : TabS w t1 fixLit.ln fixLit.L (b + 1) E
  dis : TabS w t2 fixDist.ln fixDist.L (b + 1) E
  fnd : Fnd w fb s mb eb A
  bE : b < E
  Es : E ≤ sb
  sf : sb < fb
  sm : sb < mb
  se : sb < eb
  below : Below b w0 w
section
variable {w0 w w' : World} {s : ByteArray} {b sb t1 t2 E fb mb eb A N T : Nat}
theorem FixSt.slt (h : FixSt w0 w s b sb t1 t2 E fb mb eb A N T) : sb < w.heap.size := (Array.getElem?_eq_some_iff.1 h.two).1
theorem FixSt.later (h : FixSt w0 w s b sb t1 t2 E fb mb eb A N T) (hb : Below w.heap.size w w') : FixSt w0 w' s b sb t1 t2 E fb mb eb A N T := by
  have hs := h.slt
  have hE := h.Es
  have hbE := h.bE
  exact ⟨h.wat.below hb, (hb.block sb hs).trans h.two, h.lit.same (fun k _ hk => hb.block k (by omega)), h.dis.same (fun k _ hk => hb.block k (by omega)), h.fnd.later hb, h.bE, h.Es, h.sf, h.sm, h.se, h.below.trans (hb.mono (by omega))⟩
theorem FixSt.wkept {N' T' : Nat} (h : FixSt w0 w s b sb t1 t2 E fb mb eb A N T) (hw : WAt w' b N' T') (hk : WKept b w w') : FixSt w0 w' s b sb t1 t2 E fb mb eb A N' T' := by
  have hs := h.slt
  have hE := h.Es
  have hbE := h.bE
  have q1 := h.sf
  have q2 := h.sm
  have q3 := h.se
  obtain ⟨n, hn, D, ⟨es, clock, h1, h2⟩, hG⟩ := h.fnd.map
  obtain ⟨Er, he, hg⟩ := h.fnd.row
  have hbx := h.fnd.box
  have hml : mb < w.heap.size := (Array.getElem?_eq_some_iff.1 h1).1
  refine ⟨hw, ?_, h.lit.wkept (by omega) (by omega) hk, h.dis.wkept (by omega) (by omega) hk, ⟨?_, ⟨n, hn, D, ⟨es, clock, ?_, h2⟩, hG⟩, ⟨Er, ?_, hg⟩, h.fnd.ne1, h.fnd.ne2, h.fnd.ne3⟩, h.bE, h.Es, h.sf, h.sm, h.se, h.below.trans hk.below⟩
  · exact (hk.keep sb hs (by omega) (fun cur fr e => by have := h.two; unfold Two at this; rw [this] at e; simp at e)).trans h.two
  · exact hbx.same (hk.keep fb hbx.lt (by omega) (fun cur fr e => by unfold FBox at hbx; rw [hbx] at e; simp at e))
  · exact (hk.keep mb hml (by omega) (fun cur fr e => by rw [h1] at e; cases e)).trans h1
  · exact he.same (hk.keep eb he.lt (by omega) (fun cur fr e => by unfold ABox at he; rw [he] at e; simp at e))
theorem FixSt.added (h : FixSt w0 w s b sb t1 t2 E fb mb eb A N T) {A' : Nat} (hf : Fnd w' fb s mb eb A') (hb : ButF mb eb w w') : FixSt w0 w' s b sb t1 t2 E fb mb eb A' N T := by
  have hs := h.slt
  have hE := h.Es
  have hbE := h.bE
  have q1 := h.sf
  have q2 := h.sm
  have q3 := h.se
  obtain ⟨n, hn, D, ⟨es, clock, h1, h2⟩, hG⟩ := h.fnd.map
  obtain ⟨Er, he, hg⟩ := h.fnd.row
  refine ⟨?_, (hb.block sb hs (by omega) (by omega)).trans h.two, h.lit.same (fun k _ hk => hb.block k (by omega) (by omega) (by omega)), h.dis.same (fun k _ hk => hb.block k (by omega) (by omega) (by omega)), hf, h.bE, h.Es, h.sf, h.sm, h.se, ?_⟩
  · obtain ⟨v, F, q, hh, hw, k1, k2, k3, k4⟩ := h.wat
    refine ⟨v, F, q, hh, ⟨(hb.block b (by omega) (by omega) (by omega)).trans hw.box, ?_⟩, k1, k2, k3, k4⟩
    refine hw.own.same fun g hg2 => ?_
    have hgl := (hw.own.ge hg2).2
    rcases hw.own.2 with ⟨h0, _⟩ | ⟨g', cap, cur, hv, _, hc, _⟩
    · rw [h0] at hg2; simp [Value.ownBlock] at hg2
    · rw [hv] at hg2
      simp only [Value.ownBlock, Option.some.injEq] at hg2
      subst hg2
      refine hb.block g' hgl (fun e => ?_) (fun e => ?_)
      · rw [e, h1] at hc; cases hc
      · unfold ABox at he; rw [e, he] at hc; simp at hc
  · refine ⟨hb.os.trans h.below.os, hb.tape.trans h.below.tape, hb.output.trans h.below.output, Nat.le_trans h.below.size hb.size, fun k hk => ?_⟩
    exact (hb.block k (by omega) (by omega) (by omega)).trans (h.below.block k hk)
end
/-- a text that tells s, read to its end -/
def Tells (Z s : List UInt8) : Prop := ∃ t, (t + 7) / 8 = Z.length ∧ ∀ most, s.length ≤ most → Run Z most (.blk false) 0 [] (.good t s)
theorem fixLit_le (c : Nat) (h : c < 288) : 1 ≤ fixLit.ln c ∧ fixLit.ln c ≤ 9 := by
  unfold fixLit
  simp only
  repeat' split
  all_goals omega
/-- what the region of a literal leaves -/
def LitS (w : World) (sb t1 : Nat) (w' : World) : Prop := w'.cell? ⟨sb, 0, none⟩ = some (.pointer (some ⟨t1, 0, none⟩)) ∧ Hid (Below w.heap.size w w')
theorem LitS.c {w w' : World} {sb t1 : Nat} (h : LitS w sb t1 w') : w'.cell? ⟨sb, 0, none⟩ = some (.pointer (some ⟨t1, 0, none⟩)) := h.1
theorem LitS.h {w w' : World} {sb t1 : Nat} (h : LitS w sb t1 w') : Hid (Below w.heap.size w w') := h.2
set_option maxHeartbeats 8000000 in
set_option maxRecDepth 100000 in
theorem fixedBlock_any (s : ByteArray) (w : World) (hs : s.size ≤ 65535) :
    Calls Tryz.prog 122 #[.string s] w fun e w' => (∃ Z : ByteArray, e = .returned (.string Z) ∧ Tells Z.data.toList s.data.toList) ∧ Below w.heap.size w w' := by
  have HLEN : Hid (s.data.toList.length = s.size) := Array.length_toList
  have HW0 : Hid (WAt (w.alloc (.cells #[.slice none 0 0, .int .u64 0, .int .i64 0] 230)) w.heap.size 0 0) := WAt.new w
  have HB0 : Hid (Below w.heap.size w (w.alloc (.cells #[.slice none 0 0, .int .u64 0, .int .i64 0] 230))) := (Below.refl _ _).alloc (Nat.le_refl _) _
  go_enter Tryz.func122, Tryz.ntmps122
  go_wp2_with fail
  refine (wbits_k w.heap.size 0 0 3 3 _ HW0.out (by decide) (by decide) (by decide)).mono ?_
  rintro _ w1 ⟨rfl, hw1, hk1⟩
  have HW1 : Hid (WAt w1 w.heap.size 3 3) := hw1
  have HB1 : Hid (Below w.heap.size w w1) := HB0.out.trans hk1.below
  clear hw1 hk1 HW0 HB0
  go_wp2_with fail
  refine (fixedCodes_any w1).mono ?_
  rintro _ w2 ⟨⟨t1, t2, E1, E2, rfl, hT1, hE1, hT2, hE2⟩, hb2⟩
  have hbl : w.heap.size < w1.heap.size := HW1.out.lt
  have HW2 := hidM (HW1.out.below hb2)
  have HB2 : Hid (Below w.heap.size w w2) := HB1.out.trans (hb2.mono (by omega))
  have HT1 := hidM hT1
  have HT2 := hidM hT2
  have h12 := hb2.size
  clear hT1 hT2 hb2 HW1 HB1
  have HBA : Hid (Below w2.heap.size w2 (w2.alloc (.cells #[.pointer (some ⟨t1, 0, none⟩), .pointer (some ⟨t2, 0, none⟩)] 234))) := (Below.refl _ _).alloc (Nat.le_refl _) _
  have HTW : Hid (Two (w2.alloc (.cells #[.pointer (some ⟨t1, 0, none⟩), .pointer (some ⟨t2, 0, none⟩)] 234)) w2.heap.size (.pointer (some ⟨t1, 0, none⟩)) (.pointer (some ⟨t2, 0, none⟩))) := heap_alloc_new w2 _
  have HSZ : Hid (w2.heap.size < (w2.alloc (.cells #[.pointer (some ⟨t1, 0, none⟩), .pointer (some ⟨t2, 0, none⟩)] 234)).heap.size) := by unfold Hid; simp
  go_wp2_with fail
  generalize w2.alloc (.cells #[.pointer (some ⟨t1, 0, none⟩), .pointer (some ⟨t2, 0, none⟩)] 234) = w3 at *
  refine (newFinder_any s w3 (by omega)).mono ?_
  rintro _ w4 ⟨⟨fb, mb, eb, rfl, hfn, hf1, hf2, hf3⟩, hb4⟩
  have HST : Hid (FixSt w w4 s w.heap.size w2.heap.size t1 t2 w2.heap.size fb mb eb 0 3 3) := by
    have hsz := HSZ.out
    have up : ∀ {tb L E : Nat} {ln : Nat → Nat}, TabS w2 tb ln L w1.heap.size E → E ≤ w2.heap.size → TabS w4 tb ln L (w.heap.size + 1) w2.heap.size := fun h hE => by
      have h2 := (h.same (w' := w4) (fun k _ hk => (hb4.block k (by omega)).trans (HBA.out.block k (by omega)))).lower (B' := w.heap.size + 1) (by omega)
      obtain ⟨g, gs, gc, gg, M, hg, h2, h3, h4, h5, h6, q1, q2, q3, q4⟩ := h2
      exact ⟨g, gs, gc, gg, M, hg, h2, h3, h4, h5, h6, ⟨q1.1, by omega⟩, ⟨q2.1, by omega⟩, ⟨q3.1, by omega⟩, ⟨q4.1, by omega⟩⟩
    exact ⟨(HW2.out.below HBA.out).below hb4, (hb4.block _ (by omega)).trans HTW.out, up HT1.out hE1, up HT2.out hE2, hfn, by omega, Nat.le_refl _, by omega, by omega, by omega, HB2.out.trans ((HBA.out.mono (by omega)).trans (hb4.mono (by omega)))⟩
  clear hfn hb4 HTW HBA HT1 HT2 HW2 HB2 HSZ hf1 hf2 hf3 hE1 hE2
  generalize w2.heap.size = sb at *
  go_wp2
  go_loopw [6] (fun iv wr => ∃ A N T : Nat, iv = .int .i64 (A : Int) ∧ A ≤ s.size ∧ T ≤ 3 + 31 * A ∧ WInv s.data.toList A N T ∧ FixSt w wr s w.heap.size sb t1 t2 sb fb mb eb A N T) (fun i _ => s.size - (intOf i).toNat)
  case atStart => exact ⟨0, 3, 3, rfl, Nat.zero_le _, by decide, winv_start _, HST.out⟩
  case round =>
    obtain ⟨A, N, T, rfl, hA, hTb, hwi, hst⟩ := hrel
    have HWI := hidM hwi
    have HS := hidM hst
    clear hwi hst HST
    by_cases hlt : A < s.size
    · have k1 : (A : Int) < (s.size : Int) := by omega
      go_wp2_with fail
      refine (longest_any fb mb eb A s wr HS.out.fnd (by omega) hA).mono ?_
      rintro _ w5 ⟨⟨l, d, hlg, rfl⟩, hb5⟩
      have HS5 := hidM (HS.out.later hb5)
      clear hb5 HS
      by_cases hl3 : l < 3
      · have k2 : (l : Int) < 3 := by omega
        clear hlg
        as_aux_lemma =>
        have kT := HS5.out.two.c0
        have hb5l := HS5.out.slt
        obtain ⟨c, hc⟩ : ∃ c, c = (s[A]).toNat := ⟨_, rfl⟩
        have hc256 : c < 256 := by rw [hc]; exact UInt8.toNat_lt _
        have hAl : A < s.data.toList.length := by rw [HLEN.out]; exact hlt
        have hgc : (s.data.toList[A]).toNat = c := by rw [hc]; rfl
        have hcl := fixLit_le c (by omega)
        have h32 := code32 fixLit.ln fixLit.L c fixLit_ok.short fixLit_ok.fits (by show c < 288; omega)
        have HW8 : Hid (WInv s.data.toList (A + 1) (litN N T c) (T + fixLit.ln c)) := by
          have h := winv_lit HWI.out hAl
          rw [hgc] at h
          exact h
        have H66 := hidM (fun V (hV : Hid (DrewOf w5 V)) => (by
          obtain ⟨k, rfl⟩ := hV
          have hst := HS5.out.later (below_drewN (Below.refl _ _) k)
          refine (code_in t1 c fixLit.ln fixLit.L (w5.drewN k) hst.lit.tab (by show c < 288; omega)).mono ?_
          rintro e w' ⟨h1, h2⟩
          have h3 : Below w5.heap.size w5 w' := (below_drewN (Below.refl _ _) k).trans h2
          exact ⟨h1, (HS5.out.later h3).two.c0, h3⟩ : Calls Tryz.prog 175 #[.pointer (some ⟨t1, 0, none⟩), .int .i64 (c : Int)] V fun e w' => e = .returned (.tuple #[.int .u32 (codeC fixLit.ln fixLit.L c : Int), .int .i64 (fixLit.ln c : Int)]) ∧ LitS w5 sb t1 w'))
        have H65 := hidM (fun w6 (h6 : Hid (Below w5.heap.size w5 w6)) V (hV : Hid (DrewOf w6 V)) => (by
          obtain ⟨k, rfl⟩ := hV
          have hst := (HS5.out.later h6.out).later (below_drewN (Below.refl _ _) k)
          refine (wcode_k w.heap.size N T (codeC fixLit.ln fixLit.L c) (fixLit.ln c) (w6.drewN k) hst.wat (by omega) (by omega) hcl.1 h32.2).mono ?_
          rintro e w' ⟨h1, h2, h3⟩
          have hst2 := hst.wkept h2 h3
          exact ⟨h1, hst2.two.c0, hst2⟩ : Calls Tryz.prog 174 #[.pointer (some ⟨w.heap.size, 0, none⟩), .int .u32 (codeC fixLit.ln fixLit.L c : Int), .int .i64 (fixLit.ln c : Int)] V fun e w' => e = .returned (.tuple #[]) ∧ w'.cell? ⟨sb, 0, none⟩ = some (.pointer (some ⟨t1, 0, none⟩)) ∧ Hid (FixSt w w' s w.heap.size sb t1 t2 sb fb mb eb A (litN N T c) (T + fixLit.ln c))))
        have HD := DrewOf.refl w5
        have hTB : T + fixLit.ln c ≤ 3 + 31 * (A + 1) := by omega
        have HC := hidM hc
        have i1 : A < s.size := hlt
        have hcv : ((s[A]).toNat : Int) = (c : Int) := by rw [hc]
        have ewc : IntKind.i64.wrap (c : Int) = (c : Int) := i64_small _ (by omega) (by omega)
        clear hc hgc hcl h32
        generalize codeC fixLit.ln fixLit.L c = cc at *
        generalize litN N T c = N2 at *
        generalize T + fixLit.ln c = T2 at *
        generalize fixLit.ln c = n1 at *
        go_wp2_with fail
        go_region_held3 (fun w' => w'.cell? ⟨sb, 0, none⟩ = some (.pointer (some ⟨t1, 0, none⟩)))
          (first | exact hS65 | exact LitS.c hS66 | go_keep)
          (first
            | (go_at_call 175; with_reducible refine (H66.out _ (by repeat (first | exact HD | apply DrewOf.drew | apply DrewOf.drewN))).mono ?_; rintro e w6 ⟨rfl, hS66⟩; have HD6 := DrewOf.refl w6)
            | (go_at_call 174; with_reducible refine (H65.out _ (LitS.h hS66) _ (by repeat (first | exact HD6 | apply DrewOf.drew | apply DrewOf.drewN))).mono ?_; rintro e w7 ⟨rfl, hS65, HS8⟩))
        all_goals
          clear hS65 hS66 H65 H66 HD HD6 HS5 kT
          rename_i hheld
          clear hheld
          go_wp2
          go_loopw [6, 44] (fun iv jv wr => ∃ j P : Nat, j ≤ 1 ∧ P = A + j ∧ iv = .int .i64 (P : Int) ∧ jv = .int .i64 (j : Int) ∧ FixSt w wr s w.heap.size sb t1 t2 sb fb mb eb P N2 T2) (fun _ jv _ => 1 - (intOf jv).toNat)
          case atStart => exact ⟨0, A, Nat.zero_le _, rfl, rfl, rfl, HS8.out⟩
          case round =>
            obtain ⟨j, P, hj, hP, rfl, rfl, hst⟩ := hrel
            have HSJ := hidM hst
            have HP := hidM hP
            clear hst HS8 hP
            by_cases hjl : j < 1
            · have kj : (j : Int) < 1 := by omega
              have hPs : P < s.size := by have := HP.out; omega
              go_wp2_with fail
              refine (add_any fb mb eb P s wr HSJ.out.fnd (by omega) hPs).mono ?_
              rintro _ w9 ⟨rfl, hf9, hb9⟩
              have HS9 : Hid (FixSt w w9 s w.heap.size sb t1 t2 sb fb mb eb (P + 1) N2 T2) := HSJ.out.added hf9 hb9
              clear hf9 hb9 HSJ
              go_wp2
              go_roundw
              case rel => exact ⟨j + 1, P + 1, by omega, by have := HP.out; omega, by go_num, by go_num, HS9.out⟩
              case measure => (show 1 - ((j : Int) + 1).toNat < 1 - ((j : Int)).toNat); omega
            · have kj : ¬ (j : Int) < 1 := by omega
              have HPE : Hid (P = A + 1) := by have := HP.out; unfold Hid; omega
              go_wp2
              refine ⟨⟨P, N2, T2, rfl, by have := HPE.out; omega, by have := HPE.out; omega, by rw [HPE.out]; exact HW8.out, HSJ.out⟩, ?_⟩
              have := HPE.out
              (show s.size - ((P : Int)).toNat < s.size - ((A : Int)).toNat); omega
      · have k2 : ¬ (l : Int) < 3 := by omega
        as_aux_lemma =>
        rcases hlg with ⟨h0, _⟩ | ⟨hd1, hd2, hd3, hal⟩
        · omega
        obtain ⟨hl258, hAl, heq⟩ := hal
        have kT := HS5.out.two.c0
        have kD := HS5.out.two.c1
        have HPL := hidM (putLength_any w.heap.size t1 (w.heap.size + 1) sb N T l w5 HS5.out.wat (by omega) HS5.out.lit (by omega) hl258)
        go_wp2_with fail
        refine HPL.out.mono ?_
        rintro _ w6 ⟨rfl, σ, x, hσ1, hσ2, hlx, hx, hw6, hk6⟩
        have HS6 := hidM (HS5.out.wkept hw6 hk6)
        have HLX := hidM hlx
        have HXX := hidM hx
        clear hlx hx
        have hle := lenOf_le hσ1 hσ2
        have hfl := fixLit_le σ (by omega)
        have kD6 := HS6.out.two.c1
        clear hw6 hk6 HPL HS5 kT kD
        have HPD := hidM (putDistance_any w.heap.size t2 (w.heap.size + 1) sb _ _ d w6 HS6.out.wat (by omega) HS6.out.dis hd1 hd2)
        go_wp2_with fail
        refine HPD.out.mono ?_
        rintro _ w7 ⟨rfl, k, y, _, hk29, hdy, hy, hw7, hk7⟩
        have HS8 := hidM (HS6.out.wkept hw7 hk7)
        have HDY := hidM hdy
        have HYY := hidM hy
        clear hdy hy
        have hde := distOf_le hk29
        have hwr := winv_rep HWI.out hσ1 hσ2 HXX.out hk29 HYY.out (by have := HDY.out; omega) (by have := HDY.out; omega) (by rw [HLEN.out, ← HLX.out]; exact hAl) (fun j hj => by rw [← HDY.out]; exact heq j (by have := HLX.out; omega))
        rw [← HLX.out] at hwr
        have HW8 := hidM hwr
        clear hwr
        have hfd : fixDist.ln k = 5 := by show (if k < 32 then 5 else 0) = 5; rw [if_pos (by omega)]
        have hTB : T + fixLit.ln σ + (lenOf σ).2 + fixDist.ln k + (distOf k).2 ≤ 3 + 31 * (A + l) := by omega
        clear hw7 hk7 HPD HS6 kD6 heq
        generalize disN (litN N T σ + 2 ^ (T + fixLit.ln σ) * x) (T + fixLit.ln σ + (lenOf σ).2) k + 2 ^ (T + fixLit.ln σ + (lenOf σ).2 + fixDist.ln k) * y = N2 at *
        generalize T + fixLit.ln σ + (lenOf σ).2 + fixDist.ln k + (distOf k).2 = T2 at *
        go_wp2
        go_loopw [6, 44] (fun iv jv wr => ∃ j P : Nat, j ≤ l ∧ P = A + j ∧ iv = .int .i64 (P : Int) ∧ jv = .int .i64 (j : Int) ∧ FixSt w wr s w.heap.size sb t1 t2 sb fb mb eb P N2 T2) (fun _ jv _ => l - (intOf jv).toNat)
        case atStart => exact ⟨0, A, Nat.zero_le _, rfl, rfl, rfl, HS8.out⟩
        case round =>
          obtain ⟨j, P, hj, hP, rfl, rfl, hst⟩ := hrel
          have HSJ := hidM hst
          have HP := hidM hP
          clear hst HS8 hP
          by_cases hjl : j < l
          · have kj : (j : Int) < (l : Int) := by omega
            have hPs : P < s.size := by have := HP.out; omega
            go_wp2_with fail
            refine (add_any fb mb eb P s wr HSJ.out.fnd (by omega) hPs).mono ?_
            rintro _ w9 ⟨rfl, hf9, hb9⟩
            have HS9 : Hid (FixSt w w9 s w.heap.size sb t1 t2 sb fb mb eb (P + 1) N2 T2) := HSJ.out.added hf9 hb9
            clear hf9 hb9 HSJ
            go_wp2
            go_roundw
            case rel => exact ⟨j + 1, P + 1, by omega, by have := HP.out; omega, by go_num, by go_num, HS9.out⟩
            case measure => (show l - ((j : Int) + 1).toNat < l - ((j : Int)).toNat); omega
          · have kj : ¬ (j : Int) < (l : Int) := by omega
            have HPE : Hid (P = A + l) := by have := HP.out; unfold Hid; omega
            go_wp2
            refine ⟨⟨P, N2, T2, rfl, by have := HPE.out; omega, by have := HPE.out; omega, by rw [HPE.out]; exact HW8.out, HSJ.out⟩, ?_⟩
            have := HPE.out
            (show s.size - ((P : Int)).toNat < s.size - ((A : Int)).toNat); omega
    · obtain rfl : A = s.size := by omega
      have HS6 := HS
      have kT := HS.out.two.c0
      have hcl := fixLit_le 256 (by decide)
      have h32 := code32 fixLit.ln fixLit.L 256 fixLit_ok.short fixLit_ok.fits (by decide)
      have HCI := hidM (code_in t1 256 fixLit.ln fixLit.L wr HS.out.lit.tab (by decide))
      have HNN : Hid (litN N T 256 = N + 2 ^ T * turned (codeC fixLit.ln fixLit.L 256) (fixLit.ln 256)) := rfl
      have HEN : Hid (∀ X most, Pre X (T + fixLit.ln 256) (litN N T 256) → s.data.toList.length ≤ most → Run X most (.blk false) 0 [] (.good (T + fixLit.ln 256) s.data.toList)) := fun X most hp hm => winv_end (by rw [HLEN.out]; exact HWI.out) hp hm
      have HLT : Hid (litN N T 256 < 2 ^ (T + fixLit.ln 256)) := code_grow fixLit_ok (by decide) HWI.out.1
      generalize codeC fixLit.ln fixLit.L 256 = cc at *
      generalize litN N T 256 = N1 at *
      generalize fixLit.ln 256 = n1 at *
      go_wp2_with fail
      refine HCI.out.mono ?_
      rintro _ w6 ⟨rfl, hb6⟩
      have HS7 := hidM (HS.out.later hb6)
      clear hb6 HCI HS HS6
      go_wp2_with fail
      refine (wcode_k w.heap.size N T cc n1 w6 HS7.out.wat (by omega) (by omega) hcl.1 h32.2).mono ?_
      rintro _ w7 ⟨rfl, hw7, hk7⟩
      rw [← HNN.out] at hw7
      have HS8 := hidM (HS7.out.wkept hw7 hk7)
      clear hw7 hk7 HS7
      go_wp2_with fail
      refine (wtext_at w.heap.size N1 (T + n1) w7 HS8.out.wat (by omega)).mono ?_
      rintro _ w8 ⟨⟨Z, rfl, hle, hsz⟩, hb8⟩
      have HB8 : Hid (Below w.heap.size w w8) := HS8.out.below.trans (hb8.mono HS8.out.below.size)
      have HTE : Hid (Tells Z.data.toList s.data.toList) := by
        have hzl : Z.data.toList.length = Z.size := Array.length_toList
        refine ⟨T + n1, by rw [hzl, hsz], fun most hm => HEN.out _ most ⟨by rw [hle]; exact Nat.mod_eq_of_lt HLT.out, ?_⟩ hm⟩
        rw [total_size, hsz]
        omega
      clear hle hsz hb8
      go_wp2
      go_ret
      exact ⟨⟨Z, rfl, HTE.out⟩, HB8.out⟩
theorem Tells.app {Z s : List UInt8} (h : Tells Z s) (back : List UInt8) : ∃ t, (t + 7) / 8 = Z.length ∧ ∀ most, s.length ≤ most → Run (Z ++ back) most (.blk false) 0 [] (.good t s) := by
  obtain ⟨t, h1, h2⟩ := h
  refine ⟨t, h1, fun most hm => ?_⟩
  have hs : Same Z.length Z (Z ++ back) := ⟨Nat.le_refl _, by rw [List.length_append]; omega, by rw [List.take_length, List.take_left]⟩
  exact hs.run (h2 most hm) t s rfl (by omega)
theorem tells_stored (s : List UInt8) (h : s.length < 65536) : Tells (storedB 1 s) s := by
  refine ⟨8 * (5 + s.length), by rw [storedB_len]; omega, fun most hm => ?_⟩
  have := run_stored s [] most h hm
  rw [List.append_nil] at this
  exact this
set_option maxHeartbeats 1000000 in
set_option maxRecDepth 100000 in
theorem deflate_any (s : ByteArray) (w : World) (hs : s.size ≤ 65535) :
    Calls Tryz.prog 81 #[.string s] w fun e w' => (∃ Z : ByteArray, e = .returned (.string Z) ∧ Tells Z.data.toList s.data.toList ∧ Z.size ≤ 5 + s.size) ∧ Below w.heap.size w w' := by
  have HLEN : Hid (s.data.toList.length = s.size) := Array.length_toList
  go_enter Tryz.func81, Tryz.ntmps81
  go_wp2_with fail
  refine (fixedBlock_any s w hs).mono ?_
  rintro _ w1 ⟨⟨P, rfl, hP⟩, hb1⟩
  have HP := hidM hP
  have HB1 := hidM hb1
  clear hP hb1
  go_wp2_with fail
  refine (stored_any s w1 hs).mono ?_
  rintro _ w2 ⟨rfl, hb2⟩
  have HB2 : Hid (Below w.heap.size w w2) := HB1.out.trans (hb2.mono HB1.out.size)
  clear hb2
  generalize hY : (⟨(storedB 1 s.data.toList).toArray⟩ : ByteArray) = Y at *
  have HY : Hid (Y.data.toList = storedB 1 s.data.toList) := by unfold Hid; rw [← hY]
  have hys : Y.size = 5 + s.size := by
    have : Y.data.toList.length = Y.size := Array.length_toList
    rw [← this, HY.out, storedB_len, HLEN.out]
  have HYS := hidM hys
  clear hY hys
  by_cases hlt : P.size < Y.size
  · have k : (P.size : Int) < (Y.size : Int) := by omega
    go_wp2
    go_ret
    exact ⟨⟨P, rfl, HP.out, by have := HYS.out; omega⟩, HB2.out⟩
  · have k : ¬ (P.size : Int) < (Y.size : Int) := by omega
    go_wp2
    go_ret
    exact ⟨⟨Y, rfl, by rw [HY.out]; exact tells_stored _ (by rw [HLEN.out]; omega), by rw [HYS.out]; exact Nat.le_refl _⟩, HB2.out⟩
end Go.Proofs.YtlmeoahcpmikiaaGreatDoor
