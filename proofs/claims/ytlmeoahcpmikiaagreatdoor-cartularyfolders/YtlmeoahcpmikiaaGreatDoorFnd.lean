/-
  Taken over from another program: Fnd.
-/
import Derived.Test.YtlmeoahcpmikiaaGreatDoorJInfV
import Derived.Test.YtlmeoahcpmikiaaGreatDoorRows
import Derived.DeepKeys4
import Derived.Maps.OwnSet
import Derived.Test.YtlmeoahcpmikiaaGreatDoorJInfX
import Derived.Laws.ResultCell
import Derived.Test.YtlmeoahcpmikiaaGreatDoorJZlbB
import Derived.OwnWalk
namespace Go.Proofs.YtlmeoahcpmikiaaGreatDoor
open Go.RowKit Go.Maps
open Go.RowKit Go.Maps
open Go.RowKit Go.Maps
open Go.RowKit Go.Maps
open Go.RowKit Go.Maps
open Go.RowKit Go.Maps
theorem laidOutF : laidOutB Tryz.prog = true := by kernel_rfl
theorem row125 : 297 < Tryz.prog.types.size := of_decide_eq_true (by kernel_rfl)
theorem key125 : Keyed Tryz.prog 297 := Keyed.of_law (deep_law_laid laidOutF (m := 2) (by decide) row125 (by kernel_rfl) (by kernel_rfl))
theorem kt125 : Tryz.prog.keyType 297 = true := by kernel_rfl
theorem cells125 : Tryz.prog.cellsOf 297 = 3 := by kernel_rfl
theorem cells5 : Tryz.prog.cellsOf 5 = 1 := by kernel_rfl
theorem wf_u8 (a : UInt8) : (Lit.int .u8 (a.toNat : Int)).wf = true := by
  have := a.toNat_lt
  show (decide (IntKind.u8.min ≤ (a.toNat : Int)) && decide ((a.toNat : Int) ≤ IntKind.u8.max)) = true
  have h3 : IntKind.u8.min = 0 := by decide
  have h4 : IntKind.u8.max = 255 := by decide
  rw [h3, h4, Bool.and_eq_true, decide_eq_true_eq, decide_eq_true_eq]
  omega
/-- three bytes as a map's key -/
def kV (a b c : UInt8) : Value := .agg #[.int .u8 (a.toNat : Int), .int .u8 (b.toNat : Int), .int .u8 (c.toNat : Int)]
theorem key3 (a b c : UInt8) : ∃ kl : List UInt8, keyOf Tryz.prog 297 (kV a b c) = some (.string kl) := by
  obtain ⟨N, hN⟩ : ∃ N, Tryz.prog.types.size + 1 = N + 2 := ⟨Tryz.prog.types.size - 1, by have := row125; omega⟩
  have hf : Value.formed Tryz.prog 297 (kV a b c) = true := by
    unfold kV Value.formed
    rw [Tryz.underlying297, cells125]
    rfl
  unfold keyOf
  rw [Tryz.underlying297]
  simp only [kt125, hf, Bool.true_and, if_true]
  rw [hN]
  unfold Program.keyLits kV
  rw [Tryz.underlying297]
  simp [Value.cells, cells125, cells5, Program.keyLits, Tryz.underlying5, wf_u8, List.range, List.range.loop]
/-- each number that is there is a place of the text below A, with three bytes behind it -/
def GoodFI (A L : Nat) (D : DataW Unit) : Prop :=
  ∀ (k : List UInt8) (c : Int), Maps.has D (.string k) = true → D.atKey (.string k) (.lit (.int .i64 0)) = .lit (.int .i64 c) → ∃ p : Nat, c = (p : Int) ∧ p < A ∧ p + 3 ≤ L
theorem goodF_empty (A L : Nat) : GoodFI A L (.map []) := by
  intro k c h; simp [Maps.has] at h
theorem GoodFI.more {A A' L : Nat} {D : DataW Unit} (h : GoodFI A L D) (hA : A ≤ A') : GoodFI A' L D := fun k c h1 h2 => by
  obtain ⟨p, q1, q2, q3⟩ := h k c h1 h2
  exact ⟨p, q1, by omega, q3⟩
theorem goodF_put {A L : Nat} {D : DataW Unit} (h : GoodFI A L D) (hD : IsMap D) (kl : List UInt8) (p : Nat) (hp : p < A) (hp3 : p + 3 ≤ L) : GoodFI A L (D.put (.string kl) (.lit (.int .i64 (p : Int)))) := by
  intro k c hh ha
  by_cases hk : k = kl
  · subst hk
    rw [atKey_put_same hD (show WideAt.IsKeyLit (.string _) from trivial)] at ha
    simp only [DataW.lit.injEq, Lit.int.injEq, true_and] at ha
    exact ⟨p, ha.symm, hp, hp3⟩
  · have hne : (Lit.string k) ≠ .string kl := fun e => hk (by simpa using e)
    rw [has_put_other hne] at hh
    rw [atKey_put_other hne] at ha
    exact h k c hh ha
/-- the finder's map -/
def FMap (w : World) (b A L n : Nat) : Prop := ∃ D : DataW Unit, w.ownsMap Tryz.prog 297 (plainElem Tryz.prog 3) b n D ∧ GoodFI A L D
theorem FMap.same {w w' : World} {b A L n : Nat} (h : FMap w b A L n) (hb : w'.heap[b]? = w.heap[b]?) : FMap w' b A L n := by
  obtain ⟨D, ⟨es, clock, h1, h2⟩, h3⟩ := h
  exact ⟨D, ⟨es, clock, hb.trans h1, h2⟩, h3⟩
theorem FMap.lt {w : World} {b A L n : Nat} (h : FMap w b A L n) : b < w.heap.size := by
  obtain ⟨D, h1, _⟩ := h
  exact h1.lt
theorem zero3 (w : World) : (zeroValue 3).run Tryz.prog w = .ok (.int .i64 0) w := Tryz.zeroValue3 w
theorem FMap.look {w : World} {b A L n : Nat} (h : FMap w b A L n) (x y z : UInt8) :
    ∃ (v : Int) (f : Bool), (∀ k, (Instr.lookup 293 (.map (some b)) (kV x y z) true).run Tryz.prog (w.drewN k) = .ok (.tuple #[.int .i64 v, .bool f]) (w.drewN k)) ∧ (f = true → ∃ p : Nat, v = (p : Int) ∧ p < A ∧ p + 3 ≤ L) := by
  obtain ⟨D, hD, hG⟩ := h
  obtain ⟨kl, hk⟩ := key3 x y z
  have key : ∀ k, ∃ v : Int, (Instr.lookup 293 (.map (some b)) (kV x y z) true).run Tryz.prog (w.drewN k) = .ok (.tuple #[.int .i64 v, .bool (has D (.string kl))]) (w.drewN k) ∧ D.atKey (.string kl) (.lit (.int .i64 0)) = .lit (.int .i64 v) := fun k => by
    have hDk : (w.drewN k).ownsMap Tryz.prog 297 (plainElem Tryz.prog 3) b n D := hD
    obtain ⟨v, ps, h1, h2⟩ := hDk.look_ok key125 Tryz.underlying293 (zero3 _) (plainElem_int Tryz.underlying3 (WalkArith.wf_i64 ⟨by decide, by decide⟩)) hk
    obtain ⟨a, rfl, h3, _⟩ := plainElem_int_inv Tryz.underlying3 h2
    simp only [Prod.mk.injEq] at h3
    exact ⟨a, h1, h3.1⟩
  obtain ⟨v, h1, h2⟩ := key 0
  refine ⟨v, has D (.string kl), fun k => ?_, fun hf => hG kl v hf h2⟩
  obtain ⟨v', h3, h4⟩ := key k
  rw [h2] at h4
  simp only [DataW.lit.injEq, Lit.int.injEq, true_and] at h4
  rw [h4]
  exact h3
theorem FMap.put {w : World} {b A L n : Nat} (h : FMap w b A L n) (hn : n < maxLen) (x y z : UInt8) (p : Nat) (hp : p < A) (hp3 : p + 3 ≤ L) (hL : L ≤ 1000000) (k : Nat) :
    ∃ w', (Instr.mapUpdate 293 (.map (some b)) (kV x y z) (.int .i64 (p : Int))).run Tryz.prog (w.drewN k) = .ok () w' ∧ FMap w' b A L (n + 1) ∧ Only b w w' := by
  obtain ⟨D, hD, hG⟩ := h
  obtain ⟨kl, hk⟩ := key3 x y z
  have hDk : (w.drewN k).ownsMap Tryz.prog 297 (plainElem Tryz.prog 3) b n D := hD
  have hwf : (Lit.int .i64 (p : Int)).wf = true := WalkArith.wf_i64 ⟨by omega, by omega⟩
  obtain ⟨w', h1, h2, h3⟩ := hDk.store key125 Tryz.underlying293 hn hk (plainElem_int (H := Unit) Tryz.underlying3 hwf)
  refine ⟨w', h1, ⟨_, h2, goodF_put hG hD.isMap kl p hp hp3⟩, ?_⟩
  obtain ⟨es, clock, es', clock', h4, rfl⟩ := h3
  have hlt : b < w.heap.size := hD.lt
  refine ⟨rfl, rfl, rfl, ?_, fun j hj => ?_⟩
  · simp [ChangeMaps.setBlock]
  · show (ChangeMaps.setBlock (w.drewN k) b (.map es' clock')).heap[j]? = w.heap[j]?
    unfold ChangeMaps.setBlock
    simp [Ne.symm hj]
/-- the finder's box -/
def FBox (w : World) (fb : Nat) (s : ByteArray) (mb eb : Nat) : Prop := w.heap[fb]? = some (.cells #[.string s, .map (some mb), .slice (some ⟨eb, 0, none⟩) s.size s.size] 295 (0, 0))
section
variable {w w' : World} {fb mb eb : Nat} {s : ByteArray}
theorem FBox.c0 (h : FBox w fb s mb eb) : w.cell? ⟨fb, 0, none⟩ = some (.string s) := by rw [cell_of_row w fb _ _ 295 (0, 0) h]; rfl
theorem FBox.c1 (h : FBox w fb s mb eb) : w.cell? ⟨fb, 1, none⟩ = some (.map (some mb)) := by rw [cell_of_row w fb _ _ 295 (0, 0) h]; rfl
theorem FBox.c2 (h : FBox w fb s mb eb) : w.cell? ⟨fb, 2, none⟩ = some (.slice (some ⟨eb, 0, none⟩) s.size s.size) := by rw [cell_of_row w fb _ _ 295 (0, 0) h]; rfl
theorem FBox.lt (h : FBox w fb s mb eb) : fb < w.heap.size := (Array.getElem?_eq_some_iff.1 h).1
theorem FBox.same (h : FBox w fb s mb eb) (hh : w'.heap[fb]? = w.heap[fb]?) : FBox w' fb s mb eb := hh.trans h
end
theorem results_boxI {fn : Func} {p u : Tmp} {ty : TypeId} {P : Program} (h : fn.results = #[.cell p ty, .tmp u]) (tmps : Array Value) (w : World) (g : Nat) (cs : Array Value)
    (hp : tmps.getD p undef = .pointer (some ⟨g, 0, none⟩)) (hr : (loadVar ty ⟨g, 0, none⟩).run P w = .ok (.agg cs) w) :
    (results fn tmps).run P w = .ok (.tuple #[.agg cs, tmps.getD u undef]) w := by
  rw [results_cell_tmp h, hp]
  simp [asAddr, hr, Result.andThen]
theorem size125 : (Tryz.prog.info? 297).map (·.size) = some 3 := by kernel_rfl
/-- what beginningAt answers -/
def BegPost (s : ByteArray) (A : Nat) (e : Ending) : Prop :=
  (s.size < A + 3 ∧ e = .returned (.tuple #[kV 0 0 0, .bool false])) ∨
  (A + 3 ≤ s.size ∧ ∃ x y z, e = .returned (.tuple #[kV x y z, .bool true]))
set_option maxHeartbeats 1000000 in
set_option maxRecDepth 100000 in
theorem begin_any (fb mb eb A : Nat) (s : ByteArray) (w : World) (hF : FBox w fb s mb eb) (hs : s.size ≤ 1000000) (hA : A ≤ s.size) :
    Calls Tryz.prog 223 #[.pointer (some ⟨fb, 0, none⟩), .int .i64 (A : Int)] w fun e w' => BegPost s A e ∧ Below w.heap.size w w' := by
  have c0 := hF.c0
  have hlt := hF.lt
  have n0 := World.new_ne w _ c0
  have k0 : ∀ ob, (w.alloc ob).cell? ⟨fb, 0, none⟩ = some (.string s) := fun ob => (World.cell?_alloc_some w _ ob (by rw [c0]; rfl)).trans c0
  obtain ⟨d, hd⟩ : ∃ d, d = s.size - A := ⟨_, rfl⟩
  have e1 : (s.size : Int) - (A : Int) = (d : Int) := by omega
  clear hF
  go_enter Tryz.func223, Tryz.ntmps223
  by_cases h3 : d < 3
  · have e2 : (d : Int) < 3 := by omega
    have HS : Hid (s.size < A + 3) := by unfold Hid; omega
    clear hd h3
    go_wp2_with fail
    refine bodyPost_ret (results_boxI rfl _ _ w.heap.size #[.int .u8 0, .int .u8 0, .int .u8 0] rfl (run_loadVar_row _ w.heap.size 297 297 #[.int .u8 0, .int .u8 0, .int .u8 0] (0, 0) _ (heap_alloc_new w _) Tryz.underlying297 rfl size125)) rfl ?_
    exact ⟨.inl ⟨HS.out, rfl⟩, (Below.refl _ _).alloc (Nat.le_refl _) _⟩
  · have e2 : ¬ (d : Int) < 3 := by omega
    obtain ⟨A1, hA1⟩ : ∃ A1, A1 = A + 1 := ⟨_, rfl⟩
    obtain ⟨A2, hA2⟩ : ∃ A2, A2 = A + 2 := ⟨_, rfl⟩
    have i1 : A < s.size := by omega
    have i2 : A1 < s.size := by omega
    have i3 : A2 < s.size := by omega
    have j1 : (A : Int) < (s.size : Int) := by omega
    have j2 : (A1 : Int) < (s.size : Int) := by omega
    have j3 : (A2 : Int) < (s.size : Int) := by omega
    have q1 : (A : Int) + 1 = (A1 : Int) := by omega
    have q2 : (A : Int) + 2 = (A2 : Int) := by omega
    have q3 : IntKind.i64.wrap (A1 : Int) = (A1 : Int) := i64_small _ (by omega) (by omega)
    have q4 : IntKind.i64.wrap (A2 : Int) = (A2 : Int) := i64_small _ (by omega) (by omega)
    have q5 : IntKind.i64.wrap ((A : Int) + 1) = (A1 : Int) := by rw [q1]; exact q3
    have q6 : IntKind.i64.wrap ((A : Int) + 2) = (A2 : Int) := by rw [q2]; exact q4
    have HS : Hid (A + 3 ≤ s.size) := by unfold Hid; omega
    clear hd hA1 hA2
    have m1 : fb ≠ w.heap.size := by omega
    have m2 : w.heap.size ≠ fb := by omega
    go_wp2_with fail
    go_region_held3 (fun w' => w'.cell? ⟨fb, 0, none⟩ = some (.string s)) (go_keep) (fail)
    all_goals
      go_wp2_with fail
      refine bodyPost_ret (results_boxI rfl _ _ w.heap.size #[.int .u8 (s[A].toNat : Int), .int .u8 (s[A1].toNat : Int), .int .u8 (s[A2].toNat : Int)] rfl (run_loadVar_row _ w.heap.size 297 297 #[.int .u8 (s[A].toNat : Int), .int .u8 (s[A1].toNat : Int), .int .u8 (s[A2].toNat : Int)] (0, 0) _ (heap_alloc_new w _) Tryz.underlying297 rfl size125)) rfl ?_
      exact ⟨.inr ⟨HS.out, s[A], s[A1], s[A2], rfl⟩, ((Below.refl _ _).alloc (Nat.le_refl _) _).drew⟩
/-- what newestOf answers: -1, or a place -/
def NewPostF (A L : Nat) (e : Ending) : Prop := e = .returned (.int .i64 (-1)) ∨ ∃ p : Nat, p < A ∧ p + 3 ≤ L ∧ e = .returned (.int .i64 (p : Int))
set_option maxHeartbeats 1000000 in
set_option maxRecDepth 100000 in
theorem newest_any (fb mb eb A n : Nat) (s : ByteArray) (x y z : UInt8) (w : World) (hF : FBox w fb s mb eb) (hM : FMap w mb A s.size n) :
    Calls Tryz.prog 224 #[.pointer (some ⟨fb, 0, none⟩), kV x y z] w fun e w' => NewPostF A s.size e ∧ Below w.heap.size w w' := by
  have HFB : Hid (FBox (w.alloc (.cells #[.int .u8 (x.toNat : Int), .int .u8 (y.toNat : Int), .int .u8 (z.toNat : Int)] 297)) fb s mb eb) := hF.same (Below.heap_alloc w _ fb hF.lt)
  have HFM : Hid (FMap (w.alloc (.cells #[.int .u8 (x.toNat : Int), .int .u8 (y.toNat : Int), .int .u8 (z.toNat : Int)] 297)) mb A s.size n) := hM.same (Below.heap_alloc w _ mb hM.lt)
  have HB : Hid (Below w.heap.size w (w.alloc (.cells #[.int .u8 (x.toNat : Int), .int .u8 (y.toNat : Int), .int .u8 (z.toNat : Int)] 297))) := (Below.refl _ _).alloc (Nat.le_refl _) _
  have HK : Hid ((w.alloc (.cells #[.int .u8 (x.toNat : Int), .int .u8 (y.toNat : Int), .int .u8 (z.toNat : Int)] 297)).heap[w.heap.size]? = some (.cells #[.int .u8 (x.toNat : Int), .int .u8 (y.toNat : Int), .int .u8 (z.toNat : Int)] 297 (0, 0))) := heap_alloc_new w _
  clear hF hM
  unfold kV
  go_enter Tryz.func224, Tryz.ntmps224
  go_wp2_with fail
  generalize w.alloc (.cells #[.int .u8 (x.toNat : Int), .int .u8 (y.toNat : Int), .int .u8 (z.toNat : Int)] 297) = w1 at *
  have c1 := HFB.out.c1
  have k0 : w1.cell? ⟨w.heap.size, 0, none⟩ = some (.int .u8 (x.toNat : Int)) := by rw [cell_of_row w1 _ _ _ 297 (0, 0) HK.out]; rfl
  have k1 : w1.cell? ⟨w.heap.size, 1, none⟩ = some (.int .u8 (y.toNat : Int)) := by rw [cell_of_row w1 _ _ _ 297 (0, 0) HK.out]; rfl
  have k2 : w1.cell? ⟨w.heap.size, 2, none⟩ = some (.int .u8 (z.toNat : Int)) := by rw [cell_of_row w1 _ _ _ 297 (0, 0) HK.out]; rfl
  obtain ⟨v, f, hlk, hgood⟩ := HFM.out.look x y z
  unfold kV at hlk
  cases f with
  | true =>
    obtain ⟨p, rfl, hp1, hp2⟩ := hgood rfl
    go_quiet (fail)
    go_wp2
    go_ret
    exact ⟨.inr ⟨p, hp1, hp2, rfl⟩, HB.out.trans (below_drewN (Below.refl _ _) _)⟩
  | false =>
    clear hgood
    go_quiet (fail)
    go_wp2
    go_ret
    exact ⟨.inl rfl, HB.out.trans (below_drewN (Below.refl _ _) _)⟩
/-- what stands at places that were added: nowhere, or a place before -/
def GoodE (E : Nat → Int) (A L : Nat) : Prop := ∀ i, i < A → i + 3 ≤ L → E i = -1 ∨ ∃ q : Nat, E i = (q : Int) ∧ q < i
/-- the finder, with the places below A added -/
structure Fnd (w : World) (fb : Nat) (s : ByteArray) (mb eb A : Nat) : Prop where
  box : FBox w fb s mb eb
  map : ∃ n, n ≤ A ∧ FMap w mb A s.size n
  row : ∃ E, ABox w eb 3 s.size (fun i => .int .i64 (E i)) ∧ GoodE E A s.size
  ne1 : fb ≠ mb
  ne2 : fb ≠ eb
  ne3 : mb ≠ eb
/-- of all that was there two blocks alone may have turned -/
structure ButF (mb eb : Nat) (w w' : World) : Prop where
  os : w'.os = w.os
  tape : w'.tape = w.tape
  output : w'.output = w.output
  size : w.heap.size ≤ w'.heap.size
  block : ∀ k, k < w.heap.size → k ≠ mb → k ≠ eb → w'.heap[k]? = w.heap[k]?
theorem ButF.refl (mb eb : Nat) (w : World) : ButF mb eb w w := ⟨rfl, rfl, rfl, Nat.le_refl _, fun _ _ _ _ => rfl⟩
theorem ButF.trans {mb eb : Nat} {w w' w'' : World} (h : ButF mb eb w w') (k : ButF mb eb w' w'') : ButF mb eb w w'' :=
  ⟨k.os.trans h.os, k.tape.trans h.tape, k.output.trans h.output, Nat.le_trans h.size k.size, fun i h1 h2 h3 => (k.block i (Nat.lt_of_lt_of_le h1 h.size) h2 h3).trans (h.block i h1 h2 h3)⟩
theorem ButF.of_below {mb eb : Nat} {w w' : World} (h : Below w.heap.size w w') : ButF mb eb w w' := ⟨h.os, h.tape, h.output, h.size, fun k h1 _ _ => h.block k h1⟩
theorem ButF.of_only {mb eb : Nat} {w w' : World} (h : Only mb w w') : ButF mb eb w w' := ⟨h.os, h.tape, h.output, by rw [h.size]; exact Nat.le_refl _, fun k _ h2 _ => h.block k h2⟩
theorem ButF.set {mb eb o : Nat} {w : World} (u : Value) : ButF mb eb w (w.setCell ⟨eb, o, none⟩ u) := ⟨rfl, rfl, rfl, by simp, fun k _ _ h3 => Below.heap_setCell w ⟨eb, o, none⟩ u k h3⟩
theorem Fnd.later {w w' : World} {fb mb eb A : Nat} {s : ByteArray} (h : Fnd w fb s mb eb A) (hb : Below w.heap.size w w') : Fnd w' fb s mb eb A := by
  obtain ⟨n, hn, hm⟩ := h.map
  obtain ⟨E, he, hg⟩ := h.row
  exact ⟨h.box.same (hb.block _ h.box.lt), ⟨n, hn, hm.same (hb.block _ hm.lt)⟩, ⟨E, he.same (hb.block _ he.lt), hg⟩, h.ne1, h.ne2, h.ne3⟩
/-- what newestOf's region leaves to be read -/
def AddS (w : World) (fb g eb A : Nat) (s : ByteArray) (x y z : UInt8) (e0 : Int) (w' : World) : Prop :=
  w'.cell? ⟨fb, 2, none⟩ = some (.slice (some ⟨eb, 0, none⟩) s.size s.size) ∧ w'.cell? ⟨g, 0, none⟩ = some (.int .u8 (x.toNat : Int)) ∧ w'.cell? ⟨g, 1, none⟩ = some (.int .u8 (y.toNat : Int)) ∧ w'.cell? ⟨g, 2, none⟩ = some (.int .u8 (z.toNat : Int)) ∧
    w'.cell? ⟨eb, A, none⟩ = some (.int .i64 e0) ∧ w'.frozen? ⟨eb, A, none⟩ = false ∧ Hid (Below w.heap.size w w')
theorem AddS.drew {w V : World} {fb g eb A : Nat} {s : ByteArray} {x y z : UInt8} {e0 : Int} (h : AddS w fb g eb A s x y z e0 V) : AddS w fb g eb A s x y z e0 V.drew := ⟨h.1, h.2.1, h.2.2.1, h.2.2.2.1, h.2.2.2.2.1, h.2.2.2.2.2.1, (Below.drew h.2.2.2.2.2.2.out)⟩
theorem AddS.e {w V : World} {fb g eb A : Nat} {s : ByteArray} {x y z : UInt8} {e0 : Int} (h : AddS w fb g eb A s x y z e0 V) : V.cell? ⟨eb, A, none⟩ = some (.int .i64 e0) := h.2.2.2.2.1
theorem AddS.f {w V : World} {fb g eb A : Nat} {s : ByteArray} {x y z : UInt8} {e0 : Int} (h : AddS w fb g eb A s x y z e0 V) : V.frozen? ⟨eb, A, none⟩ = false := h.2.2.2.2.2.1
theorem AddS.below {w w' : World} {fb g eb A : Nat} {s : ByteArray} {x y z : UInt8} {e0 : Int} (h : AddS w fb g eb A s x y z e0 w) (hfb : fb < w.heap.size) (hg : g < w.heap.size) (heb : eb < w.heap.size) (hb : Below w.heap.size w w') : AddS w fb g eb A s x y z e0 w' :=
  ⟨(hb.cell (p := ⟨fb, 2, none⟩) hfb).trans h.1, (hb.cell (p := ⟨g, 0, none⟩) hg).trans h.2.1, (hb.cell (p := ⟨g, 1, none⟩) hg).trans h.2.2.1, (hb.cell (p := ⟨g, 2, none⟩) hg).trans h.2.2.2.1, (hb.cell (p := ⟨eb, A, none⟩) heb).trans h.2.2.2.2.1, (hb.frozen (p := ⟨eb, A, none⟩) heb).trans h.2.2.2.2.2.1, hb⟩
set_option maxHeartbeats 2000000 in
set_option maxRecDepth 100000 in
theorem add_any (fb mb eb A : Nat) (s : ByteArray) (w : World) (hF : Fnd w fb s mb eb A) (hs : s.size ≤ 1000000) (hA : A < s.size) :
    Calls Tryz.prog 178 #[.pointer (some ⟨fb, 0, none⟩), .int .i64 (A : Int)] w fun e w' => e = .returned (.tuple #[]) ∧ Fnd w' fb s mb eb (A + 1) ∧ ButF mb eb w w' := by
  have HF := hidM hF
  clear hF
  go_enter Tryz.func178, Tryz.ntmps178
  go_wp2_with fail
  refine (begin_any fb mb eb A s w HF.out.box hs (by omega)).mono ?_
  rintro _ w1 ⟨hp, hb1⟩
  have HB1 := hidM hb1
  have HF1 := hidM (HF.out.later hb1)
  clear hb1
  rcases hp with ⟨hsh, rfl⟩ | ⟨hlo, x, y, z, rfl⟩
  · unfold kV
    go_wp2
    refine bodyPost_end (results_none rfl _ _ _) rfl ⟨rfl, ?_, ?_⟩
    · have hb2 : Below w1.heap.size w1 (w1.alloc (.cells #[.int .u8 0, .int .u8 0, .int .u8 0] 297)) := (Below.refl _ _).alloc (Nat.le_refl _) _
      have h := HF1.out.later hb2
      obtain ⟨n, hn, D, hD, hG⟩ := h.map
      obtain ⟨E, he, hg⟩ := h.row
      exact ⟨h.box, ⟨n, by omega, D, hD, hG.more (by omega)⟩, ⟨E, he, fun i hi h3 => by
        by_cases hiA : i < A
        · exact hg i hiA h3
        · omega⟩, h.ne1, h.ne2, h.ne3⟩
    · exact ButF.of_below (HB1.out.trans (((Below.refl w1.heap.size w1).alloc (Nat.le_refl _) _).mono HB1.out.size))
  · unfold kV
    have HB2 : Hid (Below w1.heap.size w1 (w1.alloc (.cells #[.int .u8 (x.toNat : Int), .int .u8 (y.toNat : Int), .int .u8 (z.toNat : Int)] 297))) := (Below.refl _ _).alloc (Nat.le_refl _) _
    have HK : Hid ((w1.alloc (.cells #[.int .u8 (x.toNat : Int), .int .u8 (y.toNat : Int), .int .u8 (z.toNat : Int)] 297)).heap[w1.heap.size]? = some (.cells #[.int .u8 (x.toNat : Int), .int .u8 (y.toNat : Int), .int .u8 (z.toNat : Int)] 297 (0, 0))) := heap_alloc_new w1 _
    have HF2 := hidM (HF1.out.later HB2.out)
    have HBU2 : Hid (ButF mb eb w (w1.alloc (.cells #[.int .u8 (x.toNat : Int), .int .u8 (y.toNat : Int), .int .u8 (z.toNat : Int)] 297))) := ButF.of_below (HB1.out.trans (HB2.out.mono HB1.out.size))
    have HG3 : Hid (fb ≠ w1.heap.size ∧ mb ≠ w1.heap.size ∧ eb ≠ w1.heap.size ∧ w1.heap.size < (w1.alloc (.cells #[.int .u8 (x.toNat : Int), .int .u8 (y.toNat : Int), .int .u8 (z.toNat : Int)] 297)).heap.size) := by
      have q1 := HF1.out.box.lt
      obtain ⟨n, _, hm⟩ := HF1.out.map
      obtain ⟨E, he, _⟩ := HF1.out.row
      have q2 := hm.lt
      have q3 := he.lt
      refine ⟨by omega, by omega, by omega, by simp⟩
    go_wp2_with fail
    generalize w1.alloc (.cells #[.int .u8 (x.toNat : Int), .int .u8 (y.toNat : Int), .int .u8 (z.toNat : Int)] 297) = w2 at *
    generalize w1.heap.size = g at *
    clear HB1 HB2 HF1
    obtain ⟨E, hE, hGE⟩ := HF2.out.row
    obtain ⟨n, hn, hM⟩ := HF2.out.map
    have HE := hidM hE
    have HGE := hidM hGE
    have HM := hidM hM
    have hebl := hE.lt
    have hfbl := HF2.out.box.lt
    have k0 : w2.cell? ⟨g, 0, none⟩ = some (.int .u8 (x.toNat : Int)) := by rw [cell_of_row w2 _ _ _ 297 (0, 0) HK.out]; rfl
    have k1 : w2.cell? ⟨g, 1, none⟩ = some (.int .u8 (y.toNat : Int)) := by rw [cell_of_row w2 _ _ _ 297 (0, 0) HK.out]; rfl
    have k2 : w2.cell? ⟨g, 2, none⟩ = some (.int .u8 (z.toNat : Int)) := by rw [cell_of_row w2 _ _ _ 297 (0, 0) HK.out]; rfl
    have kE := hE.cell A hA
    have kF := hE.fz A
    have c2 := HF2.out.box.c2
    have HS : Hid (AddS w2 fb g eb A s x y z (E A) w2) := ⟨c2, k0, k1, k2, kE, kF, Below.refl _ _⟩
    have HN := hidM (fun V (hV : Hid (DrewOf w2 V)) => (by
      obtain ⟨k, rfl⟩ := hV
      refine (newest_any fb mb eb A n s x y z (w2.drewN k) HF2.out.box hM).mono ?_
      rintro e w' ⟨h1, h2⟩
      have h3 : Below w2.heap.size w2 w' := (below_drewN (Below.refl _ _) k).trans h2
      rcases h1 with rfl | ⟨p, hp1, hp2, rfl⟩
      · exact ⟨-1, rfl, .inl rfl, HS.out.below hfbl HG3.out.2.2.2 hebl h3⟩
      · exact ⟨p, rfl, .inr ⟨p, rfl, hp1⟩, HS.out.below hfbl HG3.out.2.2.2 hebl h3⟩ :
      Calls Tryz.prog 224 #[.pointer (some ⟨fb, 0, none⟩), .agg #[.int .u8 (x.toNat : Int), .int .u8 (y.toNat : Int), .int .u8 (z.toNat : Int)]] V fun e w' => ∃ v : Int, e = .returned (.int .i64 v) ∧ Hid (v = -1 ∨ ∃ q : Nat, v = (q : Int) ∧ q < A) ∧ AddS w2 fb g eb A s x y z (E A) w'))
    have HKEEP := hidM (fun V (hV : Hid (DrewOf w2 V)) => (by
      obtain ⟨k, rfl⟩ := hV
      exact HS.out.below hfbl HG3.out.2.2.2 hebl (below_drewN (Below.refl _ _) k) : AddS w2 fb g eb A s x y z (E A) V))
    have HD := DrewOf.refl w2
    have j1 : (A : Int) < (s.size : Int) := by omega
    generalize E A = e0 at *
    clear hE hM hGE
    have m1 : fb ≠ eb := HF2.out.ne2
    have m2 : eb ≠ fb := fun e => HF2.out.ne2 e.symm
    have m3 : eb ≠ g := HG3.out.2.2.1
    have m4 : g ≠ eb := fun e => HG3.out.2.2.1 e.symm
    go_region_held3 (fun w' => w'.cell? ⟨fb, 2, none⟩ = some (.slice (some ⟨eb, 0, none⟩) s.size s.size) ∧ w'.cell? ⟨g, 0, none⟩ = some (.int .u8 (x.toNat : Int)) ∧ w'.cell? ⟨g, 1, none⟩ = some (.int .u8 (y.toNat : Int)) ∧ w'.cell? ⟨g, 2, none⟩ = some (.int .u8 (z.toNat : Int)))
      (first | exact ⟨hS93.1, hS93.2.1, hS93.2.2.1, hS93.2.2.2.1⟩ | go_keep)
      (first
        | (go_at_call 224; with_reducible refine (HN.out _ (by repeat (first | exact HD | apply DrewOf.drew | apply DrewOf.drewN))).mono ?_; rintro e w5 ⟨v, rfl, HV, hS93⟩; have kE5 := AddS.e hS93; have kF5 := AddS.f hS93))
    have HB5 : Hid (Below w2.heap.size w2 w5) := hS93.2.2.2.2.2.2
    have hE5 : ABox w5 eb 3 s.size (fun i => .int .i64 (E i)) := HE.out.same (HB5.out.block eb hebl)
    have HM5 : Hid (FMap w5 mb A s.size n) := HM.out.same (HB5.out.block mb HM.out.lt)
    have HX5 := hidM (HF2.out.box.same (HB5.out.block fb hfbl))
    have HFX : Hid (FBox (w5.setCell ⟨eb, A, none⟩ (.int .i64 v)) fb s mb eb) := HX5.out.same (Below.heap_setCell w5 ⟨eb, A, none⟩ _ fb m1)
    have HMX : Hid (FMap (w5.setCell ⟨eb, A, none⟩ (.int .i64 v)) mb (A + 1) s.size n) := by
      obtain ⟨D, hD, hG⟩ := HM5.out.same (Below.heap_setCell w5 ⟨eb, A, none⟩ (.int .i64 v) mb HF2.out.ne3)
      exact ⟨D, hD, hG.more (by omega)⟩
    have HEX : Hid (ABox (w5.setCell ⟨eb, A, none⟩ (.int .i64 v)) eb 3 s.size (fun i => .int .i64 (if i = A then v else E i))) := by
      have h := hE5.set A (.int .i64 v)
      have e : upd (fun i => Value.int .i64 (E i)) A (.int .i64 v) = fun i => .int .i64 (if i = A then v else E i) := by
        funext i
        by_cases hi : i = A
        · subst hi
          rw [upd_same, if_pos rfl]
        · rw [upd_other _ _ _ _ hi, if_neg hi]
      rw [e] at h
      exact h
    have HGX : Hid (GoodE (fun i => if i = A then v else E i) (A + 1) s.size) := fun i hi h3 => by
      by_cases hiA : i = A
      · subst hiA
        simp only [if_true]
        exact HV.out
      · simp only [if_neg hiA]
        exact HGE.out i (by omega) h3
    have HKX : Hid ((w5.setCell ⟨eb, A, none⟩ (.int .i64 v)).heap[g]? = some (.cells #[.int .u8 (x.toNat : Int), .int .u8 (y.toNat : Int), .int .u8 (z.toNat : Int)] 297 (0, 0))) := (Below.heap_setCell w5 ⟨eb, A, none⟩ _ g m4).trans ((HB5.out.block g HG3.out.2.2.2).trans HK.out)
    have HBX : Hid (ButF mb eb w (w5.setCell ⟨eb, A, none⟩ (.int .i64 v))) := (HBU2.out.trans (ButF.of_below HB5.out)).trans (ButF.set _)
    rename_i hheld
    clear hheld hE5 HM5 HX5 kE5 kF5 hS93 HN HKEEP HS HE HM HK k0 k1 k2 kE kF c2 HBU2 HD
    have HNE := hidM (And.intro HF2.out.ne1 (And.intro HF2.out.ne2 HF2.out.ne3))
    clear HF2 hebl hfbl HB5
    generalize w5.setCell ⟨eb, A, none⟩ (.int .i64 v) = w6 at *
    have c1 := HFX.out.c1
    have k0 : w6.cell? ⟨g, 0, none⟩ = some (.int .u8 (x.toNat : Int)) := by rw [cell_of_row w6 _ _ _ 297 (0, 0) HKX.out]; rfl
    have k1 : w6.cell? ⟨g, 1, none⟩ = some (.int .u8 (y.toNat : Int)) := by rw [cell_of_row w6 _ _ _ 297 (0, 0) HKX.out]; rfl
    have k2 : w6.cell? ⟨g, 2, none⟩ = some (.int .u8 (z.toNat : Int)) := by rw [cell_of_row w6 _ _ _ 297 (0, 0) HKX.out]; rfl
    have hnm : n < maxLen := by unfold maxLen; omega
    obtain ⟨F, hFF⟩ := Classical.skolem.1 (fun k => HMX.out.put hnm x y z A (by omega) hlo hs k)
    have hput : ∀ k, (Instr.mapUpdate 293 (.map (some mb)) (.agg #[.int .u8 (x.toNat : Int), .int .u8 (y.toNat : Int), .int .u8 (z.toNat : Int)]) (.int .i64 (A : Int))).run Tryz.prog (w6.drewN k) = .ok () (F k) := fun k => (hFF k).1
    have hput1 : (Instr.mapUpdate 293 (.map (some mb)) (.agg #[.int .u8 (x.toNat : Int), .int .u8 (y.toNat : Int), .int .u8 (z.toNat : Int)]) (.int .i64 (A : Int))).run Tryz.prog w6.drew = .ok () (F 1) := hput 1
    have HFI : Hid (∀ k, Fnd (F k) fb s mb eb (A + 1) ∧ ButF mb eb w (F k)) := fun k => by
      obtain ⟨_, hm, ho⟩ := hFF k
      exact ⟨⟨HFX.out.same (ho.block fb HNE.out.1), ⟨n + 1, by omega, hm⟩, ⟨_, HEX.out.same (ho.block eb (fun e => HNE.out.2.2 e.symm)), HGX.out⟩, HNE.out.1, HNE.out.2.1, HNE.out.2.2⟩, HBX.out.trans (ButF.of_only ho)⟩
    clear hFF
    go_wp2_with fail
    go_region
    all_goals
      try go_wp2
      exact bodyPost_end (results_none rfl _ _ _) rfl ⟨rfl, (HFI.out _).1, (HFI.out _).2⟩
/-- k bytes at p are those at A -/
def AlikeN (s : ByteArray) (p A k : Nat) : Prop := k ≤ 258 ∧ A + k ≤ s.size ∧ ∀ j, j < k → s.data.toList.getD (p + j) 0 = s.data.toList.getD (A + j) 0
theorem AlikeN.zero (s : ByteArray) (p A : Nat) (h : A ≤ s.size) : AlikeN s p A 0 := ⟨by decide, h, fun j hj => by omega⟩
set_option maxHeartbeats 2000000 in
set_option maxRecDepth 100000 in
theorem alike_any (fb mb eb p A : Nat) (s : ByteArray) (w : World) (hF : FBox w fb s mb eb) (hs : s.size ≤ 1000000) (hA : A ≤ s.size) (hp : p < A) :
    Calls Tryz.prog 225 #[.pointer (some ⟨fb, 0, none⟩), .int .i64 (p : Int), .int .i64 (A : Int)] w fun e w' => (∃ k : Nat, AlikeN s p A k ∧ e = .returned (.int .i64 (k : Int))) ∧ ∃ m, w' = w.drewN m := by
  have c0 := hF.c0
  clear hF
  obtain ⟨d, hd⟩ : ∃ d, d = s.size - A := ⟨_, rfl⟩
  have e1 : (s.size : Int) - (A : Int) = (d : Int) := by omega
  have hdL : A + d = s.size := by omega
  clear hd
  by_cases hd2 : d < 258
  · have hd3 : (d : Int) < 258 := by omega
    have hd4 : ¬ (258 : Int) < (d : Int) := by omega
    go_enter Tryz.func225, Tryz.ntmps225
    go_wp2
    go_loopw [8] (fun iv wr => ∃ k : Nat, k ≤ d ∧ iv = .int .i64 (k : Int) ∧ AlikeN s p A k ∧ ∃ m, wr = w.drewN m) (fun i _ => d - (intOf i).toNat)
    case atStart => exact ⟨0, Nat.zero_le _, rfl, AlikeN.zero s p A hA, 0, rfl⟩
    case round =>
      obtain ⟨k, hk, rfl, hal, m, rfl⟩ := hrel
      have HAL := hidM hal
      have d0 : (w.drewN m).cell? ⟨fb, 0, none⟩ = some (.string s) := c0
      clear hal
      by_cases hlt : k < d
      · have kk : (k : Int) < (d : Int) := by omega
        obtain ⟨P, hP⟩ : ∃ P, P = p + k := ⟨_, rfl⟩
        obtain ⟨Q, hQ⟩ : ∃ Q, Q = A + k := ⟨_, rfl⟩
        have i1 : P < s.size := by omega
        have i2 : Q < s.size := by omega
        have i3 : (P : Int) < (s.size : Int) := by omega
        have i4 : (Q : Int) < (s.size : Int) := by omega
        have i5 : (p : Int) + (k : Int) = (P : Int) := by omega
        have i6 : (A : Int) + (k : Int) = (Q : Int) := by omega
        have i7 : IntKind.i64.wrap ((p : Int) + (k : Int)) = (P : Int) := by rw [i5]; exact i64_small _ (by omega) (by omega)
        have i8 : IntKind.i64.wrap ((A : Int) + (k : Int)) = (Q : Int) := by rw [i6]; exact i64_small _ (by omega) (by omega)
        have i9 : IntKind.i64.wrap (P : Int) = (P : Int) := i64_small _ (by omega) (by omega)
        have i10 : IntKind.i64.wrap (Q : Int) = (Q : Int) := i64_small _ (by omega) (by omega)
        have HNX : Hid (s[P] = s[Q] → AlikeN s p A (k + 1)) := fun h => ⟨by omega, by omega, fun j hj => by
          by_cases hjk : j < k
          · exact HAL.out.2.2 j hjk
          · obtain rfl : j = k := by omega
            rw [← hP, ← hQ, getD_byte s P i1, getD_byte s Q i2]
            exact h⟩
        clear hP hQ
        generalize hW : w.drewN m = W at *
        have HW := hidM hW
        clear hW
        by_cases hsame : s[P] = s[Q]
        · have b1 : (((s[P]).toNat : Int) == ((s[Q]).toNat : Int)) = true := by rw [hsame]; simp
          have HNX2 := hidM (HNX.out hsame)
          clear HNX hsame
          go_wp2
          go_quiet (fail)
          go_wp2
          go_roundw
          case rel => exact ⟨k + 1, by omega, by go_num, HNX2.out, m + nq, by rw [← HW.out]; simp only [World.drewN, Nat.add_assoc]⟩
          case measure => (show d - ((k : Int) + 1).toNat < d - ((k : Int)).toNat); omega
        · have b1 : (((s[P]).toNat : Int) == ((s[Q]).toNat : Int)) = false := by
            refine beq_false_of_ne fun h => hsame ?_
            have : (s[P]).toNat = (s[Q]).toNat := by omega
            exact UInt8.toNat_inj.1 this
          clear HNX hsame
          go_wp2
          go_quiet (fail)
          go_wp2
          go_ret
          exact ⟨⟨k, HAL.out, rfl⟩, m + nq, by rw [← HW.out]; simp only [World.drewN, Nat.add_assoc]⟩
      · obtain rfl : k = d := by omega
        generalize hW : w.drewN m = W at *
        have HW := hidM hW
        clear hW
        go_wp2
        go_quiet (fail)
        go_wp2
        go_ret
        exact ⟨⟨_, HAL.out, rfl⟩, m + nq, by rw [← HW.out]; simp only [World.drewN, Nat.add_assoc]⟩
  · have hd3 : ¬ (d : Int) < 258 := by omega
    go_enter Tryz.func225, Tryz.ntmps225
    go_wp2
    go_loopw [8] (fun iv wr => ∃ k : Nat, k ≤ 258 ∧ iv = .int .i64 (k : Int) ∧ AlikeN s p A k ∧ ∃ m, wr = w.drewN m) (fun i _ => 258 - (intOf i).toNat)
    case atStart => exact ⟨0, Nat.zero_le _, rfl, AlikeN.zero s p A hA, 0, rfl⟩
    case round =>
      obtain ⟨k, hk, rfl, hal, m, rfl⟩ := hrel
      have HAL := hidM hal
      have d0 : (w.drewN m).cell? ⟨fb, 0, none⟩ = some (.string s) := c0
      clear hal
      by_cases hlt : k < 258
      · have kk : (k : Int) < 258 := by omega
        obtain ⟨P, hP⟩ : ∃ P, P = p + k := ⟨_, rfl⟩
        obtain ⟨Q, hQ⟩ : ∃ Q, Q = A + k := ⟨_, rfl⟩
        have i1 : P < s.size := by omega
        have i2 : Q < s.size := by omega
        have i3 : (P : Int) < (s.size : Int) := by omega
        have i4 : (Q : Int) < (s.size : Int) := by omega
        have i5 : (p : Int) + (k : Int) = (P : Int) := by omega
        have i6 : (A : Int) + (k : Int) = (Q : Int) := by omega
        have i7 : IntKind.i64.wrap ((p : Int) + (k : Int)) = (P : Int) := by rw [i5]; exact i64_small _ (by omega) (by omega)
        have i8 : IntKind.i64.wrap ((A : Int) + (k : Int)) = (Q : Int) := by rw [i6]; exact i64_small _ (by omega) (by omega)
        have i9 : IntKind.i64.wrap (P : Int) = (P : Int) := i64_small _ (by omega) (by omega)
        have i10 : IntKind.i64.wrap (Q : Int) = (Q : Int) := i64_small _ (by omega) (by omega)
        have HNX : Hid (s[P] = s[Q] → AlikeN s p A (k + 1)) := fun h => ⟨by omega, by omega, fun j hj => by
          by_cases hjk : j < k
          · exact HAL.out.2.2 j hjk
          · obtain rfl : j = k := by omega
            rw [← hP, ← hQ, getD_byte s P i1, getD_byte s Q i2]
            exact h⟩
        clear hP hQ
        generalize hW : w.drewN m = W at *
        have HW := hidM hW
        clear hW
        by_cases hsame : s[P] = s[Q]
        · have b1 : (((s[P]).toNat : Int) == ((s[Q]).toNat : Int)) = true := by rw [hsame]; simp
          have HNX2 := hidM (HNX.out hsame)
          clear HNX hsame
          go_wp2
          go_quiet (fail)
          go_wp2
          go_roundw
          case rel => exact ⟨k + 1, by omega, by go_num, HNX2.out, m + nq, by rw [← HW.out]; simp only [World.drewN, Nat.add_assoc]⟩
          case measure => (show 258 - ((k : Int) + 1).toNat < 258 - ((k : Int)).toNat); omega
        · have b1 : (((s[P]).toNat : Int) == ((s[Q]).toNat : Int)) = false := by
            refine beq_false_of_ne fun h => hsame ?_
            have : (s[P]).toNat = (s[Q]).toNat := by omega
            exact UInt8.toNat_inj.1 this
          clear HNX hsame
          go_wp2
          go_quiet (fail)
          go_wp2
          go_ret
          exact ⟨⟨k, HAL.out, rfl⟩, m + nq, by rw [← HW.out]; simp only [World.drewN, Nat.add_assoc]⟩
      · obtain rfl : k = 258 := by omega
        generalize hW : w.drewN m = W at *
        have HW := hidM hW
        clear hW
        go_wp2
        go_quiet (fail)
        go_wp2
        go_ret
        exact ⟨⟨_, HAL.out, rfl⟩, m + nq, by rw [← HW.out]; simp only [World.drewN, Nat.add_assoc]⟩
/-- a length and a distance that can be put: or nothing was found -/
def LongG (s : ByteArray) (A k d : Nat) : Prop := (k = 0 ∧ d = 0) ∨ (1 ≤ d ∧ d ≤ 32768 ∧ d ≤ A ∧ AlikeN s (A - d) A k)
def PlaceG (A L : Nat) (v : Int) : Prop := v = -1 ∨ ∃ q : Nat, v = (q : Int) ∧ q < A ∧ q + 3 ≤ L
def LongPost (s : ByteArray) (A : Nat) (e : Ending) : Prop := ∃ k d : Nat, LongG s A k d ∧ e = .returned (.tuple #[.int .i64 (k : Int), .int .i64 (d : Int)])
set_option maxHeartbeats 4000000 in
set_option maxRecDepth 100000 in
theorem longest_any (fb mb eb A : Nat) (s : ByteArray) (w : World) (hF : Fnd w fb s mb eb A) (hs : s.size ≤ 1000000) (hA : A ≤ s.size) :
    Calls Tryz.prog 173 #[.pointer (some ⟨fb, 0, none⟩), .int .i64 (A : Int)] w fun e w' => LongPost s A e ∧ Below w.heap.size w w' := by
  have HF := hidM hF
  clear hF
  go_enter Tryz.func173, Tryz.ntmps173
  go_wp2_with fail
  refine (begin_any fb mb eb A s w HF.out.box hs hA).mono ?_
  rintro _ w1 ⟨hp, hb1⟩
  have HB1 := hidM hb1
  have HF1 := hidM (HF.out.later hb1)
  clear hb1 HF
  rcases hp with ⟨hsh, rfl⟩ | ⟨hlo, x, y, z, rfl⟩
  · unfold kV
    go_wp2
    go_ret2
    exact ⟨⟨0, 0, .inl ⟨rfl, rfl⟩, rfl⟩, HB1.out.trans (((Below.refl w1.heap.size w1).alloc (Nat.le_refl _) _).mono HB1.out.size)⟩
  · have HB2 : Hid (Below w1.heap.size w1 (w1.alloc (.cells #[.int .u8 (x.toNat : Int), .int .u8 (y.toNat : Int), .int .u8 (z.toNat : Int)] 297))) := (Below.refl _ _).alloc (Nat.le_refl _) _
    have HF2 := hidM (HF1.out.later HB2.out)
    have HB02 : Hid (Below w.heap.size w (w1.alloc (.cells #[.int .u8 (x.toNat : Int), .int .u8 (y.toNat : Int), .int .u8 (z.toNat : Int)] 297))) := HB1.out.trans (HB2.out.mono HB1.out.size)
    unfold kV
    go_wp2_with fail
    generalize w1.alloc (.cells #[.int .u8 (x.toNat : Int), .int .u8 (y.toNat : Int), .int .u8 (z.toNat : Int)] 297) = w2 at *
    obtain ⟨n, hn, hM⟩ := HF2.out.map
    refine (newest_any fb mb eb A n s x y z w2 HF2.out.box hM).mono ?_
    rintro e3 w3 ⟨hq, hb3⟩
    have HF3 := hidM (HF2.out.later hb3)
    have HB3 : Hid (Below w.heap.size w w3) := HB02.out.trans (hb3.mono HB02.out.size)
    clear hb3 hM HF2 HB02 HB2 HF1 HB1
    obtain ⟨pl, hpl, rfl⟩ : ∃ pl : Int, PlaceG A s.size pl ∧ e3 = Ending.returned (.int .i64 pl) := by
      rcases hq with rfl | ⟨q, h1, h2, rfl⟩
      · exact ⟨-1, .inl rfl, rfl⟩
      · exact ⟨q, .inr ⟨q, rfl, h1, h2⟩, rfl⟩
    have HPL := hidM hpl
    clear hpl hq
    go_wp2
    go_loopw [8, 9, 10, 11] (fun lv dv pv tv wr => ∃ (k d t : Nat) (pl : Int), lv = .int .i64 (k : Int) ∧ dv = .int .i64 (d : Int) ∧ pv = .int .i64 pl ∧ tv = .int .i64 (t : Int) ∧ t ≤ 32 ∧ LongG s A k d ∧ PlaceG A s.size pl ∧ Fnd wr fb s mb eb A ∧ Below w.heap.size w wr) (fun _ _ _ tv _ => 32 - (intOf tv).toNat)
    case atStart => exact ⟨0, 0, 0, pl, rfl, rfl, rfl, rfl, by decide, .inl ⟨rfl, rfl⟩, HPL.out, HF3.out, HB3.out⟩
    case round =>
      obtain ⟨k, d, t, pl, rfl, rfl, rfl, rfl, ht, hlg, hpg, hfn, hbl⟩ := hrel
      have HLG := hidM hlg
      have HFN := hidM hfn
      have HBL := hidM hbl
      clear hlg hfn hbl HF3 HB3 HPL
      by_cases htl : t < 32
      · have t1 : (t : Int) < 32 := by omega
        rcases hpg with rfl | ⟨q, rfl, hq1, hq2⟩
        · go_wp2
          go_ret2
          exact ⟨⟨k, d, HLG.out, rfl⟩, HBL.out⟩
        · have q1 : ((q : Int) != -1) = true := bne_iff_ne.2 (by omega)
          have q0 : ((q : Int) == -1) = false := beq_false_of_ne (by omega)
          obtain ⟨df, hdf⟩ : ∃ df, df = A - q := ⟨_, rfl⟩
          have q2 : (A : Int) - (q : Int) = (df : Int) := by omega
          have HDF := hidM hdf
          have hdf1 : 1 ≤ df := by omega
          have hdfA : df ≤ A := by omega
          clear hdf
          by_cases hfar : df ≤ 32768
          · have q3 : (df : Int) ≤ 32768 := by omega
            go_wp2_with fail
            refine (alike_any fb mb eb q A s wr HFN.out.box hs hA hq1).mono ?_
            rintro _ w5 ⟨⟨k2, hal, rfl⟩, m5, rfl⟩
            have HF5 : Hid (Fnd (wr.drewN m5) fb s mb eb A) := HFN.out.later (below_drewN (Below.refl _ _) m5)
            have HB5 : Hid (Below w.heap.size w (wr.drewN m5)) := HBL.out.trans (below_drewN (Below.refl _ _) m5)
            have HNEW : Hid (LongG s A k2 df) := .inr ⟨hdf1, hfar, hdfA, by rw [show A - df = q by have := HDF.out; omega]; exact hal⟩
            have hk2 := hal.1
            generalize wr.drewN m5 = w6 at *
            obtain ⟨E, hE, hGE⟩ := HF5.out.row
            have kE := hE.cell q (by omega)
            have hEq := hGE q hq1 hq2
            have c2 := HF5.out.box.c2
            have j1 : (q : Int) < (s.size : Int) := by omega
            have HPN : Hid (PlaceG A s.size (E q)) := by
              rcases hEq with h | ⟨r, h, hr⟩
              · exact .inl h
              · exact .inr ⟨r, h, by omega, by omega⟩
            generalize E q = ep at *
            clear hal hE hGE hEq
            by_cases hgt : k < k2
            · have g1 : (k : Int) < (k2 : Int) := by omega
              by_cases h258 : k2 = 258
              · subst h258
                go_wp2
                go_ret2
                exact ⟨⟨258, df, HNEW.out, rfl⟩, HB5.out⟩
              · have g2 : ((k2 : Int) == 258) = false := by simp; omega
                go_wp2
                go_roundw
                case rel => exact ⟨k2, df, t + 1, ep, rfl, rfl, rfl, by go_num, by omega, HNEW.out, HPN.out, HF5.out, HB5.out⟩
                case measure => (show 32 - ((t : Int) + 1).toNat < 32 - ((t : Int)).toNat); omega
            · have g1 : ¬ (k : Int) < (k2 : Int) := by omega
              by_cases h258 : k = 258
              · subst h258
                go_wp2
                go_ret2
                exact ⟨⟨258, d, HLG.out, rfl⟩, HB5.out⟩
              · have g2 : ((k : Int) == 258) = false := by simp; omega
                go_wp2
                go_roundw
                case rel => exact ⟨k, d, t + 1, ep, rfl, rfl, rfl, by go_num, by omega, HLG.out, HPN.out, HF5.out, HB5.out⟩
                case measure => (show 32 - ((t : Int) + 1).toNat < 32 - ((t : Int)).toNat); omega
          · have q3 : ¬ (df : Int) ≤ 32768 := by omega
            go_wp2
            go_ret2
            exact ⟨⟨k, d, HLG.out, rfl⟩, HBL.out⟩
      · have t1 : ¬ (t : Int) < 32 := by omega
        go_wp2
        go_ret2
        exact ⟨⟨k, d, HLG.out, rfl⟩, HBL.out⟩
set_option maxHeartbeats 1000000 in
set_option maxRecDepth 100000 in
theorem newFinder_any (s : ByteArray) (w : World) (hs : s.size ≤ 1000000) :
    Calls Tryz.prog 172 #[.string s] w fun e w' => (∃ fb mb eb, e = .returned (.pointer (some ⟨fb, 0, none⟩)) ∧ Fnd w' fb s mb eb 0 ∧ w.heap.size ≤ fb ∧ w.heap.size ≤ mb ∧ w.heap.size ≤ eb) ∧ Below w.heap.size w w' := by
  have hmm := @run_makeMap Tryz.prog
  obtain ⟨i3, hi3, hz30, hz31, hz32⟩ := info_parts Tryz.info3
  have HB0 : Hid (Below w.heap.size w (w.alloc (.map #[] 0))) := (Below.refl _ _).alloc (Nat.le_refl _) _
  have HM0 : Hid ((w.alloc (.map #[] 0)).ownsMap Tryz.prog 297 (plainElem (H := Unit) Tryz.prog 3) w.heap.size 0 (.map [])) := World.ownsMap_made _ _ _ _
  go_enter Tryz.func172, Tryz.ntmps172
  go_wp2_with (at_make; refine wpList_make_full _ rfl _ _ 135 rfl w.heap.size 3 i3 (.int .i64 0) 1 Tryz.underlying135 hi3 hz30 hz31 .i64 .i64 _ _ s.size rfl rfl rfl rfl ?c1 ?c2 ?c3 ?_)
  case c1 => rw [hz32]; omega
  case c2 => unfold maxLen; omega
  case c3 => simp
  intro w1 hown hgr
  have HE1 : Hid (ABox w1 (w.heap.size + 1) 3 s.size (fun _ => .int .i64 0)) := by
    have h := ABox.of_row (h := fun _ => .int .i64 0) hown (by rw [← made_one, Nat.mul_one])
    rw [Nat.mul_one] at h
    exact h
  have HM1 : Hid (FMap w1 w.heap.size 0 s.size 0) := ⟨_, HM0.out.kept hgr (by simp), goodF_empty 0 s.size⟩
  have HB1 : Hid (Below w.heap.size w w1) := HB0.out.grown hgr (by simp) (by intro k hk; cases hk)
  have HSZ : Hid (w.heap.size + 2 ≤ w1.heap.size) := by have := HE1.out.lt; unfold Hid; omega
  clear hown hgr HM0 HB0
  have hs2 := HSZ.out
  go_wp2
  go_ret
  refine ⟨⟨w1.heap.size, w.heap.size, w.heap.size + 1, rfl, ⟨heap_alloc_new w1 _, ⟨0, Nat.le_refl _, HM1.out.same (Below.heap_alloc w1 _ _ (by omega))⟩, ⟨fun _ => 0, HE1.out.same (Below.heap_alloc w1 _ _ (by omega)), fun i hi => by omega⟩, by omega, by omega, by omega⟩, by omega, by omega, by omega⟩, HB1.out.alloc (by omega) _⟩
end Go.Proofs.YtlmeoahcpmikiaaGreatDoor
