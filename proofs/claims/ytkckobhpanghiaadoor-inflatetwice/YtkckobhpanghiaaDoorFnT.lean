/-
  The finder, as a function of its text: where three bytes stood last, what stood before, how much is alike, the longest.
-/
import Derived.Test.YtkckobhpanghiaaDoorFnd
namespace Go.Proofs.YtkckobhpanghiaaDoor.Twi
open Go.RowKit Go.Maps

/-- the three bytes at a place -/
def ky (s : ByteArray) (p : Nat) : UInt8 × UInt8 × UInt8 := (s.data.toList.getD p 0, s.data.toList.getD (p + 1) 0, s.data.toList.getD (p + 2) 0)
/-- the last place below A at which three bytes stand, or -1 -/
def lastI (s : ByteArray) (k : UInt8 × UInt8 × UInt8) : Nat → Int
  | 0 => -1
  | A + 1 => if A + 3 ≤ s.size ∧ ky s A = k then (A : Int) else lastI s k A
theorem lastI_at (s : ByteArray) (k : UInt8 × UInt8 × UInt8) : ∀ A, lastI s k A = -1 ∨ ∃ p : Nat, lastI s k A = (p : Int) ∧ p < A ∧ p + 3 ≤ s.size
  | 0 => .inl rfl
  | A + 1 => by
    unfold lastI
    split
    · rename_i h
      exact .inr ⟨A, rfl, by omega, h.1⟩
    · rcases lastI_at s k A with h | ⟨p, h1, h2, h3⟩
      · exact .inl h
      · exact .inr ⟨p, h1, by omega, h3⟩
theorem lastI_yes {s : ByteArray} {k : UInt8 × UInt8 × UInt8} {A : Nat} (h : A + 3 ≤ s.size) (hk : ky s A = k) : lastI s k (A + 1) = (A : Int) := by
  rw [lastI, if_pos ⟨h, hk⟩]
theorem lastI_no {s : ByteArray} {k : UInt8 × UInt8 × UInt8} {A : Nat} (h : ¬ (A + 3 ≤ s.size ∧ ky s A = k)) : lastI s k (A + 1) = lastI s k A := by
  rw [lastI, if_neg h]
theorem kV_inj {a b c x y z : UInt8} (h : kV a b c = kV x y z) : a = x ∧ b = y ∧ c = z := by
  unfold kV at h
  simp only [Value.agg.injEq, Array.mk.injEq, List.cons.injEq, Value.int.injEq, true_and, and_true] at h
  obtain ⟨h1, h2, h3⟩ := h
  exact ⟨UInt8.toNat_inj.1 (by omega), UInt8.toNat_inj.1 (by omega), UInt8.toNat_inj.1 (by omega)⟩
/-- what is there of three bytes is where they stood last below A -/
def GoodF (s : ByteArray) (A : Nat) (D : DataW Unit) : Prop :=
  ∀ (x y z : UInt8) (kl : List UInt8), keyOf Tryd.prog 125 (kV x y z) = some (.string kl) →
    (lastI s (x, y, z) A = -1 ∧ Maps.has D (.string kl) = false) ∨ (lastI s (x, y, z) A ≠ -1 ∧ Maps.has D (.string kl) = true ∧ D.atKey (.string kl) (.lit (.int .i64 0)) = .lit (.int .i64 (lastI s (x, y, z) A)))
theorem goodF_empty (s : ByteArray) : GoodF s 0 (.map []) := by
  intro x y z kl _
  exact .inl ⟨rfl, by simp [Maps.has]⟩
theorem GoodF.skip {s : ByteArray} {A : Nat} {D : DataW Unit} (h : GoodF s A D) (hA : s.size < A + 3) : GoodF s (A + 1) D := fun x y z kl hk => by
  rw [lastI_no (fun e => by omega)]
  exact h x y z kl hk
theorem goodF_put {s : ByteArray} {A : Nat} {D : DataW Unit} (h : GoodF s A D) (hD : IsMap D) {x y z : UInt8} {kl : List UInt8} (hk : keyOf Tryd.prog 125 (kV x y z) = some (.string kl)) (hy : ky s A = (x, y, z)) (hA : A + 3 ≤ s.size) :
    GoodF s (A + 1) (D.put (.string kl) (.lit (.int .i64 (A : Int)))) := by
  intro x' y' z' kl' hk'
  by_cases he : kl' = kl
  · subst he
    obtain ⟨rfl, rfl, rfl⟩ := kV_inj (key125.inj hk hk')
    rw [lastI_yes hA hy, atKey_put_same hD (show WideAt.IsKeyLit (.string _) from trivial)]
    refine .inr ⟨by omega, ?_, rfl⟩
    exact has_put_same hD (show WideAt.IsKeyLit (.string _) from trivial) _
  · have hne : (Lit.string kl') ≠ .string kl := fun e => he (by simpa using e)
    have hn : ¬ (A + 3 ≤ s.size ∧ ky s A = (x', y', z')) := fun e => he (by
      rw [e.2] at hy
      simp only [Prod.mk.injEq] at hy
      obtain ⟨rfl, rfl, rfl⟩ := hy
      rw [hk] at hk'
      simpa using hk'.symm)
    rw [lastI_no hn, has_put_other hne, atKey_put_other hne]
    exact h x' y' z' kl' hk'
/-- the finder's map -/
def FMap (w : World) (b : Nat) (s : ByteArray) (A n : Nat) : Prop := ∃ D : DataW Unit, w.ownsMap Tryd.prog 125 (plainElem Tryd.prog 3) b n D ∧ GoodF s A D
theorem FMap.same {w w' : World} {b A n : Nat} {s : ByteArray} (h : FMap w b s A n) (hb : w'.heap[b]? = w.heap[b]?) : FMap w' b s A n := by
  obtain ⟨D, ⟨es, clock, h1, h2⟩, h3⟩ := h
  exact ⟨D, ⟨es, clock, hb.trans h1, h2⟩, h3⟩
theorem FMap.lt {w : World} {b A n : Nat} {s : ByteArray} (h : FMap w b s A n) : b < w.heap.size := by
  obtain ⟨D, h1, _⟩ := h
  exact h1.lt
theorem FMap.look {w : World} {b A n : Nat} {s : ByteArray} (h : FMap w b s A n) (x y z : UInt8) :
    ∃ (v : Int) (f : Bool), (∀ k, (Instr.lookup 121 (.map (some b)) (kV x y z) true).run Tryd.prog (w.drewN k) = .ok (.tuple #[.int .i64 v, .bool f]) (w.drewN k)) ∧ ((f = false ∧ lastI s (x, y, z) A = -1) ∨ (f = true ∧ v = lastI s (x, y, z) A)) := by
  obtain ⟨D, hD, hG⟩ := h
  obtain ⟨kl, hk⟩ := key3 x y z
  have key : ∀ k, ∃ v : Int, (Instr.lookup 121 (.map (some b)) (kV x y z) true).run Tryd.prog (w.drewN k) = .ok (.tuple #[.int .i64 v, .bool (has D (.string kl))]) (w.drewN k) ∧ D.atKey (.string kl) (.lit (.int .i64 0)) = .lit (.int .i64 v) := fun k => by
    have hDk : (w.drewN k).ownsMap Tryd.prog 125 (plainElem Tryd.prog 3) b n D := hD
    obtain ⟨v, ps, h1, h2⟩ := hDk.look_ok key125 Tryd.underlying121 (zero3 _) (plainElem_int Tryd.underlying3 (WalkArith.wf_i64 ⟨by decide, by decide⟩)) hk
    obtain ⟨a, rfl, h3, _⟩ := plainElem_int_inv Tryd.underlying3 h2
    simp only [Prod.mk.injEq] at h3
    exact ⟨a, h1, h3.1⟩
  obtain ⟨v, h1, h2⟩ := key 0
  refine ⟨v, has D (.string kl), fun k => ?_, ?_⟩
  · obtain ⟨v', h3, h4⟩ := key k
    rw [h2] at h4
    simp only [DataW.lit.injEq, Lit.int.injEq, true_and] at h4
    rw [h4]
    exact h3
  · rcases hG x y z kl hk with ⟨h3, h4⟩ | ⟨_, h4, h5⟩
    · exact .inl ⟨h4, h3⟩
    · rw [h2] at h5
      simp only [DataW.lit.injEq, Lit.int.injEq, true_and] at h5
      exact .inr ⟨h4, h5⟩
theorem FMap.put {w : World} {b A n : Nat} {s : ByteArray} (h : FMap w b s A n) (hn : n < maxLen) (x y z : UInt8) (hy : ky s A = (x, y, z)) (hp3 : A + 3 ≤ s.size) (hL : s.size ≤ 1000000) (k : Nat) :
    ∃ w', (Instr.mapUpdate 121 (.map (some b)) (kV x y z) (.int .i64 (A : Int))).run Tryd.prog (w.drewN k) = .ok () w' ∧ FMap w' b s (A + 1) (n + 1) ∧ Only b w w' := by
  obtain ⟨D, hD, hG⟩ := h
  obtain ⟨kl, hk⟩ := key3 x y z
  have hDk : (w.drewN k).ownsMap Tryd.prog 125 (plainElem Tryd.prog 3) b n D := hD
  have hwf : (Lit.int .i64 (A : Int)).wf = true := WalkArith.wf_i64 ⟨by omega, by omega⟩
  obtain ⟨w', h1, h2, h3⟩ := hDk.store key125 Tryd.underlying121 hn hk (plainElem_int (H := Unit) Tryd.underlying3 hwf)
  refine ⟨w', h1, ⟨_, h2, goodF_put hG hD.isMap hk hy hp3⟩, ?_⟩
  obtain ⟨es, clock, es', clock', h4, rfl⟩ := h3
  have hlt : b < w.heap.size := hD.lt
  refine ⟨rfl, rfl, rfl, ?_, fun j hj => ?_⟩
  · simp [ChangeMaps.setBlock]
  · show (ChangeMaps.setBlock (w.drewN k) b (.map es' clock')).heap[j]? = w.heap[j]?
    unfold ChangeMaps.setBlock
    simp [Ne.symm hj]
/-- what beginningAt answers -/
def BegPost (s : ByteArray) (A : Nat) (e : Ending) : Prop :=
  (s.size < A + 3 ∧ e = .returned (.tuple #[kV 0 0 0, .bool false])) ∨
  (A + 3 ≤ s.size ∧ ∃ x y z, ky s A = (x, y, z) ∧ e = .returned (.tuple #[kV x y z, .bool true]))
set_option maxHeartbeats 1000000 in
set_option maxRecDepth 100000 in
theorem begin_any (fb mb eb A : Nat) (s : ByteArray) (w : World) (hF : FBox w fb s mb eb) (hs : s.size ≤ 1000000) (hA : A ≤ s.size) :
    Calls Tryd.prog 92 #[.pointer (some ⟨fb, 0, none⟩), .int .i64 (A : Int)] w fun e w' => BegPost s A e ∧ Below w.heap.size w w' := by
  have c0 := hF.c0
  have hlt := hF.lt
  have n0 := World.new_ne w _ c0
  have k0 : ∀ ob, (w.alloc ob).cell? ⟨fb, 0, none⟩ = some (.string s) := fun ob => (World.cell?_alloc_some w _ ob (by rw [c0]; rfl)).trans c0
  obtain ⟨d, hd⟩ : ∃ d, d = s.size - A := ⟨_, rfl⟩
  have e1 : (s.size : Int) - (A : Int) = (d : Int) := by omega
  clear hF
  go_enter Tryd.func92, Tryd.ntmps92
  by_cases h3 : d < 3
  · have e2 : (d : Int) < 3 := by omega
    have HS : Hid (s.size < A + 3) := by unfold Hid; omega
    clear hd h3
    go_wp2_with fail
    refine bodyPost_ret (results_box rfl _ _ w.heap.size #[.int .u8 0, .int .u8 0, .int .u8 0] rfl (run_loadVar_row _ w.heap.size 125 125 #[.int .u8 0, .int .u8 0, .int .u8 0] (0, 0) _ (heap_alloc_new w _) Tryd.underlying125 rfl size125)) rfl ?_
    exact ⟨.inl ⟨HS.out, rfl⟩, (Below.refl _ _).alloc (Nat.le_refl _) _⟩
  · have e2 : ¬ (d : Int) < 3 := by omega
    obtain ⟨A1, hA1⟩ : ∃ A1, A1 = A + 1 := ⟨_, rfl⟩
    obtain ⟨A2, hA2⟩ : ∃ A2, A2 = A + 2 := ⟨_, rfl⟩
    have i1 : A < s.size := by omega
    have i2 : A1 < s.size := by omega
    have i3 : A2 < s.size := by omega
    have j1 : (A : Int) < (s.size : Int) := by omega
    have j2 : (A1 : Int) < (s.size : Int) := by omega
    have j3 : (A2 : Int) < (s.size : Int) := by omega
    have q1 : (A : Int) + 1 = (A1 : Int) := by omega
    have q2 : (A : Int) + 2 = (A2 : Int) := by omega
    have q3 : IntKind.i64.wrap (A1 : Int) = (A1 : Int) := i64_small _ (by omega) (by omega)
    have q4 : IntKind.i64.wrap (A2 : Int) = (A2 : Int) := i64_small _ (by omega) (by omega)
    have q5 : IntKind.i64.wrap ((A : Int) + 1) = (A1 : Int) := by rw [q1]; exact q3
    have q6 : IntKind.i64.wrap ((A : Int) + 2) = (A2 : Int) := by rw [q2]; exact q4
    have HS : Hid (A + 3 ≤ s.size) := by unfold Hid; omega
    have HKY : Hid (ky s A = (s[A], s[A1], s[A2])) := by unfold Hid ky; rw [← hA1, ← hA2, getD_byte s A i1, getD_byte s A1 i2, getD_byte s A2 i3]
    clear hd hA1 hA2
    have m1 : fb ≠ w.heap.size := by omega
    have m2 : w.heap.size ≠ fb := by omega
    go_wp2_with fail
    go_region_held3 (fun w' => w'.cell? ⟨fb, 0, none⟩ = some (.string s)) (go_keep) (fail)
    all_goals
      go_wp2_with fail
      refine bodyPost_ret (results_box rfl _ _ w.heap.size #[.int .u8 (s[A].toNat : Int), .int .u8 (s[A1].toNat : Int), .int .u8 (s[A2].toNat : Int)] rfl (run_loadVar_row _ w.heap.size 125 125 #[.int .u8 (s[A].toNat : Int), .int .u8 (s[A1].toNat : Int), .int .u8 (s[A2].toNat : Int)] (0, 0) _ (heap_alloc_new w _) Tryd.underlying125 rfl size125)) rfl ?_
      exact ⟨.inr ⟨HS.out, s[A], s[A1], s[A2], HKY.out, rfl⟩, ((Below.refl _ _).alloc (Nat.le_refl _) _).drew⟩
set_option maxHeartbeats 1000000 in
set_option maxRecDepth 100000 in
theorem newest_any (fb mb eb A n : Nat) (s : ByteArray) (x y z : UInt8) (w : World) (hF : FBox w fb s mb eb) (hM : FMap w mb s A n) :
    Calls Tryd.prog 93 #[.pointer (some ⟨fb, 0, none⟩), kV x y z] w fun e w' => e = .returned (.int .i64 (lastI s (x, y, z) A)) ∧ Below w.heap.size w w' := by
  have HFB : Hid (FBox (w.alloc (.cells #[.int .u8 (x.toNat : Int), .int .u8 (y.toNat : Int), .int .u8 (z.toNat : Int)] 125)) fb s mb eb) := hF.same (Below.heap_alloc w _ fb hF.lt)
  have HFM : Hid (FMap (w.alloc (.cells #[.int .u8 (x.toNat : Int), .int .u8 (y.toNat : Int), .int .u8 (z.toNat : Int)] 125)) mb s A n) := hM.same (Below.heap_alloc w _ mb hM.lt)
  have HB : Hid (Below w.heap.size w (w.alloc (.cells #[.int .u8 (x.toNat : Int), .int .u8 (y.toNat : Int), .int .u8 (z.toNat : Int)] 125))) := (Below.refl _ _).alloc (Nat.le_refl _) _
  have HK : Hid ((w.alloc (.cells #[.int .u8 (x.toNat : Int), .int .u8 (y.toNat : Int), .int .u8 (z.toNat : Int)] 125)).heap[w.heap.size]? = some (.cells #[.int .u8 (x.toNat : Int), .int .u8 (y.toNat : Int), .int .u8 (z.toNat : Int)] 125 (0, 0))) := heap_alloc_new w _
  clear hF hM
  unfold kV
  go_enter Tryd.func93, Tryd.ntmps93
  go_wp2_with fail
  generalize w.alloc (.cells #[.int .u8 (x.toNat : Int), .int .u8 (y.toNat : Int), .int .u8 (z.toNat : Int)] 125) = w1 at *
  have c1 := HFB.out.c1
  have k0 : w1.cell? ⟨w.heap.size, 0, none⟩ = some (.int .u8 (x.toNat : Int)) := by rw [cell_of_row w1 _ _ _ 125 (0, 0) HK.out]; rfl
  have k1 : w1.cell? ⟨w.heap.size, 1, none⟩ = some (.int .u8 (y.toNat : Int)) := by rw [cell_of_row w1 _ _ _ 125 (0, 0) HK.out]; rfl
  have k2 : w1.cell? ⟨w.heap.size, 2, none⟩ = some (.int .u8 (z.toNat : Int)) := by rw [cell_of_row w1 _ _ _ 125 (0, 0) HK.out]; rfl
  obtain ⟨v, f, hlk, hgood⟩ := HFM.out.look x y z
  unfold kV at hlk
  have HGD := hidM hgood
  clear hgood
  cases f with
  | true =>
    go_quiet (fail)
    go_wp2
    go_ret
    refine ⟨?_, HB.out.trans (below_drewN (Below.refl _ _) _)⟩
    rcases HGD.out with ⟨h, _⟩ | ⟨_, h⟩
    · cases h
    · (rw [h]; try rfl)
  | false =>
    go_quiet (fail)
    go_wp2
    go_ret
    refine ⟨?_, HB.out.trans (below_drewN (Below.refl _ _) _)⟩
    rcases HGD.out with ⟨_, h⟩ | ⟨h, _⟩
    · (rw [h]; try rfl)
    · cases h
/-- what stands at places that were added: where their bytes stood last before -/
def GoodE (E : Nat → Int) (s : ByteArray) (A : Nat) : Prop := ∀ i, i < A → i + 3 ≤ s.size → E i = lastI s (ky s i) i
/-- the finder, with the places below A added -/
structure Fnd (w : World) (fb : Nat) (s : ByteArray) (mb eb A : Nat) : Prop where
  box : FBox w fb s mb eb
  map : ∃ n, n ≤ A ∧ FMap w mb s A n
  row : ∃ E, ABox w eb 3 s.size (fun i => .int .i64 (E i)) ∧ GoodE E s A
  ne1 : fb ≠ mb
  ne2 : fb ≠ eb
  ne3 : mb ≠ eb
theorem Fnd.later {w w' : World} {fb mb eb A : Nat} {s : ByteArray} (h : Fnd w fb s mb eb A) (hb : Below w.heap.size w w') : Fnd w' fb s mb eb A := by
  obtain ⟨n, hn, hm⟩ := h.map
  obtain ⟨E, he, hg⟩ := h.row
  exact ⟨h.box.same (hb.block _ h.box.lt), ⟨n, hn, hm.same (hb.block _ hm.lt)⟩, ⟨E, he.same (hb.block _ he.lt), hg⟩, h.ne1, h.ne2, h.ne3⟩
set_option maxHeartbeats 2000000 in
set_option maxRecDepth 100000 in
theorem add_any (fb mb eb A : Nat) (s : ByteArray) (w : World) (hF : Fnd w fb s mb eb A) (hs : s.size ≤ 1000000) (hA : A < s.size) :
    Calls Tryd.prog 69 #[.pointer (some ⟨fb, 0, none⟩), .int .i64 (A : Int)] w fun e w' => e = .returned (.tuple #[]) ∧ Fnd w' fb s mb eb (A + 1) ∧ ButF mb eb w w' := by
  have HF := hidM hF
  clear hF
  go_enter Tryd.func69, Tryd.ntmps69
  go_wp2_with fail
  refine (begin_any fb mb eb A s w HF.out.box hs (by omega)).mono ?_
  rintro _ w1 ⟨hp, hb1⟩
  have HB1 := hidM hb1
  have HF1 := hidM (HF.out.later hb1)
  clear hb1
  rcases hp with ⟨hsh, rfl⟩ | ⟨hlo, x, y, z, hky, rfl⟩
  · unfold kV
    go_wp2
    refine bodyPost_end (results_none rfl _ _ _) rfl ⟨rfl, ?_, ?_⟩
    · have hb2 : Below w1.heap.size w1 (w1.alloc (.cells #[.int .u8 0, .int .u8 0, .int .u8 0] 125)) := (Below.refl _ _).alloc (Nat.le_refl _) _
      have h := HF1.out.later hb2
      obtain ⟨n, hn, D, hD, hG⟩ := h.map
      obtain ⟨E, he, hg⟩ := h.row
      exact ⟨h.box, ⟨n, by omega, D, hD, hG.skip hsh⟩, ⟨E, he, fun i hi h3 => by
        by_cases hiA : i < A
        · exact hg i hiA h3
        · omega⟩, h.ne1, h.ne2, h.ne3⟩
    · exact ButF.of_below (HB1.out.trans (((Below.refl w1.heap.size w1).alloc (Nat.le_refl _) _).mono HB1.out.size))
  · have HKY := hidM hky
    have HLO := hidM hlo
    clear hky
    unfold kV
    have HB2 : Hid (Below w1.heap.size w1 (w1.alloc (.cells #[.int .u8 (x.toNat : Int), .int .u8 (y.toNat : Int), .int .u8 (z.toNat : Int)] 125))) := (Below.refl _ _).alloc (Nat.le_refl _) _
    have HK : Hid ((w1.alloc (.cells #[.int .u8 (x.toNat : Int), .int .u8 (y.toNat : Int), .int .u8 (z.toNat : Int)] 125)).heap[w1.heap.size]? = some (.cells #[.int .u8 (x.toNat : Int), .int .u8 (y.toNat : Int), .int .u8 (z.toNat : Int)] 125 (0, 0))) := heap_alloc_new w1 _
    have HF2 := hidM (HF1.out.later HB2.out)
    have HBU2 : Hid (ButF mb eb w (w1.alloc (.cells #[.int .u8 (x.toNat : Int), .int .u8 (y.toNat : Int), .int .u8 (z.toNat : Int)] 125))) := ButF.of_below (HB1.out.trans (HB2.out.mono HB1.out.size))
    have HG3 : Hid (fb ≠ w1.heap.size ∧ mb ≠ w1.heap.size ∧ eb ≠ w1.heap.size ∧ w1.heap.size < (w1.alloc (.cells #[.int .u8 (x.toNat : Int), .int .u8 (y.toNat : Int), .int .u8 (z.toNat : Int)] 125)).heap.size) := by
      have q1 := HF1.out.box.lt
      obtain ⟨n, _, hm⟩ := HF1.out.map
      obtain ⟨E, he, _⟩ := HF1.out.row
      have q2 := hm.lt
      have q3 := he.lt
      refine ⟨by omega, by omega, by omega, by simp⟩
    go_wp2_with fail
    generalize w1.alloc (.cells #[.int .u8 (x.toNat : Int), .int .u8 (y.toNat : Int), .int .u8 (z.toNat : Int)] 125) = w2 at *
    generalize w1.heap.size = g at *
    clear HB1 HB2 HF1
    obtain ⟨E, hE, hGE⟩ := HF2.out.row
    obtain ⟨n, hn, hM⟩ := HF2.out.map
    have HE := hidM hE
    have HGE := hidM hGE
    have HM := hidM hM
    have hebl := hE.lt
    have hfbl := HF2.out.box.lt
    have k0 : w2.cell? ⟨g, 0, none⟩ = some (.int .u8 (x.toNat : Int)) := by rw [cell_of_row w2 _ _ _ 125 (0, 0) HK.out]; rfl
    have k1 : w2.cell? ⟨g, 1, none⟩ = some (.int .u8 (y.toNat : Int)) := by rw [cell_of_row w2 _ _ _ 125 (0, 0) HK.out]; rfl
    have k2 : w2.cell? ⟨g, 2, none⟩ = some (.int .u8 (z.toNat : Int)) := by rw [cell_of_row w2 _ _ _ 125 (0, 0) HK.out]; rfl
    have kE := hE.cell A hA
    have kF := hE.fz A
    have c2 := HF2.out.box.c2
    have HS : Hid (AddS w2 fb g eb A s x y z (E A) w2) := ⟨c2, k0, k1, k2, kE, kF, Below.refl _ _⟩
    have HN := hidM (fun V (hV : Hid (DrewOf w2 V)) => (by
      obtain ⟨k, rfl⟩ := hV
      refine (newest_any fb mb eb A n s x y z (w2.drewN k) HF2.out.box hM).mono ?_
      rintro e w' ⟨h1, h2⟩
      have h3 : Below w2.heap.size w2 w' := (below_drewN (Below.refl _ _) k).trans h2
      exact ⟨_, h1, rfl, HS.out.below hfbl HG3.out.2.2.2 hebl h3⟩ :
      Calls Tryd.prog 93 #[.pointer (some ⟨fb, 0, none⟩), .agg #[.int .u8 (x.toNat : Int), .int .u8 (y.toNat : Int), .int .u8 (z.toNat : Int)]] V fun e w' => ∃ v : Int, e = .returned (.int .i64 v) ∧ Hid (v = lastI s (x, y, z) A) ∧ AddS w2 fb g eb A s x y z (E A) w'))
    have HKEEP := hidM (fun V (hV : Hid (DrewOf w2 V)) => (by
      obtain ⟨k, rfl⟩ := hV
      exact HS.out.below hfbl HG3.out.2.2.2 hebl (below_drewN (Below.refl _ _) k) : AddS w2 fb g eb A s x y z (E A) V))
    have HD := DrewOf.refl w2
    have j1 : (A : Int) < (s.size : Int) := by omega
    generalize E A = e0 at *
    clear hE hM hGE
    have m1 : fb ≠ eb := HF2.out.ne2
    have m2 : eb ≠ fb := fun e => HF2.out.ne2 e.symm
    have m3 : eb ≠ g := HG3.out.2.2.1
    have m4 : g ≠ eb := fun e => HG3.out.2.2.1 e.symm
    go_region_held3 (fun w' => w'.cell? ⟨fb, 2, none⟩ = some (.slice (some ⟨eb, 0, none⟩) s.size s.size) ∧ w'.cell? ⟨g, 0, none⟩ = some (.int .u8 (x.toNat : Int)) ∧ w'.cell? ⟨g, 1, none⟩ = some (.int .u8 (y.toNat : Int)) ∧ w'.cell? ⟨g, 2, none⟩ = some (.int .u8 (z.toNat : Int)))
      (first | exact ⟨hS93.1, hS93.2.1, hS93.2.2.1, hS93.2.2.2.1⟩ | go_keep)
      (first
        | (go_at_call 93; with_reducible refine (HN.out _ (by repeat (first | exact HD | apply DrewOf.drew | apply DrewOf.drewN))).mono ?_; rintro e w5 ⟨v, rfl, HV, hS93⟩; have kE5 := AddS.e hS93; have kF5 := AddS.f hS93))
    have HB5 : Hid (Below w2.heap.size w2 w5) := hS93.2.2.2.2.2.2
    have hE5 : ABox w5 eb 3 s.size (fun i => .int .i64 (E i)) := HE.out.same (HB5.out.block eb hebl)
    have HM5 : Hid (FMap w5 mb s A n) := HM.out.same (HB5.out.block mb HM.out.lt)
    have HX5 := hidM (HF2.out.box.same (HB5.out.block fb hfbl))
    have HFX : Hid (FBox (w5.setCell ⟨eb, A, none⟩ (.int .i64 v)) fb s mb eb) := HX5.out.same (Below.heap_setCell w5 ⟨eb, A, none⟩ _ fb m1)
    have HMX : Hid (FMap (w5.setCell ⟨eb, A, none⟩ (.int .i64 v)) mb s A n) := by
      obtain ⟨D, hD, hG⟩ := HM5.out.same (Below.heap_setCell w5 ⟨eb, A, none⟩ (.int .i64 v) mb HF2.out.ne3)
      exact ⟨D, hD, hG⟩
    have HEX : Hid (ABox (w5.setCell ⟨eb, A, none⟩ (.int .i64 v)) eb 3 s.size (fun i => .int .i64 (if i = A then v else E i))) := by
      have h := hE5.set A (.int .i64 v)
      have e : upd (fun i => Value.int .i64 (E i)) A (.int .i64 v) = fun i => .int .i64 (if i = A then v else E i) := by
        funext i
        by_cases hi : i = A
        · subst hi
          rw [upd_same, if_pos rfl]
        · rw [upd_other _ _ _ _ hi, if_neg hi]
      rw [e] at h
      exact h
    have HGX : Hid (GoodE (fun i => if i = A then v else E i) s (A + 1)) := fun i hi h3 => by
      by_cases hiA : i = A
      · subst hiA
        simp only [if_true]
        rw [HKY.out]
        exact HV.out
      · simp only [if_neg hiA]
        exact HGE.out i (by omega) h3
    have HKX : Hid ((w5.setCell ⟨eb, A, none⟩ (.int .i64 v)).heap[g]? = some (.cells #[.int .u8 (x.toNat : Int), .int .u8 (y.toNat : Int), .int .u8 (z.toNat : Int)] 125 (0, 0))) := (Below.heap_setCell w5 ⟨eb, A, none⟩ _ g m4).trans ((HB5.out.block g HG3.out.2.2.2).trans HK.out)
    have HBX : Hid (ButF mb eb w (w5.setCell ⟨eb, A, none⟩ (.int .i64 v))) := (HBU2.out.trans (ButF.of_below HB5.out)).trans (ButF.set _)
    rename_i hheld
    clear hheld hE5 HM5 HX5 kE5 kF5 hS93 HN HKEEP HS HE HM HK k0 k1 k2 kE kF c2 HBU2 HD
    have HNE := hidM (And.intro HF2.out.ne1 (And.intro HF2.out.ne2 HF2.out.ne3))
    clear HF2 hebl hfbl HB5
    generalize w5.setCell ⟨eb, A, none⟩ (.int .i64 v) = w6 at *
    have c1 := HFX.out.c1
    have k0 : w6.cell? ⟨g, 0, none⟩ = some (.int .u8 (x.toNat : Int)) := by rw [cell_of_row w6 _ _ _ 125 (0, 0) HKX.out]; rfl
    have k1 : w6.cell? ⟨g, 1, none⟩ = some (.int .u8 (y.toNat : Int)) := by rw [cell_of_row w6 _ _ _ 125 (0, 0) HKX.out]; rfl
    have k2 : w6.cell? ⟨g, 2, none⟩ = some (.int .u8 (z.toNat : Int)) := by rw [cell_of_row w6 _ _ _ 125 (0, 0) HKX.out]; rfl
    have hnm : n < maxLen := by unfold maxLen; omega
    obtain ⟨F, hFF⟩ := Classical.skolem.1 (fun k => HMX.out.put hnm x y z HKY.out HLO.out hs k)
    have hput : ∀ k, (Instr.mapUpdate 121 (.map (some mb)) (.agg #[.int .u8 (x.toNat : Int), .int .u8 (y.toNat : Int), .int .u8 (z.toNat : Int)]) (.int .i64 (A : Int))).run Tryd.prog (w6.drewN k) = .ok () (F k) := fun k => (hFF k).1
    have hput1 : (Instr.mapUpdate 121 (.map (some mb)) (.agg #[.int .u8 (x.toNat : Int), .int .u8 (y.toNat : Int), .int .u8 (z.toNat : Int)]) (.int .i64 (A : Int))).run Tryd.prog w6.drew = .ok () (F 1) := hput 1
    have HFI : Hid (∀ k, Fnd (F k) fb s mb eb (A + 1) ∧ ButF mb eb w (F k)) := fun k => by
      obtain ⟨_, hm, ho⟩ := hFF k
      exact ⟨⟨HFX.out.same (ho.block fb HNE.out.1), ⟨n + 1, by omega, hm⟩, ⟨_, HEX.out.same (ho.block eb (fun e => HNE.out.2.2 e.symm)), HGX.out⟩, HNE.out.1, HNE.out.2.1, HNE.out.2.2⟩, HBX.out.trans (ButF.of_only ho)⟩
    clear hFF
    go_wp2_with fail
    go_region
    all_goals
      try go_wp2
      exact bodyPost_end (results_none rfl _ _ _) rfl ⟨rfl, (HFI.out _).1, (HFI.out _).2⟩
/-- how far two places are alike, a byte at a time -/
def alkN (s : ByteArray) (p A : Nat) : Nat → Nat → Nat
  | 0, k => k
  | f + 1, k => if s.data.toList.getD (p + k) 0 = s.data.toList.getD (A + k) 0 then alkN s p A f (k + 1) else k
def alk (s : ByteArray) (p A : Nat) : Nat := alkN s p A (min 258 (s.size - A)) 0
theorem alkN_yes {s : ByteArray} {p A f k m : Nat} (h : s.data.toList.getD (p + k) 0 = s.data.toList.getD (A + k) 0) (hf : m = f + 1) : alkN s p A m k = alkN s p A f (k + 1) := by
  rw [hf, alkN, if_pos h]
theorem alkN_no {s : ByteArray} {p A f k m : Nat} (h : ¬ s.data.toList.getD (p + k) 0 = s.data.toList.getD (A + k) 0) (hf : m = f + 1) : alkN s p A m k = k := by
  rw [hf, alkN, if_neg h]
theorem alkN_end {s : ByteArray} {p A k m : Nat} (hf : m = 0) : alkN s p A m k = k := by
  rw [hf, alkN]
set_option maxHeartbeats 2000000 in
set_option maxRecDepth 100000 in
theorem alike_any (fb mb eb p A : Nat) (s : ByteArray) (w : World) (hF : FBox w fb s mb eb) (hs : s.size ≤ 1000000) (hA : A ≤ s.size) (hp : p < A) :
    Calls Tryd.prog 94 #[.pointer (some ⟨fb, 0, none⟩), .int .i64 (p : Int), .int .i64 (A : Int)] w fun e w' => (∃ k : Nat, AlikeN s p A k ∧ k = alk s p A ∧ e = .returned (.int .i64 (k : Int))) ∧ ∃ m, w' = w.drewN m := by
  have c0 := hF.c0
  clear hF
  obtain ⟨d, hd⟩ : ∃ d, d = s.size - A := ⟨_, rfl⟩
  have e1 : (s.size : Int) - (A : Int) = (d : Int) := by omega
  have hdL : A + d = s.size := by omega
  clear hd
  by_cases hd2 : d < 258
  · have hd3 : (d : Int) < 258 := by omega
    have hd4 : ¬ (258 : Int) < (d : Int) := by omega
    go_enter Tryd.func94, Tryd.ntmps94
    go_wp2
    go_loopw [8] (fun iv wr => ∃ k : Nat, k ≤ d ∧ iv = .int .i64 (k : Int) ∧ AlikeN s p A k ∧ alkN s p A (d - k) k = alk s p A ∧ ∃ m, wr = w.drewN m) (fun i _ => d - (intOf i).toNat)
    case atStart => exact ⟨0, Nat.zero_le _, rfl, AlikeN.zero s p A hA, by unfold alk; congr 1; omega, 0, rfl⟩
    case round =>
      obtain ⟨k, hk, rfl, hal, hfl, m, rfl⟩ := hrel
      have HFL := hidM hfl
      clear hfl
      have HAL := hidM hal
      have d0 : (w.drewN m).cell? ⟨fb, 0, none⟩ = some (.string s) := c0
      clear hal
      by_cases hlt : k < d
      · have kk : (k : Int) < (d : Int) := by omega
        obtain ⟨P, hP⟩ : ∃ P, P = p + k := ⟨_, rfl⟩
        obtain ⟨Q, hQ⟩ : ∃ Q, Q = A + k := ⟨_, rfl⟩
        have i1 : P < s.size := by omega
        have i2 : Q < s.size := by omega
        have i3 : (P : Int) < (s.size : Int) := by omega
        have i4 : (Q : Int) < (s.size : Int) := by omega
        have i5 : (p : Int) + (k : Int) = (P : Int) := by omega
        have i6 : (A : Int) + (k : Int) = (Q : Int) := by omega
        have i7 : IntKind.i64.wrap ((p : Int) + (k : Int)) = (P : Int) := by rw [i5]; exact i64_small _ (by omega) (by omega)
        have i8 : IntKind.i64.wrap ((A : Int) + (k : Int)) = (Q : Int) := by rw [i6]; exact i64_small _ (by omega) (by omega)
        have i9 : IntKind.i64.wrap (P : Int) = (P : Int) := i64_small _ (by omega) (by omega)
        have i10 : IntKind.i64.wrap (Q : Int) = (Q : Int) := i64_small _ (by omega) (by omega)
        have HNX : Hid (s[P] = s[Q] → AlikeN s p A (k + 1)) := fun h => ⟨by omega, by omega, fun j hj => by
          by_cases hjk : j < k
          · exact HAL.out.2.2 j hjk
          · obtain rfl : j = k := by omega
            rw [← hP, ← hQ, getD_byte s P i1, getD_byte s Q i2]
            exact h⟩
        have HYES : Hid (s[P] = s[Q] → alkN s p A (d - (k + 1)) (k + 1) = alk s p A) := fun h => by
          rw [← HFL.out]; exact (alkN_yes (by rw [← hP, ← hQ, getD_byte s P i1, getD_byte s Q i2]; exact h) (by omega)).symm
        have HNO : Hid (¬ s[P] = s[Q] → k = alk s p A) := fun h => by
          rw [← HFL.out]; exact (alkN_no (by rw [← hP, ← hQ, getD_byte s P i1, getD_byte s Q i2]; exact h) (f := d - (k + 1)) (by omega)).symm
        clear hP hQ
        generalize hW : w.drewN m = W at *
        have HW := hidM hW
        clear hW
        by_cases hsame : s[P] = s[Q]
        · have b1 : (((s[P]).toNat : Int) == ((s[Q]).toNat : Int)) = true := by rw [hsame]; simp
          have HNX2 := hidM (HNX.out hsame)
          have HYES2 := hidM (HYES.out hsame)
          clear HNX hsame HYES HNO
          go_wp2
          go_quiet (fail)
          go_wp2
          go_roundw
          case rel => exact ⟨k + 1, by omega, by go_num, HNX2.out, HYES2.out, m + nq, by rw [← HW.out]; simp only [World.drewN, Nat.add_assoc]⟩
          case measure => (show d - ((k : Int) + 1).toNat < d - ((k : Int)).toNat); omega
        · have b1 : (((s[P]).toNat : Int) == ((s[Q]).toNat : Int)) = false := by
            refine beq_false_of_ne fun h => hsame ?_
            have : (s[P]).toNat = (s[Q]).toNat := by omega
            exact UInt8.toNat_inj.1 this
          have HNO2 := hidM (HNO.out hsame)
          clear HNX hsame HYES HNO
          go_wp2
          go_quiet (fail)
          go_wp2
          go_ret
          exact ⟨⟨k, HAL.out, HNO2.out, rfl⟩, m + nq, by rw [← HW.out]; simp only [World.drewN, Nat.add_assoc]⟩
      · obtain rfl : k = d := by omega
        generalize hW : w.drewN m = W at *
        have HW := hidM hW
        clear hW
        go_wp2
        go_quiet (fail)
        go_wp2
        go_ret
        exact ⟨⟨_, HAL.out, by rw [← HFL.out]; exact (alkN_end (by omega)).symm, rfl⟩, m + nq, by rw [← HW.out]; simp only [World.drewN, Nat.add_assoc]⟩
  · have hd3 : ¬ (d : Int) < 258 := by omega
    go_enter Tryd.func94, Tryd.ntmps94
    go_wp2
    go_loopw [8] (fun iv wr => ∃ k : Nat, k ≤ 258 ∧ iv = .int .i64 (k : Int) ∧ AlikeN s p A k ∧ alkN s p A (258 - k) k = alk s p A ∧ ∃ m, wr = w.drewN m) (fun i _ => 258 - (intOf i).toNat)
    case atStart => exact ⟨0, Nat.zero_le _, rfl, AlikeN.zero s p A hA, by unfold alk; congr 1; omega, 0, rfl⟩
    case round =>
      obtain ⟨k, hk, rfl, hal, hfl, m, rfl⟩ := hrel
      have HFL := hidM hfl
      clear hfl
      have HAL := hidM hal
      have d0 : (w.drewN m).cell? ⟨fb, 0, none⟩ = some (.string s) := c0
      clear hal
      by_cases hlt : k < 258
      · have kk : (k : Int) < 258 := by omega
        obtain ⟨P, hP⟩ : ∃ P, P = p + k := ⟨_, rfl⟩
        obtain ⟨Q, hQ⟩ : ∃ Q, Q = A + k := ⟨_, rfl⟩
        have i1 : P < s.size := by omega
        have i2 : Q < s.size := by omega
        have i3 : (P : Int) < (s.size : Int) := by omega
        have i4 : (Q : Int) < (s.size : Int) := by omega
        have i5 : (p : Int) + (k : Int) = (P : Int) := by omega
        have i6 : (A : Int) + (k : Int) = (Q : Int) := by omega
        have i7 : IntKind.i64.wrap ((p : Int) + (k : Int)) = (P : Int) := by rw [i5]; exact i64_small _ (by omega) (by omega)
        have i8 : IntKind.i64.wrap ((A : Int) + (k : Int)) = (Q : Int) := by rw [i6]; exact i64_small _ (by omega) (by omega)
        have i9 : IntKind.i64.wrap (P : Int) = (P : Int) := i64_small _ (by omega) (by omega)
        have i10 : IntKind.i64.wrap (Q : Int) = (Q : Int) := i64_small _ (by omega) (by omega)
        have HNX : Hid (s[P] = s[Q] → AlikeN s p A (k + 1)) := fun h => ⟨by omega, by omega, fun j hj => by
          by_cases hjk : j < k
          · exact HAL.out.2.2 j hjk
          · obtain rfl : j = k := by omega
            rw [← hP, ← hQ, getD_byte s P i1, getD_byte s Q i2]
            exact h⟩
        have HYES : Hid (s[P] = s[Q] → alkN s p A (258 - (k + 1)) (k + 1) = alk s p A) := fun h => by
          rw [← HFL.out]; exact (alkN_yes (by rw [← hP, ← hQ, getD_byte s P i1, getD_byte s Q i2]; exact h) (by omega)).symm
        have HNO : Hid (¬ s[P] = s[Q] → k = alk s p A) := fun h => by
          rw [← HFL.out]; exact (alkN_no (by rw [← hP, ← hQ, getD_byte s P i1, getD_byte s Q i2]; exact h) (f := 258 - (k + 1)) (by omega)).symm
        clear hP hQ
        generalize hW : w.drewN m = W at *
        have HW := hidM hW
        clear hW
        by_cases hsame : s[P] = s[Q]
        · have b1 : (((s[P]).toNat : Int) == ((s[Q]).toNat : Int)) = true := by rw [hsame]; simp
          have HNX2 := hidM (HNX.out hsame)
          have HYES2 := hidM (HYES.out hsame)
          clear HNX hsame HYES HNO
          go_wp2
          go_quiet (fail)
          go_wp2
          go_roundw
          case rel => exact ⟨k + 1, by omega, by go_num, HNX2.out, HYES2.out, m + nq, by rw [← HW.out]; simp only [World.drewN, Nat.add_assoc]⟩
          case measure => (show 258 - ((k : Int) + 1).toNat < 258 - ((k : Int)).toNat); omega
        · have b1 : (((s[P]).toNat : Int) == ((s[Q]).toNat : Int)) = false := by
            refine beq_false_of_ne fun h => hsame ?_
            have : (s[P]).toNat = (s[Q]).toNat := by omega
            exact UInt8.toNat_inj.1 this
          have HNO2 := hidM (HNO.out hsame)
          clear HNX hsame HYES HNO
          go_wp2
          go_quiet (fail)
          go_wp2
          go_ret
          exact ⟨⟨k, HAL.out, HNO2.out, rfl⟩, m + nq, by rw [← HW.out]; simp only [World.drewN, Nat.add_assoc]⟩
      · obtain rfl : k = 258 := by omega
        generalize hW : w.drewN m = W at *
        have HW := hidM hW
        clear hW
        go_wp2
        go_quiet (fail)
        go_wp2
        go_ret
        exact ⟨⟨_, HAL.out, by rw [← HFL.out]; exact (alkN_end (by omega)).symm, rfl⟩, m + nq, by rw [← HW.out]; simp only [World.drewN, Nat.add_assoc]⟩
/-- the longest, a try at a time -/
def longL (s : ByteArray) (A : Nat) : Nat → Nat → Nat → Int → Nat × Nat
  | 0, k, d, _ => (k, d)
  | f + 1, k, d, pl =>
    if pl = -1 ∨ 32768 < A - pl.toNat then (k, d) else
    let r := if k < alk s pl.toNat A then (alk s pl.toNat A, A - pl.toNat) else (k, d)
    if r.1 = 258 then r else longL s A f r.1 r.2 (lastI s (ky s pl.toNat) pl.toNat)
def longF (s : ByteArray) (A : Nat) : Nat × Nat := if s.size < A + 3 then (0, 0) else longL s A 32 0 0 (lastI s (ky s A) A)
theorem longL_end {s : ByteArray} {A k d m : Nat} {pl : Int} (h : m = 0) : longL s A m k d pl = (k, d) := by rw [h, longL]
theorem longL_none {s : ByteArray} {A k d m : Nat} : longL s A m k d (-1) = (k, d) := by
  cases m with
  | zero => rfl
  | succ m => rw [longL, if_pos (.inl rfl)]
theorem longL_far {s : ByteArray} {A k d m q : Nat} (h : 32768 < A - q) : longL s A m k d (q : Int) = (k, d) := by
  cases m with
  | zero => rfl
  | succ m => rw [longL, if_pos (.inr (by rw [Int.toNat_natCast]; exact h))]
theorem longL_one {s : ByteArray} {A k d m f q : Nat} (h : ¬ 32768 < A - q) (hf : m = f + 1) : longL s A m k d (q : Int) =
    (if (if k < alk s q A then (alk s q A, A - q) else (k, d)).1 = 258 then (if k < alk s q A then (alk s q A, A - q) else (k, d)) else longL s A f (if k < alk s q A then (alk s q A, A - q) else (k, d)).1 (if k < alk s q A then (alk s q A, A - q) else (k, d)).2 (lastI s (ky s q) q)) := by
  rw [hf, longL, if_neg (by rw [Int.toNat_natCast]; omega)]
  simp only [Int.toNat_natCast]
theorem longL_new {s : ByteArray} {A k d m f q n df : Nat} (h : df ≤ 32768) (hd : df = A - q) (hn : n = alk s q A) (hg : k < n) (h2 : n ≠ 258) (hf : m = f + 1) : longL s A m k d (q : Int) = longL s A f n df (lastI s (ky s q) q) := by
  rw [longL_one (by omega) hf, ← hn, ← hd]
  simp only [if_pos hg, if_neg h2]
theorem longL_new258 {s : ByteArray} {A k d m f q df : Nat} (h : df ≤ 32768) (hd : df = A - q) (hn : 258 = alk s q A) (hg : k < 258) (hf : m = f + 1) : longL s A m k d (q : Int) = (258, df) := by
  rw [longL_one (by omega) hf, ← hn, ← hd]
  simp only [if_pos hg, if_true]
theorem longL_old {s : ByteArray} {A k d m f q n df : Nat} (h : df ≤ 32768) (hd : df = A - q) (hn : n = alk s q A) (hg : ¬ k < n) (h2 : k ≠ 258) (hf : m = f + 1) : longL s A m k d (q : Int) = longL s A f k d (lastI s (ky s q) q) := by
  rw [longL_one (by omega) hf, ← hn, ← hd]
  simp only [if_neg hg, if_neg h2]
theorem longL_old258 {s : ByteArray} {A d m f q n df : Nat} (h : df ≤ 32768) (hd : df = A - q) (hn : n = alk s q A) (hg : ¬ 258 < n) (hf : m = f + 1) : longL s A m 258 d (q : Int) = (258, d) := by
  rw [longL_one (by omega) hf, ← hn, ← hd]
  simp only [if_neg hg, if_true]
def LongPost (s : ByteArray) (A : Nat) (e : Ending) : Prop := ∃ k d : Nat, LongG s A k d ∧ longF s A = (k, d) ∧ e = .returned (.tuple #[.int .i64 (k : Int), .int .i64 (d : Int)])
set_option maxHeartbeats 4000000 in
set_option maxRecDepth 100000 in
theorem longest_any (fb mb eb A : Nat) (s : ByteArray) (w : World) (hF : Fnd w fb s mb eb A) (hs : s.size ≤ 1000000) (hA : A ≤ s.size) :
    Calls Tryd.prog 64 #[.pointer (some ⟨fb, 0, none⟩), .int .i64 (A : Int)] w fun e w' => LongPost s A e ∧ Below w.heap.size w w' := by
  have HF := hidM hF
  clear hF
  go_enter Tryd.func64, Tryd.ntmps64
  go_wp2_with fail
  refine (begin_any fb mb eb A s w HF.out.box hs hA).mono ?_
  rintro _ w1 ⟨hp, hb1⟩
  have HB1 := hidM hb1
  have HF1 := hidM (HF.out.later hb1)
  clear hb1 HF
  rcases hp with ⟨hsh, rfl⟩ | ⟨hlo, x, y, z, hky, rfl⟩
  · unfold kV
    go_wp2
    go_ret2
    exact ⟨⟨0, 0, .inl ⟨rfl, rfl⟩, by unfold longF; rw [if_pos hsh], rfl⟩, HB1.out.trans (((Below.refl w1.heap.size w1).alloc (Nat.le_refl _) _).mono HB1.out.size)⟩
  · have HLF : Hid (longL s A (32 - 0) 0 0 (lastI s (ky s A) A) = longF s A) := by unfold Hid longF; rw [if_neg (by omega)]
    have HKY := hidM hky
    clear hky
    obtain ⟨LF, hLF⟩ : ∃ LF, LF = longF s A := ⟨_, rfl⟩
    rw [← hLF] at HLF
    have HLQ := hidM hLF
    clear hLF
    have HB2 : Hid (Below w1.heap.size w1 (w1.alloc (.cells #[.int .u8 (x.toNat : Int), .int .u8 (y.toNat : Int), .int .u8 (z.toNat : Int)] 125))) := (Below.refl _ _).alloc (Nat.le_refl _) _
    have HF2 := hidM (HF1.out.later HB2.out)
    have HB02 : Hid (Below w.heap.size w (w1.alloc (.cells #[.int .u8 (x.toNat : Int), .int .u8 (y.toNat : Int), .int .u8 (z.toNat : Int)] 125))) := HB1.out.trans (HB2.out.mono HB1.out.size)
    unfold kV
    go_wp2_with fail
    generalize w1.alloc (.cells #[.int .u8 (x.toNat : Int), .int .u8 (y.toNat : Int), .int .u8 (z.toNat : Int)] 125) = w2 at *
    obtain ⟨n, hn, hM⟩ := HF2.out.map
    refine (newest_any fb mb eb A n s x y z w2 HF2.out.box hM).mono ?_
    rintro e3 w3 ⟨hq, hb3⟩
    have HF3 := hidM (HF2.out.later hb3)
    have HB3 : Hid (Below w.heap.size w w3) := HB02.out.trans (hb3.mono HB02.out.size)
    clear hb3 hM HF2 HB02 HB2 HF1 HB1
    have hpl : PlaceG A s.size (lastI s (x, y, z) A) := lastI_at s (x, y, z) A
    have HPL := hidM hpl
    clear hpl
    rw [hq]
    clear hq
    have HLF0 : Hid (longL s A (32 - 0) 0 0 (lastI s (x, y, z) A) = LF) := by unfold Hid; rw [← HKY.out]; exact HLF.out
    clear HLF
    generalize lastI s (x, y, z) A = pl at *
    go_wp2
    go_loopw [8, 9, 10, 11] (fun lv dv pv tv wr => ∃ (k d t : Nat) (pl : Int), lv = .int .i64 (k : Int) ∧ dv = .int .i64 (d : Int) ∧ pv = .int .i64 pl ∧ tv = .int .i64 (t : Int) ∧ t ≤ 32 ∧ LongG s A k d ∧ longL s A (32 - t) k d pl = LF ∧ PlaceG A s.size pl ∧ Fnd wr fb s mb eb A ∧ Below w.heap.size w wr) (fun _ _ _ tv _ => 32 - (intOf tv).toNat)
    case atStart => exact ⟨0, 0, 0, pl, rfl, rfl, rfl, rfl, by decide, .inl ⟨rfl, rfl⟩, HLF0.out, HPL.out, HF3.out, HB3.out⟩
    case round =>
      obtain ⟨k, d, t, pl, rfl, rfl, rfl, rfl, ht, hlg, hll, hpg, hfn, hbl⟩ := hrel
      have HLL := hidM hll
      have HLG := hidM hlg
      have HFN := hidM hfn
      have HBL := hidM hbl
      clear hlg hll hfn hbl HF3 HB3 HPL HLF0
      by_cases htl : t < 32
      · have t1 : (t : Int) < 32 := by omega
        rcases hpg with rfl | ⟨q, rfl, hq1, hq2⟩
        · have HLE : Hid (LF = (k, d)) := by unfold Hid; rw [← HLL.out]; exact longL_none
          go_wp2
          go_ret2
          exact ⟨⟨k, d, HLG.out, HLQ.out.symm.trans HLE.out, rfl⟩, HBL.out⟩
        · have q1 : ((q : Int) != -1) = true := bne_iff_ne.2 (by omega)
          have q0 : ((q : Int) == -1) = false := beq_false_of_ne (by omega)
          obtain ⟨df, hdf⟩ : ∃ df, df = A - q := ⟨_, rfl⟩
          have q2 : (A : Int) - (q : Int) = (df : Int) := by omega
          have HDF := hidM hdf
          have hdf1 : 1 ≤ df := by omega
          have hdfA : df ≤ A := by omega
          clear hdf
          by_cases hfar : df ≤ 32768
          · have q3 : (df : Int) ≤ 32768 := by omega
            go_wp2_with fail
            refine (alike_any fb mb eb q A s wr HFN.out.box hs hA hq1).mono ?_
            rintro _ w5 ⟨⟨k2, hal, hk2e, rfl⟩, m5, rfl⟩
            have HK2 := hidM hk2e
            clear hk2e
            have HF5 : Hid (Fnd (wr.drewN m5) fb s mb eb A) := HFN.out.later (below_drewN (Below.refl _ _) m5)
            have HB5 : Hid (Below w.heap.size w (wr.drewN m5)) := HBL.out.trans (below_drewN (Below.refl _ _) m5)
            have HNEW : Hid (LongG s A k2 df) := .inr ⟨hdf1, hfar, hdfA, by rw [show A - df = q by have := HDF.out; omega]; exact hal⟩
            have hk2 := hal.1
            generalize wr.drewN m5 = w6 at *
            obtain ⟨E, hE, hGE⟩ := HF5.out.row
            have kE := hE.cell q (by omega)
            have hEq := hGE q hq1 hq2
            have c2 := HF5.out.box.c2
            have j1 : (q : Int) < (s.size : Int) := by omega
            have HPN : Hid (PlaceG A s.size (E q)) := by
              unfold Hid
              rw [hEq]
              rcases lastI_at s (ky s q) q with h | ⟨r, h, hr, hr2⟩
              · exact .inl h
              · exact .inr ⟨r, h, by omega, hr2⟩
            have HEP := hidM hEq
            generalize E q = ep at *
            clear hal hE hGE hEq
            by_cases hgt : k < k2
            · have g1 : (k : Int) < (k2 : Int) := by omega
              by_cases h258 : k2 = 258
              · subst h258
                have HLE : Hid (LF = (258, df)) := by unfold Hid; rw [← HLL.out]; exact longL_new258 (f := 31 - t) hfar HDF.out HK2.out hgt (by omega)
                go_wp2
                go_ret2
                exact ⟨⟨258, df, HNEW.out, HLQ.out.symm.trans HLE.out, rfl⟩, HB5.out⟩
              · have g2 : ((k2 : Int) == 258) = false := by simp; omega
                have HLE : Hid (longL s A (32 - (t + 1)) k2 df ep = LF) := by unfold Hid; rw [← HLL.out, HEP.out]; exact (longL_new (f := 32 - (t + 1)) hfar HDF.out HK2.out hgt h258 (by omega)).symm
                go_wp2
                go_roundw
                case rel => exact ⟨k2, df, t + 1, ep, rfl, rfl, rfl, by go_num, by omega, HNEW.out, HLE.out, HPN.out, HF5.out, HB5.out⟩
                case measure => (show 32 - ((t : Int) + 1).toNat < 32 - ((t : Int)).toNat); omega
            · have g1 : ¬ (k : Int) < (k2 : Int) := by omega
              by_cases h258 : k = 258
              · subst h258
                have HLE : Hid (LF = (258, d)) := by unfold Hid; rw [← HLL.out]; exact longL_old258 (f := 31 - t) hfar HDF.out HK2.out hgt (by omega)
                go_wp2
                go_ret2
                exact ⟨⟨258, d, HLG.out, HLQ.out.symm.trans HLE.out, rfl⟩, HB5.out⟩
              · have g2 : ((k : Int) == 258) = false := by simp; omega
                have HLE : Hid (longL s A (32 - (t + 1)) k d ep = LF) := by unfold Hid; rw [← HLL.out, HEP.out]; exact (longL_old (f := 32 - (t + 1)) hfar HDF.out HK2.out hgt h258 (by omega)).symm
                go_wp2
                go_roundw
                case rel => exact ⟨k, d, t + 1, ep, rfl, rfl, rfl, by go_num, by omega, HLG.out, HLE.out, HPN.out, HF5.out, HB5.out⟩
                case measure => (show 32 - ((t : Int) + 1).toNat < 32 - ((t : Int)).toNat); omega
          · have q3 : ¬ (df : Int) ≤ 32768 := by omega
            have HLE : Hid (LF = (k, d)) := by unfold Hid; rw [← HLL.out]; exact longL_far (by have := HDF.out; omega)
            go_wp2
            go_ret2
            exact ⟨⟨k, d, HLG.out, HLQ.out.symm.trans HLE.out, rfl⟩, HBL.out⟩
      · have t1 : ¬ (t : Int) < 32 := by omega
        have HLE : Hid (LF = (k, d)) := by unfold Hid; rw [← HLL.out]; exact longL_end (by omega)
        go_wp2
        go_ret2
        exact ⟨⟨k, d, HLG.out, HLQ.out.symm.trans HLE.out, rfl⟩, HBL.out⟩
set_option maxHeartbeats 1000000 in
set_option maxRecDepth 100000 in
theorem newFinder_any (s : ByteArray) (w : World) (hs : s.size ≤ 1000000) :
    Calls Tryd.prog 63 #[.string s] w fun e w' => (∃ fb mb eb, e = .returned (.pointer (some ⟨fb, 0, none⟩)) ∧ Fnd w' fb s mb eb 0 ∧ w.heap.size ≤ fb ∧ w.heap.size ≤ mb ∧ w.heap.size ≤ eb) ∧ Below w.heap.size w w' := by
  have hmm := @run_makeMap Tryd.prog
  obtain ⟨i3, hi3, hz30, hz31, hz32⟩ := info_parts Tryd.info3
  have HB0 : Hid (Below w.heap.size w (w.alloc (.map #[] 0))) := (Below.refl _ _).alloc (Nat.le_refl _) _
  have HM0 : Hid ((w.alloc (.map #[] 0)).ownsMap Tryd.prog 125 (plainElem (H := Unit) Tryd.prog 3) w.heap.size 0 (.map [])) := World.ownsMap_made _ _ _ _
  go_enter Tryd.func63, Tryd.ntmps63
  go_wp2_with (at_make; refine wpList_make_full _ rfl _ _ 61 rfl w.heap.size 3 i3 (.int .i64 0) 1 Tryd.underlying61 hi3 hz30 hz31 .i64 .i64 _ _ s.size rfl rfl rfl rfl ?c1 ?c2 ?c3 ?_)
  case c1 => rw [hz32]; omega
  case c2 => unfold maxLen; omega
  case c3 => simp
  intro w1 hown hgr
  have HE1 : Hid (ABox w1 (w.heap.size + 1) 3 s.size (fun _ => .int .i64 0)) := by
    have h := ABox.of_row (h := fun _ => .int .i64 0) hown (by rw [← made_one, Nat.mul_one])
    rw [Nat.mul_one] at h
    exact h
  have HM1 : Hid (FMap w1 w.heap.size s 0 0) := ⟨_, HM0.out.kept hgr (by simp), goodF_empty s⟩
  have HB1 : Hid (Below w.heap.size w w1) := HB0.out.grown hgr (by simp) (by intro k hk; cases hk)
  have HSZ : Hid (w.heap.size + 2 ≤ w1.heap.size) := by have := HE1.out.lt; unfold Hid; omega
  clear hown hgr HM0 HB0
  have hs2 := HSZ.out
  go_wp2
  go_ret
  refine ⟨⟨w1.heap.size, w.heap.size, w.heap.size + 1, rfl, ⟨heap_alloc_new w1 _, ⟨0, Nat.le_refl _, HM1.out.same (Below.heap_alloc w1 _ _ (by omega))⟩, ⟨fun _ => 0, HE1.out.same (Below.heap_alloc w1 _ _ (by omega)), fun i hi => by omega⟩, by omega, by omega, by omega⟩, by omega, by omega, by omega⟩, HB1.out.alloc (by omega) _⟩
end Go.Proofs.YtkckobhpanghiaaDoor.Twi
