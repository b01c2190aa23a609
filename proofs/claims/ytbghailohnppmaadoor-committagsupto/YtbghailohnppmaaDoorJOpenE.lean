/-
  A commit that was handed in: its message is within reach.
  Walks of the laws of commit: CommitApart.
  The sixth table, object.names, out of the rows' condition; a tag that was handed in, opened.
-/
import Derived.Test.YtbghailohnppmaaDoorJOpenC
namespace Go.Proofs.YtbghailohnppmaaDoor
open Go.ChangeShapes Go.WideShapes Go.ChangeAt Go.WideMaps Go.WideElems Go.RowKit

end Go.Proofs.YtbghailohnppmaaDoor
namespace Go.Proofs.YtbghailohnppmaaDoor
open Go.RowKit

/-- the law's boxes: two commits, and whatever stays besides -/
structure AX (w : World) (g : Nat) (t1 : ByteArray) (p1 : Value) (a1 c1 : Sb) (m1 t2 : ByteArray) (p2 : Value) (a2 c2 : Sb) (m2 : ByteArray) (C : World → Prop) (V : World) : Prop where
  bel : Below w.heap.size w V
  b1 : CBox V g t1 p1 a1 c1 m1
  b2 : CBox V (g + 1) t2 p2 a2 c2 m2
  gt : GT V
  rest : C V
  keep : ∀ W W', C W → Below W.heap.size W W' → C W'
theorem AX.next {w V w' : World} {g : Nat} {t1 m1 t2 m2 : ByteArray} {p1 p2 : Value} {a1 c1 a2 c2 : Sb} {C : World → Prop} (H : AX w g t1 p1 a1 c1 m1 t2 p2 a2 c2 m2 C V) (hb : Below V.heap.size V w') : AX w g t1 p1 a1 c1 m1 t2 p2 a2 c2 m2 C w' :=
  ⟨H.bel.trans (hb.mono H.bel.size), H.b1.below hb, H.b2.below hb, H.gt.below hb, H.keep _ _ H.rest hb, H.keep⟩
theorem AX.drew {w V : World} {g : Nat} {t1 m1 t2 m2 : ByteArray} {p1 p2 : Value} {a1 c1 a2 c2 : Sb} {C : World → Prop} (H : Hid (AX w g t1 p1 a1 c1 m1 t2 p2 a2 c2 m2 C V)) : Hid (AX w g t1 p1 a1 c1 m1 t2 p2 a2 c2 m2 C V.drew) := H.out.next ((Below.refl _ V).trans ⟨rfl, rfl, rfl, Nat.le_refl _, fun _ _ => rfl⟩)
theorem AX.drewN {w V : World} {g n : Nat} {t1 m1 t2 m2 : ByteArray} {p1 p2 : Value} {a1 c1 a2 c2 : Sb} {C : World → Prop} (H : Hid (AX w g t1 p1 a1 c1 m1 t2 p2 a2 c2 m2 C V)) : Hid (AX w g t1 p1 a1 c1 m1 t2 p2 a2 c2 m2 C (V.drewN n)) := H.out.next (below_drewN (Below.refl _ _) n)
theorem AX.full {w V : World} {g : Nat} {t1 aw1 cw1 m1 t2 aw2 cw2 m2 : ByteArray} {px1 px2 : Option Addr} {py1 pz1 py2 pz2 : Nat} {at1 az1 ct1 cz1 at2 az2 ct2 cz2 : Int} {C : World → Prop} (H : AX w g t1 (.slice px1 py1 pz1) ⟨aw1, at1, az1⟩ ⟨cw1, ct1, cz1⟩ m1 t2 (.slice px2 py2 pz2) ⟨aw2, at2, az2⟩ ⟨cw2, ct2, cz2⟩ m2 C V) :
    V.cell? ⟨g, 0, none⟩ = some (.string t1) ∧ V.cell? ⟨g, 1, none⟩ = some (.slice px1 py1 pz1) ∧ V.cell? ⟨g, 2, none⟩ = some (.string aw1) ∧ V.cell? ⟨g, 3, none⟩ = some (.int .i64 at1) ∧ V.cell? ⟨g, 4, none⟩ = some (.int .i64 az1) ∧ V.cell? ⟨g, 5, none⟩ = some (.string cw1) ∧ V.cell? ⟨g, 6, none⟩ = some (.int .i64 ct1) ∧ V.cell? ⟨g, 7, none⟩ = some (.int .i64 cz1) ∧ V.cell? ⟨g, 8, none⟩ = some (.string m1) ∧ V.cell? ⟨g + 1, 0, none⟩ = some (.string t2) ∧ V.cell? ⟨g + 1, 1, none⟩ = some (.slice px2 py2 pz2) ∧ V.cell? ⟨g + 1, 2, none⟩ = some (.string aw2) ∧ V.cell? ⟨g + 1, 3, none⟩ = some (.int .i64 at2) ∧ V.cell? ⟨g + 1, 4, none⟩ = some (.int .i64 az2) ∧ V.cell? ⟨g + 1, 5, none⟩ = some (.string cw2) ∧ V.cell? ⟨g + 1, 6, none⟩ = some (.int .i64 ct2) ∧ V.cell? ⟨g + 1, 7, none⟩ = some (.int .i64 cz2) ∧ V.cell? ⟨g + 1, 8, none⟩ = some (.string m2) ∧ Hid (AX w g t1 (.slice px1 py1 pz1) ⟨aw1, at1, az1⟩ ⟨cw1, ct1, cz1⟩ m1 t2 (.slice px2 py2 pz2) ⟨aw2, at2, az2⟩ ⟨cw2, ct2, cz2⟩ m2 C V) := by
  obtain ⟨k0, k1, k2, k3, k4, k5, k6, k7, k8⟩ := H.b1.nine
  obtain ⟨i0, i1, i2, i3, i4, i5, i6, i7, i8⟩ := H.b2.nine
  exact ⟨k0, k1, k2, k3, k4, k5, k6, k7, k8, i0, i1, i2, i3, i4, i5, i6, i7, i8, H⟩
theorem AX.call {w V : World} {g : Nat} {t1 aw1 cw1 m1 t2 aw2 cw2 m2 : ByteArray} {px1 px2 : Option Addr} {py1 pz1 py2 pz2 : Nat} {at1 az1 ct1 cz1 at2 az2 ct2 cz2 : Int} {C : World → Prop} {f : Nat} {args : Array Value} {v : Value} (h1 : Calls Tryd.prog f args V fun x w' => x = .returned v ∧ Below V.heap.size V w') (H : Hid (AX w g t1 (.slice px1 py1 pz1) ⟨aw1, at1, az1⟩ ⟨cw1, ct1, cz1⟩ m1 t2 (.slice px2 py2 pz2) ⟨aw2, at2, az2⟩ ⟨cw2, ct2, cz2⟩ m2 C V)) :
    Calls Tryd.prog f args V fun x V' => x = .returned v ∧ (V'.cell? ⟨g, 0, none⟩ = some (.string t1) ∧ V'.cell? ⟨g, 1, none⟩ = some (.slice px1 py1 pz1) ∧ V'.cell? ⟨g, 2, none⟩ = some (.string aw1) ∧ V'.cell? ⟨g, 3, none⟩ = some (.int .i64 at1) ∧ V'.cell? ⟨g, 4, none⟩ = some (.int .i64 az1) ∧ V'.cell? ⟨g, 5, none⟩ = some (.string cw1) ∧ V'.cell? ⟨g, 6, none⟩ = some (.int .i64 ct1) ∧ V'.cell? ⟨g, 7, none⟩ = some (.int .i64 cz1) ∧ V'.cell? ⟨g, 8, none⟩ = some (.string m1) ∧ V'.cell? ⟨g + 1, 0, none⟩ = some (.string t2) ∧ V'.cell? ⟨g + 1, 1, none⟩ = some (.slice px2 py2 pz2) ∧ V'.cell? ⟨g + 1, 2, none⟩ = some (.string aw2) ∧ V'.cell? ⟨g + 1, 3, none⟩ = some (.int .i64 at2) ∧ V'.cell? ⟨g + 1, 4, none⟩ = some (.int .i64 az2) ∧ V'.cell? ⟨g + 1, 5, none⟩ = some (.string cw2) ∧ V'.cell? ⟨g + 1, 6, none⟩ = some (.int .i64 ct2) ∧ V'.cell? ⟨g + 1, 7, none⟩ = some (.int .i64 cz2) ∧ V'.cell? ⟨g + 1, 8, none⟩ = some (.string m2) ∧ Hid (AX w g t1 (.slice px1 py1 pz1) ⟨aw1, at1, az1⟩ ⟨cw1, ct1, cz1⟩ m1 t2 (.slice px2 py2 pz2) ⟨aw2, at2, az2⟩ ⟨cw2, ct2, cz2⟩ m2 C V')) :=
  h1.mono fun _ _ ⟨hx, hb⟩ => ⟨hx, (H.out.next hb).full⟩
theorem AX.few {w V : World} {g : Nat} {t1 aw1 cw1 m1 t2 aw2 cw2 m2 : ByteArray} {px1 px2 : Option Addr} {py1 pz1 py2 pz2 : Nat} {at1 az1 ct1 cz1 at2 az2 ct2 cz2 : Int} {C : World → Prop} {args : Array Value} {us : List ByteArray} {t m : ByteArray} {a c : Sb} (h1 : Calls Tryd.prog 9 args V fun e w' => ∃ pv, e = .returned (.agg (c26 t pv a c m)) ∧ OwnS w' V.heap.size pv us ∧ Below V.heap.size V w') (H : Hid (AX w g t1 (.slice px1 py1 pz1) ⟨aw1, at1, az1⟩ ⟨cw1, ct1, cz1⟩ m1 t2 (.slice px2 py2 pz2) ⟨aw2, at2, az2⟩ ⟨cw2, ct2, cz2⟩ m2 C V)) :
    Calls Tryd.prog 9 args V fun x V' => ∃ ta tn tc, x = .returned (.agg (c26 t (.slice ta tn tc) a c m)) ∧ (V'.cell? ⟨g, 0, none⟩ = some (.string t1) ∧ V'.cell? ⟨g, 1, none⟩ = some (.slice px1 py1 pz1) ∧ V'.cell? ⟨g, 2, none⟩ = some (.string aw1) ∧ V'.cell? ⟨g, 3, none⟩ = some (.int .i64 at1) ∧ V'.cell? ⟨g, 4, none⟩ = some (.int .i64 az1) ∧ V'.cell? ⟨g, 5, none⟩ = some (.string cw1) ∧ V'.cell? ⟨g, 6, none⟩ = some (.int .i64 ct1) ∧ V'.cell? ⟨g, 7, none⟩ = some (.int .i64 cz1) ∧ V'.cell? ⟨g, 8, none⟩ = some (.string m1) ∧ V'.cell? ⟨g + 1, 0, none⟩ = some (.string t2) ∧ V'.cell? ⟨g + 1, 1, none⟩ = some (.slice px2 py2 pz2) ∧ V'.cell? ⟨g + 1, 2, none⟩ = some (.string aw2) ∧ V'.cell? ⟨g + 1, 3, none⟩ = some (.int .i64 at2) ∧ V'.cell? ⟨g + 1, 4, none⟩ = some (.int .i64 az2) ∧ V'.cell? ⟨g + 1, 5, none⟩ = some (.string cw2) ∧ V'.cell? ⟨g + 1, 6, none⟩ = some (.int .i64 ct2) ∧ V'.cell? ⟨g + 1, 7, none⟩ = some (.int .i64 cz2) ∧ V'.cell? ⟨g + 1, 8, none⟩ = some (.string m2) ∧ Hid (AX w g t1 (.slice px1 py1 pz1) ⟨aw1, at1, az1⟩ ⟨cw1, ct1, cz1⟩ m1 t2 (.slice px2 py2 pz2) ⟨aw2, at2, az2⟩ ⟨cw2, ct2, cz2⟩ m2 C V')) ∧ Hid (StrsV V' (.slice ta tn tc) us) ∧ Hid (∀ v l, Hid (StrsV V v l) → Hid (StrsV V' v l)) :=
  h1.mono fun _ _ ⟨pv, hx, ho, hb⟩ => by
    obtain ⟨ta, tn, tc, hpv⟩ := ho.slice
    subst hpv
    exact ⟨ta, tn, tc, hx, (H.out.next hb).full, ho.strs, fun _ _ h => h.out.below hb⟩
end Go.Proofs.YtbghailohnppmaaDoor
namespace Go.Proofs.YtbghailohnppmaaDoor
open Go.ChangeShapes Go.WideShapes Go.ChangeAt Go.WideMaps Go.WideElems Go.RowKit

theorem gNames : Tryd.prog.globalNamed "cartulary/object.names" = some 0 := by kernel_rfl
theorem tNames : (Tryd.prog.globals[0]?).map (·.type) = some 91 := by kernel_rfl
theorem cells91 : Tryd.prog.cellsOf 91 = 5 := by kernel_rfl
def strData {H : Type} (ls : List (List UInt8)) : DataW H := .agg (ls.map fun b => .lit (.string b))
theorem cells_of_strs {H : Type} {enc : TypeId × Value → H} {P : Program} {w : World} {base : Nat} {sp : Nat → Bool} {held : Bool} {fuel : Nat} {t e : TypeId} {n : Nat} {cs : List Value} {ls : List (List UInt8)} {p : List MemPlace}
    (ht : P.underlying t = some (.array n e)) (he : P.underlying e = some .string) (hce : P.cellsOf e = 1) (hct : P.cellsOf t = n)
    (h : DataW.trod enc P w base sp held fuel t cs = some (strData ls, p)) : cs = ls.map fun b => Value.string ⟨b.toArray⟩ := by
  cases fuel with
  | zero => simp [DataW.trod] at h
  | succ fuel =>
    simp only [DataW.trod, ht, hce, hct, Nat.mul_one] at h
    split at h
    · rename_i hl
      obtain ⟨xs, hm, hx⟩ := Option.map_eq_some_iff.1 h
      have hxs : xs.map (·.1) = ls.map fun b => (DataW.lit (.string b) : DataW H) := by
        have := congrArg Prod.fst hx
        simpa [strData] using this
      have hxl : xs.length = n := by simpa using Lib.mapM_length hm
      have hzl : ls.length = n := by
        have := congrArg List.length hxs
        simp at this
        omega
      apply List.ext_getElem?
      intro i
      by_cases hi : i < n
      · obtain ⟨b, hb, hf⟩ := Lib.mapM_at hm i i (by simp [hi])
        obtain ⟨z, hc, rfl, _⟩ := DataW.trod_string he hf
        have h1 : cs[i]? = some (.string z) := by
          have := congrArg (·[0]?) hc
          simpa [List.getElem?_take, List.getElem?_drop] using this
        have h2 : (xs.map (·.1))[i]? = some (DataW.lit (.string z.data.toList) : DataW H) := by simp [hb]
        rw [hxs] at h2
        simp only [List.getElem?_map, Option.map_eq_some_iff, DataW.lit.injEq, Lit.string.injEq] at h2
        obtain ⟨z', hz', rfl⟩ := h2
        simp [h1, hz']
      · rw [List.getElem?_eq_none (by omega), List.getElem?_eq_none (by simp; omega)]
    · cases h
theorem names_data : (Rows.laid_cartulary_object_names : DataW Unit) = strData ((List.range 5).map nm) := rfl

theorem names_of {W : World} {rest : List (String × DataW Unit)} (h : laidMet Tryd.prog (("cartulary/object.names", strData ((List.range 5).map nm)) :: rest) W) : NamesAt W := by
  obtain ⟨ps, ⟨g', t', cs, fuel, p, q, hg', ht', hvar, hd, _,_⟩, _⟩ := h
  obtain rfl := Option.some.inj (gNames.symm.trans hg')
  obtain rfl := Option.some.inj (tNames.symm.trans ht')
  have hcs := cells_of_strs Tryd.underlying91 Tryd.underlying9 cells9l cells91 hd
  have hc : ∀ i, i < 5 → W.cell? ⟨0, i, none⟩ = some (.string ⟨(nm i).toArray⟩) := by
    intro i hi
    have := World.var?_cell gNames hvar i
    rw [this, ← Array.getElem?_toList, hcs]
    simp [hi]
  exact ⟨World.block_lt_of_cell? W _ (hc 0 (by decide)), hc⟩

def laidS : List (String × DataW Unit) := laidT ++ [("cartulary/object.names", Rows.laid_cartulary_object_names)]
theorem laidS_met (os : Os) (args : Array Value) : laidMetH Tryd.prog laidS ((World.laidAll Tryd.prog os laidS).forCall (fun _ _ => 0) ⟨#[], args, []⟩).memory := by
  rw [MakeChecks.laidMetH_plain _ _ _ (by kernel_rfl)]; exact laidMet_laidAll _ (by kernel_rfl) (by kernel_rfl)
theorem of_laidS {W : World} (h : laidMetH Tryd.prog laidS W) : GT W ∧ NamesAt W := by
  rw [MakeChecks.laidMetH_plain _ _ _ (by kernel_rfl)] at h
  refine ⟨of_rows h, ?_⟩
  unfold laidS laidT at h
  simp only [List.cons_append, List.nil_append] at h
  rw [names_data] at h
  exact names_of h.tail.tail.tail.tail.tail
theorem cells43 : Tryd.prog.cellsOf 43 = 7 := by kernel_rfl
theorem array7 {α : Type} {cs : Array α} (h : cs.size = 7) : ∃ a b c d e f g, cs = #[a, b, c, d, e, f, g] := by
  obtain ⟨l⟩ := cs
  match l, h with
  | [a, b, c, d, e, f, g], _ => exact ⟨a, b, c, d, e, f, g, rfl⟩
set_option maxRecDepth 100000 in
theorem open_label {H : Type} {enc : TypeId × Value → H} {W : World} {b0 : Nat} {v : Value} {d : DataW H} {p : List MemPlace}
    (hv : Value.okWide Tryd.prog W .any b0 43 v) (h : DataW.Trod enc Tryd.prog W 0 (fun _ => true) true 43 v d p) :
    ∃ (o : ByteArray) (k : Int) (n : ByteArray) (s : Sb) (m : ByteArray), v = .agg (c43 o k n s m) ∧ o.size ≤ maxLen ∧ n.size ≤ maxLen ∧ s.who.size ≤ maxLen ∧ ∃ d0 d1 d2 d3, d = .agg [d0, d1, d2, d3, .lit (.string m.data.toList)] := by
  obtain ⟨cs, rfl, hsz⟩ := okWide_struct Tryd.underlying43 hv
  obtain ⟨v0, v1, v2, v3, v4, v5, v6, rfl⟩ := array7 (hsz.trans cells43)
  obtain ⟨fuel, hf⟩ := h
  obtain ⟨y0, y1, y2, y3, y4, n, hx, h0, h1, h2, h3, h4⟩ := trod_struct5 Tryd.underlying43 hf
  simp only [Value.cells, cells9l, cells3l, cells24, List.drop_zero, List.take_succ_cons, List.take_zero, List.drop_succ_cons] at h0 h1 h2 h3 h4
  obtain ⟨o, ho, _, wo⟩ := DataW.trod_string Tryd.underlying9 h0
  obtain ⟨k, hk, _,_⟩ := DataW.trod_int Tryd.underlying3 h1
  obtain ⟨nn, hn, _, wn⟩ := DataW.trod_string Tryd.underlying9 h2
  obtain ⟨s, rfl, rfl, rfl, s1, _,_⟩ := sign_cells h3
  obtain ⟨m, hm, gm, _⟩ := DataW.trod_string Tryd.underlying9 h4
  simp only [List.cons.injEq, and_true] at ho hk hn hm
  subst ho hk hn hm
  refine ⟨o, k, nn, s, m, rfl, wo, wn, s1, y0.1, y1.1, y2.1, y3.1, ?_⟩
  rw [show d = _ from hx, gm]
end Go.Proofs.YtbghailohnppmaaDoor
