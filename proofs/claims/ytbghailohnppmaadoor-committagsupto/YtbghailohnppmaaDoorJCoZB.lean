/-
  Walks of the laws of commit: CommitMessages.
  Walks of the document's words on commits: Check.
  Walks of the document's words on commits: Text.
  Walks of the document's words on commits: Same.
  Walks of the laws of commit: CommitFormats.
  The document's reading of a line.
  The document's reading of a number.
  Blanks in a line, and a zone's five signs.
  The document's reading of a sign.
  The document's Parse.
-/
import Derived.Test.YtbghailohnppmaaDoorJComL
import Derived.Laws.AppendOwnNone
import Derived.Deep.AppendLies
import Derived.Test.YtbghailohnppmaaDoorJComH
namespace Go.Proofs.YtbghailohnppmaaDoor
open Go.RowKit

theorem CBox.nine {w : World} {g : Nat} {t : ByteArray} {pv : Value} {awho cwho m : ByteArray} {at_ az ct cz : Int} (h : CBox w g t pv ⟨awho, at_, az⟩ ⟨cwho, ct, cz⟩ m) :
    w.cell? ⟨g, 0, none⟩ = some (.string t) ∧ w.cell? ⟨g, 1, none⟩ = some pv ∧ w.cell? ⟨g, 2, none⟩ = some (.string awho) ∧ w.cell? ⟨g, 3, none⟩ = some (.int .i64 at_) ∧ w.cell? ⟨g, 4, none⟩ = some (.int .i64 az) ∧ w.cell? ⟨g, 5, none⟩ = some (.string cwho) ∧ w.cell? ⟨g, 6, none⟩ = some (.int .i64 ct) ∧ w.cell? ⟨g, 7, none⟩ = some (.int .i64 cz) ∧ w.cell? ⟨g, 8, none⟩ = some (.string m) :=
  ⟨h.cell 0 rfl, h.cell 1 rfl, h.cell 2 rfl, h.cell 3 rfl, h.cell 4 rfl, h.cell 5 rfl, h.cell 6 rfl, h.cell 7 rfl, h.cell 8 rfl⟩
end Go.Proofs.YtbghailohnppmaaDoor
namespace Go.Proofs.YtbghailohnppmaaDoor
open Go.RowKit

end Go.Proofs.YtbghailohnppmaaDoor
namespace Go.Proofs.YtbghailohnppmaaDoor
open Go.RowKit

/-- the argument's box, while the text grows -/
structure TxX (w : World) (g : Nat) (t : ByteArray) (pv : Value) (a c : Sb) (m : ByteArray) (V : World) : Prop where
  bel : Below w.heap.size w V
  box : CBox V g t pv a c m
  gt : GT V
theorem TxX.next {w V w' : World} {g : Nat} {t : ByteArray} {pv : Value} {a c : Sb} {m : ByteArray} (H : TxX w g t pv a c m V) (hb : Below V.heap.size V w') : TxX w g t pv a c m w' := ⟨H.bel.trans (hb.mono H.bel.size), H.box.below hb, H.gt.below hb⟩
theorem TxX.drew {w V : World} {g : Nat} {t : ByteArray} {pv : Value} {a c : Sb} {m : ByteArray} (H : Hid (TxX w g t pv a c m V)) : Hid (TxX w g t pv a c m V.drew) := H.out.next ((Below.refl _ V).trans ⟨rfl, rfl, rfl, Nat.le_refl _, fun _ _ => rfl⟩)
theorem TxX.drewN {w V : World} {g : Nat} {t : ByteArray} {pv : Value} {a c : Sb} {m : ByteArray} {n : Nat} (H : Hid (TxX w g t pv a c m V)) : Hid (TxX w g t pv a c m (V.drewN n)) := H.out.next (below_drewN (Below.refl _ _) n)
theorem TxX.full {w V : World} {g : Nat} {t : ByteArray} {pv : Value} {awho cwho m : ByteArray} {at_ az ct cz : Int} (H : TxX w g t pv ⟨awho, at_, az⟩ ⟨cwho, ct, cz⟩ m V) :
    V.cell? ⟨g, 2, none⟩ = some (.string awho) ∧ V.cell? ⟨g, 3, none⟩ = some (.int .i64 at_) ∧ V.cell? ⟨g, 4, none⟩ = some (.int .i64 az) ∧ V.cell? ⟨g, 5, none⟩ = some (.string cwho) ∧ V.cell? ⟨g, 6, none⟩ = some (.int .i64 ct) ∧ V.cell? ⟨g, 7, none⟩ = some (.int .i64 cz) ∧ V.cell? ⟨g, 8, none⟩ = some (.string m) ∧ Hid (TxX w g t pv ⟨awho, at_, az⟩ ⟨cwho, ct, cz⟩ m V) := by
  obtain ⟨_,_, k2, k3, k4, k5, k6, k7, k8⟩ := H.box.nine
  exact ⟨k2, k3, k4, k5, k6, k7, k8, H⟩
theorem TxX.call {w V : World} {f g : Nat} {t : ByteArray} {pv : Value} {awho cwho m : ByteArray} {at_ az ct cz : Int} {args : Array Value} {v : Value} (h : Calls Tryd.prog f args V fun x w' => x = .returned v ∧ Below V.heap.size V w') (H : Hid (TxX w g t pv ⟨awho, at_, az⟩ ⟨cwho, ct, cz⟩ m V)) :
    Calls Tryd.prog f args V fun x w' => x = .returned v ∧ (w'.cell? ⟨g, 2, none⟩ = some (.string awho) ∧ w'.cell? ⟨g, 3, none⟩ = some (.int .i64 at_) ∧ w'.cell? ⟨g, 4, none⟩ = some (.int .i64 az) ∧ w'.cell? ⟨g, 5, none⟩ = some (.string cwho) ∧ w'.cell? ⟨g, 6, none⟩ = some (.int .i64 ct) ∧ w'.cell? ⟨g, 7, none⟩ = some (.int .i64 cz) ∧ w'.cell? ⟨g, 8, none⟩ = some (.string m) ∧ Hid (TxX w g t pv ⟨awho, at_, az⟩ ⟨cwho, ct, cz⟩ m w')) :=
  h.mono fun _ _ ⟨hx, hb⟩ => ⟨hx, (H.out.next hb).full⟩
end Go.Proofs.YtbghailohnppmaaDoor
namespace Go.Proofs.YtbghailohnppmaaDoor
open Go.RowKit

end Go.Proofs.YtbghailohnppmaaDoor
namespace Go.Proofs.YtbghailohnppmaaDoor
open Go.RowKit

/-- the law's two boxes: the commit, and what few made of it -/
structure FX (w : World) (g h : Nat) (t : ByteArray) (pv qv : Value) (us : List ByteArray) (a c : Sb) (m : ByteArray) (V : World) : Prop where
  bel : Below w.heap.size w V
  cb : CBox V g t pv a c m
  ib : CBox V h t qv a c m
  s : StrsV V qv us
  gt : GT V
theorem FX.next {w V w' : World} {g h : Nat} {t : ByteArray} {pv qv : Value} {us : List ByteArray} {a c : Sb} {m : ByteArray} (H : FX w g h t pv qv us a c m V) (hb : Below V.heap.size V w') : FX w g h t pv qv us a c m w' := ⟨H.bel.trans (hb.mono H.bel.size), H.cb.below hb, H.ib.below hb, H.s.below hb, H.gt.below hb⟩
theorem FX.drew {w V : World} {g h : Nat} {t : ByteArray} {pv qv : Value} {us : List ByteArray} {a c : Sb} {m : ByteArray} (H : Hid (FX w g h t pv qv us a c m V)) : Hid (FX w g h t pv qv us a c m V.drew) := H.out.next ((Below.refl _ V).trans ⟨rfl, rfl, rfl, Nat.le_refl _, fun _ _ => rfl⟩)
theorem FX.drewN {w V : World} {g h : Nat} {t : ByteArray} {pv qv : Value} {us : List ByteArray} {a c : Sb} {m : ByteArray} {n : Nat} (H : Hid (FX w g h t pv qv us a c m V)) : Hid (FX w g h t pv qv us a c m (V.drewN n)) := H.out.next (below_drewN (Below.refl _ _) n)
theorem FX.full {w V : World} {g h : Nat} {t : ByteArray} {pv qv : Value} {us : List ByteArray} {awho cwho m : ByteArray} {at_ az ct cz : Int} (H : FX w g h t pv qv us ⟨awho, at_, az⟩ ⟨cwho, ct, cz⟩ m V) :
    V.cell? ⟨g, 0, none⟩ = some (.string t) ∧ V.cell? ⟨g, 1, none⟩ = some (pv) ∧ V.cell? ⟨g, 2, none⟩ = some (.string awho) ∧ V.cell? ⟨g, 3, none⟩ = some (.int .i64 at_) ∧ V.cell? ⟨g, 4, none⟩ = some (.int .i64 az) ∧ V.cell? ⟨g, 5, none⟩ = some (.string cwho) ∧ V.cell? ⟨g, 6, none⟩ = some (.int .i64 ct) ∧ V.cell? ⟨g, 7, none⟩ = some (.int .i64 cz) ∧ V.cell? ⟨g, 8, none⟩ = some (.string m) ∧ V.cell? ⟨h, 0, none⟩ = some (.string t) ∧ V.cell? ⟨h, 1, none⟩ = some (qv) ∧ V.cell? ⟨h, 2, none⟩ = some (.string awho) ∧ V.cell? ⟨h, 3, none⟩ = some (.int .i64 at_) ∧ V.cell? ⟨h, 4, none⟩ = some (.int .i64 az) ∧ V.cell? ⟨h, 5, none⟩ = some (.string cwho) ∧ V.cell? ⟨h, 6, none⟩ = some (.int .i64 ct) ∧ V.cell? ⟨h, 7, none⟩ = some (.int .i64 cz) ∧ V.cell? ⟨h, 8, none⟩ = some (.string m) ∧ Hid (FX w g h t (pv) (qv) us ⟨awho, at_, az⟩ ⟨cwho, ct, cz⟩ m V) := by
  obtain ⟨k0, k1, k2, k3, k4, k5, k6, k7, k8⟩ := H.cb.nine
  obtain ⟨i0, i1, i2, i3, i4, i5, i6, i7, i8⟩ := H.ib.nine
  exact ⟨k0, k1, k2, k3, k4, k5, k6, k7, k8, i0, i1, i2, i3, i4, i5, i6, i7, i8, H⟩
theorem FX.call {w V : World} {f g h : Nat} {t : ByteArray} {pv qv : Value} {us : List ByteArray} {awho cwho m : ByteArray} {at_ az ct cz : Int} {args : Array Value} {v : Value} (h1 : Calls Tryd.prog f args V fun x w' => x = .returned v ∧ Below V.heap.size V w') (H : Hid (FX w g h t pv qv us ⟨awho, at_, az⟩ ⟨cwho, ct, cz⟩ m V)) :
    Calls Tryd.prog f args V fun x V' => x = .returned v ∧ (V'.cell? ⟨g, 0, none⟩ = some (.string t) ∧ V'.cell? ⟨g, 1, none⟩ = some (pv) ∧ V'.cell? ⟨g, 2, none⟩ = some (.string awho) ∧ V'.cell? ⟨g, 3, none⟩ = some (.int .i64 at_) ∧ V'.cell? ⟨g, 4, none⟩ = some (.int .i64 az) ∧ V'.cell? ⟨g, 5, none⟩ = some (.string cwho) ∧ V'.cell? ⟨g, 6, none⟩ = some (.int .i64 ct) ∧ V'.cell? ⟨g, 7, none⟩ = some (.int .i64 cz) ∧ V'.cell? ⟨g, 8, none⟩ = some (.string m) ∧ V'.cell? ⟨h, 0, none⟩ = some (.string t) ∧ V'.cell? ⟨h, 1, none⟩ = some (qv) ∧ V'.cell? ⟨h, 2, none⟩ = some (.string awho) ∧ V'.cell? ⟨h, 3, none⟩ = some (.int .i64 at_) ∧ V'.cell? ⟨h, 4, none⟩ = some (.int .i64 az) ∧ V'.cell? ⟨h, 5, none⟩ = some (.string cwho) ∧ V'.cell? ⟨h, 6, none⟩ = some (.int .i64 ct) ∧ V'.cell? ⟨h, 7, none⟩ = some (.int .i64 cz) ∧ V'.cell? ⟨h, 8, none⟩ = some (.string m) ∧ Hid (FX w g h t (pv) (qv) us ⟨awho, at_, az⟩ ⟨cwho, ct, cz⟩ m V')) :=
  h1.mono fun _ _ ⟨hx, hb⟩ => ⟨hx, (H.out.next hb).full⟩
theorem FX.few {w V : World} {g h : Nat} {t : ByteArray} {pv qv : Value} {us : List ByteArray} {awho cwho m : ByteArray} {at_ az ct cz : Int} {args : Array Value} (h1 : Calls Tryd.prog 9 args V fun e w' => ∃ pv, e = .returned (.agg (c26 t pv ⟨awho, at_, az⟩ ⟨cwho, ct, cz⟩ m)) ∧ OwnS w' V.heap.size pv us ∧ Below V.heap.size V w') (H : Hid (FX w g h t pv qv us ⟨awho, at_, az⟩ ⟨cwho, ct, cz⟩ m V)) :
    Calls Tryd.prog 9 args V fun x V' => ∃ ta tn tc, x = .returned (.agg (c26 t (.slice ta tn tc) ⟨awho, at_, az⟩ ⟨cwho, ct, cz⟩ m)) ∧ (V'.cell? ⟨g, 0, none⟩ = some (.string t) ∧ V'.cell? ⟨g, 1, none⟩ = some (pv) ∧ V'.cell? ⟨g, 2, none⟩ = some (.string awho) ∧ V'.cell? ⟨g, 3, none⟩ = some (.int .i64 at_) ∧ V'.cell? ⟨g, 4, none⟩ = some (.int .i64 az) ∧ V'.cell? ⟨g, 5, none⟩ = some (.string cwho) ∧ V'.cell? ⟨g, 6, none⟩ = some (.int .i64 ct) ∧ V'.cell? ⟨g, 7, none⟩ = some (.int .i64 cz) ∧ V'.cell? ⟨g, 8, none⟩ = some (.string m) ∧ V'.cell? ⟨h, 0, none⟩ = some (.string t) ∧ V'.cell? ⟨h, 1, none⟩ = some (qv) ∧ V'.cell? ⟨h, 2, none⟩ = some (.string awho) ∧ V'.cell? ⟨h, 3, none⟩ = some (.int .i64 at_) ∧ V'.cell? ⟨h, 4, none⟩ = some (.int .i64 az) ∧ V'.cell? ⟨h, 5, none⟩ = some (.string cwho) ∧ V'.cell? ⟨h, 6, none⟩ = some (.int .i64 ct) ∧ V'.cell? ⟨h, 7, none⟩ = some (.int .i64 cz) ∧ V'.cell? ⟨h, 8, none⟩ = some (.string m) ∧ Hid (FX w g h t (pv) (qv) us ⟨awho, at_, az⟩ ⟨cwho, ct, cz⟩ m V')) ∧ Hid (StrsV V' (.slice ta tn tc) us) :=
  h1.mono fun _ _ ⟨pv, hx, ho, hb⟩ => by
    obtain ⟨ta, tn, tc, hpv⟩ := ho.slice
    subst hpv
    exact ⟨ta, tn, tc, hx, (H.out.next hb).full, ho.strs⟩
end Go.Proofs.YtbghailohnppmaaDoor
namespace Go.Proofs.YtbghailohnppmaaDoor
open Go.RowKit

theorem ext_list (s : ByteArray) (a b : Nat) : s.extract a b = ⟨((s.data.toList.take b).drop a).toArray⟩ := ba_eq (by
  simp [List.extract_eq_take_drop, List.drop_take])
set_option maxHeartbeats 1600000 in
theorem begins41_any (X p : ByteArray) (w : World) :
    Calls Tryd.prog 41 #[.string X, .string p] w fun e w' => e = .returned (.bool (Lib.hasPrefix X.data.toList p.data.toList)) ∧ w' = w := by
  have HR : Hid ((decide (p.size ≤ X.size) && ((X.extract 0 p.size).toList == p.toList)) = Lib.hasPrefix X.data.toList p.data.toList) := Lib.hasPrefix_raw X p
  obtain ⟨b, hb⟩ : ∃ b, Lib.hasPrefix X.data.toList p.data.toList = b := ⟨_, rfl⟩
  rw [hb] at HR ⊢
  clear hb
  by_cases h : p.size ≤ X.size
  · have g : decide ((p.size : Int) ≤ (X.size : Int)) = true := by simp; omega
    have g2 : (p.size : Int) ≤ (X.size : Int) := by omega
    have HR2 : Hid (((X.extract 0 p.size).toList == p.toList) = b) := by
      have := HR.out
      rwa [show decide (p.size ≤ X.size) = true by simpa using h, Bool.true_and] at this
    go_enter Tryd.func41, Tryd.ntmps41
    go_wp2_with fail
    go_ret
    exact ⟨by rw [← HR2.out]; rfl, rfl⟩
  · have g : decide ((p.size : Int) ≤ (X.size : Int)) = false := by simp; omega
    have HR2 : Hid (b = false) := by
      have := HR.out
      rw [show decide (p.size ≤ X.size) = false by simpa using h, Bool.false_and] at this
      exact this.symm
    go_enter Tryd.func41, Tryd.ntmps41
    go_wp2_with fail
    go_ret
    exact ⟨by rw [HR2.out]; rfl, rfl⟩
/-- what the document's line answers -/
def lineV (o : Option (List UInt8 × List UInt8)) : Value := match o with
  | none => .tuple #[.string ⟨#[]⟩, .string ⟨#[]⟩, .bool false]
  | some (x, r) => .tuple #[.string ⟨x.toArray⟩, .string ⟨r.toArray⟩, .bool true]
set_option maxHeartbeats 2000000 in
theorem refline_any (s word : ByteArray) (w : World) (hs : s.size ≤ 140737488355328) (hwd : word.size ≤ 1000) :
    Calls Tryd.prog 40 #[.string s, .string word] w fun e w' => e = .returned (lineV (lineP (word.data.toList ++ [32]) s.data.toList)) ∧ Below w.heap.size w w' := by
  have HF := hidM (fun V => find_any s 10 V (by omega))
  have HF2 : Hid (∀ V, Calls Tryd.prog 35 #[.string s, .int .u8 10] V fun e w' => e = .returned (.int .i64 (Lib.indexByte s.data.toList 10)) ∧ w' = V) := HF.out
  clear HF
  unfold lineP
  cases hc : cut1 10 s.data.toList with
  | none =>
    have hi : Lib.indexByte s.data.toList 10 = -1 := by
      rw [cut1_split] at hc
      exact (split_none hc).1
    rw [hi] at HF2
    have HR : Hid (lineV none = .tuple #[.string ⟨#[]⟩, .string ⟨#[]⟩, .bool false]) := rfl
    simp only
    clear hc hi
    go_enter Tryd.func40, Tryd.ntmps40
    go_wp2_with fail
    refine (HF2.out _).mono ?_
    rintro _ wq ⟨rfl, hq⟩
    rw [hq]
    clear hq
    go_wp2
    go_ret3
    exact ⟨by rw [HR.out]; rfl, Below.refl _ _⟩
  | some pq =>
    obtain ⟨p, q⟩ := pq
    rw [cut1_split] at hc
    obtain ⟨hi, hl, -⟩ := split_some hc
    rw [hi] at HF2
    have hsz : s.size = p.length + q.length + 1 := by rw [← sl_len, hl]; simp; omega
    obtain ⟨k, hk⟩ : ∃ k, p.length = k := ⟨_, rfl⟩
    have HX1 : Hid (s.extract 0 k = ⟨p.toArray⟩) := by unfold Hid; rw [ext_list, hl, ← hk]; simp
    have HX2 : Hid (s.extract (k + 1) s.size = ⟨q.toArray⟩) := by unfold Hid; rw [ext_list, List.take_of_length_le (by rw [sl_len]; exact Nat.le_refl _), hl, ← hk]; simp
    have HX3 : Hid (s.extract (word.size + 1) k = ⟨(p.drop (word.data.toList ++ [32]).length).toArray⟩) := by unfold Hid; rw [ext_list, hl, ← hk]; simp
    have hW : word ++ ⟨#[32]⟩ = ⟨(word.data.toList ++ [32]).toArray⟩ := ba_eq (by simp)
    obtain ⟨W2, hW2⟩ : ∃ W2 : ByteArray, word ++ ⟨#[32]⟩ = W2 := ⟨_, rfl⟩
    have hW2l : W2.data.toList = word.data.toList ++ [32] := by rw [← hW2, hW]
    have HBG := hidM (fun V => begins41_any ⟨p.toArray⟩ W2 V)
    rw [hW2l] at HBG
    rw [hk] at HF2
    have hks : k < s.size := by omega
    have h9 : ¬ 9223372036854775807 < word.size + 1 := by omega
    have hpl : (⟨p.toArray⟩ : ByteArray).data.toList = p := rfl
    rw [hpl] at HBG
    have hpk : Lib.hasPrefix p (word.data.toList ++ [32]) = true → word.size + 1 ≤ k := fun h => by
      have := congrArg List.length (pref_app h)
      simp at this
      omega
    cases hb : Lib.hasPrefix p (word.data.toList ++ [32]) with
    | false =>
      rw [hb] at HBG
      simp only
      rw [if_neg (by rw [hb]; simp)]
      have HLV : Hid (lineV none = .tuple #[.string ⟨#[]⟩, .string ⟨#[]⟩, .bool false]) := rfl
      rw [HLV.out]
      clear hc hi hl hsz HX2 HX3 hW hW2l hb hpl hpk
      go_enter Tryd.func40, Tryd.ntmps40
      go_wp2_with fail
      refine (HF2.out _).mono ?_
      rintro _ wq ⟨rfl, hq⟩
      rw [hq]
      clear hq
      go_wp2_with fail
      rw [HX1.out]
      refine (HBG.out _).mono ?_
      rintro _ wq ⟨rfl, hq⟩
      rw [hq]
      clear hq
      go_wp2
      go_ret3
      exact ⟨rfl, Below.refl _ _⟩
    | true =>
      rw [hb] at HBG
      have hwk := hpk hb
      simp only
      rw [if_pos hb]
      have HLV : Hid (lineV (some (p.drop (word.data.toList ++ [32]).length, q)) = .tuple #[.string ⟨(p.drop (word.data.toList ++ [32]).length).toArray⟩, .string ⟨q.toArray⟩, .bool true]) := rfl
      rw [HLV.out]
      clear HLV
      generalize p.drop (word.data.toList ++ [32]).length = x at *
      have hw1 : (word.size : Int) + 1 ≤ (k : Int) := by omega
      clear hc hi hl hW hW2l hb hpl hpk
      go_enter Tryd.func40, Tryd.ntmps40
      go_wp2_with fail
      refine (HF2.out _).mono ?_
      rintro _ wq ⟨rfl, hq⟩
      rw [hq]
      clear hq
      go_wp2_with fail
      rw [HX1.out]
      refine (HBG.out _).mono ?_
      rintro _ wq ⟨rfl, hq⟩
      rw [hq]
      clear hq
      have k1 : (k : Int) + 1 ≤ (s.size : Int) := by omega
      clear hsz
      go_wp2
      go_quiet (fail)
      go_wp2
      go_ret3
      exact ⟨by rw [← HX3.out, ← HX2.out]; rfl, below_drewN (Below.refl _ _) _⟩
end Go.Proofs.YtbghailohnppmaaDoor
namespace Go.Proofs.YtbghailohnppmaaDoor
open Go.RowKit

theorem valL_ge (a b : List UInt8) : valL a ≤ valL (a ++ b) := by
  induction b using snocInd with
  | nil => simp
  | append_singleton l c ih => rw [← List.append_assoc, valL_snoc]; omega
theorem val_take (l : List UInt8) (j : Nat) : valL (l.take j) ≤ valL l := by
  have := valL_ge (l.take j) (l.drop j)
  rwa [List.take_append_drop] at this
/-- the digits of a number's text, and whether a - stands ahead -/
def negB (l : List UInt8) : Bool := match l with | c :: _ => c == 45 | [] => false
def partZ (l : List UInt8) (i : Nat) : Int := if negB l then -((valL ((l.drop 1).take (i - 1)) : Nat) : Int) else ((valL (l.take i) : Nat) : Int)
theorem dd_le {k u : Nat} (h : u < 10 ^ k) (hk : 1 ≤ k) : (Lib.decDigits u).length ≤ k := by
  rw [Lib.decDigits_length]
  have key : ∀ k u, u < 10 ^ k → 1 ≤ k → Lib.nDigits u ≤ k := by
    intro k
    induction k with
    | zero => intro u _ h; omega
    | succ k ih =>
      intro u hu _
      by_cases h : u < 10
      · rw [Lib.nDigits_small h]; omega
      · rw [Lib.nDigits_big h]
        have h10 : u / 10 < 10 ^ k := by
          rw [Nat.pow_succ] at hu; omega
        have hk : 1 ≤ k := by
          rcases Nat.eq_zero_or_pos k with rfl | h0
          · simp at hu; omega
          · exact h0
        have := ih (u / 10) h10 hk
        omega
  exact key k u h hk
theorem dd_len19 (u : Nat) (h : u ≤ 9223372036854775808) : (Lib.decDigits u).length ≤ 19 := by
  have h9 : (10 : Nat) ^ 19 = 10000000000000000000 := by decide
  exact dd_le (k := 19) (by rw [h9]; omega) (by decide)
theorem fit_of {l : List UInt8} {t : Int} (h : timeP l = some t) : l ≠ [] ∧ l.length ≤ 20 ∧ (∀ i (hi : i < l.length), (i = 0 ∧ negB l = true) ∨ isDig l[i]) ∧ partZ l l.length = t ∧ ∀ i, -9223372036854775808 ≤ partZ l i ∧ partZ l i ≤ 9223372036854775807 := by
  obtain ⟨h1, h2, h3⟩ := timeP_some h
  subst h1
  have hdl : ∀ u : Nat, u ≤ 9223372036854775808 → (Lib.decDigits u).length ≤ 19 := fun u hu => dd_len19 u hu
  unfold Lib.itoa
  by_cases hn : t < 0
  · rw [if_pos hn]
    have hb : negB (45 :: Lib.decDigits t.natAbs) = true := rfl
    refine ⟨by simp, by have := hdl t.natAbs (by omega); simp; omega, fun i hi => ?_, ?_, fun i => ?_⟩
    · cases i with
      | zero => exact .inl ⟨rfl, hb⟩
      | succ i => exact .inr (dd_digs t.natAbs _ (by simp))
    · unfold partZ
      rw [if_pos hb]
      simp [dd_val]
      omega
    · unfold partZ
      rw [if_pos hb]
      have := val_take (Lib.decDigits t.natAbs) (i - 1)
      rw [dd_val] at this
      simp
      omega
  · rw [if_neg hn]
    obtain ⟨c, r, e, hc⟩ := dd_first t.toNat
    have hb : negB (Lib.decDigits t.toNat) = false := by
      rw [e]
      show (c == 45) = false
      unfold isDig at hc
      simp
      intro h
      subst h
      exact absurd hc.1 (by decide)
    refine ⟨dd_ne _, by have := hdl t.toNat (by omega); omega, fun i hi => .inr (dd_digs _ _ (List.getElem_mem hi)), ?_, fun i => ?_⟩
    · unfold partZ
      rw [if_neg (by rw [hb]; simp), List.take_of_length_le (Nat.le_refl _), dd_val]
      omega
    · unfold partZ
      rw [if_neg (by rw [hb]; simp)]
      have := val_take (Lib.decDigits t.toNat) i
      rw [dd_val] at this
      omega
theorem part_next {l : List UInt8} {i : Nat} (hi : i < l.length) (h : ¬ (i = 0 ∧ negB l = true)) : partZ l (i + 1) = 10 * partZ l i + (if negB l then -((l[i].toNat - 48 : Nat) : Int) else ((l[i].toNat - 48 : Nat) : Int)) := by
  unfold partZ
  by_cases hb : negB l = true
  · rw [if_pos hb, if_pos hb, if_pos hb]
    have h0' : i ≠ 0 := fun e => h ⟨e, hb⟩
    have h0 : 0 < i := by omega
    have e : (l.drop 1).take (i + 1 - 1) = (l.drop 1).take (i - 1) ++ [l[i]] := by
      have h1 : i - 1 < (l.drop 1).length := by simp; omega
      have h2 := List.take_succ_eq_append_getElem h1
      have h3 : i - 1 + 1 = i + 1 - 1 := by omega
      rw [h3] at h2
      rw [h2]
      congr 2
      rw [List.getElem_drop]
      congr 1; omega
    rw [e, valL_snoc]
    omega
  · rw [if_neg hb, if_neg hb, if_neg hb, List.take_succ_eq_append_getElem hi, valL_snoc]
    omega
theorem part_zero (l : List UInt8) : partZ l 0 = 0 := by unfold partZ; split <;> simp [valL]
theorem part_one {l : List UInt8} (h : negB l = true) : partZ l 1 = 0 := by unfold partZ; rw [if_pos h]; simp [valL]
/-- what the loop has added up -/
structure NumS (l : List UInt8) (i : Nat) (n : Int) : Prop where
  lo : -9223372036854775808 ≤ n
  hi : n ≤ 9223372036854775807
  fit : ∀ t, timeP l = some t → n = partZ l i
theorem neg_at (l : List UInt8) (h : 0 < l.length) : ((l[0].toNat : Int) == 45) = negB l := by
  cases l with
  | nil => simp at h
  | cons c r =>
    show ((c.toNat : Int) == 45) = (c == 45)
    by_cases hc : c = 45
    · subst hc; rfl
    · have h3 : ¬ (c.toNat : Int) = 45 := fun h => hc (UInt8.toNat_inj.1 (by show c.toNat = 45; omega))
      rw [beq_false_of_ne h3, beq_false_of_ne hc]
theorem eq_str (l : List UInt8) (s : ByteArray) : ((⟨l.toArray⟩ : ByteArray).toList == s.toList) = (l == s.data.toList) := by
  rw [ByteArray.toList_eq, ByteArray.toList_eq]
def NumP (l : List UInt8) (w : World) (e : Ending) (w' : World) : Prop := (∃ (n : Int) (b : Bool), e = .returned (.tuple #[.int .i64 n, .bool b]) ∧ (∀ t, timeP l = some t → b = true ∧ n = t) ∧ (timeP l = none → b = false)) ∧ Below w.heap.size w w'
theorem num_end {l : List UInt8} {n : Int} {i : Nat} (h : NumS l i n) (hi : i = l.length) : (∀ t, timeP l = some t → (Lib.itoa n == l) = true ∧ n = t) ∧ (timeP l = none → (Lib.itoa n == l) = false) := by
  subst hi
  constructor
  · intro t ht
    have h1 := h.fit t ht
    rw [(fit_of ht).2.2.2.1] at h1
    subst h1
    exact ⟨by simp [(timeP_some ht).1], rfl⟩
  · intro hn
    cases hb : Lib.itoa n == l with
    | false => rfl
    | true =>
      have h1 : Lib.itoa n = l := by simpa using hb
      rw [← h1, time_itoa n h.lo h.hi] at hn
      cases hn
theorem wrap_lo (n : Int) : -9223372036854775808 ≤ wrap64 n ∧ wrap64 n ≤ 9223372036854775807 := by unfold wrap64; omega
theorem wrap_in {n : Int} (h1 : -9223372036854775808 ≤ n) (h2 : n ≤ 9223372036854775807) : wrap64 n = n := by unfold wrap64; omega
set_option maxHeartbeats 4000000 in
theorem refnumber_any (s : ByteArray) (w : World) (hs : s.size ≤ 140737488355328) :
    Calls Tryd.prog 61 #[.string s] w fun e w' => NumP s.data.toList w e w' := by
  have HN0 : Hid (NumS s.data.toList 0 0) := ⟨by decide, by decide, fun t _ => (part_zero _).symm⟩
  have HSL := hidM (sl_len s)
  by_cases h0 : s.size = 0
  · have HE : Hid (s.data.toList = []) := List.eq_nil_of_length_eq_zero (by rw [sl_len]; exact h0)
    have g0 : ¬ (0 : Int) < (s.size : Int) := by omega
    have g0d : decide ((0 : Int) < (s.size : Int)) = false := by rw [h0]; rfl
    have HEND := hidM (num_end HN0.out (by rw [HE.out]; rfl))
    clear h0
    go_enter Tryd.func61, Tryd.ntmps61
    go_wp2
    go_loop [5, 6] (fun nv iv => nv = .int .i64 0 ∧ iv = .int .i64 0) (fun _ _ => 0)
    case atStart => exact ⟨rfl, rfl⟩
    case round =>
      obtain ⟨rfl, rfl⟩ := hrel
      obtain ⟨b, hb⟩ : ∃ b, (Lib.itoa 0 == s.data.toList) = b := ⟨_, rfl⟩
      rw [hb] at HEND
      have hbe := eq_str (Lib.itoa 0) s
      rw [hb] at hbe
      obtain ⟨Z, hZ⟩ : ∃ Z, (⟨(Lib.itoa 0).toArray⟩ : ByteArray) = Z := ⟨_, rfl⟩
      have HDG := hidM (digits_bel 0 w (by first | decide | omega) (by first | decide | omega))
      rw [hZ] at hbe HDG
      clear hb hZ
      go_wp2_with fail
      refine HDG.out.mono ?_
      rintro _ w2 ⟨rfl, hb2⟩
      have HB2 := hidM hb2
      clear hb2 HDG
      go_wp2
      go_ret2
      exact ⟨⟨0, b, rfl, HEND.out.1, HEND.out.2⟩, HB2.out⟩
  · obtain ⟨neg, hneg⟩ : ∃ b, negB s.data.toList = b := ⟨_, rfl⟩
    have h00 : 0 < s.size := by omega
    have g0 : (0 : Int) < (s.size : Int) := by omega
    have hhd : ((s[0].toNat : Int) == 45) = neg := by
      rw [← hneg]
      exact neg_at s.data.toList (by rw [sl_len]; omega)
    have HNEG := hidM hneg
    clear hneg
    go_enter Tryd.func61, Tryd.ntmps61
    go_wp2
    go_loop [5, 6] (fun nv iv => ∃ (i : Nat) (n : Int), i ≤ s.size ∧ iv = .int .i64 i ∧ nv = .int .i64 n ∧ Hid (NumS s.data.toList i n)) (fun _ iv => s.size - (intOf iv).toNat)
    case atStart => exact ⟨0, 0, Nat.zero_le _, rfl, rfl, HN0⟩
    case round =>
      obtain ⟨i, n, hi, rfl, rfl, HS⟩ := hrel
      clear HN0
      by_cases hlt : i < s.size
      · have ki : (i : Int) < (s.size : Int) := by omega
        by_cases hfirst : i = 0 ∧ neg = true
        · obtain ⟨rfl, rfl⟩ := hfirst
          have HS1 : Hid (NumS s.data.toList (0 + 1) n) := ⟨HS.out.lo, HS.out.hi, fun t ht => by rw [HS.out.fit t ht, part_zero, part_one HNEG.out]⟩
          go_wp2
          go_round
          case rel => exact ⟨0 + 1, n, by omega, by go_num, rfl, HS1⟩
          case measure => (show s.size - ((0 : Int) + 1).toNat < s.size - ((0 : Int)).toNat); omega
        · have hsi : s[i] = s.data.toList[i]'(by rw [sl_len]; exact hlt) := rfl
          have HPN := hidM (part_next (l := s.data.toList) (i := i) (by rw [sl_len]; exact hlt) (fun h => hfirst ⟨h.1, by rw [← HNEG.out]; exact h.2⟩))
          have HNO : Hid (¬ isDig s[i] → ∀ t, timeP s.data.toList ≠ some t) := fun hd t ht => by
            rcases (fit_of ht).2.2.1 i (by rw [sl_len]; exact hlt) with h | h
            · exact hfirst ⟨h.1, by rw [← HNEG.out]; exact h.2⟩
            · exact hd h
          have HLONG : Hid (20 < s.size → ∀ t, timeP s.data.toList ≠ some t) := fun hd t ht => by
            have := (fit_of ht).2.1
            rw [sl_len] at this
            omega
          have HBDS : Hid (∀ t, timeP s.data.toList = some t → ∀ i, -9223372036854775808 ≤ partZ s.data.toList i ∧ partZ s.data.toList i ≤ 9223372036854775807) := fun t ht => (fit_of ht).2.2.2.2
          rw [HNEG.out, ← hsi] at HPN
          have HFI : Hid (i = 0 → neg = false) := fun h => by cases neg with
            | false => rfl
            | true => exact absurd ⟨h, rfl⟩ hfirst
          clear hfirst hsi
          obtain ⟨c, hc⟩ : ∃ c, s[i] = c := ⟨_, rfl⟩
          rw [hc] at HPN HNO
          have cd0 : (0 : Int) ≤ (c.toNat : Int) := by omega
          have cd1 : (c.toNat : Int) ≤ 255 := by have := c.toNat_lt; omega
          rcases Nat.eq_zero_or_pos i with hi0 | hi0
          · have hng := HFI.out hi0
            subst hi0
            subst hng
            have HSG : Hid (if false then partZ s.data.toList 0 ≤ 0 else 0 ≤ partZ s.data.toList 0) := by
              unfold Hid partZ
              rw [HNEG.out]
              simp
            by_cases hd1 : (c.toNat : Int) < 48
            · have hdd1 : decide ((c.toNat : Int) < 48) = true := by simpa using hd1
              have HNONE := hidM (HNO.out (fun h => by unfold isDig at h; omega))
              clear HPN HNO HLONG HBDS HFI HS HNEG
              go_wp2
              go_ret2
              exact ⟨⟨0, false, rfl, fun t ht => absurd ht (HNONE.out t), fun _ => rfl⟩, Below.refl _ _⟩
            · have hdd1 : decide ((c.toNat : Int) < 48) = false := by simpa using hd1
              by_cases hd2 : 57 < (c.toNat : Int)
              · have hdd2 : decide (57 < (c.toNat : Int)) = true := by simpa using hd2
                have HNONE := hidM (HNO.out (fun h => by unfold isDig at h; omega))
                clear HPN HNO HLONG HBDS HFI HS HNEG
                go_wp2
                go_ret2
                exact ⟨⟨0, false, rfl, fun t ht => absurd ht (HNONE.out t), fun _ => rfl⟩, Below.refl _ _⟩
              · have hdd2 : decide (57 < (c.toNat : Int)) = false := by simpa using hd2
                by_cases hd3 : 20 < s.size
                · have hdd3 : (20 : Int) < (s.size : Int) := by omega
                  have HNONE := hidM (HLONG.out hd3)
                  clear HPN HNO HLONG HBDS HFI HS HNEG
                  go_wp2
                  go_ret2
                  exact ⟨⟨0, false, rfl, fun t ht => absurd ht (HNONE.out t), fun _ => rfl⟩, Below.refl _ _⟩
                · have hdd3 : ¬ (20 : Int) < (s.size : Int) := by omega
                  have hdd4 : decide ((20 : Int) < (s.size : Int)) = false := by simpa using hdd3
                  have HS1 : Hid (NumS s.data.toList (0 + 1) (wrap64 (wrap64 (10 * n) + ((c.toNat : Int) - 48)))) := by
                    refine ⟨(wrap_lo _).1, (wrap_lo _).2, fun t ht => ?_⟩
                    have h1 := HS.out.fit t ht
                    have h2 := HBDS.out t ht (0 + 1)
                    have h4 := HPN.out
                    have h5 : ((c.toNat - 48 : Nat) : Int) = (c.toNat : Int) - 48 := by omega
                    simp only [h5, Bool.false_eq_true, if_false] at h4
                    rw [h4] at h2 ⊢
                    subst h1
                    have h7 := HSG.out
                    simp only [Bool.false_eq_true, if_false] at h7
                    have h6 : -9223372036854775808 ≤ 10 * partZ s.data.toList 0 ∧ 10 * partZ s.data.toList 0 ≤ 9223372036854775807 := by omega
                    rw [wrap_in h6.1 h6.2, wrap_in h2.1 h2.2]
                  clear HPN HNO HLONG HBDS HS
                  go_wp2
                  go_round
                  case rel => exact ⟨0 + 1, _, by omega, by go_num, rfl, HS1⟩
                  case measure => (show s.size - ((0 : Int) + 1).toNat < s.size - ((0 : Int)).toNat); omega
          · have hi0d : ((i : Int) == 0) = false := by simp; omega
            cases neg with
            | true =>
              have HSG : Hid (if true then partZ s.data.toList i ≤ 0 else 0 ≤ partZ s.data.toList i) := by
                unfold Hid partZ
                rw [HNEG.out]
                simp
              by_cases hd1 : (c.toNat : Int) < 48
              · have hdd1 : decide ((c.toNat : Int) < 48) = true := by simpa using hd1
                have HNONE := hidM (HNO.out (fun h => by unfold isDig at h; omega))
                clear HPN HNO HLONG HBDS HFI HS HNEG
                go_wp2
                go_ret2
                exact ⟨⟨0, false, rfl, fun t ht => absurd ht (HNONE.out t), fun _ => rfl⟩, Below.refl _ _⟩
              · have hdd1 : decide ((c.toNat : Int) < 48) = false := by simpa using hd1
                by_cases hd2 : 57 < (c.toNat : Int)
                · have hdd2 : decide (57 < (c.toNat : Int)) = true := by simpa using hd2
                  have HNONE := hidM (HNO.out (fun h => by unfold isDig at h; omega))
                  clear HPN HNO HLONG HBDS HFI HS HNEG
                  go_wp2
                  go_ret2
                  exact ⟨⟨0, false, rfl, fun t ht => absurd ht (HNONE.out t), fun _ => rfl⟩, Below.refl _ _⟩
                · have hdd2 : decide (57 < (c.toNat : Int)) = false := by simpa using hd2
                  by_cases hd3 : 20 < s.size
                  · have hdd3 : (20 : Int) < (s.size : Int) := by omega
                    have HNONE := hidM (HLONG.out hd3)
                    clear HPN HNO HLONG HBDS HFI HS HNEG
                    go_wp2
                    go_ret2
                    exact ⟨⟨0, false, rfl, fun t ht => absurd ht (HNONE.out t), fun _ => rfl⟩, Below.refl _ _⟩
                  · have hdd3 : ¬ (20 : Int) < (s.size : Int) := by omega
                    have hdd4 : decide ((20 : Int) < (s.size : Int)) = false := by simpa using hdd3
                    have HS1 : Hid (NumS s.data.toList (i + 1) (wrap64 (wrap64 (10 * n) + -((c.toNat : Int) - 48)))) := by
                      refine ⟨(wrap_lo _).1, (wrap_lo _).2, fun t ht => ?_⟩
                      have h1 := HS.out.fit t ht
                      have h2 := HBDS.out t ht (i + 1)
                      have h4 := HPN.out
                      have h5 : ((c.toNat - 48 : Nat) : Int) = (c.toNat : Int) - 48 := by omega
                      simp only [h5, if_true] at h4
                      rw [h4] at h2 ⊢
                      subst h1
                      have h7 := HSG.out
                      simp only [if_true] at h7
                      have h6 : -9223372036854775808 ≤ 10 * partZ s.data.toList i ∧ 10 * partZ s.data.toList i ≤ 9223372036854775807 := by omega
                      rw [wrap_in h6.1 h6.2, wrap_in h2.1 h2.2]
                    clear HPN HNO HLONG HBDS HS
                    go_wp2
                    go_round
                    case rel => exact ⟨i + 1, _, by omega, by go_num, rfl, HS1⟩
                    case measure => (show s.size - ((i : Int) + 1).toNat < s.size - ((i : Int)).toNat); omega
            | false =>
              have HSG : Hid (if false then partZ s.data.toList i ≤ 0 else 0 ≤ partZ s.data.toList i) := by
                unfold Hid partZ
                rw [HNEG.out]
                simp
              by_cases hd1 : (c.toNat : Int) < 48
              · have hdd1 : decide ((c.toNat : Int) < 48) = true := by simpa using hd1
                have HNONE := hidM (HNO.out (fun h => by unfold isDig at h; omega))
                clear HPN HNO HLONG HBDS HFI HS HNEG
                go_wp2
                go_ret2
                exact ⟨⟨0, false, rfl, fun t ht => absurd ht (HNONE.out t), fun _ => rfl⟩, Below.refl _ _⟩
              · have hdd1 : decide ((c.toNat : Int) < 48) = false := by simpa using hd1
                by_cases hd2 : 57 < (c.toNat : Int)
                · have hdd2 : decide (57 < (c.toNat : Int)) = true := by simpa using hd2
                  have HNONE := hidM (HNO.out (fun h => by unfold isDig at h; omega))
                  clear HPN HNO HLONG HBDS HFI HS HNEG
                  go_wp2
                  go_ret2
                  exact ⟨⟨0, false, rfl, fun t ht => absurd ht (HNONE.out t), fun _ => rfl⟩, Below.refl _ _⟩
                · have hdd2 : decide (57 < (c.toNat : Int)) = false := by simpa using hd2
                  by_cases hd3 : 20 < s.size
                  · have hdd3 : (20 : Int) < (s.size : Int) := by omega
                    have HNONE := hidM (HLONG.out hd3)
                    clear HPN HNO HLONG HBDS HFI HS HNEG
                    go_wp2
                    go_ret2
                    exact ⟨⟨0, false, rfl, fun t ht => absurd ht (HNONE.out t), fun _ => rfl⟩, Below.refl _ _⟩
                  · have hdd3 : ¬ (20 : Int) < (s.size : Int) := by omega
                    have hdd4 : decide ((20 : Int) < (s.size : Int)) = false := by simpa using hdd3
                    have HS1 : Hid (NumS s.data.toList (i + 1) (wrap64 (wrap64 (10 * n) + ((c.toNat : Int) - 48)))) := by
                      refine ⟨(wrap_lo _).1, (wrap_lo _).2, fun t ht => ?_⟩
                      have h1 := HS.out.fit t ht
                      have h2 := HBDS.out t ht (i + 1)
                      have h4 := HPN.out
                      have h5 : ((c.toNat - 48 : Nat) : Int) = (c.toNat : Int) - 48 := by omega
                      simp only [h5, Bool.false_eq_true, if_false] at h4
                      rw [h4] at h2 ⊢
                      subst h1
                      have h7 := HSG.out
                      simp only [Bool.false_eq_true, if_false] at h7
                      have h6 : -9223372036854775808 ≤ 10 * partZ s.data.toList i ∧ 10 * partZ s.data.toList i ≤ 9223372036854775807 := by omega
                      rw [wrap_in h6.1 h6.2, wrap_in h2.1 h2.2]
                    clear HPN HNO HLONG HBDS HS
                    go_wp2
                    go_round
                    case rel => exact ⟨i + 1, _, by omega, by go_num, rfl, HS1⟩
                    case measure => (show s.size - ((i : Int) + 1).toNat < s.size - ((i : Int)).toNat); omega
      · have hin : i = s.size := by omega
        subst hin
        have ki : ¬ (s.size : Int) < (s.size : Int) := by omega
        have HEND := hidM (num_end HS.out (sl_len s).symm)
        have h9 := HS.out.lo
        have h10 := HS.out.hi
        obtain ⟨b, hb⟩ : ∃ b, (Lib.itoa n == s.data.toList) = b := ⟨_, rfl⟩
        rw [hb] at HEND
        have hbe := eq_str (Lib.itoa n) s
        rw [hb] at hbe
        obtain ⟨Z, hZ⟩ : ∃ Z, (⟨(Lib.itoa n).toArray⟩ : ByteArray) = Z := ⟨_, rfl⟩
        have HDG := hidM (digits_bel n w (by first | decide | omega) (by first | decide | omega))
        rw [hZ] at hbe HDG
        clear hb hZ
        go_wp2_with fail
        refine HDG.out.mono ?_
        rintro _ w2 ⟨rfl, hb2⟩
        have HB2 := hidM hb2
        clear hb2 HDG
        go_wp2
        go_ret2
        exact ⟨⟨n, b, rfl, HEND.out.1, HEND.out.2⟩, HB2.out⟩
end Go.Proofs.YtbghailohnppmaaDoor
namespace Go.Proofs.YtbghailohnppmaaDoor
open Go.RowKit

/-- where blanks stand, ahead of i -/
def spots (l : List UInt8) (i : Nat) : List Nat := (List.range i).filter fun k => decide (l[k]? = some 32)
theorem spots_zero (l : List UInt8) : spots l 0 = [] := rfl
theorem spots_succ (l : List UInt8) (i : Nat) : spots l (i + 1) = spots l i ++ (if l[i]? = some 32 then [i] else []) := by
  unfold spots
  rw [List.range_succ, List.filter_append]
  by_cases h : l[i]? = some 32 <;> simp [h]
theorem spots_yes {l : List UInt8} {i : Nat} (h : l[i]? = some 32) : spots l (i + 1) = spots l i ++ [i] := by rw [spots_succ, if_pos h]
theorem spots_no {l : List UInt8} {i : Nat} (h : ¬ l[i]? = some 32) : spots l (i + 1) = spots l i := by rw [spots_succ, if_neg h, List.append_nil]
theorem spots_len (l : List UInt8) (i : Nat) : (spots l i).length ≤ i := by
  unfold spots
  exact Nat.le_trans (List.length_filter_le _ _) (by simp)
theorem spots_none {l : List UInt8} : ∀ {n : Nat}, spots l n = [] → ∀ k, k < n → l[k]? ≠ some 32 := by
  intro n
  induction n with
  | zero => intro _ k hk; omega
  | succ n ih =>
    intro h k hk
    by_cases hc : l[n]? = some 32
    · rw [spots_yes hc] at h
      simp at h
    · rw [spots_no hc] at h
      rcases Nat.lt_succ_iff_lt_or_eq.1 hk with h1 | rfl
      · exact ih h k h1
      · exact hc
theorem spots_last {l : List UInt8} {j : Nat} {pre : List Nat} : ∀ {n : Nat}, spots l n = pre ++ [j] → j < n ∧ l[j]? = some 32 ∧ spots l j = pre ∧ ∀ k, j < k → k < n → l[k]? ≠ some 32 := by
  intro n
  induction n with
  | zero => intro h; rw [spots_zero] at h; simp at h
  | succ n ih =>
    intro h
    by_cases hc : l[n]? = some 32
    · rw [spots_yes hc] at h
      obtain ⟨h1, h2⟩ := List.append_inj' h rfl
      cases h2
      exact ⟨by omega, hc, h1, fun k h1 h2 => by omega⟩
    · rw [spots_no hc] at h
      obtain ⟨h1, h2, h3, h4⟩ := ih h
      refine ⟨by omega, h2, h3, fun k hk hk2 => ?_⟩
      rcases Nat.lt_succ_iff_lt_or_eq.1 hk2 with h5 | rfl
      · exact h4 k hk h5
      · exact hc
theorem spots_take (l : List UInt8) (j : Nat) : spots (l.take j) j = spots l j := by
  unfold spots
  refine List.filter_congr fun k hk => ?_
  rw [List.getElem?_take, if_pos (List.mem_range.1 hk)]
theorem no_blank {l : List UInt8} (h : ∀ k, k < l.length → l[k]? ≠ some 32) : (32 : UInt8) ∉ l := by
  intro hm
  obtain ⟨k, hk, he⟩ := List.getElem_of_mem hm
  exact h k hk (by rw [List.getElem?_eq_getElem hk, he])
theorem last_none {l : List UInt8} (h : spots l l.length = []) : last1 32 l = none := last1_no (no_blank (spots_none h))
theorem last_spot {l : List UInt8} {j : Nat} {pre : List Nat} (h : spots l l.length = pre ++ [j]) : j < l.length ∧ last1 32 l = some (l.take j, l.drop (j + 1)) ∧ spots (l.take j) (l.take j).length = pre := by
  obtain ⟨h1, h2, h3, h4⟩ := spots_last h
  have hl : l = l.take j ++ 32 :: l.drop (j + 1) := by
    have hj : l[j] = 32 := by
      rw [List.getElem?_eq_getElem h1] at h2
      exact Option.some.inj h2
    rw [← hj, ← List.drop_eq_getElem_cons h1, List.take_append_drop]
  have hn : (32 : UInt8) ∉ l.drop (j + 1) := no_blank (fun k hk => by
    rw [List.getElem?_drop]
    rw [List.length_drop] at hk
    exact h4 _ (by omega) (by omega))
  refine ⟨h1, ?_, ?_⟩
  · have := last1_app (c := 32) (p := l.take j) hn
    rw [← hl] at this
    exact this
  · rw [List.length_take, Nat.min_eq_left (by omega), spots_take, h3]
theorem sign_few {l : List UInt8} (h : (spots l l.length).length < 2) : signP l = none := by
  unfold signP
  cases hs : spots l l.length with
  | nil => rw [last_none hs]
  | cons j r =>
    cases r with
    | nil =>
      obtain ⟨_, h2, h3⟩ := last_spot (pre := []) (j := j) (by rw [hs]; rfl)
      rw [h2]
      simp only
      rw [last_none h3]
    | cons k r => rw [hs] at h; simp only [List.length_cons] at h; omega
/-- what the document's reading of a sign goes by -/
theorem sign_two {l : List UInt8} {pre : List Nat} {i j : Nat} (h : spots l l.length = pre ++ [i, j]) : i < j ∧ j < l.length ∧
    signP l = (match timeP ((l.take j).drop (i + 1)) with | none => none | some t => match minP (l.drop (j + 1)) with | none => none | some z => some ⟨l.take i, t, z⟩) := by
  obtain ⟨h1, h2, h3⟩ := last_spot (pre := pre ++ [i]) (j := j) (by rw [h]; simp)
  obtain ⟨h4, h5, _⟩ := last_spot h3
  rw [List.length_take, Nat.min_eq_left (by omega)] at h4
  refine ⟨h4, h1, ?_⟩
  unfold signP
  rw [h2]
  simp only
  rw [h5]
  simp only
  rw [List.take_take, Nat.min_eq_left (by omega)]
  rfl
theorem uint_digs : ∀ (l : List UInt8) (n u : Nat), Lib.parseUint10 n l = .ok u → (∀ c ∈ l, isDig c) ∧ u + 1 ≤ (n + 1) * 10 ^ l.length
  | [], n, u, h => by
    unfold Lib.parseUint10 at h
    cases h
    exact ⟨by simp, by simp⟩
  | c :: l, n, u, h => by
    unfold Lib.parseUint10 at h
    split at h
    · rename_i hd
      split at h
      · cases h
      · split at h
        · cases h
        · obtain ⟨h1, h2⟩ := uint_digs l _ u h
          refine ⟨fun x hx => ?_, ?_⟩
          · rcases List.mem_cons.1 hx with rfl | hx
            · exact hd
            · exact h1 x hx
          · refine Nat.le_trans h2 ?_
            rw [List.length_cons, Nat.pow_succ, Nat.mul_comm (10 ^ l.length) 10, ← Nat.mul_assoc]
            exact Nat.mul_le_mul_right _ (by omega)
    · cases h
theorem mag_digs {l : List UInt8} {u : Nat} (h : Lib.parseMag l = .ok u) : (∀ c ∈ l, isDig c) ∧ u + 1 ≤ 10 ^ l.length := by
  unfold Lib.parseMag at h
  split at h
  · cases h
  · have := uint_digs l 0 u h
    rwa [Nat.zero_add, Nat.one_mul] at this
theorem zone_small {z : Int} (h : minP (zoneL z) = some z) : z.natAbs < 6000 := by
  have hq : (∃ n : Int, Lib.atoiAll (zoneL z) = .ok n ∧ minOf n = z) := by
    unfold minP at h
    cases e : Lib.atoiAll (zoneL z) with
    | «syntax» => rw [e] at h; cases h
    | range => rw [e] at h; cases h
    | ok n =>
      rw [e] at h
      simp only at h
      split at h
      · exact ⟨n, rfl, Option.some.inj h⟩
      · cases h
  obtain ⟨n, h1, h2⟩ := hq
  have hu : ∃ u, Lib.parseMag (twoL (z.natAbs / 60) ++ twoL (z.natAbs % 60)) = .ok u ∧ (n = (u : Int) ∨ n = -(u : Int)) := by
    unfold zoneL at h1
    by_cases hz : z < 0
    · rw [if_pos hz, Lib.atoiAll_minus] at h1
      cases e : Lib.parseMag (twoL (z.natAbs / 60) ++ twoL (z.natAbs % 60)) with
      | «syntax» => rw [e] at h1; cases h1
      | range => rw [e] at h1; cases h1
      | ok u =>
        rw [e] at h1
        unfold Lib.signed at h1
        simp only at h1
        split at h1
        · cases h1
        · cases h1; exact ⟨u, rfl, .inr rfl⟩
    · rw [if_neg hz, Lib.atoiAll_plus] at h1
      cases e : Lib.parseMag (twoL (z.natAbs / 60) ++ twoL (z.natAbs % 60)) with
      | «syntax» => rw [e] at h1; cases h1
      | range => rw [e] at h1; cases h1
      | ok u =>
        rw [e] at h1
        unfold Lib.signless at h1
        simp only at h1
        split at h1
        · cases h1
        · cases h1; exact ⟨u, rfl, .inl rfl⟩
  obtain ⟨u, h3, h4⟩ := hu
  obtain ⟨h5, h6⟩ := mag_digs h3
  have h7 : u + 1 ≤ 10 ^ 4 := h6
  have h8 : z.natAbs ≤ 6039 := by
    subst h2
    unfold minOf
    rcases h4 with rfl | rfl
    · rw [tdiv_nat, tmod_nat]; omega
    · rw [Int.neg_tdiv, Int.neg_tmod, tdiv_nat, tmod_nat]; omega
  have h9 := h5 (UInt8.ofNat (48 + z.natAbs / 60 / 10)) (by unfold twoL; simp)
  unfold isDig at h9
  rw [UInt8.toNat_ofNat'] at h9
  omega
/-- two digits and what they are -/
def digV (a b : UInt8) : Nat := (a.toNat - 48) * 10 + (b.toNat - 48)
theorem two_of {a b : UInt8} (ha : isDig a) (hb : isDig b) : twoL (digV a b) = [a, b] := by
  unfold isDig at ha hb
  unfold twoL digV
  have h1 : UInt8.ofNat (48 + ((a.toNat - 48) * 10 + (b.toNat - 48)) / 10) = a := by
    apply UInt8.toNat_inj.1
    rw [UInt8.toNat_ofNat']
    omega
  have h2 : UInt8.ofNat (48 + ((a.toNat - 48) * 10 + (b.toNat - 48)) % 10) = b := by
    apply UInt8.toNat_inj.1
    rw [UInt8.toNat_ofNat']
    omega
  rw [h1, h2]
theorem dig_two {q : Nat} (h : q < 100) {a b : UInt8} (e : twoL q = [a, b]) : isDig a ∧ isDig b ∧ digV a b = q := by
  unfold twoL at e
  injection e with e1 e2
  injection e2 with e2 _
  subst e1 e2
  unfold isDig digV
  rw [UInt8.toNat_ofNat', UInt8.toNat_ofNat']
  omega
def zoneN (s a b c d : UInt8) : Int := if s.toNat = 45 then -((60 * digV a b + digV c d : Nat) : Int) else ((60 * digV a b + digV c d : Nat) : Int)
/-- the five signs in form -/
theorem min_ok {s a b c d : UInt8} (ha : isDig a) (hb : isDig b) (hc : isDig c) (hd : isDig d) (hm : digV c d < 60) (hs : s.toNat = 43 ∨ s.toNat = 45) (hz : ¬ (s.toNat = 45 ∧ digV a b = 0 ∧ digV c d = 0)) :
    minP [s, a, b, c, d] = some (zoneN s a b c d) := by
  have hq : digV a b < 100 := by unfold isDig at ha hb; unfold digV; omega
  have he : zoneL (zoneN s a b c d) = [s, a, b, c, d] := by
    have hn : (zoneN s a b c d).natAbs = 60 * digV a b + digV c d := by unfold zoneN; split <;> omega
    unfold zoneL
    rw [hn, show (60 * digV a b + digV c d) / 60 = digV a b by omega, show (60 * digV a b + digV c d) % 60 = digV c d by omega, two_of ha hb, two_of hc hd]
    have hsg : (if zoneN s a b c d < 0 then (45 : UInt8) else 43) = s := by
      unfold zoneN
      rcases hs with h | h
      · have h9 : ¬ s.toNat = 45 := by omega
        rw [if_neg h9, if_neg (by omega)]
        exact (UInt8.toNat_inj.1 (by rw [h]; rfl))
      · rw [if_pos h, if_pos (by omega)]
        exact (UInt8.toNat_inj.1 (by rw [h]; rfl))
    rw [hsg]
    rfl
  have hn : (zoneN s a b c d).natAbs < 6000 := by unfold zoneN; split <;> omega
  rw [← he]
  exact min_zone _ hn
theorem min_only {s a b c d : UInt8} {z : Int} (h : minP [s, a, b, c, d] = some z) : isDig a ∧ isDig b ∧ isDig c ∧ isDig d ∧ digV c d < 60 ∧ (s.toNat = 43 ∨ s.toNat = 45) ∧ ¬ (s.toNat = 45 ∧ digV a b = 0 ∧ digV c d = 0) := by
  have he := minP_some h
  rw [← he] at h
  have hn := zone_small h
  unfold zoneL at he
  injection he with h1 h2
  have h3 : twoL (z.natAbs / 60) = [a, b] ∧ twoL (z.natAbs % 60) = [c, d] := List.append_inj h2 rfl
  obtain ⟨ha, hb, hab⟩ := dig_two (by omega) h3.1
  obtain ⟨hc, hd, hcd⟩ := dig_two (by omega) h3.2
  refine ⟨ha, hb, hc, hd, by omega, ?_, ?_⟩
  · rw [← h1]; split
    · right; rfl
    · left; rfl
  · rintro ⟨k1, k2, k3⟩
    rw [← h1] at k1
    split at k1
    · omega
    · exact absurd k1 (by decide)
theorem min_len {o : List UInt8} {z : Int} (h : minP o = some z) : o.length = 5 := by rw [← minP_some h]; rfl
theorem zone_dig {l : List UInt8} {z : Int} (h : minP l = some z) : ∀ t (ht : t < l.length), 1 ≤ t → isDig l[t] := by
  have h5 := min_len h
  match l, h5, h with
  | [s, a, b, c, d], _, h =>
    obtain ⟨ha, hb, hc, hd, _⟩ := min_only h
    intro t ht h1
    match t, ht, h1 with
    | 1, _,_ => exact ha
    | 2, _,_ => exact hb
    | 3, _,_ => exact hc
    | 4, _,_ => exact hd
theorem zone_neg {s a b c d : UInt8} (ha : isDig a) (hb : isDig b) (hc : isDig c) (hd : isDig d) : ([s, a, b, c, d] == [45, 48, 48, 48, 48]) = decide (s.toNat = 45 ∧ digV a b = 0 ∧ digV c d = 0) := by
  unfold isDig at ha hb hc hd
  by_cases h : s.toNat = 45 ∧ digV a b = 0 ∧ digV c d = 0
  · rw [decide_eq_true h]
    unfold digV at h
    have e0 : s = 45 := UInt8.toNat_inj.1 (by show s.toNat = 45; omega)
    have e1 : a = 48 := UInt8.toNat_inj.1 (by show a.toNat = 48; omega)
    have e2 : b = 48 := UInt8.toNat_inj.1 (by show b.toNat = 48; omega)
    have e3 : c = 48 := UInt8.toNat_inj.1 (by show c.toNat = 48; omega)
    have e4 : d = 48 := UInt8.toNat_inj.1 (by show d.toNat = 48; omega)
    rw [e0, e1, e2, e3, e4]
    rfl
  · rw [decide_eq_false h]
    refine beq_false_of_ne (fun e => h ?_)
    injection e with e0 e
    injection e with e1 e
    injection e with e2 e
    injection e with e3 e
    injection e with e4 _
    subst e0 e1 e2 e3 e4
    decide
end Go.Proofs.YtbghailohnppmaaDoor
namespace Go.Proofs.YtbghailohnppmaaDoor
open Go.RowKit

def natsV (l : List Nat) : List Value := l.map fun (k : Nat) => Value.int .i64 (k : Int)
theorem natsV_app (l m : List Nat) : natsV (l ++ m) = natsV l ++ natsV m := by unfold natsV; rw [List.map_append]
theorem natsV_at (l : List Nat) (j : Nat) (h : j < l.length) : (natsV l)[j]? = some (.int .i64 (l[j] : Int)) := by unfold natsV; simp [h]
def OwnN (w : World) (B : Nat) (v : Value) (l : List Nat) : Prop := w.ownsRow B 3 1 v l.length (natsV l)
theorem OwnN.shape {w : World} {B : Nat} {v : Value} {l : List Nat} (h : OwnN w B v l) : ∃ a c, v = .slice a l.length c ∧ l.length ≤ c ∧ (0 < l.length → ∃ g, a = some ⟨g, 0, none⟩ ∧ B ≤ g ∧ g < w.heap.size ∧ ∀ j (hj : j < l.length), w.cell? ⟨g, j, none⟩ = some (.int .i64 (l[j] : Int))) := by
  have h' := h
  rcases h.2 with ⟨h0, h1⟩ | ⟨g, cap, cur, hv, hg, hc, hn, _,_,_⟩
  · exact ⟨none, 0, by rw [h0, h1], by omega, fun hp => by omega⟩
  · subst hv
    refine ⟨_, cap, rfl, hn, fun _ => ⟨g, rfl, hg, (Array.getElem?_eq_some_iff.1 hc).1, fun j hj => ?_⟩⟩
    have := World.ownsRow.cells h' (g := g) rfl j (.int .i64 (l[j] : Int)) (natsV_at l j hj)
    rw [Addr.add_lit, Nat.zero_add] at this
    exact this
theorem info3 : (Tryd.prog.info? 3).map (fun i => (i.zero, i.size, i.bytes)) = some (some (.int .i64 0), 1, 8) := by kernel_rfl
noncomputable def I3 : TypeInfo := Classical.choose (info_parts info3)
theorem I3a : Tryd.prog.info? 3 = some I3 := (Classical.choose_spec (info_parts info3)).1
theorem I3b : I3.zero = some (.int .i64 0) := (Classical.choose_spec (info_parts info3)).2.1
theorem I3c : I3.size = 1 := (Classical.choose_spec (info_parts info3)).2.2.1
theorem I3d : I3.bytes = 8 := (Classical.choose_spec (info_parts info3)).2.2.2
theorem own_made (e : TypeId) (w : World) (B : Nat) (hB : B ≤ w.heap.size) : (w.alloc (.cells #[] e)).ownsRow B e 1 (.slice (some ⟨w.heap.size, 0, none⟩) 0 0) 0 [] :=
  World.ownsRow_made w #[] 0 hB (Nat.zero_le _) (by simp)

/-- what the document's Read answers -/
def readV (o : Option Sg) : Value := match o with
  | none => .tuple #[.agg #[.string ⟨#[]⟩, .int .i64 0, .int .i64 0], .bool false]
  | some g => .tuple #[.agg #[.string ⟨g.who.toArray⟩, .int .i64 g.time, .int .i64 g.zone], .bool true]
theorem split_two {L : List Nat} {m : Nat} (h : L.length = m + 2) : ∃ i j, L = L.take m ++ [i, j] ∧ L[m]? = some i ∧ L[m + 1]? = some j := by
  refine ⟨L[m], L[m + 1], ?_, by simp, by simp⟩
  have h1 : L.drop m = [L[m], L[m + 1]] := by
    rw [List.drop_eq_getElem_cons (by omega), List.drop_eq_getElem_cons (by omega), List.drop_of_length_le (by omega)]
  conv => lhs; rw [← List.take_append_drop m L, h1]
set_option maxHeartbeats 4000000 in
set_option maxRecDepth 20000 in
theorem refread_any (s : ByteArray) (w : World) (hs : s.size ≤ 1000000000000) :
    Calls Tryd.prog 42 #[.string s] w fun e w' => e = .returned (readV (signP s.data.toList)) ∧ Below w.heap.size w w' := by
  have HSL := hidM (sl_len s)
  have HN0 : Hid (OwnN ((w.alloc (.cells #[.string ⟨#[]⟩, .int .i64 0, .int .i64 0] 24)).alloc (.cells #[] 3)) (w.heap.size + 1) (.slice (some ⟨w.heap.size + 1, 0, none⟩) 0 0) (spots s.data.toList 0)) := by
    have := own_made 3 (w.alloc (.cells #[.string ⟨#[]⟩, .int .i64 0, .int .i64 0] 24)) (w.heap.size + 1) (by simp)
    rwa [show (w.alloc (.cells #[.string ⟨#[]⟩, .int .i64 0, .int .i64 0] 24)).heap.size = w.heap.size + 1 by simp] at this
  have HB0 : Hid (Below (w.heap.size + 1) (w.alloc (.cells #[.string ⟨#[]⟩, .int .i64 0, .int .i64 0] 24)) ((w.alloc (.cells #[.string ⟨#[]⟩, .int .i64 0, .int .i64 0] 24)).alloc (.cells #[] 3))) := (Below.refl _ _).alloc (by simp) _
  go_enter Tryd.func42, Tryd.ntmps42
  go_wp2
  go_loopw [4, 5] (fun cv iv wr => ∃ i : Nat, i ≤ s.size ∧ iv = .int .i64 i ∧ Hid (OwnN wr (w.heap.size + 1) cv (spots s.data.toList i)) ∧ Hid (Below (w.heap.size + 1) (w.alloc (.cells #[.string ⟨#[]⟩, .int .i64 0, .int .i64 0] 24)) wr)) (fun _ iv _ => s.size - (intOf iv).toNat)
  case atStart => exact ⟨0, Nat.zero_le _, rfl, HN0, HB0⟩
  case round =>
    obtain ⟨i, hi, rfl, HO, HB⟩ := hrel
    clear HN0 HB0
    obtain ⟨L, hL⟩ : ∃ L, spots s.data.toList i = L := ⟨_, rfl⟩
    have HL := hidM hL
    rw [hL] at HO
    clear hL
    obtain ⟨n, hn⟩ : ∃ n, L.length = n := ⟨_, rfl⟩
    obtain ⟨ca, cc, hcv, hcc, hcells⟩ := HO.out.shape
    have HCELLS := hidM hcells
    clear hcells
    subst hcv
    rw [hn] at HO hcc ⊢
    have hni : n ≤ i := by rw [← hn, ← HL.out]; exact spots_len _ _
    have HN := hidM hn
    clear hn
    have HBs : Hid (w.heap.size + 1 ≤ wr.heap.size) := by have := HB.out.size; unfold Hid; simpa using this
    by_cases hlt : i < s.size
    · have ki : (i : Int) < (s.size : Int) := by omega
      obtain ⟨c, hc⟩ : ∃ c, s[i] = c := ⟨_, rfl⟩
      have HC : Hid (s.data.toList[i]? = some c) := by
        unfold Hid
        rw [List.getElem?_eq_getElem (by rw [HSL.out]; exact hlt), ← hc]
        rfl
      by_cases h32 : (c.toNat : Int) = 32
      · have h32d : ((c.toNat : Int) == 32) = true := by simpa using h32
        have HNX : Hid (spots s.data.toList (i + 1) = L ++ [i]) := by
          unfold Hid
          rw [spots_yes (by rw [HC.out]; congr 1; exact UInt8.toNat_inj.1 (by show c.toNat = 32; omega)), HL.out]
        have HOb : Hid (OwnN (wr.alloc (.cells #[.int .i64 (i : Int)] 3)) (w.heap.size + 1) (.slice ca n cc) L) := World.ownsRow.alloc HO.out _
        go_wp2_with (at_builtin; go_loud (refine wpList_append_own _ rfl _ _ 88 rfl (w.heap.size + 1) 3 I3 (.int .i64 0) 1 8 Tryd.underlying88 I3a I3b I3c I3d rfl (by decide) (.slice ca n cc) n (natsV L) rfl ?ra0 ⟨wr.heap.size, 0, none⟩ 1 1 [.int .i64 (i : Int)] ?rad ?ra1 ?ra2 ?ra3 ?ra4 ?ra5 ?ra6 ?_))
        try (case ra0 => have h9 := HOb.out; unfold OwnN at h9; rwa [HN.out] at h9)
        try (case rad => rfl)
        try (case ra1 => rfl)
        try (case ra2 => exact World.news_of_block (heap_alloc_new _ _))
        try (case ra3 => first | rfl | (intro u hu; simp at hu; subst hu; rfl))
        try (case ra4 => unfold maxLen; omega)
        try (case ra5 => omega)
        try (case ra6 => have := HBs.out; first | omega | (simp; omega))
        intro v2 w2 hown hgrow hnil
        have HO2 : Hid (OwnN w2 (w.heap.size + 1) v2 (spots s.data.toList (i + 1))) := by
          unfold Hid OwnN
          rw [HNX.out, natsV_app, List.length_append, HN.out]
          exact hown
        have HB2 : Hid (Below (w.heap.size + 1) (w.alloc (.cells #[.string ⟨#[]⟩, .int .i64 0, .int .i64 0] 24)) w2) := (HB.out.alloc HBs.out _).grown hgrow (by have := HBs.out; simp; omega) (fun k hk => (World.ownsRow.lt HO.out k hk).1)
        clear hown hgrow hnil
        go_wp2
        go_round
        case rel => exact ⟨i + 1, by omega, by go_num, HO2, HB2⟩
        case measure => (show s.size - ((i : Int) + 1).toNat < s.size - ((i : Int)).toNat); omega
      · have h32d : ((c.toNat : Int) == 32) = false := by simpa using h32
        have HO2 : Hid (OwnN wr (w.heap.size + 1) (.slice ca n cc) (spots s.data.toList (i + 1))) := by
          unfold Hid
          rw [spots_no (by rw [HC.out]; intro e; injection e with e; subst e; exact h32 rfl), HL.out]
          exact HN.out ▸ HO.out
        go_wp2
        go_round
        case rel => exact ⟨i + 1, by omega, by go_num, HO2, HB⟩
        case measure => (show s.size - ((i : Int) + 1).toNat < s.size - ((i : Int)).toNat); omega
    · have hin : i = s.size := by omega
      subst hin
      have ki : ¬ (s.size : Int) < (s.size : Int) := by omega
      have HLE : Hid (spots s.data.toList s.data.toList.length = L) := by unfold Hid; rw [HSL.out]; exact HL.out
      have HR : Hid (wr.heap[w.heap.size]? = some (.cells #[.string ⟨#[]⟩, .int .i64 0, .int .i64 0] 24 (0, 0))) := (HB.out.block _ (by omega)).trans (heap_alloc_new w _)
      have HBW : Hid (Below w.heap.size w wr) := ((Below.refl _ w).alloc (Nat.le_refl _) _).trans (HB.out.mono (by omega))
      clear HB HL
      by_cases h2 : n < 2
      · have k2 : (n : Int) < 2 := by omega
        have HSP : Hid (signP s.data.toList = none) := sign_few (by rw [HLE.out, HN.out]; exact h2)
        clear HO HCELLS
        go_wp2_with (refine wpList_store_row rfl 24 (.tmp 2) (.tmp 32) rfl w.heap.size #[.string ⟨#[]⟩, .int .i64 0, .int .i64 0] rfl rfl 24 #[.string ⟨#[]⟩, .int .i64 0, .int .i64 0] HR.out size24 rfl (ones24 _ _ _) ?_)
        exact bodyPost_ret (run_box_tmp rfl _ _ w.heap.size _ rfl (run_loadVar_row _ w.heap.size 24 24 _ (0, 0) _ (setRow_heap _ _ _ _ 24 _ HR.out) Tryd.underlying24 rfl size24)) rfl ⟨by rw [HSP.out]; rfl, below_setRow HBW.out (Nat.le_refl _)⟩
      · obtain ⟨m, hm⟩ : ∃ m, n = m + 2 := ⟨n - 2, by omega⟩
        subst hm
        have k2 : ¬ ((m + 2 : Nat) : Int) < 2 := by omega
        obtain ⟨i, j, hij, hi1, hj1⟩ := split_two HN.out
        have HST := hidM (sign_two (l := s.data.toList) (HLE.out.trans hij))
        obtain ⟨g, rfl, -, hg, hcl⟩ := HCELLS.out (by rw [HN.out]; omega)
        have c1 : wr.cell? ⟨g, m, none⟩ = some (.int .i64 (i : Int)) := by
          have h1 := hcl m (by rw [HN.out]; omega)
          rw [List.getElem?_eq_getElem (by rw [HN.out]; omega)] at hi1
          rw [Option.some.inj hi1] at h1
          exact h1
        have c2 : wr.cell? ⟨g, m + 1, none⟩ = some (.int .i64 (j : Int)) := by
          have h1 := hcl (m + 1) (by rw [HN.out]; omega)
          rw [List.getElem?_eq_getElem (by rw [HN.out]; omega)] at hj1
          rw [Option.some.inj hj1] at h1
          exact h1
        clear hcl hij hi1 hj1 HCELLS HO HLE HN
        have hij := HST.out.1
        have hjs : j < s.size := by have := HST.out.2.1; rwa [HSL.out] at this
        have e2 : (m : Int) + 2 - 2 = (m : Int) := by omega
        have e1 : (m : Int) + 2 - 1 = ((m + 1 : Nat) : Int) := by omega
        go_wp2_with fail
        go_region
        have HRd : Hid (wr.drew.heap[w.heap.size]? = some (.cells #[.string ⟨#[]⟩, .int .i64 0, .int .i64 0] 24 (0, 0))) := HR.out
        have HBd : Hid (Below w.heap.size w wr.drew) := HBW.out.trans ⟨rfl, rfl, rfl, Nat.le_refl _, fun _ _ => rfl⟩
        have HVs : Hid (w.heap.size + 1 ≤ wr.drew.heap.size) := HBs.out
        generalize wr.drew = V at HRd HBd HVs ⊢
        clear HR HBW HBs c1 c2 hg
        clear wr
        obtain ⟨A, hA⟩ : ∃ A, s.extract 0 i = A := ⟨_, rfl⟩
        obtain ⟨T, hT⟩ : ∃ T, s.extract (i + 1) j = T := ⟨_, rfl⟩
        obtain ⟨Z, hZ⟩ : ∃ Z, s.extract (j + 1) s.size = Z := ⟨_, rfl⟩
        have HA : Hid ((⟨(s.data.toList.take i).toArray⟩ : ByteArray) = A) := by unfold Hid; rw [← hA, ext_list]; rfl
        have HT : Hid ((s.data.toList.take j).drop (i + 1) = T.data.toList) := by unfold Hid; rw [← hT, ext_list]
        have HZ : Hid (s.data.toList.drop (j + 1) = Z.data.toList) := by
          unfold Hid
          rw [← hZ, ext_list, ← HSL.out, List.take_length]
        have HNUM := hidM (fun W => refnumber_any T W (by rw [← hT]; simp; omega))
        go_wp2_with fail
        refine (HNUM.out _).mono ?_
        rintro _ V1 ⟨⟨nn, ok, rfl, hy, hn⟩, hb1⟩
        have HX1 : Hid (V1.heap[V.heap.size]? = some (.cells #[.string A, .int .i64 0, .int .i64 0] 24 (0, 0))) := (hb1.block _ (by simp)).trans (heap_alloc_new V _)
        have HR1 : Hid (V1.heap[w.heap.size]? = some (.cells #[.string ⟨#[]⟩, .int .i64 0, .int .i64 0] 24 (0, 0))) := box_bel (box_bel HRd.out ((Below.refl _ V).alloc (Nat.le_refl _) _)) hb1
        have HB1 : Hid (Below w.heap.size w V1) := (HBd.out.alloc (by have := HVs.out; omega) _).trans (hb1.mono (by have := HVs.out; simp; omega))
        obtain ⟨D, hD⟩ : ∃ D, V.heap.size = D := ⟨_, rfl⟩
        have HY := hidM hy
        have HNO := hidM hn
        rw [hD] at HX1 HVs ⊢
        have hwD : w.heap.size + 1 ≤ D := HVs.out
        clear hb1 hy hn HRd HBd HVs HNUM hD
        clear V
        have f1 : V1.frozen? ⟨D, 1, none⟩ = false := by simp [World.frozen?, HX1.out]
        have q1 : V1.cell? ⟨D, 1, none⟩ = some (.int .i64 0) := by rw [cell_of_row V1 _ _ _ 24 (0, 0) HX1.out]; rfl
        go_upto_region 13 with fail
        have HSE : Hid (V1.setCell ⟨D, 1, none⟩ (.int .i64 nn) = V1.setRow D #[.string A, .int .i64 nn, .int .i64 0]) := setCell_eq_setRow V1 _ 1 _ 24 (0, 0) _ HX1.out
        rw [HSE.out]
        have HX2 : Hid ((V1.setRow D #[.string A, .int .i64 nn, .int .i64 0]).heap[D]? = some (.cells #[.string A, .int .i64 nn, .int .i64 0] 24 (0, 0))) := setRow_heap _ _ _ _ 24 _ HX1.out
        have HR2 : Hid ((V1.setRow D #[.string A, .int .i64 nn, .int .i64 0]).heap[w.heap.size]? = some (.cells #[.string ⟨#[]⟩, .int .i64 0, .int .i64 0] 24 (0, 0))) := (setRow_other V1 D _ _ (by omega)).trans HR1.out
        have HB2 : Hid (Below w.heap.size w (V1.setRow D #[.string A, .int .i64 nn, .int .i64 0])) := below_setRow HB1.out (by omega)
        clear HSE HX1 HR1 HB1 f1 q1
        generalize V1.setRow D #[.string A, .int .i64 nn, .int .i64 0] = V2 at HX2 HR2 HB2 ⊢
        clear V1
        have HSGN : Hid (signP s.data.toList = match timeP T.data.toList with | none => none | some t => match minP Z.data.toList with | none => none | some z => some ⟨s.data.toList.take i, t, z⟩) := by
          unfold Hid
          rw [HST.out.2.2, HT.out, HZ.out]
          try rfl
        clear HST
        cases ok with
        | false =>
          have HNONE : Hid (signP s.data.toList = none) := by
            unfold Hid
            rw [HSGN.out]
            cases ht : timeP T.data.toList with
            | none => rfl
            | some t => exact absurd (HY.out t ht).1 (by decide)
          clear HY HNO HSGN
          go_wp2_with (refine wpList_store_row rfl 24 (.tmp 2) (.tmp 70) rfl w.heap.size #[.string ⟨#[]⟩, .int .i64 0, .int .i64 0] rfl rfl 24 #[.string ⟨#[]⟩, .int .i64 0, .int .i64 0] HR2.out size24 rfl (ones24 _ _ _) ?_)
          exact bodyPost_ret (run_box_tmp rfl _ _ w.heap.size _ rfl (run_loadVar_row _ w.heap.size 24 24 _ (0, 0) _ (setRow_heap _ _ _ _ 24 _ HR2.out) Tryd.underlying24 rfl size24)) rfl ⟨by rw [HNONE.out]; rfl, below_setRow HB2.out (Nat.le_refl _)⟩
        | true =>
          have HTN : Hid (timeP T.data.toList = some nn) := by
            unfold Hid
            cases ht : timeP T.data.toList with
            | none => exact absurd (HNO.out ht) (by decide)
            | some t => rw [(HY.out t ht).2]
          have HSG2 : Hid (signP s.data.toList = match minP Z.data.toList with | none => none | some z => some ⟨s.data.toList.take i, nn, z⟩) := by
            unfold Hid
            rw [HSGN.out, HTN.out]
          clear HY HNO HSGN HTN
          by_cases h5 : Z.size = 5
          · have h5d : ((Z.size : Int) != 5) = false := by rw [h5]; rfl
            go_wp2_with fail
            go_loopw [11] (fun kv wx => ∃ k : Nat, 1 ≤ k ∧ k ≤ 5 ∧ kv = .int .i64 k ∧ wx = V2 ∧ Hid (∀ t (ht : t < Z.data.toList.length), 1 ≤ t → t < k → isDig Z.data.toList[t])) (fun kv _ => 5 - (intOf kv).toNat)
            case atStart => exact ⟨1, by decide, by decide, rfl, rfl, fun t _ h1 h2 => by omega⟩
            case round =>
              obtain ⟨k, hk1, hk5, rfl, rfl, HD⟩ := hrel
              by_cases hk : k < 5
              · have kk : (k : Int) < 5 := by omega
                have kz : k < Z.size := by omega
                obtain ⟨c, hc⟩ : ∃ c, Z[k] = c := ⟨_, rfl⟩
                have HC : Hid (∀ z, minP Z.data.toList = some z → isDig c) := fun z hz => by
                  have := zone_dig hz k (by rw [sl_len]; exact kz) hk1
                  rw [← hc]
                  exact this
                have HC2 : Hid (isDig c → ∀ t (ht : t < Z.data.toList.length), 1 ≤ t → t < k + 1 → isDig Z.data.toList[t]) := fun hd t ht h1 h2 => by
                  rcases Nat.lt_succ_iff_lt_or_eq.1 h2 with h3 | rfl
                  · exact HD.out t ht h1 h3
                  · rw [← hc] at hd; exact hd
                have HBAD : Hid (¬ isDig c → signP s.data.toList = none) := fun hd => by
                  rw [HSG2.out]
                  cases ht : minP Z.data.toList with
                  | none => rfl
                  | some z => exact absurd (HC.out z ht) hd
                by_cases hd1 : (c.toNat : Int) < 48
                · have hdd1 : decide ((c.toNat : Int) < 48) = true := by simpa using hd1
                  have HNONE := hidM (HBAD.out (fun h => by unfold isDig at h; omega))
                  clear HD HC HC2 HBAD HSG2
                  go_wp2_with (refine wpList_store_row rfl 24 (.tmp 2) (.tmp 85) rfl w.heap.size #[.string ⟨#[]⟩, .int .i64 0, .int .i64 0] rfl rfl 24 #[.string ⟨#[]⟩, .int .i64 0, .int .i64 0] HR2.out size24 rfl (ones24 _ _ _) ?_)
                  exact bodyPost_ret (run_box_tmp rfl _ _ w.heap.size _ rfl (run_loadVar_row _ w.heap.size 24 24 _ (0, 0) _ (setRow_heap _ _ _ _ 24 _ HR2.out) Tryd.underlying24 rfl size24)) rfl ⟨by rw [HNONE.out]; rfl, below_setRow HB2.out (Nat.le_refl _)⟩
                · have hdd1 : decide ((c.toNat : Int) < 48) = false := by simpa using hd1
                  by_cases hd2 : 57 < (c.toNat : Int)
                  · have hdd2 : decide (57 < (c.toNat : Int)) = true := by simpa using hd2
                    have HNONE := hidM (HBAD.out (fun h => by unfold isDig at h; omega))
                    clear HD HC HC2 HBAD HSG2
                    go_wp2_with (refine wpList_store_row rfl 24 (.tmp 2) (.tmp 85) rfl w.heap.size #[.string ⟨#[]⟩, .int .i64 0, .int .i64 0] rfl rfl 24 #[.string ⟨#[]⟩, .int .i64 0, .int .i64 0] HR2.out size24 rfl (ones24 _ _ _) ?_)
                    exact bodyPost_ret (run_box_tmp rfl _ _ w.heap.size _ rfl (run_loadVar_row _ w.heap.size 24 24 _ (0, 0) _ (setRow_heap _ _ _ _ 24 _ HR2.out) Tryd.underlying24 rfl size24)) rfl ⟨by rw [HNONE.out]; rfl, below_setRow HB2.out (Nat.le_refl _)⟩
                  · have hdd2 : decide (57 < (c.toNat : Int)) = false := by simpa using hd2
                    have HD2 := hidM (HC2.out ⟨by omega, by omega⟩)
                    clear HD HC HC2 HBAD
                    go_wp2
                    go_round
                    case rel => exact ⟨k + 1, by omega, by omega, by go_num, by first | rfl | trivial, HD2⟩
                    case measure => (show 5 - ((k : Int) + 1).toNat < 5 - ((k : Int)).toNat); omega
              · have hk5' : k = 5 := by omega
                subst hk5'
                obtain ⟨z0, hz0⟩ : ∃ c, Z[0] = c := ⟨_, rfl⟩
                obtain ⟨z1, hz1⟩ : ∃ c, Z[1] = c := ⟨_, rfl⟩
                obtain ⟨z2, hz2⟩ : ∃ c, Z[2] = c := ⟨_, rfl⟩
                obtain ⟨z3, hz3⟩ : ∃ c, Z[3] = c := ⟨_, rfl⟩
                obtain ⟨z4, hz4⟩ : ∃ c, Z[4] = c := ⟨_, rfl⟩
                have HZL : Hid (Z.data.toList = [z0, z1, z2, z3, z4]) := by
                  unfold Hid
                  apply List.ext_getElem
                  · rw [sl_len, h5]; rfl
                  · intro t h1 h2
                    match t, h2 with
                    | 0, _ => exact hz0
                    | 1, _ => exact hz1
                    | 2, _ => exact hz2
                    | 3, _ => exact hz3
                    | 4, _ => exact hz4
                have HDD := hidM HD.out
                unfold Hid at HDD
                rw [HZL.out] at HDD
                have HD1 : Hid (isDig z1) := HDD 1 (by simp) (by decide) (by decide)
                have HD2 : Hid (isDig z2) := HDD 2 (by simp) (by decide) (by decide)
                have HD3 : Hid (isDig z3) := HDD 3 (by simp) (by decide) (by decide)
                have HD4 : Hid (isDig z4) := HDD 4 (by simp) (by decide) (by decide)
                obtain ⟨a1, b1⟩ : 48 ≤ (z1.toNat : Int) ∧ (z1.toNat : Int) ≤ 57 := by have := HD1.out; unfold isDig at this; omega
                obtain ⟨a2, b2⟩ : 48 ≤ (z2.toNat : Int) ∧ (z2.toNat : Int) ≤ 57 := by have := HD2.out; unfold isDig at this; omega
                obtain ⟨a3, b3⟩ : 48 ≤ (z3.toNat : Int) ∧ (z3.toNat : Int) ≤ 57 := by have := HD3.out; unfold isDig at this; omega
                obtain ⟨a4, b4⟩ : 48 ≤ (z4.toNat : Int) ∧ (z4.toNat : Int) ≤ 57 := by have := HD4.out; unfold isDig at this; omega
                clear HDD HD
                go_wp2_with fail
                go_region
                have eH : ((z1.toNat : Int) - 48) * 10 + ((z2.toNat : Int) - 48) = ((digV z1 z2 : Nat) : Int) := by unfold digV; omega
                have eM : ((z3.toNat : Int) - 48) * 10 + ((z4.toNat : Int) - 48) = ((digV z3 z4 : Nat) : Int) := by unfold digV; omega
                rw [eH, eM]
                have hH99 : digV z1 z2 ≤ 99 := by unfold digV; omega
                have hM99 : digV z3 z4 ≤ 99 := by unfold digV; omega
                have HBAD : Hid (¬ (digV z3 z4 < 60 ∧ (z0.toNat = 43 ∨ z0.toNat = 45) ∧ ¬ (z0.toNat = 45 ∧ digV z1 z2 = 0 ∧ digV z3 z4 = 0)) → signP s.data.toList = none) := fun hd => by
                  rw [HSG2.out, HZL.out]
                  cases ht : minP [z0, z1, z2, z3, z4] with
                  | none => rfl
                  | some z => exact absurd (min_only ht).2.2.2.2 hd
                have HGOOD : Hid (digV z3 z4 < 60 → (z0.toNat = 43 ∨ z0.toNat = 45) → ¬ (z0.toNat = 45 ∧ digV z1 z2 = 0 ∧ digV z3 z4 = 0) → signP s.data.toList = some ⟨s.data.toList.take i, nn, zoneN z0 z1 z2 z3 z4⟩) := fun k1 k2 k3 => by
                  rw [HSG2.out, HZL.out, min_ok HD1.out HD2.out HD3.out HD4.out k1 k2 k3]
                have HZE : Hid ((Z.toList == [45, 48, 48, 48, 48]) = decide (z0.toNat = 45 ∧ digV z1 z2 = 0 ∧ digV z3 z4 = 0)) := by
                  unfold Hid
                  rw [ByteArray.toList_eq, HZL.out, ← zone_neg HD1.out HD2.out HD3.out HD4.out]
                have HRd : Hid (wr.drew.heap[w.heap.size]? = some (.cells #[.string ⟨#[]⟩, .int .i64 0, .int .i64 0] 24 (0, 0))) := HR2.out
                have HXd : Hid (wr.drew.heap[D]? = some (.cells #[.string A, .int .i64 nn, .int .i64 0] 24 (0, 0))) := HX2.out
                have HBd : Hid (Below w.heap.size w wr.drew) := HB2.out.trans ⟨rfl, rfl, rfl, Nat.le_refl _, fun _ _ => rfl⟩
                generalize wr.drew = V at HRd HXd HBd ⊢
                clear HR2 HX2 HB2 HD1 HD2 HD3 HD4 HSG2 eH eM a1 a2 a3 a4 b1 b2 b3 b4
                have HZN : Hid (zoneN z0 z1 z2 z3 z4 = if z0.toNat = 45 then -((60 * digV z1 z2 + digV z3 z4 : Nat) : Int) else ((60 * digV z1 z2 + digV z3 z4 : Nat) : Int)) := rfl
                generalize digV z1 z2 = H at hH99 HBAD HGOOD HZN HZE ⊢
                generalize digV z3 z4 = M at hM99 HBAD HGOOD HZN HZE ⊢
                have fz : V.frozen? ⟨D, 2, none⟩ = false := by simp [World.frozen?, HXd.out]
                have qz : V.cell? ⟨D, 2, none⟩ = some (.int .i64 0) := by rw [cell_of_row V _ _ _ 24 (0, 0) HXd.out]; rfl
                go_upto_region 23 with fail
                have HSE : Hid (V.setCell ⟨D, 2, none⟩ (.int .i64 (60 * (H : Int) + (M : Int))) = V.setRow D #[.string A, .int .i64 nn, .int .i64 (60 * (H : Int) + (M : Int))]) := setCell_eq_setRow V _ 2 _ 24 (0, 0) _ HXd.out
                rw [HSE.out]
                have HX3 : Hid ((V.setRow D #[.string A, .int .i64 nn, .int .i64 (60 * (H : Int) + (M : Int))]).heap[D]? = some (.cells #[.string A, .int .i64 nn, .int .i64 (60 * (H : Int) + (M : Int))] 24 (0, 0))) := setRow_heap _ _ _ _ 24 _ HXd.out
                have HR3 : Hid ((V.setRow D #[.string A, .int .i64 nn, .int .i64 (60 * (H : Int) + (M : Int))]).heap[w.heap.size]? = some (.cells #[.string ⟨#[]⟩, .int .i64 0, .int .i64 0] 24 (0, 0))) := (setRow_other V D _ _ (by omega)).trans HRd.out
                have HB3 : Hid (Below w.heap.size w (V.setRow D #[.string A, .int .i64 nn, .int .i64 (60 * (H : Int) + (M : Int))])) := below_setRow HBd.out (by omega)
                clear HSE HXd HRd HBd fz qz
                generalize V.setRow D #[.string A, .int .i64 nn, .int .i64 (60 * (H : Int) + (M : Int))] = V3 at HX3 HR3 HB3 ⊢
                by_cases hm : 60 ≤ M
                · have hmd : decide ((60 : Int) ≤ (M : Int)) = true := by simp; omega
                  have HNONE := hidM (HBAD.out (fun h => by omega))
                  clear HBAD HGOOD HZN HZE
                  go_wp2_with (refine wpList_store_row rfl 24 (.tmp 2) (.tmp 128) rfl w.heap.size #[.string ⟨#[]⟩, .int .i64 0, .int .i64 0] rfl rfl 24 #[.string ⟨#[]⟩, .int .i64 0, .int .i64 0] HR3.out size24 rfl (ones24 _ _ _) ?_)
                  exact bodyPost_ret (run_box_tmp rfl _ _ w.heap.size _ rfl (run_loadVar_row _ w.heap.size 24 24 _ (0, 0) _ (setRow_heap _ _ _ _ 24 _ HR3.out) Tryd.underlying24 rfl size24)) rfl ⟨by rw [HNONE.out]; rfl, below_setRow HB3.out (Nat.le_refl _)⟩
                · have hmd : decide ((60 : Int) ≤ (M : Int)) = false := by simp; omega
                  by_cases hp : z0.toNat = 43
                  · have hp1 : ((z0.toNat : Int) == 43) = true := by rw [hp]; rfl
                    have hp2 : ((z0.toNat : Int) == 45) = false := by rw [hp]; rfl
                    have hp3 : ((z0.toNat : Int) != 43) = false := by rw [hp]; rfl
                    have hp4 : ((z0.toNat : Int) != 45) = true := by rw [hp]; rfl
                    have hst : (Z.toList == [45, 48, 48, 48, 48]) = false := by rw [HZE.out]; simp [hp]
                    have HFIN : Hid (signP s.data.toList = some ⟨s.data.toList.take i, nn, 60 * (H : Int) + (M : Int)⟩) := by
                      unfold Hid
                      rw [HGOOD.out (by omega) (.inl hp) (by omega), HZN.out, if_neg (by omega)]
                      congr 2
                    clear HBAD HGOOD HZN HZE
                    generalize V3 = V4 at HX3 HR3 HB3 ⊢
                    have l0 : V4.cell? ⟨D, 0, none⟩ = some (.string A) := by rw [cell_of_row V4 _ _ _ 24 (0, 0) HX3.out]; rfl
                    have l1 : V4.cell? ⟨D, 1, none⟩ = some (.int .i64 nn) := by rw [cell_of_row V4 _ _ _ 24 (0, 0) HX3.out]; rfl
                    have l2 : V4.cell? ⟨D, 2, none⟩ = some (.int .i64 (60 * (H : Int) + (M : Int))) := by rw [cell_of_row V4 _ _ _ 24 (0, 0) HX3.out]; rfl
                    go_wp2_with (refine wpList_store_row rfl 24 (.tmp 2) (.tmp 137) rfl w.heap.size #[.string A, .int .i64 nn, .int .i64 (60 * (H : Int) + (M : Int))] rfl rfl 24 #[.string ⟨#[]⟩, .int .i64 0, .int .i64 0] HR3.out size24 rfl (ones24 _ _ _) ?_)
                    exact bodyPost_ret (run_box_tmp rfl _ _ w.heap.size _ rfl (run_loadVar_row _ w.heap.size 24 24 #[.string A, .int .i64 nn, .int .i64 (60 * (H : Int) + (M : Int))] (0, 0) _ (setRow_heap _ _ _ _ 24 _ HR3.out) Tryd.underlying24 rfl size24)) rfl ⟨by rw [show readV (signP s.data.toList) = _ from congrArg readV HFIN.out]; unfold readV; simp only; rw [HA.out]; rfl, below_setRow HB3.out (Nat.le_refl _)⟩
                  · by_cases hq : z0.toNat = 45
                    · have hp1 : ((z0.toNat : Int) == 43) = false := by rw [hq]; rfl
                      have hp2 : ((z0.toNat : Int) == 45) = true := by rw [hq]; rfl
                      have hp3 : ((z0.toNat : Int) != 43) = true := by rw [hq]; rfl
                      have hp4 : ((z0.toNat : Int) != 45) = false := by rw [hq]; rfl
                      by_cases h00 : H = 0 ∧ M = 0
                      · have hst : (Z.toList == [45, 48, 48, 48, 48]) = true := by rw [HZE.out]; simp [hq, h00]
                        have HNONE := hidM (HBAD.out (fun h => h.2.2 ⟨hq, h00⟩))
                        clear HBAD HGOOD HZN HZE
                        go_wp2_with (refine wpList_store_row rfl 24 (.tmp 2) (.tmp 128) rfl w.heap.size #[.string ⟨#[]⟩, .int .i64 0, .int .i64 0] rfl rfl 24 #[.string ⟨#[]⟩, .int .i64 0, .int .i64 0] HR3.out size24 rfl (ones24 _ _ _) ?_)
                        exact bodyPost_ret (run_box_tmp rfl _ _ w.heap.size _ rfl (run_loadVar_row _ w.heap.size 24 24 _ (0, 0) _ (setRow_heap _ _ _ _ 24 _ HR3.out) Tryd.underlying24 rfl size24)) rfl ⟨by rw [HNONE.out]; rfl, below_setRow HB3.out (Nat.le_refl _)⟩
                      · have hst : (Z.toList == [45, 48, 48, 48, 48]) = false := by rw [HZE.out]; simp [hq]; omega
                        have HFIN : Hid (signP s.data.toList = some ⟨s.data.toList.take i, nn, -(60 * (H : Int) + (M : Int))⟩) := by
                          unfold Hid
                          rw [HGOOD.out (by omega) (.inr hq) (fun h => h00 h.2), HZN.out, if_pos hq]
                          congr 2
                        clear HBAD HGOOD HZN HZE
                        have l0 : V3.cell? ⟨D, 2, none⟩ = some (.int .i64 (60 * (H : Int) + (M : Int))) := by rw [cell_of_row V3 _ _ _ 24 (0, 0) HX3.out]; rfl
                        have l1 : V3.frozen? ⟨D, 2, none⟩ = false := by simp [World.frozen?, HX3.out]
                        go_upto_region 27 with fail
                        have HSE : Hid (V3.setCell ⟨D, 2, none⟩ (.int .i64 (-(60 * (H : Int) + (M : Int)))) = V3.setRow D #[.string A, .int .i64 nn, .int .i64 (-(60 * (H : Int) + (M : Int)))]) := setCell_eq_setRow V3 _ 2 _ 24 (0, 0) _ HX3.out
                        rw [HSE.out]
                        have HX4 : Hid ((V3.setRow D #[.string A, .int .i64 nn, .int .i64 (-(60 * (H : Int) + (M : Int)))]).heap[D]? = some (.cells #[.string A, .int .i64 nn, .int .i64 (-(60 * (H : Int) + (M : Int)))] 24 (0, 0))) := setRow_heap _ _ _ _ 24 _ HX3.out
                        have HR4 : Hid ((V3.setRow D #[.string A, .int .i64 nn, .int .i64 (-(60 * (H : Int) + (M : Int)))]).heap[w.heap.size]? = some (.cells #[.string ⟨#[]⟩, .int .i64 0, .int .i64 0] 24 (0, 0))) := (setRow_other V3 D _ _ (by omega)).trans HR3.out
                        have HB4 : Hid (Below w.heap.size w (V3.setRow D #[.string A, .int .i64 nn, .int .i64 (-(60 * (H : Int) + (M : Int)))])) := below_setRow HB3.out (by omega)
                        clear HSE HX3 HR3 HB3 l0 l1
                        generalize V3.setRow D #[.string A, .int .i64 nn, .int .i64 (-(60 * (H : Int) + (M : Int)))] = V4 at HX4 HR4 HB4 ⊢
                        have l0 : V4.cell? ⟨D, 0, none⟩ = some (.string A) := by rw [cell_of_row V4 _ _ _ 24 (0, 0) HX4.out]; rfl
                        have l1 : V4.cell? ⟨D, 1, none⟩ = some (.int .i64 nn) := by rw [cell_of_row V4 _ _ _ 24 (0, 0) HX4.out]; rfl
                        have l2 : V4.cell? ⟨D, 2, none⟩ = some (.int .i64 (-(60 * (H : Int) + (M : Int)))) := by rw [cell_of_row V4 _ _ _ 24 (0, 0) HX4.out]; rfl
                        go_wp2_with (refine wpList_store_row rfl 24 (.tmp 2) (.tmp 137) rfl w.heap.size #[.string A, .int .i64 nn, .int .i64 (-(60 * (H : Int) + (M : Int)))] rfl rfl 24 #[.string ⟨#[]⟩, .int .i64 0, .int .i64 0] HR4.out size24 rfl (ones24 _ _ _) ?_)
                        exact bodyPost_ret (run_box_tmp rfl _ _ w.heap.size _ rfl (run_loadVar_row _ w.heap.size 24 24 #[.string A, .int .i64 nn, .int .i64 (-(60 * (H : Int) + (M : Int)))] (0, 0) _ (setRow_heap _ _ _ _ 24 _ HR4.out) Tryd.underlying24 rfl size24)) rfl ⟨by rw [show readV (signP s.data.toList) = _ from congrArg readV HFIN.out]; unfold readV; simp only; rw [HA.out]; rfl, below_setRow HB4.out (Nat.le_refl _)⟩
                    · have hp1 : ((z0.toNat : Int) == 43) = false := by simp; omega
                      have hp2 : ((z0.toNat : Int) == 45) = false := by simp; omega
                      have hp3 : ((z0.toNat : Int) != 43) = true := by simp; omega
                      have hp4 : ((z0.toNat : Int) != 45) = true := by simp; omega
                      have HNONE := hidM (HBAD.out (fun h => by omega))
                      clear HBAD HGOOD HZN HZE
                      go_wp2_with (refine wpList_store_row rfl 24 (.tmp 2) (.tmp 128) rfl w.heap.size #[.string ⟨#[]⟩, .int .i64 0, .int .i64 0] rfl rfl 24 #[.string ⟨#[]⟩, .int .i64 0, .int .i64 0] HR3.out size24 rfl (ones24 _ _ _) ?_)
                      exact bodyPost_ret (run_box_tmp rfl _ _ w.heap.size _ rfl (run_loadVar_row _ w.heap.size 24 24 _ (0, 0) _ (setRow_heap _ _ _ _ 24 _ HR3.out) Tryd.underlying24 rfl size24)) rfl ⟨by rw [HNONE.out]; rfl, below_setRow HB3.out (Nat.le_refl _)⟩
          · have h5d : ((Z.size : Int) != 5) = true := by simp; omega
            have HNONE : Hid (signP s.data.toList = none) := by
              unfold Hid
              rw [HSG2.out]
              cases ht : minP Z.data.toList with
              | none => rfl
              | some z => exact absurd (min_len ht) (by rw [sl_len]; exact h5)
            go_wp2_with (refine wpList_store_row rfl 24 (.tmp 2) (.tmp 70) rfl w.heap.size #[.string ⟨#[]⟩, .int .i64 0, .int .i64 0] rfl rfl 24 #[.string ⟨#[]⟩, .int .i64 0, .int .i64 0] HR2.out size24 rfl (ones24 _ _ _) ?_)
            exact bodyPost_ret (run_box_tmp rfl _ _ w.heap.size _ rfl (run_loadVar_row _ w.heap.size 24 24 _ (0, 0) _ (setRow_heap _ _ _ _ 24 _ HR2.out) Tryd.underlying24 rfl size24)) rfl ⟨by rw [HNONE.out]; rfl, below_setRow HB2.out (Nat.le_refl _)⟩
end Go.Proofs.YtbghailohnppmaaDoor
namespace Go.Proofs.YtbghailohnppmaaDoor
open Go.RowKit

/-- what stands in the two boxes of the document's Parse -/
structure PX (w : World) (cs : Array Value) (pv : Value) (ps : List ByteArray) (V : World) : Prop where
  bel : Below w.heap.size w V
  z : V.heap[w.heap.size]? = some (.cells z26 26 (0, 0))
  c : V.heap[w.heap.size + 1]? = some (.cells cs 26 (0, 0))
  own : OwnS V (w.heap.size + 2) pv ps
theorem PX.lt {w V : World} {cs : Array Value} {pv : Value} {ps : List ByteArray} (h : PX w cs pv ps V) : w.heap.size + 2 ≤ V.heap.size := by
  have := (Array.getElem?_eq_some_iff.1 h.c).1
  omega
theorem PX.below {w V V' : World} {cs : Array Value} {pv : Value} {ps : List ByteArray} (h : PX w cs pv ps V) (hb : Below V.heap.size V V') : PX w cs pv ps V' :=
  ⟨h.bel.trans (hb.mono h.bel.size), box_bel h.z hb, box_bel h.c hb, own_blocks h.own (fun k _ h2 => hb.block k h2)⟩
theorem PX.drew {w V : World} {cs : Array Value} {pv : Value} {ps : List ByteArray} (h : PX w cs pv ps V) : PX w cs pv ps V.drew :=
  h.below ((Below.refl _ V).trans ⟨rfl, rfl, rfl, Nat.le_refl _, fun _ _ => rfl⟩)
theorem PX.store {w V : World} {cs : Array Value} {pv : Value} {ps : List ByteArray} (h : PX w cs pv ps V) (cs' : Array Value) : PX w cs' pv ps (V.setRow (w.heap.size + 1) cs') :=
  ⟨below_setRow h.bel (by omega), (setRow_other V _ _ cs' (by omega)).trans h.z, setRow_heap V (w.heap.size + 1) cs cs' 26 (0, 0) h.c, own_row h.own (by omega)⟩
theorem PX.set {w V : World} {cs : Array Value} {pv : Value} {ps : List ByteArray} (h : PX w cs pv ps V) (i : Nat) (x : Value) : PX w (cs.setIfInBounds i x) pv ps (V.setCell ⟨w.heap.size + 1, i, none⟩ x) := by
  rw [setCell_eq_setRow V _ i cs 26 (0, 0) x h.c]
  exact h.store _
theorem PX.free {w V : World} {cs : Array Value} {pv : Value} {ps : List ByteArray} (h : PX w cs pv ps V) (i : Nat) : V.frozen? ⟨w.heap.size + 1, i, none⟩ = false := by simp [World.frozen?, h.c]
theorem PX.cell {w V : World} {cs : Array Value} {pv : Value} {ps : List ByteArray} (h : PX w cs pv ps V) (i : Nat) {v : Value} (hv : cs[i]? = some v) : V.cell? ⟨w.heap.size + 1, i, none⟩ = some v := by
  rw [cell_of_row _ _ _ _ 26 (0, 0) h.c]; exact hv
theorem PX.grow {w V V' : World} {cs : Array Value} {pv v' : Value} {ps : List ByteArray} {x : ByteArray} (h : PX w cs pv ps V) (hown : V'.ownsRow (w.heap.size + 2) 9 1 v' (ps.length + 1) (strsV ps ++ [.string x])) (hg : V.grownBy V' pv.ownBlock) : PX w cs v' (ps ++ [x]) V' := by
  have hb : Below (w.heap.size + 2) V V' := (Below.refl _ V).grown hg h.lt (fun k hk => (World.ownsRow.lt h.own k hk).1)
  exact ⟨h.bel.trans (hb.mono (by omega)), (hb.block _ (by omega)).trans h.z, (hb.block _ (by omega)).trans h.c, OwnS.push hown⟩
theorem PX.part {w V : World} {t m : ByteArray} {pv : Value} {ps : List ByteArray} {a c : Sb} (h : PX w (c26 t pv a c m) pv ps V) :
    V.cell? ⟨w.heap.size + 1, 2, none⟩ = some (.string a.who) ∧ V.cell? ⟨w.heap.size + 1, 3, none⟩ = some (.int .i64 a.time) ∧ V.cell? ⟨w.heap.size + 1, 4, none⟩ = some (.int .i64 a.zone) ∧
    V.cell? ⟨w.heap.size + 1, 5, none⟩ = some (.string c.who) ∧ V.cell? ⟨w.heap.size + 1, 6, none⟩ = some (.int .i64 c.time) ∧ V.cell? ⟨w.heap.size + 1, 7, none⟩ = some (.int .i64 c.zone) :=
  ⟨h.cell 2 rfl, h.cell 3 rfl, h.cell 4 rfl, h.cell 5 rfl, h.cell 6 rfl, h.cell 7 rfl⟩
def rdS (o : Option Sg) : Sb := match o with
  | none => noS
  | some g => sbOf g
theorem readV_eq (o : Option Sg) : readV o = .tuple #[.agg #[.string (rdS o).who, .int .i64 (rdS o).time, .int .i64 (rdS o).zone], .bool o.isSome] := by cases o <;> rfl
def lnX (o : Option (List UInt8 × List UInt8)) : ByteArray := match o with
  | none => ⟨#[]⟩
  | some (x, _) => ⟨x.toArray⟩
def lnR (o : Option (List UInt8 × List UInt8)) : ByteArray := match o with
  | none => ⟨#[]⟩
  | some (_, r) => ⟨r.toArray⟩
theorem lineV_eq (o : Option (List UInt8 × List UInt8)) : lineV o = .tuple #[.string (lnX o), .string (lnR o), .bool o.isSome] := by cases o <;> rfl
theorem refline_eq (s word : ByteArray) (wd : List UInt8) (w : World) (hs : s.size ≤ 140737488355328) (hwd : word.size ≤ 1000) (h : word.data.toList ++ [32] = wd) :
    Calls Tryd.prog 40 #[.string s, .string word] w fun e w' => e = .returned (.tuple #[.string (lnX (lineP wd s.data.toList)), .string (lnR (lineP wd s.data.toList)), .bool (lineP wd s.data.toList).isSome]) ∧ Below w.heap.size w w' := by
  rw [← lineV_eq, ← h]
  exact refline_any s word w hs hwd
theorem refread_eq (s : ByteArray) (w : World) (hs : s.size ≤ 1000000000000) :
    Calls Tryd.prog 42 #[.string s] w fun e w' => e = .returned (.tuple #[.agg #[.string (rdS (signP s.data.toList)).who, .int .i64 (rdS (signP s.data.toList)).time, .int .i64 (rdS (signP s.data.toList)).zone], .bool (signP s.data.toList).isSome]) ∧ Below w.heap.size w w' := by
  rw [← readV_eq]
  exact refread_any s w hs

/-- how far the document's Parse is -/
structure PL (s X R : ByteArray) (ok : Bool) (us : List ByteArray) : Prop where
  len : us.length + R.size ≤ s.size
  on : ok = true → ∃ t r0 ps, lineP wTree s.data.toList = some (t, r0) ∧ us = ps.map baL ∧ parsL r0 = (parsL R.data.toList).map fun x => (ps ++ x.1, x.2)
  off : ok = false → X = ⟨#[]⟩ ∧ changeP s.data.toList = none
theorem change_line {l : List UInt8} (h : lineP wTree l = none) : changeP l = none := by unfold changeP; rw [h]
theorem change_pars {l t r0 : List UInt8} (h : lineP wTree l = some (t, r0)) (h2 : parsL r0 = none) : changeP l = none := by unfold changeP; rw [h]; simp only; rw [h2]
theorem PL.start (s : ByteArray) : PL s (lnX (lineP wTree s.data.toList)) (lnR (lineP wTree s.data.toList)) (lineP wTree s.data.toList).isSome [] := by
  cases h : lineP wTree s.data.toList with
  | none => exact ⟨Nat.zero_le _, (fun e => by simp at e), fun _ => ⟨rfl, change_line h⟩⟩
  | some x =>
    obtain ⟨t, r0⟩ := x
    refine ⟨?_, fun _ => ⟨t, r0, [], h, rfl, ?_⟩, fun e => by simp at e⟩
    · have := lineP_len h
      show 0 + (⟨r0.toArray⟩ : ByteArray).size ≤ _
      rw [ba_size, ← sl_len s]
      omega
    · show parsL r0 = (parsL r0).map _
      cases parsL r0 <;> rfl
theorem PL.next {s X R : ByteArray} {us : List ByteArray} (h : PL s X R true us) (hp : Lib.hasPrefix R.data.toList wParent = true) :
    PL s (lnX (lineP wParent R.data.toList)) (lnR (lineP wParent R.data.toList)) (lineP wParent R.data.toList).isSome (us ++ [lnX (lineP wParent R.data.toList)]) ∧ (lnR (lineP wParent R.data.toList)).size < R.size := by
  obtain ⟨t, r0, ps, h1, rfl, h2⟩ := h.on rfl
  have hl := h.len
  have h7 : 7 ≤ R.size := by
    have := congrArg List.length (pref_app hp)
    rw [sl_len, List.length_append, show wParent.length = 7 from rfl] at this
    omega
  have he := parsL_eq R.data.toList
  rw [if_pos hp] at he
  cases ho : lineP wParent R.data.toList with
  | none =>
    rw [ho] at he
    simp only at he
    refine ⟨⟨?_, (fun e => by simp at e), fun _ => ⟨rfl, change_pars h1 (by rw [h2, he]; rfl)⟩⟩, ?_⟩
    · rw [List.length_append, List.length_singleton]
      show _ + 1 + 0 ≤ _
      omega
    · show 0 < _
      omega
  | some x =>
    obtain ⟨x, r⟩ := x
    have hln := lineP_len ho
    rw [sl_len, show wParent.length = 7 from rfl] at hln
    rw [ho] at he
    simp only at he
    have hr : (⟨r.toArray⟩ : ByteArray).size < R.size := by rw [ba_size]; omega
    refine ⟨⟨?_, fun _ => ⟨t, r0, ps ++ [x], h1, ?_, ?_⟩, fun e => by simp at e⟩, hr⟩
    · rw [List.length_append, List.length_singleton]
      show _ + 1 + (⟨r.toArray⟩ : ByteArray).size ≤ _
      omega
    · rw [List.map_append]; rfl
    · show parsL r0 = (parsL r).map _
      rw [h2, he]
      cases parsL r with
      | none => rfl
      | some y => simp
end Go.Proofs.YtbghailohnppmaaDoor
