/-
  Walks of the laws of commit: CommitMessages.
  A commit that was handed in, opened.
-/
import Derived.Test.YtbghailohnppmaaDoorJComL
import Derived.Test.YtbghailohnppmaaDoorLaid
import Derived.Deep.Strs
import Derived.SizedLaws
namespace Go.Proofs.YtbghailohnppmaaDoor
open Go.RowKit

theorem CBox.nine {w : World} {g : Nat} {t : ByteArray} {pv : Value} {awho cwho m : ByteArray} {at_ az ct cz : Int} (h : CBox w g t pv ⟨awho, at_, az⟩ ⟨cwho, ct, cz⟩ m) :
    w.cell? ⟨g, 0, none⟩ = some (.string t) ∧ w.cell? ⟨g, 1, none⟩ = some pv ∧ w.cell? ⟨g, 2, none⟩ = some (.string awho) ∧ w.cell? ⟨g, 3, none⟩ = some (.int .i64 at_) ∧ w.cell? ⟨g, 4, none⟩ = some (.int .i64 az) ∧ w.cell? ⟨g, 5, none⟩ = some (.string cwho) ∧ w.cell? ⟨g, 6, none⟩ = some (.int .i64 ct) ∧ w.cell? ⟨g, 7, none⟩ = some (.int .i64 cz) ∧ w.cell? ⟨g, 8, none⟩ = some (.string m) :=
  ⟨h.cell 0 rfl, h.cell 1 rfl, h.cell 2 rfl, h.cell 3 rfl, h.cell 4 rfl, h.cell 5 rfl, h.cell 6 rfl, h.cell 7 rfl, h.cell 8 rfl⟩
def headL (t : ByteArray) (ps : List ByteArray) (a c : Sb) : List UInt8 := wTree ++ t.data.toList ++ 10 :: (parsT (ps.map fun p => p.data.toList) ++ (wAuthor ++ sgL (sgOf a) ++ 10 :: (wCommitter ++ sgL (sgOf c))))
theorem text_head (t : ByteArray) (ps : List ByteArray) (a c : Sb) (m : ByteArray) : (textB t ps a c m).data.toList = headL t ps a c ++ [10, 10] ++ m.data.toList := by
  simp only [textB, textL, cmOf, headL]
  simp
theorem text_more (t : ByteArray) (ps : List ByteArray) (a c : Sb) (m : ByteArray) : textB t ps a c ⟨#[]⟩ ++ m = textB t ps a c m := by
  apply bytes_ext
  rw [ByteArray.data_append, Array.toList_append, text_head, text_head]
  simp
theorem text_long (t : ByteArray) (ps : List ByteArray) (a c : Sb) (m : ByteArray) : 2 < (textB t ps a c m).size := by
  rw [← sl_len, text_head]
  simp [headL, wTree]
theorem text_end (t : ByteArray) (ps : List ByteArray) (a c : Sb) : (textB t ps a c ⟨#[]⟩).extract ((textB t ps a c ⟨#[]⟩).size - 2) (textB t ps a c ⟨#[]⟩).size = ⟨#[10, 10]⟩ := by
  apply bytes_ext
  rw [ByteArray.data_extract, Array.toList_extract, ← sl_len, text_head]
  simp
theorem pars_len {l : List (List UInt8)} (h : ∀ p ∈ l, p.length = 40) (h16 : l.length ≤ 16) : (parsT l).length ≤ 768 := by
  have : (parsT l).length = 48 * l.length := by
    clear h16
    induction l with
    | nil => rfl
    | cons p r ih =>
      have := ih (fun q hq => h q (List.mem_cons_of_mem _ hq))
      have hp := h p (by simp)
      simp only [parsT, List.flatMap_cons, List.length_append, List.length_cons, List.length_nil] at this ⊢
      rw [this, hp]
      show wParent.length + 40 + 1 + _ = _
      rw [show wParent.length = 7 from rfl]
      omega
  omega
theorem text_size {t : ByteArray} {ps : List ByteArray} {a c : Sb} (m : ByteArray) (h : checkE t ps a c = 0) : (textB t ps a c m).size ≤ m.size + 2000 := by
  obtain ⟨h1, h2, h3, h4, h5⟩ := check_zero h
  have s1 := sgB_size a h4
  have s2 := sgB_size c h5
  have s3 := id_size h3
  rw [← sl_len, sgB_list] at s1 s2
  have s4 := pars_len (l := ps.map fun p => p.data.toList) (by
    intro p hp
    obtain ⟨q, hq, rfl⟩ := List.mem_map.1 hp
    rw [sl_len, id_size (h2 q hq)]) (by simpa using h1)
  rw [← sl_len] at s3
  rw [← sl_len, ← sl_len m, text_head, headL]
  simp only [List.length_append, List.length_cons, List.length_nil]
  rw [show wTree.length = 5 from rfl, show wAuthor.length = 7 from rfl, show wCommitter.length = 10 from rfl]
  omega
theorem strso_below {w w' : World} {v : Value} {l : List ByteArray} (h : StrsO w v l) (hb : Below w.heap.size w w') : StrsO w' v l := by
  rcases h with h | h | ⟨b, off, cap, h1, h2, h3, h4⟩
  · exact .inl h
  · exact .inr (.inl h)
  · exact .inr (.inr ⟨b, off, cap, h1, Nat.lt_of_lt_of_le h2 hb.size, h3, fun j hj => (hb.cell (p := ⟨b, off + j, none⟩) h2).trans (h4 j hj)⟩)
set_option maxHeartbeats 2000000 in
set_option maxRecDepth 100000 in
theorem messages_at (t : ByteArray) (pv : Value) (l : List ByteArray) (a c : Sb) (m0 msg : ByteArray) (w : World) (hG : GT w) (hp : StrsO w pv l) (ht : t.size ≤ maxLen) (hps : ∀ p ∈ l, p.size ≤ maxLen) (hmsg : msg.size ≤ 300) :
    Calls Tryd.prog 8 #[.agg (c26 t pv a c m0), .string msg] w fun e w' => e = .returned (.bool true) ∧ Below w.heap.size w w' := by
  have hus : ∀ p ∈ l.take 40, p.size ≤ maxLen := fun p h => hps p (List.mem_of_mem_take h)
  have HF := hidM (fun V h => few_any t pv l a c m0 V h)
  have hsl : ∃ x y z, pv = .slice x y z := by
    rcases hp with ⟨rfl, _⟩ | ⟨ad, cap, rfl, _⟩ | ⟨b, off, cap, rfl, _⟩ <;> exact ⟨_,_,_, rfl⟩
  have HP0 := hidM (fun V hV => strso_below hp (w' := V) hV)
  obtain ⟨us, hue⟩ : ∃ us, l.take 40 = us := ⟨_, rfl⟩
  rw [hue] at HF hus
  obtain ⟨px, py, pz, rfl⟩ := hsl
  clear hue hps
  unfold FewPost at HF
  have HAW := hidM (fun V hV => awake_any V hV)
  have nm : ¬ (300 : Int) < (msg.size : Int) := by omega
  cases hck : checkE t us a c with
  | zero =>
    have HFA := hidM (fun V pv hV hs => format_zero t pv us a c ⟨#[]⟩ V hV hs ht hus (by decide) hck)
    have HFB := hidM (fun V pv hV hs => format_zero t pv us a c msg V hV hs ht hus (by omega) hck)
    have HMO := hidM (text_more t us a c msg)
    have HLO := text_long t us a c ⟨#[]⟩
    have HEN := text_end t us a c
    have HSZ := text_size (⟨#[]⟩ : ByteArray) hck
    rw [show (⟨#[]⟩ : ByteArray).size = 0 from rfl] at HSZ
    clear hck ht hus
    generalize textB t us a c ⟨#[]⟩ = S at *
    generalize textB t us a c msg = T at *
    have hST : S ++ msg = T := HMO.out
    have n1 : ¬ 9223372036854775807 < S.size + msg.size := by omega
    have bT : (T.toList == T.toList) = true := by simp
    have g2 : (2 : Int) < (S.size : Int) := by omega
    clear HMO
    obtain ⟨awho, at_, az⟩ := a
    obtain ⟨cwho, ct, cz⟩ := c
    have HB0 : Hid (Below w.heap.size w (w.alloc (.cells (c26 t (.slice px py pz) ⟨awho, at_, az⟩ ⟨cwho, ct, cz⟩ m0) 26))) := (Below.refl _ w).alloc (Nat.le_refl _) _
    have HC0 : Hid (CBox (w.alloc (.cells (c26 t (.slice px py pz) ⟨awho, at_, az⟩ ⟨cwho, ct, cz⟩ m0) 26)) w.heap.size t (.slice px py pz) ⟨awho, at_, az⟩ ⟨cwho, ct, cz⟩ m0) := heap_alloc_new w _
    have HG0 := hidM hG
    clear hG hp
    simp only [c26] at HB0 HC0 HF HFA HFB ⊢
    go_enter Tryd.func8, Tryd.ntmps8
    go_upto_region 3 with fail
    generalize w.alloc (.cells #[.string t, .slice px py pz, .string awho, .int .i64 at_, .int .i64 az, .string cwho, .int .i64 ct, .int .i64 cz, .string m0] 26) = W0 at *
    obtain ⟨g0, hg0⟩ : ∃ X, w.heap.size = X := ⟨_, rfl⟩
    rw [hg0] at HC0 ⊢
    obtain ⟨k0, k1, k2, k3, k4, k5, k6, k7, k8⟩ := HC0.out.nine
    go_wp2_with fail
    refine (HF.out _ (HP0.out _ HB0.out)).mono ?_
    rintro _ w1 ⟨pa, rfl, ho1, hb1⟩
    have HO1 := hidM ho1
    obtain ⟨va, vn, vc, hpa⟩ := ho1.slice
    subst hpa
    have HC1 := hidM (HC0.out.below hb1)
    have HB1 := hidM (HB0.out.trans (hb1.mono HB0.out.size))
    clear ho1 hb1 k0 k1 k2 k3 k4 k5 k6 k7 k8 HC0 HB0
    have hb2 : Below w1.heap.size w1 (w1.alloc (.cells #[.string t, .slice va vn vc, .string awho, .int .i64 at_, .int .i64 az, .string cwho, .int .i64 ct, .int .i64 cz, .string ⟨#[]⟩] 26)) := (Below.refl _ w1).alloc (Nat.le_refl _) _
    have HC2 := hidM (HC1.out.below hb2)
    have HS2 := hidM (HO1.out.strs.below hb2)
    have HB2 := hidM (HB1.out.trans (hb2.mono HB1.out.size))
    have HA2 : Hid (CBox (w1.alloc (.cells #[.string t, .slice va vn vc, .string awho, .int .i64 at_, .int .i64 az, .string cwho, .int .i64 ct, .int .i64 cz, .string ⟨#[]⟩] 26)) w1.heap.size t (.slice va vn vc) ⟨awho, at_, az⟩ ⟨cwho, ct, cz⟩ ⟨#[]⟩) := heap_alloc_new w1 _
    clear hb2 HC1 HB1 HO1
    go_upto_region 5 with fail
    generalize w1.alloc (.cells #[.string t, .slice va vn vc, .string awho, .int .i64 at_, .int .i64 az, .string cwho, .int .i64 ct, .int .i64 cz, .string ⟨#[]⟩] 26) = W2 at *
    generalize w1.heap.size = g2 at *
    obtain ⟨k0, k1, k2, k3, k4, k5, k6, k7, k8⟩ := HC2.out.nine
    go_wp2_with fail
    refine (HF.out _ (HP0.out _ HB2.out)).mono ?_
    rintro _ w3 ⟨pb, rfl, ho3, hb3⟩
    have HO3 := hidM ho3
    obtain ⟨ua, un, uc, hpb⟩ := ho3.slice
    subst hpb
    have HA3 := hidM (HA2.out.below hb3)
    have HS3 := hidM (HS2.out.below hb3)
    have HB3 := hidM (HB2.out.trans (hb3.mono HB2.out.size))
    clear ho3 hb3 k0 k1 k2 k3 k4 k5 k6 k7 k8 HC2 HB2 HA2 HS2
    have hb4 : Below w3.heap.size w3 (w3.alloc (.cells #[.string t, .slice ua un uc, .string awho, .int .i64 at_, .int .i64 az, .string cwho, .int .i64 ct, .int .i64 cz, .string msg] 26)) := (Below.refl _ w3).alloc (Nat.le_refl _) _
    have HA4 := hidM (HA3.out.below hb4)
    have HS4 := hidM (HS3.out.below hb4)
    have HT4 := hidM (HO3.out.strs.below hb4)
    have HB4 := hidM (HB3.out.trans (hb4.mono HB3.out.size))
    have HC4 : Hid (CBox (w3.alloc (.cells #[.string t, .slice ua un uc, .string awho, .int .i64 at_, .int .i64 az, .string cwho, .int .i64 ct, .int .i64 cz, .string msg] 26)) w3.heap.size t (.slice ua un uc) ⟨awho, at_, az⟩ ⟨cwho, ct, cz⟩ msg) := heap_alloc_new w3 _
    clear hb4 HA3 HS3 HO3 HB3
    go_upto_region 7 with fail
    generalize w3.alloc (.cells #[.string t, .slice ua un uc, .string awho, .int .i64 at_, .int .i64 az, .string cwho, .int .i64 ct, .int .i64 cz, .string msg] 26) = W4 at *
    generalize w3.heap.size = g4 at *
    obtain ⟨k0, k1, k2, k3, k4, k5, k6, k7, k8⟩ := HA4.out.nine
    go_wp2_with fail
    refine (HFA.out _ _ (HG0.out.below HB4.out) HS4.out).mono ?_
    rintro _ w5 ⟨rfl, hb5⟩
    have HC5 := hidM (HC4.out.below hb5)
    have HT5 := hidM (HT4.out.below hb5)
    have HB5 := hidM (HB4.out.trans (hb5.mono HB4.out.size))
    clear hb5 k0 k1 k2 k3 k4 k5 k6 k7 k8 HA4 HS4 HC4 HT4 HB4
    obtain ⟨k0, k1, k2, k3, k4, k5, k6, k7, k8⟩ := HC5.out.nine
    go_wp2_with fail
    refine (HFB.out _ _ (HG0.out.below HB5.out) HT5.out).mono ?_
    rintro _ w6 ⟨rfl, hb6⟩
    have HB6 := hidM (HB5.out.trans (hb6.mono HB5.out.size))
    clear hb6 k0 k1 k2 k3 k4 k5 k6 k7 k8 HC5 HT5 HB5
    go_wp2_with fail
    refine (HAW.out _ (HG0.out.below HB6.out)).mono ?_
    rintro _ w7 ⟨rfl, hb7⟩
    have HB7 := hidM (HB6.out.trans (hb7.mono HB6.out.size))
    clear hb7 HB6
    go_wp2
    go_ret
    exact ⟨rfl, HB7.out⟩
  | succ n =>
    have HFA := hidM (fun V pv hV hs => format_bad t pv us a c ⟨#[]⟩ V hV hs ht hus (by decide) (n + 1) hck (by omega))
    have HFB := hidM (fun V pv hV hs => format_bad t pv us a c msg V hV hs ht hus (by omega) (n + 1) hck (by omega))
    clear hck ht hus
    have hn : ((n + 1 : Nat) : Int) ≠ 0 := by omega
    generalize ((n + 1 : Nat) : Int) = N at *
    have b1 : (N != N) = false := by simp
    have b2 : (N != 0) = true := by simpa using hn
    obtain ⟨awho, at_, az⟩ := a
    obtain ⟨cwho, ct, cz⟩ := c
    have HB0 : Hid (Below w.heap.size w (w.alloc (.cells (c26 t (.slice px py pz) ⟨awho, at_, az⟩ ⟨cwho, ct, cz⟩ m0) 26))) := (Below.refl _ w).alloc (Nat.le_refl _) _
    have HC0 : Hid (CBox (w.alloc (.cells (c26 t (.slice px py pz) ⟨awho, at_, az⟩ ⟨cwho, ct, cz⟩ m0) 26)) w.heap.size t (.slice px py pz) ⟨awho, at_, az⟩ ⟨cwho, ct, cz⟩ m0) := heap_alloc_new w _
    have HG0 := hidM hG
    clear hG hp
    simp only [c26] at HB0 HC0 HF HFA HFB ⊢
    go_enter Tryd.func8, Tryd.ntmps8
    go_upto_region 3 with fail
    generalize w.alloc (.cells #[.string t, .slice px py pz, .string awho, .int .i64 at_, .int .i64 az, .string cwho, .int .i64 ct, .int .i64 cz, .string m0] 26) = W0 at *
    obtain ⟨g0, hg0⟩ : ∃ X, w.heap.size = X := ⟨_, rfl⟩
    rw [hg0] at HC0 ⊢
    obtain ⟨k0, k1, k2, k3, k4, k5, k6, k7, k8⟩ := HC0.out.nine
    go_wp2_with fail
    refine (HF.out _ (HP0.out _ HB0.out)).mono ?_
    rintro _ w1 ⟨pa, rfl, ho1, hb1⟩
    have HO1 := hidM ho1
    obtain ⟨va, vn, vc, hpa⟩ := ho1.slice
    subst hpa
    have HC1 := hidM (HC0.out.below hb1)
    have HB1 := hidM (HB0.out.trans (hb1.mono HB0.out.size))
    clear ho1 hb1 k0 k1 k2 k3 k4 k5 k6 k7 k8 HC0 HB0
    have hb2 : Below w1.heap.size w1 (w1.alloc (.cells #[.string t, .slice va vn vc, .string awho, .int .i64 at_, .int .i64 az, .string cwho, .int .i64 ct, .int .i64 cz, .string ⟨#[]⟩] 26)) := (Below.refl _ w1).alloc (Nat.le_refl _) _
    have HC2 := hidM (HC1.out.below hb2)
    have HS2 := hidM (HO1.out.strs.below hb2)
    have HB2 := hidM (HB1.out.trans (hb2.mono HB1.out.size))
    have HA2 : Hid (CBox (w1.alloc (.cells #[.string t, .slice va vn vc, .string awho, .int .i64 at_, .int .i64 az, .string cwho, .int .i64 ct, .int .i64 cz, .string ⟨#[]⟩] 26)) w1.heap.size t (.slice va vn vc) ⟨awho, at_, az⟩ ⟨cwho, ct, cz⟩ ⟨#[]⟩) := heap_alloc_new w1 _
    clear hb2 HC1 HB1 HO1
    go_upto_region 5 with fail
    generalize w1.alloc (.cells #[.string t, .slice va vn vc, .string awho, .int .i64 at_, .int .i64 az, .string cwho, .int .i64 ct, .int .i64 cz, .string ⟨#[]⟩] 26) = W2 at *
    generalize w1.heap.size = g2 at *
    obtain ⟨k0, k1, k2, k3, k4, k5, k6, k7, k8⟩ := HC2.out.nine
    go_wp2_with fail
    refine (HF.out _ (HP0.out _ HB2.out)).mono ?_
    rintro _ w3 ⟨pb, rfl, ho3, hb3⟩
    have HO3 := hidM ho3
    obtain ⟨ua, un, uc, hpb⟩ := ho3.slice
    subst hpb
    have HA3 := hidM (HA2.out.below hb3)
    have HS3 := hidM (HS2.out.below hb3)
    have HB3 := hidM (HB2.out.trans (hb3.mono HB2.out.size))
    clear ho3 hb3 k0 k1 k2 k3 k4 k5 k6 k7 k8 HC2 HB2 HA2 HS2
    have hb4 : Below w3.heap.size w3 (w3.alloc (.cells #[.string t, .slice ua un uc, .string awho, .int .i64 at_, .int .i64 az, .string cwho, .int .i64 ct, .int .i64 cz, .string msg] 26)) := (Below.refl _ w3).alloc (Nat.le_refl _) _
    have HA4 := hidM (HA3.out.below hb4)
    have HS4 := hidM (HS3.out.below hb4)
    have HT4 := hidM (HO3.out.strs.below hb4)
    have HB4 := hidM (HB3.out.trans (hb4.mono HB3.out.size))
    have HC4 : Hid (CBox (w3.alloc (.cells #[.string t, .slice ua un uc, .string awho, .int .i64 at_, .int .i64 az, .string cwho, .int .i64 ct, .int .i64 cz, .string msg] 26)) w3.heap.size t (.slice ua un uc) ⟨awho, at_, az⟩ ⟨cwho, ct, cz⟩ msg) := heap_alloc_new w3 _
    clear hb4 HA3 HS3 HO3 HB3
    go_upto_region 7 with fail
    generalize w3.alloc (.cells #[.string t, .slice ua un uc, .string awho, .int .i64 at_, .int .i64 az, .string cwho, .int .i64 ct, .int .i64 cz, .string msg] 26) = W4 at *
    generalize w3.heap.size = g4 at *
    obtain ⟨k0, k1, k2, k3, k4, k5, k6, k7, k8⟩ := HA4.out.nine
    go_wp2_with fail
    refine (HFA.out _ _ (HG0.out.below HB4.out) HS4.out).mono ?_
    rintro _ w5 ⟨rfl, hb5⟩
    have HC5 := hidM (HC4.out.below hb5)
    have HT5 := hidM (HT4.out.below hb5)
    have HB5 := hidM (HB4.out.trans (hb5.mono HB4.out.size))
    clear hb5 k0 k1 k2 k3 k4 k5 k6 k7 k8 HA4 HS4 HC4 HT4 HB4
    obtain ⟨k0, k1, k2, k3, k4, k5, k6, k7, k8⟩ := HC5.out.nine
    go_wp2_with fail
    refine (HFB.out _ _ (HG0.out.below HB5.out) HT5.out).mono ?_
    rintro _ w6 ⟨rfl, hb6⟩
    have HB6 := hidM (HB5.out.trans (hb6.mono HB5.out.size))
    clear hb6 k0 k1 k2 k3 k4 k5 k6 k7 k8 HC5 HT5 HB5
    go_wp2_with fail
    refine (HAW.out _ (HG0.out.below HB6.out)).mono ?_
    rintro _ w7 ⟨rfl, hb7⟩
    have HB7 := hidM (HB6.out.trans (hb7.mono HB6.out.size))
    clear hb7 HB6
    go_wp2
    go_ret
    exact ⟨rfl, HB7.out⟩
set_option maxHeartbeats 2000000 in
set_option maxRecDepth 100000 in
theorem messages_cut (t : ByteArray) (pv : Value) (l : List ByteArray) (a c : Sb) (m0 long msg : ByteArray) (w : World) (hG : GT w) (hp : StrsO w pv l) (ht : t.size ≤ maxLen) (hps : ∀ p ∈ l, p.size ≤ maxLen) (hlong : 300 < long.size) (hl64 : long.size ≤ 9223372036854775807) (hcut : long.extract 0 300 = msg) (hmsg : msg.size ≤ 300) :
    Calls Tryd.prog 8 #[.agg (c26 t pv a c m0), .string long] w fun e w' => e = .returned (.bool true) ∧ Below w.heap.size w w' := by
  have hus : ∀ p ∈ l.take 40, p.size ≤ maxLen := fun p h => hps p (List.mem_of_mem_take h)
  have HF := hidM (fun V h => few_any t pv l a c m0 V h)
  have hsl : ∃ x y z, pv = .slice x y z := by
    rcases hp with ⟨rfl, _⟩ | ⟨ad, cap, rfl, _⟩ | ⟨b, off, cap, rfl, _⟩ <;> exact ⟨_,_,_, rfl⟩
  have HP0 := hidM (fun V hV => strso_below hp (w' := V) hV)
  obtain ⟨us, hue⟩ : ∃ us, l.take 40 = us := ⟨_, rfl⟩
  rw [hue] at HF hus
  obtain ⟨px, py, pz, rfl⟩ := hsl
  clear hue hps
  unfold FewPost at HF
  have HAW := hidM (fun V hV => awake_any V hV)
  have nm : (300 : Int) < (long.size : Int) := by omega
  have nl : (300 : Int) ≤ (long.size : Int) := by omega
  cases hck : checkE t us a c with
  | zero =>
    have HFA := hidM (fun V pv hV hs => format_zero t pv us a c ⟨#[]⟩ V hV hs ht hus (by decide) hck)
    have HFB := hidM (fun V pv hV hs => format_zero t pv us a c msg V hV hs ht hus (by omega) hck)
    have HMO := hidM (text_more t us a c msg)
    have HLO := text_long t us a c ⟨#[]⟩
    have HEN := text_end t us a c
    have HSZ := text_size (⟨#[]⟩ : ByteArray) hck
    rw [show (⟨#[]⟩ : ByteArray).size = 0 from rfl] at HSZ
    clear hck ht hus
    generalize textB t us a c ⟨#[]⟩ = S at *
    generalize textB t us a c msg = T at *
    have hST : S ++ msg = T := HMO.out
    have n1 : ¬ 9223372036854775807 < S.size + msg.size := by omega
    have bT : (T.toList == T.toList) = true := by simp
    have g2 : (2 : Int) < (S.size : Int) := by omega
    clear HMO
    obtain ⟨awho, at_, az⟩ := a
    obtain ⟨cwho, ct, cz⟩ := c
    have HB0 : Hid (Below w.heap.size w (w.alloc (.cells (c26 t (.slice px py pz) ⟨awho, at_, az⟩ ⟨cwho, ct, cz⟩ m0) 26))) := (Below.refl _ w).alloc (Nat.le_refl _) _
    have HC0 : Hid (CBox (w.alloc (.cells (c26 t (.slice px py pz) ⟨awho, at_, az⟩ ⟨cwho, ct, cz⟩ m0) 26)) w.heap.size t (.slice px py pz) ⟨awho, at_, az⟩ ⟨cwho, ct, cz⟩ m0) := heap_alloc_new w _
    have HG0 := hidM hG
    clear hG hp
    simp only [c26] at HB0 HC0 HF HFA HFB ⊢
    go_enter Tryd.func8, Tryd.ntmps8
    go_upto_region 3 with fail
    generalize w.alloc (.cells #[.string t, .slice px py pz, .string awho, .int .i64 at_, .int .i64 az, .string cwho, .int .i64 ct, .int .i64 cz, .string m0] 26) = W0 at *
    obtain ⟨g0, hg0⟩ : ∃ X, w.heap.size = X := ⟨_, rfl⟩
    rw [hg0] at HC0 ⊢
    obtain ⟨k0, k1, k2, k3, k4, k5, k6, k7, k8⟩ := HC0.out.nine
    go_wp2_with fail
    refine (HF.out _ (HP0.out _ HB0.out)).mono ?_
    rintro _ w1 ⟨pa, rfl, ho1, hb1⟩
    have HO1 := hidM ho1
    obtain ⟨va, vn, vc, hpa⟩ := ho1.slice
    subst hpa
    have HC1 := hidM (HC0.out.below hb1)
    have HB1 := hidM (HB0.out.trans (hb1.mono HB0.out.size))
    clear ho1 hb1 k0 k1 k2 k3 k4 k5 k6 k7 k8 HC0 HB0
    have hb2 : Below w1.heap.size w1 (w1.alloc (.cells #[.string t, .slice va vn vc, .string awho, .int .i64 at_, .int .i64 az, .string cwho, .int .i64 ct, .int .i64 cz, .string ⟨#[]⟩] 26)) := (Below.refl _ w1).alloc (Nat.le_refl _) _
    have HC2 := hidM (HC1.out.below hb2)
    have HS2 := hidM (HO1.out.strs.below hb2)
    have HB2 := hidM (HB1.out.trans (hb2.mono HB1.out.size))
    have HA2 : Hid (CBox (w1.alloc (.cells #[.string t, .slice va vn vc, .string awho, .int .i64 at_, .int .i64 az, .string cwho, .int .i64 ct, .int .i64 cz, .string ⟨#[]⟩] 26)) w1.heap.size t (.slice va vn vc) ⟨awho, at_, az⟩ ⟨cwho, ct, cz⟩ ⟨#[]⟩) := heap_alloc_new w1 _
    clear hb2 HC1 HB1 HO1
    go_upto_region 5 with fail
    generalize w1.alloc (.cells #[.string t, .slice va vn vc, .string awho, .int .i64 at_, .int .i64 az, .string cwho, .int .i64 ct, .int .i64 cz, .string ⟨#[]⟩] 26) = W2 at *
    generalize w1.heap.size = g2 at *
    obtain ⟨k0, k1, k2, k3, k4, k5, k6, k7, k8⟩ := HC2.out.nine
    go_wp2_with fail
    refine (HF.out _ (HP0.out _ HB2.out)).mono ?_
    rintro _ w3 ⟨pb, rfl, ho3, hb3⟩
    have HO3 := hidM ho3
    obtain ⟨ua, un, uc, hpb⟩ := ho3.slice
    subst hpb
    have HA3 := hidM (HA2.out.below hb3)
    have HS3 := hidM (HS2.out.below hb3)
    have HB3 := hidM (HB2.out.trans (hb3.mono HB2.out.size))
    clear ho3 hb3 k0 k1 k2 k3 k4 k5 k6 k7 k8 HC2 HB2 HA2 HS2
    have hb4 : Below w3.heap.size w3 (w3.alloc (.cells #[.string t, .slice ua un uc, .string awho, .int .i64 at_, .int .i64 az, .string cwho, .int .i64 ct, .int .i64 cz, .string msg] 26)) := (Below.refl _ w3).alloc (Nat.le_refl _) _
    have HA4 := hidM (HA3.out.below hb4)
    have HS4 := hidM (HS3.out.below hb4)
    have HT4 := hidM (HO3.out.strs.below hb4)
    have HB4 := hidM (HB3.out.trans (hb4.mono HB3.out.size))
    have HC4 : Hid (CBox (w3.alloc (.cells #[.string t, .slice ua un uc, .string awho, .int .i64 at_, .int .i64 az, .string cwho, .int .i64 ct, .int .i64 cz, .string msg] 26)) w3.heap.size t (.slice ua un uc) ⟨awho, at_, az⟩ ⟨cwho, ct, cz⟩ msg) := heap_alloc_new w3 _
    clear hb4 HA3 HS3 HO3 HB3
    go_upto_region 7 with fail
    generalize w3.alloc (.cells #[.string t, .slice ua un uc, .string awho, .int .i64 at_, .int .i64 az, .string cwho, .int .i64 ct, .int .i64 cz, .string msg] 26) = W4 at *
    generalize w3.heap.size = g4 at *
    obtain ⟨k0, k1, k2, k3, k4, k5, k6, k7, k8⟩ := HA4.out.nine
    go_wp2_with fail
    refine (HFA.out _ _ (HG0.out.below HB4.out) HS4.out).mono ?_
    rintro _ w5 ⟨rfl, hb5⟩
    have HC5 := hidM (HC4.out.below hb5)
    have HT5 := hidM (HT4.out.below hb5)
    have HB5 := hidM (HB4.out.trans (hb5.mono HB4.out.size))
    clear hb5 k0 k1 k2 k3 k4 k5 k6 k7 k8 HA4 HS4 HC4 HT4 HB4
    obtain ⟨k0, k1, k2, k3, k4, k5, k6, k7, k8⟩ := HC5.out.nine
    go_wp2_with fail
    refine (HFB.out _ _ (HG0.out.below HB5.out) HT5.out).mono ?_
    rintro _ w6 ⟨rfl, hb6⟩
    have HB6 := hidM (HB5.out.trans (hb6.mono HB5.out.size))
    clear hb6 k0 k1 k2 k3 k4 k5 k6 k7 k8 HC5 HT5 HB5
    go_wp2_with fail
    refine (HAW.out _ (HG0.out.below HB6.out)).mono ?_
    rintro _ w7 ⟨rfl, hb7⟩
    have HB7 := hidM (HB6.out.trans (hb7.mono HB6.out.size))
    clear hb7 HB6
    go_wp2
    go_ret
    exact ⟨rfl, HB7.out⟩
  | succ n =>
    have HFA := hidM (fun V pv hV hs => format_bad t pv us a c ⟨#[]⟩ V hV hs ht hus (by decide) (n + 1) hck (by omega))
    have HFB := hidM (fun V pv hV hs => format_bad t pv us a c msg V hV hs ht hus (by omega) (n + 1) hck (by omega))
    clear hck ht hus
    have hn : ((n + 1 : Nat) : Int) ≠ 0 := by omega
    generalize ((n + 1 : Nat) : Int) = N at *
    have b1 : (N != N) = false := by simp
    have b2 : (N != 0) = true := by simpa using hn
    obtain ⟨awho, at_, az⟩ := a
    obtain ⟨cwho, ct, cz⟩ := c
    have HB0 : Hid (Below w.heap.size w (w.alloc (.cells (c26 t (.slice px py pz) ⟨awho, at_, az⟩ ⟨cwho, ct, cz⟩ m0) 26))) := (Below.refl _ w).alloc (Nat.le_refl _) _
    have HC0 : Hid (CBox (w.alloc (.cells (c26 t (.slice px py pz) ⟨awho, at_, az⟩ ⟨cwho, ct, cz⟩ m0) 26)) w.heap.size t (.slice px py pz) ⟨awho, at_, az⟩ ⟨cwho, ct, cz⟩ m0) := heap_alloc_new w _
    have HG0 := hidM hG
    clear hG hp
    simp only [c26] at HB0 HC0 HF HFA HFB ⊢
    go_enter Tryd.func8, Tryd.ntmps8
    go_upto_region 3 with fail
    generalize w.alloc (.cells #[.string t, .slice px py pz, .string awho, .int .i64 at_, .int .i64 az, .string cwho, .int .i64 ct, .int .i64 cz, .string m0] 26) = W0 at *
    obtain ⟨g0, hg0⟩ : ∃ X, w.heap.size = X := ⟨_, rfl⟩
    rw [hg0] at HC0 ⊢
    obtain ⟨k0, k1, k2, k3, k4, k5, k6, k7, k8⟩ := HC0.out.nine
    go_wp2_with fail
    refine (HF.out _ (HP0.out _ HB0.out)).mono ?_
    rintro _ w1 ⟨pa, rfl, ho1, hb1⟩
    have HO1 := hidM ho1
    obtain ⟨va, vn, vc, hpa⟩ := ho1.slice
    subst hpa
    have HC1 := hidM (HC0.out.below hb1)
    have HB1 := hidM (HB0.out.trans (hb1.mono HB0.out.size))
    clear ho1 hb1 k0 k1 k2 k3 k4 k5 k6 k7 k8 HC0 HB0
    have hb2 : Below w1.heap.size w1 (w1.alloc (.cells #[.string t, .slice va vn vc, .string awho, .int .i64 at_, .int .i64 az, .string cwho, .int .i64 ct, .int .i64 cz, .string ⟨#[]⟩] 26)) := (Below.refl _ w1).alloc (Nat.le_refl _) _
    have HC2 := hidM (HC1.out.below hb2)
    have HS2 := hidM (HO1.out.strs.below hb2)
    have HB2 := hidM (HB1.out.trans (hb2.mono HB1.out.size))
    have HA2 : Hid (CBox (w1.alloc (.cells #[.string t, .slice va vn vc, .string awho, .int .i64 at_, .int .i64 az, .string cwho, .int .i64 ct, .int .i64 cz, .string ⟨#[]⟩] 26)) w1.heap.size t (.slice va vn vc) ⟨awho, at_, az⟩ ⟨cwho, ct, cz⟩ ⟨#[]⟩) := heap_alloc_new w1 _
    clear hb2 HC1 HB1 HO1
    go_upto_region 5 with fail
    generalize w1.alloc (.cells #[.string t, .slice va vn vc, .string awho, .int .i64 at_, .int .i64 az, .string cwho, .int .i64 ct, .int .i64 cz, .string ⟨#[]⟩] 26) = W2 at *
    generalize w1.heap.size = g2 at *
    obtain ⟨k0, k1, k2, k3, k4, k5, k6, k7, k8⟩ := HC2.out.nine
    go_wp2_with fail
    refine (HF.out _ (HP0.out _ HB2.out)).mono ?_
    rintro _ w3 ⟨pb, rfl, ho3, hb3⟩
    have HO3 := hidM ho3
    obtain ⟨ua, un, uc, hpb⟩ := ho3.slice
    subst hpb
    have HA3 := hidM (HA2.out.below hb3)
    have HS3 := hidM (HS2.out.below hb3)
    have HB3 := hidM (HB2.out.trans (hb3.mono HB2.out.size))
    clear ho3 hb3 k0 k1 k2 k3 k4 k5 k6 k7 k8 HC2 HB2 HA2 HS2
    have hb4 : Below w3.heap.size w3 (w3.alloc (.cells #[.string t, .slice ua un uc, .string awho, .int .i64 at_, .int .i64 az, .string cwho, .int .i64 ct, .int .i64 cz, .string msg] 26)) := (Below.refl _ w3).alloc (Nat.le_refl _) _
    have HA4 := hidM (HA3.out.below hb4)
    have HS4 := hidM (HS3.out.below hb4)
    have HT4 := hidM (HO3.out.strs.below hb4)
    have HB4 := hidM (HB3.out.trans (hb4.mono HB3.out.size))
    have HC4 : Hid (CBox (w3.alloc (.cells #[.string t, .slice ua un uc, .string awho, .int .i64 at_, .int .i64 az, .string cwho, .int .i64 ct, .int .i64 cz, .string msg] 26)) w3.heap.size t (.slice ua un uc) ⟨awho, at_, az⟩ ⟨cwho, ct, cz⟩ msg) := heap_alloc_new w3 _
    clear hb4 HA3 HS3 HO3 HB3
    go_upto_region 7 with fail
    generalize w3.alloc (.cells #[.string t, .slice ua un uc, .string awho, .int .i64 at_, .int .i64 az, .string cwho, .int .i64 ct, .int .i64 cz, .string msg] 26) = W4 at *
    generalize w3.heap.size = g4 at *
    obtain ⟨k0, k1, k2, k3, k4, k5, k6, k7, k8⟩ := HA4.out.nine
    go_wp2_with fail
    refine (HFA.out _ _ (HG0.out.below HB4.out) HS4.out).mono ?_
    rintro _ w5 ⟨rfl, hb5⟩
    have HC5 := hidM (HC4.out.below hb5)
    have HT5 := hidM (HT4.out.below hb5)
    have HB5 := hidM (HB4.out.trans (hb5.mono HB4.out.size))
    clear hb5 k0 k1 k2 k3 k4 k5 k6 k7 k8 HA4 HS4 HC4 HT4 HB4
    obtain ⟨k0, k1, k2, k3, k4, k5, k6, k7, k8⟩ := HC5.out.nine
    go_wp2_with fail
    refine (HFB.out _ _ (HG0.out.below HB5.out) HT5.out).mono ?_
    rintro _ w6 ⟨rfl, hb6⟩
    have HB6 := hidM (HB5.out.trans (hb6.mono HB5.out.size))
    clear hb6 k0 k1 k2 k3 k4 k5 k6 k7 k8 HC5 HT5 HB5
    go_wp2_with fail
    refine (HAW.out _ (HG0.out.below HB6.out)).mono ?_
    rintro _ w7 ⟨rfl, hb7⟩
    have HB7 := hidM (HB6.out.trans (hb7.mono HB6.out.size))
    clear hb7 HB6
    go_wp2
    go_ret
    exact ⟨rfl, HB7.out⟩
theorem messages_any (t : ByteArray) (pv : Value) (l : List ByteArray) (a c : Sb) (m0 msg : ByteArray) (w : World) (hG : GT w) (hp : StrsO w pv l) (ht : t.size ≤ maxLen) (hps : ∀ p ∈ l, p.size ≤ maxLen) (hm : msg.size ≤ 9223372036854775807) :
    Calls Tryd.prog 8 #[.agg (c26 t pv a c m0), .string msg] w fun e w' => e = .returned (.bool true) ∧ Below w.heap.size w w' := by
  by_cases h : msg.size ≤ 300
  · exact messages_at t pv l a c m0 msg w hG hp ht hps h
  · exact messages_cut t pv l a c m0 msg (msg.extract 0 300) w hG hp ht hps (by omega) hm rfl (by rw [ByteArray.size_extract]; omega)
end Go.Proofs.YtbghailohnppmaaDoor
namespace Go.Proofs.YtbghailohnppmaaDoor
open Go.ChangeShapes Go.WideShapes Go.ChangeAt Go.WideMaps Go.WideElems Go.RowKit

theorem cells26 : Tryd.prog.cellsOf 26 = 9 := by kernel_rfl
theorem cells22 : Tryd.prog.cellsOf 22 = 1 := by kernel_rfl
theorem cells3l : Tryd.prog.cellsOf 3 = 1 := by kernel_rfl
theorem array9 {α : Type} {cs : Array α} (h : cs.size = 9) : ∃ a b c d e f g i j, cs = #[a, b, c, d, e, f, g, i, j] := by
  obtain ⟨l⟩ := cs
  match l, h with
  | [a, b, c, d, e, f, g, i, j], _ => exact ⟨a, b, c, d, e, f, g, i, j, rfl⟩
theorem trod_struct5 {H : Type} {enc : TypeId × Value → H} {P : Program} {w : World} {base : Nat} {spare : Nat → Bool} {held : Bool} {t : TypeId} {f0 f1 f2 f3 f4 : Field} {fuel : Nat} {cs : List Value} {x : DataW H × List MemPlace} (ht : P.underlying t = some (.struct #[f0, f1, f2, f3, f4])) (h : DataW.trod enc P w base spare held fuel t cs = some x) :
    ∃ y0 y1 y2 y3 y4 n, x.1 = .agg [y0.1, y1.1, y2.1, y3.1, y4.1] ∧ DataW.trod enc P w base spare held n f0.type ((cs.drop f0.offset).take (P.cellsOf f0.type)) = some y0 ∧
      DataW.trod enc P w base spare held n f1.type ((cs.drop f1.offset).take (P.cellsOf f1.type)) = some y1 ∧ DataW.trod enc P w base spare held n f2.type ((cs.drop f2.offset).take (P.cellsOf f2.type)) = some y2 ∧
      DataW.trod enc P w base spare held n f3.type ((cs.drop f3.offset).take (P.cellsOf f3.type)) = some y3 ∧ DataW.trod enc P w base spare held n f4.type ((cs.drop f4.offset).take (P.cellsOf f4.type)) = some y4 := by
  obtain ⟨xs, n, _, rfl, hl, hlen, hf⟩ := DataW.trod_struct ht h
  match xs, hlen with
  | [y0, y1, y2, y3, y4], _ => exact ⟨y0, y1, y2, y3, y4, n, by simp, by simpa using hf 0 f0 rfl, by simpa using hf 1 f1 rfl, by simpa using hf 2 f2 rfl, by simpa using hf 3 f3 rfl, by simpa using hf 4 f4 rfl⟩
theorem sign_cells {H : Type} {enc : TypeId × Value → H} {W : World} {n : Nat} {v0 v1 v2 : Value} {y : DataW H × List MemPlace} (h : DataW.trod enc Tryd.prog W 0 (fun _ => true) true n 24 [v0, v1, v2] = some y) :
    ∃ s : Sb, v0 = .string s.who ∧ v1 = .int .i64 s.time ∧ v2 = .int .i64 s.zone ∧ s.who.size ≤ maxLen ∧ (-9223372036854775808 ≤ s.time ∧ s.time ≤ 9223372036854775807) ∧ (-9223372036854775808 ≤ s.zone ∧ s.zone ≤ 9223372036854775807) := by
  obtain ⟨y0, y1, y2, m, _,_, h0, h1, h2⟩ := Deep.trod_struct3 Tryd.underlying24 h
  simp only [cells3l, cells9l, List.drop_zero, List.take_succ_cons, List.take_zero, List.drop_succ_cons] at h0 h1 h2
  obtain ⟨b, hb, _, wb⟩ := DataW.trod_string Tryd.underlying9 h0
  obtain ⟨k, hk, _, wk⟩ := DataW.trod_int Tryd.underlying3 h1
  obtain ⟨z, hz, _, wz⟩ := DataW.trod_int Tryd.underlying3 h2
  simp only [List.cons.injEq, and_true] at hk hb hz
  exact ⟨⟨b, k, z⟩, hb, hk, hz, wb, i64_range wk, i64_range wz⟩
theorem strs_cells {H : Type} {enc : TypeId × Value → H} {W : World} {n : Nat} {v : Value} {y : DataW H × List MemPlace} (h : DataW.trod enc Tryd.prog W 0 (fun _ => true) true n 22 [v] = some y) :
    ∃ l, StrsO W v l ∧ ∀ p ∈ l, p.size ≤ maxLen := by
  rcases Go.Deep.open_strs Tryd.underlying22 Tryd.underlying9 cells9l h with ⟨h0, _⟩ | ⟨a, len, cap, m, S, h0, _, hl, _, hm, _, hc⟩
  · exact ⟨[], .inl ⟨by simpa using h0, rfl⟩, fun _ h => by cases h⟩
  · have hv : v = .slice (some a) len cap := by simpa using h0
    by_cases h00 : len = 0
    · subst h00
      exact ⟨[], .inr (.inl ⟨a, cap, hv, rfl⟩), fun _ h => by cases h⟩
    · have hlm : len ≤ m := by rw [hm]; split <;> omega
      obtain ⟨b, off, spot⟩ := a
      have c0 := (hc 0 (by omega)).1
      have hspot : spot = none := by simpa [Addr.add] using World.cell?_spot c0
      subst hspot
      have hlt : b < W.heap.size := World.block_lt_of_cell? W _ c0
      refine ⟨(List.range len).map S, .inr (.inr ⟨b, off, cap, by simpa using hv, hlt, by simpa using hl, fun j hj => ?_⟩), fun p hp => ?_⟩
      · have hj' : j < len := by simpa using hj
        have := (hc j (by omega)).1
        rw [Addr.add_lit] at this
        simpa using this
      · obtain ⟨i, hi, rfl⟩ := List.mem_map.1 hp
        have := List.mem_range.1 hi
        exact (hc i (by omega)).2
set_option maxRecDepth 100000 in
theorem open_change {H : Type} {enc : TypeId × Value → H} {W : World} {b0 : Nat} {v : Value} {d : DataW H} {p : List MemPlace}
    (hv : Value.okWide Tryd.prog W .any b0 26 v) (h : DataW.Trod enc Tryd.prog W 0 (fun _ => true) true 26 v d p) :
    ∃ (t : ByteArray) (pv : Value) (l : List ByteArray) (a c : Sb) (m : ByteArray), v = .agg (c26 t pv a c m) ∧ StrsO W pv l ∧ t.size ≤ maxLen ∧ (∀ p ∈ l, p.size ≤ maxLen) ∧ a.who.size ≤ maxLen ∧ c.who.size ≤ maxLen ∧
      (-9223372036854775808 ≤ a.time ∧ a.time ≤ 9223372036854775807) ∧ (-9223372036854775808 ≤ c.time ∧ c.time ≤ 9223372036854775807) ∧ ∃ d0 d1 d2 d3, d = .agg [d0, d1, d2, d3, .lit (.string m.data.toList)] := by
  obtain ⟨cs, rfl, hsz⟩ := okWide_struct Tryd.underlying26 hv
  obtain ⟨v0, v1, v2, v3, v4, v5, v6, v7, v8, rfl⟩ := array9 (hsz.trans cells26)
  obtain ⟨fuel, hf⟩ := h
  obtain ⟨y0, y1, y2, y3, y4, n, hx, h0, h1, h2, h3, h4⟩ := trod_struct5 Tryd.underlying26 hf
  simp only [Value.cells, cells9l, cells22, cells24, List.drop_zero, List.take_succ_cons, List.take_zero, List.drop_succ_cons] at h0 h1 h2 h3 h4
  obtain ⟨t, ht, _, wt⟩ := DataW.trod_string Tryd.underlying9 h0
  obtain ⟨l, hl, wl⟩ := strs_cells h1
  obtain ⟨a, rfl, rfl, rfl, a1, a2, _⟩ := sign_cells h2
  obtain ⟨c, rfl, rfl, rfl, c1, c2, _⟩ := sign_cells h3
  obtain ⟨m, hm, gm, _⟩ := DataW.trod_string Tryd.underlying9 h4
  simp only [List.cons.injEq, and_true] at ht hm
  subst ht hm
  refine ⟨t, v1, l, a, c, m, rfl, hl, wt, wl, a1, c1, a2, c2, y0.1, y1.1, y2.1, y3.1, ?_⟩
  rw [show d = _ from hx, gm]
end Go.Proofs.YtbghailohnppmaaDoor
