/-
  Make.
-/
import Derived.Test.YtekpdnlogfaggaaMakN
namespace Go.Proofs.Ytekpdnlogfaggaa
open Go.RowKit Go.Maps

/-- A delta that makes t of its base, in few bytes. -/
def IsDelta (base t d : ByteArray) : Prop := ∃ ds, d = BA ((szE base.size ++ szE t.size) ++ ds) ∧ Makes base ds t.data.toList ∧ (szE base.size ++ szE t.size).length + ds.length ≤ 5 + t.size + (t.size + 126) / 127
def MakePost (base t : ByteArray) (w : World) (e : Ending) (w' : World) : Prop := ∃ d, e = .returned (.string d) ∧ IsDelta base t d ∧ Below w.heap.size w w'
theorem MapAt.below {w w' : World} {b : Nat} {base : ByteArray} (h : MapAt w b base) (hb : w'.heap[b]? = w.heap[b]?) : MapAt w' b base := by
  obtain ⟨n, D, ⟨es, clock, h1, h2⟩, h3⟩ := h
  exact ⟨n, D, ⟨es, clock, hb.trans h1, h2⟩, h3⟩
theorem ba_len (s : ByteArray) : s.data.toList.length = s.size := by simp
theorem OwnB.conv {w : World} {B : Nat} {v : Value} {l : List UInt8} (h : OwnB w B v l) : (convert 49 9 v).run Try.prog w = .ok (.string ⟨l.toArray⟩) w := by
  rcases h.2 with ⟨rfl, hn⟩ | ⟨g, cap, cur, rfl, hb, hg, hnc, hcm, hcs, htake⟩
  · have : l = [] := List.eq_nil_of_length_eq_zero hn
    subst this
    rw [run_convert_bytes_string w 49 9 5 none 0 0 Try.underlying49 Try.underlying5 Try.underlying9]
    rfl
  · refine run_convert_bytes_back w 49 9 5 _ cap l Try.underlying49 Try.underlying5 Try.underlying9 ?_
    intro i hi
    have := World.ownsRow.cells (g := g) h rfl i (.int .u8 (l[i].toNat : Int)) (by simp [Lib.byteCells, hi])
    exact this
theorem wpList_look_hit {w : World} {ops : Array Oper} {rest : List Oper} {o : Oper} {a : Act} {Q : Exit → Act → World → Prop} (hg : o.guard = none) (m x : Operand) (hop : o.op = Op.lookup 47 m x true) (b n : Nat) (D : DataW Unit)
    (hm : a.eval m = .map (some b)) (hown : w.ownsMap Try.prog 9 (plainElem Try.prog 3) b n D) (s : ByteArray) (hx : a.eval x = .string s) (hs : s.size ≤ maxLen) (hf : Maps.has D (.string s.data.toList) = true) (base : ByteArray) (hG : GoodM base D)
    (hK : ∀ p : Nat, p + 16 ≤ base.size → (base.extract p (p + 16)).data.toList = s.data.toList → wpList Try.prog ops Q rest (a.put o.dst (.tuple #[.int .i64 (p : Int), .bool true])) w) :
    wpList Try.prog ops Q (o :: rest) a w := by
  refine wpList_look_f hg m x hop b n D hm hown s hx hs true hf ?_
  intro c hc
  obtain ⟨p, rfl, h1, h2⟩ := hG _ c hf hc
  exact hK p h1 h2

set_option maxHeartbeats 4000000 in
set_option maxRecDepth 50000 in
theorem make_any (base t : ByteArray) (w : World) (hb : base.size ≤ 4000) (ht : t.size ≤ 4000) :
    Calls Try.prog 14 #[.string base, .string t] w fun e w' => MakePost base t w e w' := by
  go_enter Try.func14, Try.ntmps14
  go_wp2_with fail
  refine (blocks_any base w (by omega)).mono ?_
  rintro e w1 ⟨rfl, hM1, hB1⟩
  obtain ⟨b, hbm⟩ : ∃ b, b = w.heap.size := ⟨_, rfl⟩
  rw [← hbm] at hM1 hB1
  rw [← hbm]
  obtain ⟨B, hBB⟩ : ∃ B, B = w1.heap.size := ⟨_, rfl⟩
  have hbB : b < B := by
    obtain ⟨n, D, h, _⟩ := hM1
    rw [hBB]; exact h.lt
  have HBM := hidM hbm
  have hBw : B ≤ w1.heap.size := by omega
  clear hbm hBB
  go_wp2_with fail
  refine (appendSize_any B (.slice none 0 0) [] base.size w1 (ownB_nil w1 B) hBw (by simp) (by omega)).mono ?_
  rintro e w2 ⟨v2, rfl, hO2, hB2⟩
  have hl2 := szE_len base.size (by omega)
  have hl3 := szE_len t.size (by omega)
  go_wp2_with fail
  refine (appendSize_any B v2 _ t.size w2 hO2 (by have := hB2.size; omega) (by simp; omega) (by omega)).mono ?_
  rintro e w3 ⟨v3, rfl, hO3, hB3⟩
  rw [List.nil_append] at hO3
  obtain ⟨hd, hhd⟩ : ∃ hd, hd = szE base.size ++ szE t.size := ⟨_, rfl⟩
  rw [← hhd] at hO3
  have hhl : hd.length ≤ 4 := by rw [hhd, List.length_append]; omega
  have hM3 : MapAt w3 b base := hM1.below ((hB3.block b hbB).trans (hB2.block b hbB))
  have hB13 : Below b w w3 := hB1.trans ((hB2.trans hB3).mono (by omega))
  have hS3 : B ≤ w3.heap.size := by have := hB2.size; have := hB3.size; omega
  have HH := hidM (And.intro HBM.out hhd)
  clear HBM hhd hB1 hB2 hB3 hO2 hM1 hl2 hl3
  go_wp2
  go_loopw [6, 7, 8] (fun d x y wr => ∃ (dn a : Nat) (ds : List UInt8), dn ≤ a ∧ a ≤ t.size ∧ x = .int .i64 (dn : Int) ∧ y = .int .i64 (a : Int) ∧ OwnB wr B d (hd ++ ds) ∧ MapAt wr b base ∧ Below b w wr ∧ B ≤ wr.heap.size ∧ Makes base ds (t.extract 0 dn).data.toList ∧ hd.length + ds.length ≤ 4 + dn + (dn + 126) / 127) (fun _ _ y _ => t.size - (intOf y).toNat)
  case atStart => exact ⟨0, 0, [], Nat.le_refl _, Nat.zero_le _, rfl, rfl, by rw [List.append_nil]; exact hO3, hM3, hB13, hS3, by rw [ex_list]; simpa using makes_nil base, by simp; omega⟩
  case round =>
    obtain ⟨dn, a, ds, hda, hat, rfl, rfl, hO, hM, hBl, hS, hMk, hLen⟩ := hrel
    have HO := hidM hO
    have HB := hidM hBl
    have HM := hidM hM
    have HMK := hidM hMk
    have HLEN := hidM hLen
    have hbr : b < wr.heap.size := by omega
    obtain ⟨n, D, hown, hG⟩ := hM
    have HOWN := hidM hown
    have HG := hidM hG
    clear hO hBl hMk hLen hown hG hO3 hM3 hB13 hS3
    obtain ⟨z, hz⟩ : ∃ z, a + 16 = z := ⟨_, rfl⟩
    have hz' : (a : Int) + 16 = (z : Int) := by omega
    by_cases h16 : z ≤ t.size
    · have h16' : (z : Int) ≤ t.size := by omega
      have haz : a ≤ z := by omega
      have hxs : (t.extract a z).size ≤ maxLen := by simp only [ByteArray.size_extract]; unfold maxLen; omega
      have HZ := hidM hz
      clear hz
      cases hf : Maps.has D (.string (t.extract a z).data.toList) with
      | false =>
        have HF := hidM hf
        clear hf
        go_wp2_with (first
          | (at_lookup; go_loud (refine wpList_look_f rfl _ _ rfl b n D rfl HOWN.out _ rfl hxs false HF.out ?_; intro c hAt; clear hAt)))
        refine ⟨⟨dn, a + 1, ds, by omega, by have := HZ.out; omega, rfl, by go_num, HO.out, HM.out, HB.out, hS, HMK.out, HLEN.out⟩, ?_⟩
        simp [intOf]; have := HZ.out; omega
      | true =>
        have HF := hidM hf
        clear hf
        go_wp2_with (first
          | (at_lookup; go_loud (refine wpList_look_hit rfl _ _ rfl b n D rfl HOWN.out _ rfl hxs HF.out base HG.out ?_; intro p hp hkey; have HKEY := hidM hkey; clear hkey)))
        have hz := HZ.out
        have hkey := HKEY.out
        rw [← hz] at hkey
        have hbk := (bck_spec (base.extract 0 p) (t.extract dn a)).1
        have hal := alk_spec (base.extract p base.size) (t.extract a t.size)
        have C1 : ∀ m, Calls Try.prog 23 #[.string (base.extract 0 p), .string (t.extract dn a)] (wr.drewN m) fun e w' => BackPost (base.extract 0 p) (t.extract dn a) (wr.drewN m) e w' := fun m =>
          back_any (base.extract 0 p) (t.extract dn a) (wr.drewN m) (by simp only [ByteArray.size_extract]; omega) (by simp only [ByteArray.size_extract]; omega)
        have C2 : ∀ V, Calls Try.prog 24 #[.string (base.extract p base.size), .string (t.extract a t.size)] V fun e w' => AlikePost (base.extract p base.size) (t.extract a t.size) V e w' := fun V =>
          alike_any (base.extract p base.size) (t.extract a t.size) V (by simp only [ByteArray.size_extract]; omega) (by simp only [ByteArray.size_extract]; omega)
        obtain ⟨k, hkk⟩ : ∃ k, bck (base.extract 0 p) (t.extract dn a) = k := ⟨_, rfl⟩
        obtain ⟨l, hll⟩ : ∃ l, alk (base.extract p base.size) (t.extract a t.size) = l := ⟨_, rfl⟩
        unfold BackPost at C1
        unfold AlikePost at C2
        rw [hkk] at hbk C1
        rw [hll] at hal C2
        obtain ⟨l16, pl, al, _⟩ := copy_long base t p a l hp (by omega) hkey hal
        obtain ⟨kp, ka, _⟩ := back_long base t p dn a k (by omega) hda (by omega) hbk
        have HST := hidM (mk_step base t p dn a k l ds hp hda (by omega) (by omega) hkey hbk hal HMK.out)
        have HSL := hidM (step_len t dn a k l (p - k) ds hd.length ka hda (by omega) l16 HLEN.out)
        have D1 : ∀ m, Calls Try.prog 23 #[.string (base.extract 0 p), .string (t.extract dn a)] (wr.drewN m) fun e w' => e = .returned (.int .i64 (k : Int)) ∧ ∃ m', w' = wr.drewN m' := fun m => Calls.quiet_of (C1 m)
        clear hkk hll hbk hal hkey C1 hz
        go_quiet (with_reducible exact D1 _)
        go_wp2
        obtain ⟨V, hV⟩ : ∃ V, V = wr.drewN nq := ⟨_, rfl⟩
        have D2 : ∀ m, Calls Try.prog 24 #[.string (base.extract p base.size), .string (t.extract a t.size)] (V.drewN m) fun e w' => e = .returned (.int .i64 (l : Int)) ∧ ∃ m', w' = V.drewN m' := fun m => Calls.quiet_of (C2 _)
        have HO1 := hidM (show OwnB V B u6 (hd ++ ds) by rw [hV]; exact HO.out.same (fun _ _ => rfl))
        have HM1 := hidM (show MapAt V b base by rw [hV]; exact HM.out.below rfl)
        have HB1 := hidM (show Below b w V by rw [hV]; exact ⟨HB.out.os, HB.out.tape, HB.out.output, HB.out.size, HB.out.block⟩)
        have hS1 : B ≤ V.heap.size := by rw [hV]; exact hS
        rw [← hV]
        clear hV HO HM HB hS C2 D1 HOWN
        go_quiet (with_reducible exact D2 _)
        obtain ⟨W, hW⟩ : ∃ W, W = V.drewN nq := ⟨_, rfl⟩
        have HO2 := hidM (show OwnB W B u6 (hd ++ ds) by rw [hW]; exact HO1.out.same (fun _ _ => rfl))
        have HM2 := hidM (show MapAt W b base by rw [hW]; exact HM1.out.below rfl)
        have HB2 := hidM (show Below b w W by rw [hW]; exact ⟨HB1.out.os, HB1.out.tape, HB1.out.output, HB1.out.size, HB1.out.block⟩)
        have hS2 : B ≤ W.heap.size := by rw [hW]; exact hS1
        rw [← hW]
        clear hW HO1 HM1 HB1 hS1 D2
        obtain ⟨q, hq⟩ : ∃ q, q = a - k := ⟨_, rfl⟩
        have hq' : (a : Int) - k = (q : Int) := by omega
        have hqd : dn ≤ q := by omega
        have hqt : q ≤ t.size := by omega
        have HQ := hidM hq
        clear hq
        obtain ⟨p2, hp2⟩ : ∃ p2, p2 = p - k := ⟨_, rfl⟩
        have hp2' : (p : Int) - k = (p2 : Int) := by omega
        obtain ⟨m, hm⟩ : ∃ m, m = k + l := ⟨_, rfl⟩
        have hm' : (k : Int) + l = (m : Int) := by omega
        obtain ⟨r, hr⟩ : ∃ r, r = a + l := ⟨_, rfl⟩
        have hr' : (q : Int) + m = (r : Int) := by have := HQ.out; omega
        have hrt : r ≤ t.size := by omega
        have har : a < r := by omega
        have hm0 : 0 < m := by omega
        have hm6 : m < 65536 := by omega
        have hp26 : p2 ≤ 1000000 := by omega
        have hqs : (t.extract dn q).size ≤ 1000000 := by simp only [ByteArray.size_extract]; omega
        have hdl : (hd ++ ds).length ≤ 10000 := by rw [List.length_append]; have := HLEN.out; omega
        have hil := insE_len _ (t.extract dn q).data.toList (Nat.le_refl _)
        have hql : (t.extract dn q).data.toList.length ≤ 4000 := by
          rw [ba_len]; simp only [ByteArray.size_extract]; omega
        have hdl2 : (hd ++ ds ++ insE (t.extract dn q).data.toList).length ≤ 100000 := by rw [List.length_append, hil]; omega
        have hst := HST.out
        have hsl := HSL.out
        rw [← HQ.out, ← hp2, ← hm] at hst hsl
        rw [← hr] at hst hsl
        have HST2 := hidM hst
        have HSL2 := hidM hsl
        clear hst hsl HST HSL hp2 hm hr hil hql
        go_wp2_with fail
        refine (inserts_any B u6 _ (t.extract dn q) W HO2.out hS2 (by omega) hqs).mono ?_
        rintro e w4 ⟨v4, rfl, hO4, hB4⟩
        have hS4 : B ≤ w4.heap.size := Nat.le_trans hS2 hB4.size
        have HM4 := hidM (HM2.out.below (hB4.block b hbB))
        have HB4 := hidM (HB2.out.trans (hB4.mono (by omega)))
        have HO4 := hidM hO4
        clear hO4 hB4 HO2 HM2 HB2
        go_wp2_with fail
        refine (copies_any B v4 _ p2 m w4 HO4.out hS4 (by omega) hp26 hm6 hm0).mono ?_
        rintro e w5 ⟨v5, rfl, hO5, hB5⟩
        have hS5 : B ≤ w5.heap.size := Nat.le_trans hS4 hB5.size
        have HM5 := hidM (HM4.out.below (hB5.block b hbB))
        have HB5 := hidM (HB4.out.trans (hB5.mono (by omega)))
        have HO5 := hidM (show OwnB w5 B v5 (hd ++ (ds ++ insE (t.extract dn q).data.toList ++ cpE p2 m)) by
          have := hO5; simp only [List.append_assoc] at this ⊢; exact this)
        clear hO5 hB5 HO4 HM4 HB4
        go_wp2
        refine ⟨⟨r, r, _, Nat.le_refl _, hrt, rfl, rfl, HO5.out, HM5.out, HB5.out, hS5, HST2.out, HSL2.out⟩, ?_⟩
        simp [intOf]; omega
    · have h16' : ¬ (z : Int) ≤ t.size := by omega
      have hql : (t.extract dn t.size).data.toList.length ≤ 4000 := by
        rw [ba_len]; simp only [ByteArray.size_extract]; omega
      have hdl : (hd ++ ds).length ≤ 10000 := by rw [List.length_append]; have := HLEN.out; omega
      have hqs : (t.extract dn t.size).size ≤ 1000000 := by simp only [ByteArray.size_extract]; omega
      go_wp2_with fail
      refine (inserts_any B u6 _ (t.extract dn t.size) wr HO.out hS (by omega) hqs).mono ?_
      rintro e w4 ⟨v4, rfl, hO4, hB4⟩
      have HB4 := hidM (HB.out.trans (hB4.mono (by omega)))
      have HO4 := hidM hO4
      have hcv := hO4.conv
      have hil := insE_len _ (t.extract dn t.size).data.toList (Nat.le_refl _)
      have hxl : (t.extract dn t.size).data.toList.length = t.size - dn := by rw [ba_len]; simp only [ByteArray.size_extract]; omega
      have hmk := makes_app HMK.out (makes_insE base _ (t.extract dn t.size).data.toList (Nat.le_refl _))
      rw [extract_app t 0 dn t.size (Nat.zero_le _) (by omega)] at hmk
      have e0 : (t.extract 0 t.size).data.toList = t.data.toList := by rw [ex_list, List.drop_zero, List.take_of_length_le (by rw [ba_len]; omega)]
      rw [e0] at hmk
      have HD := hidM (show IsDelta base t (BA (hd ++ ds ++ insE (t.extract dn t.size).data.toList)) from by
        refine ⟨ds ++ insE (t.extract dn t.size).data.toList, by rw [← HH.out.2, List.append_assoc], hmk, ?_⟩
        rw [← HH.out.2, List.length_append, hil, hxl]
        have := HLEN.out
        omega)
      obtain ⟨d, hdd⟩ : ∃ d, d = BA (hd ++ ds ++ insE (t.extract dn t.size).data.toList) := ⟨_, rfl⟩
      rw [← hdd] at HD
      have hcv2 : (convert 49 9 v4).run Try.prog w4 = .ok (.string d) w4 := by rw [hdd]; exact hcv
      clear hO4 hB4 HO HB HM hcv hil hxl hmk e0 hdd HO4 HOWN
      go_wp2
      go_ret
      exact ⟨d, rfl, HD.out, by rw [← HH.out.1]; exact HB4.out⟩
end Go.Proofs.Ytekpdnlogfaggaa
