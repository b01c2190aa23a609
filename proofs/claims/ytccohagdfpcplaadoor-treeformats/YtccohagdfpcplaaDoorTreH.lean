/-
  Walks of tree: Format.
-/
import Derived.Test.YtccohagdfpcplaaDoorTreG
namespace Go.Proofs.YtccohagdfpcplaaDoor
open Go.RowKit Go.WideMaps Go.Maps

theorem bcells_app (out : List UInt8) (s : ByteArray) : Lib.byteCells out ++ Lib.strCells s = Lib.byteCells (out ++ s.data.toList) := by
  simp [Lib.byteCells, Lib.strCells]
theorem builder_below {T e : TypeId} {B b : Nat} {bs : List Value} {w w' : World} (h : Lib.IsBuilder T e B b bs w) (hb : Below w.heap.size w w') : Lib.IsBuilder T e B b bs w' := by
  have one : ∀ p, Lib.BuilderAt T e B b p bs w → Lib.BuilderAt T e B b p bs w' := by
    rintro p ⟨hB, v, hb1, hown, hne⟩
    refine ⟨hB, v, (hb.block b (Array.getElem?_eq_some_iff.1 hb1).1).trans hb1, ⟨hown.1, ?_⟩, hne⟩
    rcases hown.2 with h | ⟨g, cap, cur, h1, h2, h3, h4⟩
    · exact .inl h
    · exact .inr ⟨g, cap, cur, h1, h2, (hb.block g (Array.getElem?_eq_some_iff.1 h3).1).trans h3, h4⟩
  rcases h with h | h
  · exact .inl (one _ h)
  · exact .inr (one _ h)
theorem form_next {es : List EntB} {k : Nat} (hk : k < es.length) : formL (es.take (k + 1)) = formL (es.take k) ++ entL (es.getD k noE) := by
  unfold formL
  rw [List.take_succ_eq_append_getElem hk, List.flatMap_append, List.getD_eq_getElem?_getD, List.getElem?_eq_getElem hk]
  simp
theorem unhexL_len (l : List UInt8) : (unhexL l).length = l.length / 2 := by unfold unhexL; rw [unhexN_len]
theorem octZ_len {m : Int} (h : m ∈ modesL) : (octZ m).length ≤ 6 := by
  simp only [modesL, List.mem_cons, List.not_mem_nil, or_false] at h
  have hk : ∀ n : Nat, n < 262144 → (octZ (n : Int)).length ≤ 6 := fun n hn => by
    unfold octZ
    rw [if_neg (by omega)]
    exact octN_len n 6 (by decide) (by omega)
  rcases h with rfl | rfl | rfl | rfl | rfl
  · exact hk 16384 (by decide)
  · exact hk 33188 (by decide)
  · exact hk 33261 (by decide)
  · exact hk 40960 (by decide)
  · exact hk 57344 (by decide)
theorem entL_len {e : EntB} (h : rightB e.1 e.2.1.data.toList e.2.2.data.toList = true) : (entL e).length ≤ 200 ∧ (octZ e.1).length ≤ 6 ∧ e.2.1.size ≤ 100 ∧ e.2.2.size = 40 ∧ hexed e.2.2.data.toList = true := by
  unfold rightB at h
  simp only [Bool.and_eq_true, decide_eq_true_eq] at h
  obtain ⟨⟨h1, h2⟩, h3⟩ := h
  have h4 := octZ_len h1
  unfold nameB at h2
  simp only [decide_eq_true_eq] at h2
  have h5 : e.2.1.size ≤ 100 := by have := h2.2.1; rw [Array.length_toList] at this; exact this
  unfold idB at h3
  simp only [Bool.and_eq_true, decide_eq_true_eq] at h3
  have h6 : e.2.2.size = 40 := by have := h3.2; rw [Array.length_toList] at this; exact this
  refine ⟨?_, h4, h5, h6, ?_⟩
  · unfold entL
    have h7 : e.2.1.data.toList.length = e.2.1.size := Array.length_toList
    simp only [List.length_append, List.length_cons, List.length_nil, unhexL_len, h3.2, h7]
    omega
  · unfold hexed
    rw [h3.1, h3.2]
    rfl
theorem form_len {es : List EntB} (h : ∀ i, i < es.length → rightB (es.getD i noE).1 (es.getD i noE).2.1.data.toList (es.getD i noE).2.2.data.toList = true) : ∀ k, k ≤ es.length → (formL (es.take k)).length ≤ 200 * k
  | 0, _ => by simp [formL]
  | k + 1, hk => by
    rw [form_next (by omega), List.length_append]
    have h1 := form_len h k (by omega)
    have h2 := (entL_len (h k (by omega))).1
    omega
theorem step_right {es : List EntB} {i : Nat} (h : stepB es i = true) : rightB (es.getD i noE).1 (es.getD i noE).2.1.data.toList (es.getD i noE).2.2.data.toList = true := by
  unfold stepB at h
  simp only [Bool.and_eq_true] at h
  exact h.1.1
theorem chk_steps {es : List EntB} (h : checkV es = 0) : es.length ≤ 500 ∧ ∀ i, i < es.length → stepB es i = true := by
  unfold checkV at h
  split at h
  · cases h
  · unfold checkZ at h
    split at h
    · rename_i h1 h2
      exact ⟨by omega, fun i hi => List.all_eq_true.1 h2 i (List.mem_range.2 hi)⟩
    · cases h
theorem zero49 (w : World) : (zeroValue 49).run Tryd.prog w = .ok (.agg #[.pointer none, .slice none 0 0]) w := by kernel_rfl
set_option maxHeartbeats 8000000 in
set_option maxRecDepth 100000 in
theorem format_good (b off cap len : Nat) (es : List EntB) (w : World) (hG : GT w) (hl : es.length = len) (hb : b < w.heap.size) (hE : EntsAt w b off es) (hO : ∀ e ∈ es, OkE e) (hc : checkV es = 0) :
    Calls Tryd.prog 10 #[.slice (some ⟨b, off, none⟩) len cap] w fun e w' => e = .returned (.tuple #[.string ⟨(formL es).toArray⟩, .int .i64 0]) ∧ Below w.heap.size w w' := by
  obtain ⟨h500, hst⟩ := chk_steps hc
  have HST : Hid (∀ i, i < es.length → rightB (es.getD i noE).1 (es.getD i noE).2.1.data.toList (es.getD i noE).2.2.data.toList = true) := fun i hi => step_right (hst i hi)
  have HCK : Hid (Calls Tryd.prog 14 #[.slice (some ⟨b, off, none⟩) len cap] w fun e w' => e = .returned (.int .i64 0) ∧ Below w.heap.size w w') := by
    have h := check_any (some ⟨b, off, none⟩) cap es w hG (.inr ⟨b, off, rfl, hb, hE⟩) hO
    rw [hc, hl] at h
    exact h
  have HG := hidM hG
  have HE := hidM hE
  have HO := hidM hO
  have HL := hidM hl
  have l500 : len ≤ 500 := by omega
  have hz := zero49
  clear hG hE hO hl hc hst h500
  go_enter Tryd.func10, Tryd.ntmps10
  go_wp2_with fail
  refine HCK.out.mono ?_
  rintro _ w1 ⟨rfl, hb1⟩
  have HW1 := hidM hb1
  have HG1 := hidM (HG.out.below hb1)
  have HE1 := hidM (HE.out.below hb1 hb)
  have hb1' : b < w1.heap.size := Nat.lt_of_lt_of_le hb hb1.size
  clear hb1 HCK HE
  have HF0 : Hid (Lib.IsBuilder 49 5 w1.heap.size w1.heap.size (Lib.byteCells (formL (es.take 0))) (w1.alloc (.cells #[.pointer none, .slice none 0 0] 49))) := Lib.fresh_isBuilder 49 5 w1
  have HB0 : Hid (Below w1.heap.size w1 (w1.alloc (.cells #[.pointer none, .slice none 0 0] 49))) := (Below.refl _ w1).alloc (Nat.le_refl _) _
  go_wp2
  generalize w1.alloc (.cells #[.pointer none, .slice none 0 0] 49) = w2 at *
  obtain ⟨B, hB⟩ : ∃ B, B = w1.heap.size := ⟨_, rfl⟩
  rw [← hB] at HF0 HB0 hb1'
  simp only [← hB]
  have HBB := hidM hB
  clear hB
  go_loopw [7, 8, 9, 17] (fun _ _ _ iv wr => ∃ k : Nat, k ≤ len ∧ iv = .int .i64 (k : Int) ∧ Lib.IsBuilder 49 5 B B (Lib.byteCells (formL (es.take k))) wr ∧ Below B w1 wr ∧ B ≤ wr.heap.size) (fun _ _ _ i _ => len - (intOf i).toNat)
  case atStart => exact ⟨0, Nat.zero_le _, rfl, HF0.out, HB0.out, by have h := HB0.out.size; rw [← HBB.out] at h; exact h⟩
  case round =>
    obtain ⟨k, hk, rfl, hI, hbr, hbs⟩ := hrel
    clear HF0 HB0
    have HI := hidM hI
    have HBR := hidM hbr
    have HBs : Hid (B ≤ w1.heap.size) := by unfold Hid; rw [HBB.out]; exact Nat.le_refl _
    clear hI hbr
    by_cases hlt : k < len
    · have gk : (k : Int) < (len : Int) := by omega
      have HBR' : Hid (Below w1.heap.size w1 wr) := by have h := HBR.out; rw [HBB.out] at h; exact h
      obtain ⟨c0, c1, c2⟩ := (HE1.out.below HBR'.out (by rw [← HBB.out]; exact hb1')) k (by rw [HL.out]; exact hlt)
      have hri := HST.out k (by rw [HL.out]; exact hlt)
      obtain ⟨_, len1, len2, len3, hhx⟩ := entL_len hri
      have hfl := form_len HST.out k (by have := HL.out; omega)
      obtain ⟨m, hm⟩ : ∃ m, m = (es.getD k noE).1 := ⟨_, rfl⟩
      obtain ⟨nm, hnm⟩ : ∃ nm, nm = (es.getD k noE).2.1 := ⟨_, rfl⟩
      obtain ⟨id, hid⟩ : ∃ id, id = (es.getD k noE).2.2 := ⟨_, rfl⟩
      have okk := HO.out (es.getD k noE) (getD_mem (by rw [HL.out]; exact hlt))
      rw [← hm] at c0 len1
      rw [← hnm] at c1 len2
      rw [← hid] at c2 len3 hhx
      have okm : -9223372036854775808 ≤ m ∧ m ≤ 9223372036854775807 := by rw [hm]; exact ⟨okk.1, okk.2.1⟩
      obtain ⟨U, hU⟩ : ∃ U : ByteArray, U = ⟨(unhexL id.data.toList).toArray⟩ := ⟨_, rfl⟩
      obtain ⟨O, hOo⟩ : ∃ O : ByteArray, O = ⟨(octZ m).toArray⟩ := ⟨_, rfl⟩
      have oU : U.size ≤ 20 := by
        rw [hU]
        show (unhexL id.data.toList).toArray.size ≤ 20
        rw [List.size_toArray, unhexL_len, Array.length_toList]
        show id.size / 2 ≤ 20
        omega
      have oO : O.size ≤ 6 := by rw [hOo]; show (octZ m).toArray.size ≤ 6; rw [List.size_toArray]; exact len1
      have HEN : Hid (entL (es.getD k noE) = O.data.toList ++ [32] ++ nm.data.toList ++ [0] ++ U.data.toList) := by unfold Hid entL; rw [← hm, ← hnm, ← hid, hU, hOo]
      have HZ := zero29
      have HX0 : Hid (EBox (wr.alloc (.cells #[.int .i64 m, .string nm, .string id] 29)) wr.heap.size m nm id) := heap_alloc_new wr _
      have HA0 : Hid (Below wr.heap.size wr (wr.alloc (.cells #[.int .i64 m, .string nm, .string id] 29))) := (Below.refl _ wr).alloc (Nat.le_refl _) _
      have x2 := HX0.out.c2
      have hz29 := zero29
      clear hm hnm hid okk hri HZ
      go_wp2_with fail
      generalize wr.alloc (.cells #[.int .i64 m, .string nm, .string id] 29) = w3 at *
      have HUN : Hid (Calls Tryd.prog 22 #[.string id] w3 fun e w' => e = .returned (.tuple #[.string U, .bool true]) ∧ Below w3.heap.size w3 w') := by rw [hU]; exact unhex_yes id w3 (by omega) hhx
      refine HUN.out.mono ?_
      rintro _ w4 ⟨rfl, hb4⟩
      obtain ⟨X, hX⟩ : ∃ X, X = wr.heap.size := ⟨_, rfl⟩
      rw [← hX] at HX0
      simp only [← hX]
      have HX4 := hidM (HX0.out.below hb4)
      have HA4 : Hid (Below wr.heap.size wr w4) := HA0.out.trans (hb4.mono HA0.out.size)
      have HI4 := hidM (builder_below HI.out HA4.out)
      have HB4 : Hid (Below B w1 w4) := HBR.out.trans (HA4.out.mono hbs)
      have hBw4 : B ≤ w4.heap.size := Nat.le_trans hbs HA4.out.size
      have HG4 : Hid (GT w4) := HG1.out.below (HBR'.out.trans (HA4.out.mono HBR'.out.size))
      have HD : Hid (Below w4.heap.size w4 w4) := Below.refl _ _
      clear hb4 HUN x2 HX0 HA0 hX c0 c1 c2 hU HI HA4 HBR HBR'
      have d0 : (w4.drew).cell? ⟨X, 0, none⟩ = some (.int .i64 m) := HX4.out.c0
      have d1 : (w4.drew).cell? ⟨X, 1, none⟩ = some (.string nm) := HX4.out.c1
      have H24 : Hid (∀ V, Hid (Below w4.heap.size w4 V) → Calls Tryd.prog 24 #[.int .i64 m] V fun e w' => e = .returned (.string O) ∧ (w'.cell? ⟨X, 1, none⟩ = some (.string nm) ∧ Hid (Below w4.heap.size w4 w') ∧ Lib.IsBuilder 49 5 B B (Lib.byteCells (formL (es.take k))) w')) := fun V hV => by
        rw [hOo]
        refine (written_any m V (HG4.out.below hV.out) okm.1 okm.2).mono ?_
        rintro e w' ⟨h1, h2⟩
        have h3 := hV.out.trans (h2.mono hV.out.size)
        exact ⟨h1, (HX4.out.below h3).c1, h3, builder_below HI4.out h3⟩
      obtain ⟨T1, hT1⟩ : ∃ T1 : ByteArray, (O ++ ⟨#[32]⟩ : ByteArray) = T1 := ⟨_, rfl⟩
      obtain ⟨T2, hT2⟩ : ∃ T2 : ByteArray, T1 ++ nm = T2 := ⟨_, rfl⟩
      obtain ⟨T3, hT3⟩ : ∃ T3 : ByteArray, (T2 ++ ⟨#[0]⟩ : ByteArray) = T3 := ⟨_, rfl⟩
      obtain ⟨T4, hT4⟩ : ∃ T4 : ByteArray, T3 ++ U = T4 := ⟨_, rfl⟩
      have s1 : T1.size = O.size + 1 := by rw [← hT1, ByteArray.size_append]; rfl
      have s2 : T2.size = T1.size + nm.size := by rw [← hT2, ByteArray.size_append]
      have s3 : T3.size = T2.size + 1 := by rw [← hT3, ByteArray.size_append]; rfl
      have s4 : T4.size = T3.size + U.size := by rw [← hT4, ByteArray.size_append]
      have v1 : ¬ 9223372036854775807 < O.size + 1 := by omega
      have v2 : ¬ 9223372036854775807 < T1.size + nm.size := by omega
      have v3 : ¬ 9223372036854775807 < T2.size + 1 := by omega
      have v4 : ¬ 9223372036854775807 < T3.size + U.size := by omega
      have HT4 : Hid (T4.data.toList = O.data.toList ++ [32] ++ nm.data.toList ++ [0] ++ U.data.toList) := by
        unfold Hid
        rw [← hT4, ← hT3, ← hT2, ← hT1]
        simp [ByteArray.data_append]
      have H23 : Hid (∀ V, Lib.IsBuilder 49 5 B B (Lib.byteCells (formL (es.take k))) V → B ≤ V.heap.size → Calls Tryd.prog 23 #[.pointer (some ⟨B, 0, none⟩), .string T4] V fun e w' => e = .returned (.tuple #[.int .i64 T4.size, .nilIface]) ∧ (Lib.BuilderAt 49 5 B B (.pointer (some ⟨B, 0, none⟩)) (Lib.byteCells (formL (es.take k)) ++ Lib.strCells T4) w' ∧ Below B V w')) := fun V hV hB => Tryd.Builder_WriteString B B _ T4 V hV (by rw [Lib.byteCells_length]; omega) hB
      clear s1 s2 s3 s4 hOo
      go_wp2_with fail
      refine wp_region_noPanic ?_
      refine wp_region_any (by kernel_rfl) ?_
      change wpAny _ _ _ _ _ _ _ (World.drew _)
      refine wpAny_take (i := 0) (v := ?_) rfl (by kernel_rfl) (by kernel_rfl) (by kernel_rfl) (fun _ _ _ h => h) (Or.inl ⟨by kernel_rfl, ?_⟩) ?_
      rotate_left
      · intro w
        go_simp
        try with_reducible rfl
      change wpAny _ _ _ _ _ _ (⟨#[_, _, _, _, _, _, _, _, _, _, _, _, _, _, _, _, _, _, _, _, _, _, _, _, _, _, _, _, _, _, _, _, _, _, _, _, _, _, _, _], _⟩ : Act) _
      refine wpAny_take (i := 4) (v := ?_) rfl (by kernel_rfl) (by kernel_rfl) (by kernel_rfl) (fun _ _ _ h => h) (Or.inl ⟨by kernel_rfl, ?_⟩) ?_
      rotate_left
      · intro w
        go_simp
        try with_reducible rfl
      change wpAny _ _ _ _ _ _ (⟨#[_, _, _, _, _, _, _, _, _, _, _, _, _, _, _, _, _, _, _, _, _, _, _, _, _, _, _, _, _, _, _, _, _, _, _, _, _, _, _, _], _⟩ : Act) _
      refine wpAny_take (i := 8) (v := ?_) rfl (by kernel_rfl) (by kernel_rfl) (by kernel_rfl) (fun _ _ _ h => h) (Or.inl ⟨by kernel_rfl, ?_⟩) ?_
      rotate_left
      · intro w
        go_simp
        try with_reducible rfl
      change wpAny _ _ _ _ _ _ (⟨#[_, _, _, _, _, _, _, _, _, _, _, _, _, _, _, _, _, _, _, _, _, _, _, _, _, _, _, _, _, _, _, _, _, _, _, _, _, _, _, _], _⟩ : Act) _
      refine wpAny_ready (rs := [1, 5]) (by kernel_rfl) (by simp) (AllReady.cons rfl (fun K hK => ?_) (AllReady.cons rfl (fun K hK => ?_) AllReady.nil))
      · go_simp
        refine hK _ _ ?_
        clear hK K
        refine wpAny_ready (rs := [2, 5]) (by kernel_rfl) (by simp) (AllReady.cons rfl (fun K hK => ?_) (AllReady.cons rfl (fun K hK => ?_) AllReady.nil))
        · go_simp
          with_reducible refine (H24.out _ (BD.drew HD)).mono ?_
          rintro _ w5 ⟨rfl, hS5⟩
          refine hK _ _ ?_
          clear hK K
          obtain ⟨x1, HB5, HI5⟩ := hS5
          refine wpAny_take (i := 3) (v := ?_) rfl (by kernel_rfl) (by kernel_rfl) (by kernel_rfl) (fun _ _ _ h => h) (Or.inl ⟨by kernel_rfl, ?_⟩) ?_
          rotate_left
          · intro w
            go_simp
            try with_reducible rfl
          change wpAny _ _ _ _ _ _ (⟨#[_, _, _, _, _, _, _, _, _, _, _, _, _, _, _, _, _, _, _, _, _, _, _, _, _, _, _, _, _, _, _, _, _, _, _, _, _, _, _, _], _⟩ : Act) _
          refine wpAny_ready (rs := [5]) (by kernel_rfl) (by simp) (AllReady.cons rfl (fun K hK => ?_) AllReady.nil)
          go_simp
          refine hK _ _ ?_
          clear hK K
          refine wpAny_take (i := 6) (v := ?_) rfl (by kernel_rfl) (by kernel_rfl) (by kernel_rfl) (fun _ _ _ h => h) (Or.inl ⟨by kernel_rfl, ?_⟩) ?_
          rotate_left
          · intro w
            go_simp
            try with_reducible rfl
          change wpAny _ _ _ _ _ _ (⟨#[_, _, _, _, _, _, _, _, _, _, _, _, _, _, _, _, _, _, _, _, _, _, _, _, _, _, _, _, _, _, _, _, _, _, _, _, _, _, _, _], _⟩ : Act) _
          refine wpAny_take (i := 7) (v := ?_) rfl (by kernel_rfl) (by kernel_rfl) (by kernel_rfl) (fun _ _ _ h => h) (Or.inl ⟨by kernel_rfl, ?_⟩) ?_
          rotate_left
          · intro w
            go_simp
            try with_reducible rfl
          change wpAny _ _ _ _ _ _ (⟨#[_, _, _, _, _, _, _, _, _, _, _, _, _, _, _, _, _, _, _, _, _, _, _, _, _, _, _, _, _, _, _, _, _, _, _, _, _, _, _, _], _⟩ : Act) _
          refine wpAny_take (i := 9) (v := ?_) rfl (by kernel_rfl) (by kernel_rfl) (by kernel_rfl) (fun _ _ _ h => h) (Or.inl ⟨by kernel_rfl, ?_⟩) ?_
          rotate_left
          · intro w
            go_simp
            try with_reducible rfl
          change wpAny _ _ _ _ _ _ (⟨#[_, _, _, _, _, _, _, _, _, _, _, _, _, _, _, _, _, _, _, _, _, _, _, _, _, _, _, _, _, _, _, _, _, _, _, _, _, _, _, _], _⟩ : Act) _
          refine wpAny_ready (rs := [10]) (by kernel_rfl) (by simp) (AllReady.cons rfl (fun K hK => ?_) AllReady.nil)
          go_simp
          with_reducible refine (H23.out _ HI5 (Nat.le_trans hBw4 HB5.out.size)).mono ?_
          rintro _ w6 ⟨rfl, hI6, hB6⟩
          refine hK _ _ ?_
          clear hK K
          refine wpAny_done (by kernel_rfl) ?_ _
          refine NoPanic.normal ?_
          have HR6 : Hid (Below B w1 w6) := HB4.out.trans ((HB5.out.mono hBw4).trans hB6)
          have HI6 : Hid (Lib.IsBuilder 49 5 B B (Lib.byteCells (formL (es.take (k + 1)))) w6) := by
            have h := hI6
            rw [bcells_app, HT4.out] at h
            rw [form_next (by rw [HL.out]; exact hlt), HEN.out]
            exact .inr h
          clear hI6 hB6
          go_wp2
          go_roundw
          case rel => exact ⟨k + 1, hlt, by go_num, HI6.out, HR6.out, Nat.le_trans HBs.out HR6.out.size⟩
          case measure => simp [intOf]; omega
        · go_simp
          refine hK _ _ ?_
          clear hK K
          refine wpAny_ready (rs := [2]) (by kernel_rfl) (by simp) (AllReady.cons rfl (fun K hK => ?_) AllReady.nil)
          go_simp
          with_reducible refine (H24.out _ (BD.drew HD)).mono ?_
          rintro _ w5 ⟨rfl, hS5⟩
          refine hK _ _ ?_
          clear hK K
          obtain ⟨x1, HB5, HI5⟩ := hS5
          refine wpAny_take (i := 3) (v := ?_) rfl (by kernel_rfl) (by kernel_rfl) (by kernel_rfl) (fun _ _ _ h => h) (Or.inl ⟨by kernel_rfl, ?_⟩) ?_
          rotate_left
          · intro w
            go_simp
            try with_reducible rfl
          change wpAny _ _ _ _ _ _ (⟨#[_, _, _, _, _, _, _, _, _, _, _, _, _, _, _, _, _, _, _, _, _, _, _, _, _, _, _, _, _, _, _, _, _, _, _, _, _, _, _, _], _⟩ : Act) _
          refine wpAny_take (i := 6) (v := ?_) rfl (by kernel_rfl) (by kernel_rfl) (by kernel_rfl) (fun _ _ _ h => h) (Or.inl ⟨by kernel_rfl, ?_⟩) ?_
          rotate_left
          · intro w
            go_simp
            try with_reducible rfl
          change wpAny _ _ _ _ _ _ (⟨#[_, _, _, _, _, _, _, _, _, _, _, _, _, _, _, _, _, _, _, _, _, _, _, _, _, _, _, _, _, _, _, _, _, _, _, _, _, _, _, _], _⟩ : Act) _
          refine wpAny_take (i := 7) (v := ?_) rfl (by kernel_rfl) (by kernel_rfl) (by kernel_rfl) (fun _ _ _ h => h) (Or.inl ⟨by kernel_rfl, ?_⟩) ?_
          rotate_left
          · intro w
            go_simp
            try with_reducible rfl
          change wpAny _ _ _ _ _ _ (⟨#[_, _, _, _, _, _, _, _, _, _, _, _, _, _, _, _, _, _, _, _, _, _, _, _, _, _, _, _, _, _, _, _, _, _, _, _, _, _, _, _], _⟩ : Act) _
          refine wpAny_take (i := 9) (v := ?_) rfl (by kernel_rfl) (by kernel_rfl) (by kernel_rfl) (fun _ _ _ h => h) (Or.inl ⟨by kernel_rfl, ?_⟩) ?_
          rotate_left
          · intro w
            go_simp
            try with_reducible rfl
          change wpAny _ _ _ _ _ _ (⟨#[_, _, _, _, _, _, _, _, _, _, _, _, _, _, _, _, _, _, _, _, _, _, _, _, _, _, _, _, _, _, _, _, _, _, _, _, _, _, _, _], _⟩ : Act) _
          refine wpAny_ready (rs := [10]) (by kernel_rfl) (by simp) (AllReady.cons rfl (fun K hK => ?_) AllReady.nil)
          go_simp
          with_reducible refine (H23.out _ HI5 (Nat.le_trans hBw4 HB5.out.size)).mono ?_
          rintro _ w6 ⟨rfl, hI6, hB6⟩
          refine hK _ _ ?_
          clear hK K
          refine wpAny_done (by kernel_rfl) ?_ _
          refine NoPanic.normal ?_
          have HR6 : Hid (Below B w1 w6) := HB4.out.trans ((HB5.out.mono hBw4).trans hB6)
          have HI6 : Hid (Lib.IsBuilder 49 5 B B (Lib.byteCells (formL (es.take (k + 1)))) w6) := by
            have h := hI6
            rw [bcells_app, HT4.out] at h
            rw [form_next (by rw [HL.out]; exact hlt), HEN.out]
            exact .inr h
          clear hI6 hB6
          go_wp2
          go_roundw
          case rel => exact ⟨k + 1, hlt, by go_num, HI6.out, HR6.out, Nat.le_trans HBs.out HR6.out.size⟩
          case measure => simp [intOf]; omega
      · go_simp
        refine hK _ _ ?_
        clear hK K
        refine wpAny_ready (rs := [1]) (by kernel_rfl) (by simp) (AllReady.cons rfl (fun K hK => ?_) AllReady.nil)
        go_simp
        refine hK _ _ ?_
        clear hK K
        refine wpAny_ready (rs := [2]) (by kernel_rfl) (by simp) (AllReady.cons rfl (fun K hK => ?_) AllReady.nil)
        go_simp
        with_reducible refine (H24.out _ (BD.drew HD)).mono ?_
        rintro _ w5 ⟨rfl, hS5⟩
        refine hK _ _ ?_
        clear hK K
        obtain ⟨x1, HB5, HI5⟩ := hS5
        refine wpAny_take (i := 3) (v := ?_) rfl (by kernel_rfl) (by kernel_rfl) (by kernel_rfl) (fun _ _ _ h => h) (Or.inl ⟨by kernel_rfl, ?_⟩) ?_
        rotate_left
        · intro w
          go_simp
          try with_reducible rfl
        change wpAny _ _ _ _ _ _ (⟨#[_, _, _, _, _, _, _, _, _, _, _, _, _, _, _, _, _, _, _, _, _, _, _, _, _, _, _, _, _, _, _, _, _, _, _, _, _, _, _, _], _⟩ : Act) _
        refine wpAny_take (i := 6) (v := ?_) rfl (by kernel_rfl) (by kernel_rfl) (by kernel_rfl) (fun _ _ _ h => h) (Or.inl ⟨by kernel_rfl, ?_⟩) ?_
        rotate_left
        · intro w
          go_simp
          try with_reducible rfl
        change wpAny _ _ _ _ _ _ (⟨#[_, _, _, _, _, _, _, _, _, _, _, _, _, _, _, _, _, _, _, _, _, _, _, _, _, _, _, _, _, _, _, _, _, _, _, _, _, _, _, _], _⟩ : Act) _
        refine wpAny_take (i := 7) (v := ?_) rfl (by kernel_rfl) (by kernel_rfl) (by kernel_rfl) (fun _ _ _ h => h) (Or.inl ⟨by kernel_rfl, ?_⟩) ?_
        rotate_left
        · intro w
          go_simp
          try with_reducible rfl
        change wpAny _ _ _ _ _ _ (⟨#[_, _, _, _, _, _, _, _, _, _, _, _, _, _, _, _, _, _, _, _, _, _, _, _, _, _, _, _, _, _, _, _, _, _, _, _, _, _, _, _], _⟩ : Act) _
        refine wpAny_take (i := 9) (v := ?_) rfl (by kernel_rfl) (by kernel_rfl) (by kernel_rfl) (fun _ _ _ h => h) (Or.inl ⟨by kernel_rfl, ?_⟩) ?_
        rotate_left
        · intro w
          go_simp
          try with_reducible rfl
        change wpAny _ _ _ _ _ _ (⟨#[_, _, _, _, _, _, _, _, _, _, _, _, _, _, _, _, _, _, _, _, _, _, _, _, _, _, _, _, _, _, _, _, _, _, _, _, _, _, _, _], _⟩ : Act) _
        refine wpAny_ready (rs := [10]) (by kernel_rfl) (by simp) (AllReady.cons rfl (fun K hK => ?_) AllReady.nil)
        go_simp
        with_reducible refine (H23.out _ HI5 (Nat.le_trans hBw4 HB5.out.size)).mono ?_
        rintro _ w6 ⟨rfl, hI6, hB6⟩
        refine hK _ _ ?_
        clear hK K
        refine wpAny_done (by kernel_rfl) ?_ _
        refine NoPanic.normal ?_
        have HR6 : Hid (Below B w1 w6) := HB4.out.trans ((HB5.out.mono hBw4).trans hB6)
        have HI6 : Hid (Lib.IsBuilder 49 5 B B (Lib.byteCells (formL (es.take (k + 1)))) w6) := by
          have h := hI6
          rw [bcells_app, HT4.out] at h
          rw [form_next (by rw [HL.out]; exact hlt), HEN.out]
          exact .inr h
        clear hI6 hB6
        go_wp2
        go_roundw
        case rel => exact ⟨k + 1, hlt, by go_num, HI6.out, HR6.out, Nat.le_trans HBs.out HR6.out.size⟩
        case measure => simp [intOf]; omega
    · have gk : ¬ (k : Int) < (len : Int) := by omega
      have HST9 : Hid (Calls Tryd.prog 25 #[.pointer (some ⟨B, 0, none⟩)] wr fun e w' => e = .returned (.string ⟨(formL es).toArray⟩) ∧ Below B wr w') := by
        have h := Tryd.Builder_String_any B B _ wr HI.out hbs
        rw [List.take_of_length_le (by have := HL.out; omega)] at h
        exact h
      go_wp2_with fail
      refine HST9.out.mono ?_
      rintro _ w9 ⟨rfl, hb9⟩
      have HB9 : Hid (Below w.heap.size w w9) := by
        have h1 : Below w1.heap.size w1 w9 := by have h := HBR.out.trans hb9; rw [HBB.out] at h; exact h
        exact HW1.out.trans (h1.mono HW1.out.size)
      clear hb9 HST9
      go_wp2
      go_ret2
      exact ⟨rfl, HB9.out⟩
end Go.Proofs.YtccohagdfpcplaaDoor
