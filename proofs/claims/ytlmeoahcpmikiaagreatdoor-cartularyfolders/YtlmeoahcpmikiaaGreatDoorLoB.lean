/-
  Taken over from another program: LoB.
-/
import Derived.Test.YtlmeoahcpmikiaaGreatDoorLoA
namespace Go.Proofs.YtlmeoahcpmikiaaGreatDoor
open Go.RowKit
theorem InfQ.det {l : List UInt8} {a m : Int} {r r' : List UInt8 × Nat × Nat} (h : InfQ l a m r) (h' : InfQ l a m r') : r = r' := by
  rcases h with ⟨h1, rfl⟩ | ⟨A, M, rfl, rfl, hA, hM, ⟨n, _, hr, rfl⟩ | ⟨t, o, hr, _,_, rfl⟩⟩
  · rcases h' with ⟨_, rfl⟩ | ⟨A, M, rfl, rfl, hA, hM, _⟩
    · rfl
    · omega
  · exact (h'.runBad hA hM hr).symm
  · exact (h'.run hA hM hr).symm
theorem ZQ.det {l : List UInt8} {r r' : List UInt8 × Nat × Nat} (h : ZQ l 0 65536 r) (h' : ZQ l 0 65536 r') : r = r' := by
  rcases h with ⟨hb, _⟩ | ⟨A, M, hA, hM, _,_, h⟩
  · omega
  rcases h' with ⟨hb, _⟩ | ⟨A', M', hA', hM', _,_, h'⟩
  · omega
  obtain rfl : A = 0 := by omega
  obtain rfl : A' = 0 := by omega
  obtain rfl : M = M' := by omega
  rcases h with ⟨a1, rfl⟩ | ⟨a1, a2, rfl⟩ | ⟨a1, a2, o, n, e, hq, h⟩
  · rcases h' with ⟨_, rfl⟩ | ⟨_,_,_⟩ | ⟨_,_,_⟩
    · rfl
    · omega
    · omega
  · rcases h' with ⟨_,_⟩ | ⟨_,_, rfl⟩ | ⟨_, b2, _⟩
    · omega
    · rfl
    · rw [a2] at b2; cases b2
  · rcases h' with ⟨_,_⟩ | ⟨_, b2, _⟩ | ⟨_, b2, o', n', e', hq', h'⟩
    · omega
    · rw [a2] at b2; cases b2
    · have he := InfQ.det hq hq'
      simp only [Prod.mk.injEq] at he
      obtain ⟨rfl, rfl, rfl⟩ := he
      rcases h with ⟨c1, rfl⟩ | ⟨c1, c2, rfl⟩ | ⟨c1, c2, c3, rfl⟩ | ⟨c1, c2, c3, rfl⟩ <;> rcases h' with ⟨d1, rfl⟩ | ⟨d1, d2, rfl⟩ | ⟨d1, d2, d3, rfl⟩ | ⟨d1, d2, d3, rfl⟩
      all_goals first | rfl | omega | exact absurd c3 d3 | exact absurd d3 c3 | exact absurd c1 d1 | exact absurd d1 c1
theorem UnpQ.det {l : List UInt8} {x y : Nat × List UInt8 × Nat} (h : UnpQ l x) (h' : UnpQ l y) : x = y := by
  obtain ⟨o, n, e, hz, h⟩ := h
  obtain ⟨o', n', e', hz', h'⟩ := h'
  have he := ZQ.det hz hz'
  simp only [Prod.mk.injEq] at he
  obtain ⟨rfl, rfl, rfl⟩ := he
  rcases h with ⟨c1, rfl⟩ | ⟨c1, c2, rfl⟩ | ⟨c1, c2, rfl⟩ <;> rcases h' with ⟨d1, rfl⟩ | ⟨d1, d2, rfl⟩ | ⟨d1, d2, rfl⟩
  all_goals first | rfl | omega
/-- what is made of a file's bytes -/
def FilQ (id : ByteArray) (l : List UInt8) (x : Nat × List UInt8 × Nat) : Prop := ∃ y, UnpQ l y ∧ ((y.2.2 ≠ 0 ∧ x = (0, [], y.2.2)) ∨ (y.2.2 = 0 ∧ idT (y.1 : Nat) y.2.1 ≠ id.data.toList ∧ x = (0, [], 5)) ∨ (y.2.2 = 0 ∧ idT (y.1 : Nat) y.2.1 = id.data.toList ∧ x = (y.1, y.2.1, 0)))
theorem FilQ.det {id : ByteArray} {l : List UInt8} {x y : Nat × List UInt8 × Nat} (h : FilQ id l x) (h' : FilQ id l y) : x = y := by
  obtain ⟨u, hu, h⟩ := h
  obtain ⟨v, hv, h'⟩ := h'
  obtain rfl := UnpQ.det hu hv
  rcases h with ⟨c1, rfl⟩ | ⟨c1, c2, rfl⟩ | ⟨c1, c2, rfl⟩ <;> rcases h' with ⟨d1, rfl⟩ | ⟨d1, d2, rfl⟩ | ⟨d1, d2, rfl⟩
  all_goals first | rfl | omega | exact absurd d2 c2 | exact absurd c2 d2
/-- what Read says of files -/
def ReadQ (fs : List FileB) (id : ByteArray) (x : Nat × List UInt8 × Nat) : Prop :=
  (idB id.data.toList = false ∧ x = (0, [], 4)) ∨ (idB id.data.toList = true ∧ (∀ f ∈ fs, f.1 ≠ pathB id) ∧ x = (0, [], 7)) ∨ (idB id.data.toList = true ∧ ∃ f ∈ fs, f.1 = pathB id ∧ FilQ id f.2.data.toList x)
def ReadP (fs : List FileB) (id : ByteArray) (e : Ending) : Prop := ∃ x, ReadQ fs id x ∧ e = .returned (objV x)
set_option maxHeartbeats 4000000 in
set_option maxRecDepth 100000 in
theorem lread_any (q b off c : Nat) (fs : List FileB) (id : ByteArray) (w : World) (hF : Folder w q b off c fs) (hl : fs.length ≤ 1000000) (hr : Rise fs) (hz : ∀ f ∈ fs, f.2.size ≤ 1000000) (hG : LG w) (hi : id.size ≤ maxLen) :
    Calls Tryz.prog 96 #[.pointer (some ⟨q, 0, none⟩), .string id] w fun e w' => ReadP fs id e ∧ Below w.heap.size w w' := by
  have HX := hidM (heap_alloc_new w (.cells #[.int .i64 0, .string ⟨#[]⟩] 29))
  have HB0 : Hid (Below w.heap.size w (w.alloc (.cells #[.int .i64 0, .string ⟨#[]⟩] 29))) := (Below.refl _ w).alloc (Nat.le_refl _) _
  have HG0 := hidM (hG.below HB0.out)
  have HF0 := hidM (hF.below HB0.out)
  have HPA := hidM (fun V => lpath_any id V hi)
  have hz32 := zero32
  have HFIN : Hid (∀ x e, ReadQ fs id x → e = .returned (objV x) → ReadP fs id e) := fun x e h1 h2 => ⟨x, h1, h2⟩
  have HGET := hidM (fun V (h : Folder V q b off c fs) => Get_any q b off c fs (pathB id) V h hl hr)
  have HSZ := hidM hz
  clear hG hF hz hr hl
  cases hib : idB id.data.toList with
  | false =>
    have HR : Hid (ReadQ fs id (0, [], 4)) := Or.inl ⟨hib, rfl⟩
    have hp : pathR id = (⟨#[]⟩, 4) := by unfold pathR; rw [hib]; rfl
    rw [hp] at HPA
    clear hp hib
    go_enter Tryz.func96, Tryz.ntmps96
    go_wp2_with fail
    refine (HPA.out _).mono ?_
    rintro _ w1 ⟨rfl, hb1⟩
    have HX1 := hidM (box_keptL HX.out hb1)
    have HB1 := hidM (HB0.out.trans (hb1.mono HB0.out.size))
    clear hb1 HX HB0 HPA HGET
    go_wp2_with (refine wpList_store_row rfl 29 (.tmp 4) (.tmp 19) rfl w.heap.size #[.int .i64 0, .string ⟨#[]⟩] rfl rfl 29 #[.int .i64 0, .string ⟨#[]⟩] HX1.out size52 rfl (onesOb _ _) ?_)
    exact bodyPost_ret (results_box rfl _ _ w.heap.size _ rfl (run_loadVar_row _ w.heap.size 29 29 _ (0, 0) _ (setRow_heap _ _ _ _ 29 _ HX1.out) Tryz.underlying29 rfl size52)) rfl ⟨HFIN.out _ _ HR.out rfl, below_setRowL HB1.out (Nat.le_refl _)⟩
  | true =>
    have hp : pathR id = (pathB id, 0) := by unfold pathR; rw [hib]; rfl
    rw [hp] at HPA
    have HIB := hidM hib
    clear hp hib
    go_enter Tryz.func96, Tryz.ntmps96
    go_wp2_with fail
    refine (HPA.out _).mono ?_
    rintro _ w1 ⟨rfl, hb1⟩
    have HX1 := hidM (box_keptL HX.out hb1)
    have HB1 := hidM (HB0.out.trans (hb1.mono HB0.out.size))
    have HF1 := hidM (HF0.out.below hb1)
    have HG1 := hidM (HG0.out.below hb1)
    clear hb1 HX HB0 HPA HF0 HG0
    generalize hPB : pathB id = PB at *
    have HPB := hidM hPB
    clear hPB
    go_wp2_with fail
    refine (HGET.out _ HF1.out).mono ?_
    rintro _ w2 ⟨hgp, hb2⟩
    have HX2 := hidM (box_keptL HX1.out hb2)
    have HB2 := hidM (HB1.out.trans (hb2.mono HB1.out.size))
    have HG2 := hidM (HG1.out.below hb2)
    clear hb2 HX1 HB1 HF1 HG1 HGET
    rcases hgp with ⟨f, hf, hfp, rfl⟩ | ⟨hno, rfl⟩
    · have HUN := hidM (unpack_any f.2 w2 (HSZ.out f hf) HG2.out)
      have HRD : Hid (∀ x, FilQ id f.2.data.toList x → ReadQ fs id x) := fun x hx => Or.inr (Or.inr ⟨HIB.out, f, hf, by rw [hfp, HPB.out], hx⟩)
      obtain ⟨f1, f2⟩ := f
      simp only at HUN HRD
      clear hf hfp
      simp only
      go_wp2_with fail
      refine HUN.out.mono ?_
      rintro _ w3 ⟨⟨⟨k, d, er⟩, hu, rfl⟩, hb3⟩
      have HX3 := hidM (box_keptL HX2.out hb3)
      have HB3 := hidM (HB2.out.trans (hb3.mono HB2.out.size))
      have HG3 := hidM (HG2.out.below hb3)
      have HU := hidM hu
      clear hb3 HUN HX2 HB2 HG2 hu
      unfold objV
      simp only
      obtain ⟨DB, hDB⟩ : ∃ DB : ByteArray, DB = ⟨d.toArray⟩ := ⟨_, rfl⟩
      have HDB : Hid (DB.data.toList = d) := by unfold Hid; rw [hDB]
      have HDE : Hid ((⟨d.toArray⟩ : ByteArray) = DB) := hDB.symm
      rw [← hDB]
      clear hDB
      have hws := (Array.getElem?_eq_some_iff.1 HX3.out).1
      have HEB : Hid ((w3.alloc (.cells #[.int .i64 (k : Nat), .string DB] 29)).heap[w3.heap.size]? = some (.cells #[.int .i64 (k : Nat), .string DB] 29 (0, 0))) := heap_alloc_new _ _
      have HX4 : Hid ((w3.alloc (.cells #[.int .i64 (k : Nat), .string DB] 29)).heap[w.heap.size]? = some (.cells #[.int .i64 0, .string ⟨#[]⟩] 29 (0, 0))) := (heap_alloc_old _ _ hws).trans HX3.out
      have HB4 : Hid (Below w.heap.size w (w3.alloc (.cells #[.int .i64 (k : Nat), .string DB] 29))) := HB3.out.alloc HB3.out.size _
      have HG4 := hidM (HG3.out.below ((Below.refl _ w3).alloc (Nat.le_refl _) (.cells #[.int .i64 (k : Nat), .string DB] 29)))
      by_cases he : er = 0
      · subst he
        have HIDA := hidM (fun V (hV : LaidAt V) => id_any (k : Nat) DB V hV)
        rw [HDB.out] at HIDA
        have c0 : (w3.alloc (.cells #[.int .i64 (k : Nat), .string DB] 29)).cell? ⟨w3.heap.size, 0, none⟩ = some (.int .i64 (k : Nat)) := by rw [cell_of_row _ _ _ _ 29 (0, 0) HEB.out]; rfl
        have c1 : (w3.alloc (.cells #[.int .i64 (k : Nat), .string DB] 29)).cell? ⟨w3.heap.size, 1, none⟩ = some (.string DB) := by rw [cell_of_row _ _ _ _ 29 (0, 0) HEB.out]; rfl
        clear HX3 HB3 HG3
        go_wp2_with fail
        refine (HIDA.out _ HG4.out.2).mono ?_
        rintro _ w5 ⟨rfl, hb5⟩
        have HX5 := hidM (box_keptL HX4.out hb5)
        have HE5 := hidM (box_keptL HEB.out hb5)
        have HB5 := hidM (HB4.out.trans (hb5.mono HB4.out.size))
        clear hb5 HX4 HEB HB4 HG4 HIDA c0 c1
        have c0 : w5.cell? ⟨w3.heap.size, 0, none⟩ = some (.int .i64 (k : Nat)) := by rw [cell_of_row _ _ _ _ 29 (0, 0) HE5.out]; rfl
        have c1 : w5.cell? ⟨w3.heap.size, 1, none⟩ = some (.string DB) := by rw [cell_of_row _ _ _ _ 29 (0, 0) HE5.out]; rfl
        by_cases hn : idT (k : Nat) d = id.data.toList
        · have b1 : ((⟨(idT (k : Nat) d).toArray⟩ : ByteArray).toList == id.toList) = true := by rw [hn]; simp
          have HR := hidM (HRD.out (k, d, 0) ⟨(k, d, 0), HU.out, Or.inr (Or.inr ⟨rfl, hn, rfl⟩)⟩)
          clear hn
          generalize (⟨(idT (k : Nat) d).toArray⟩ : ByteArray) = IB at *
          go_wp2_with (refine wpList_store_row rfl 29 (.tmp 4) (.tmp 49) rfl w.heap.size #[.int .i64 (k : Nat), .string DB] rfl rfl 29 #[.int .i64 0, .string ⟨#[]⟩] HX5.out size52 rfl (onesOb _ _) ?_)
          exact bodyPost_ret (results_box rfl _ _ w.heap.size _ rfl (run_loadVar_row _ w.heap.size 29 29 _ (0, 0) _ (setRow_heap _ _ _ _ 29 _ HX5.out) Tryz.underlying29 rfl size52)) rfl ⟨HFIN.out _ _ HR.out (by unfold objV; simp only; rw [HDE.out]; rfl), below_setRowL HB5.out (Nat.le_refl _)⟩
        · have b1 : ((⟨(idT (k : Nat) d).toArray⟩ : ByteArray).toList == id.toList) = false := bytes_ne (fun e => hn (congrArg (fun x : ByteArray => x.data.toList) e))
          have HR := hidM (HRD.out (0, [], 5) ⟨(k, d, 0), HU.out, Or.inr (Or.inl ⟨rfl, hn, rfl⟩)⟩)
          clear hn
          generalize (⟨(idT (k : Nat) d).toArray⟩ : ByteArray) = IB at *
          go_wp2_with (refine wpList_store_row rfl 29 (.tmp 4) (.tmp 48) rfl w.heap.size #[.int .i64 0, .string ⟨#[]⟩] rfl rfl 29 #[.int .i64 0, .string ⟨#[]⟩] HX5.out size52 rfl (onesOb _ _) ?_)
          exact bodyPost_ret (results_box rfl _ _ w.heap.size _ rfl (run_loadVar_row _ w.heap.size 29 29 _ (0, 0) _ (setRow_heap _ _ _ _ 29 _ HX5.out) Tryz.underlying29 rfl size52)) rfl ⟨HFIN.out _ _ HR.out rfl, below_setRowL HB5.out (Nat.le_refl _)⟩
      · have b1 : ((er : Int) == 0) = false := by simp only [beq_eq_false_iff_ne, ne_eq]; omega
        have HR := hidM (HRD.out (0, [], er) ⟨(k, d, er), HU.out, Or.inl ⟨he, rfl⟩⟩)
        clear he
        go_wp2_with (refine wpList_store_row rfl 29 (.tmp 4) (.tmp 38) rfl w.heap.size #[.int .i64 0, .string ⟨#[]⟩] rfl rfl 29 #[.int .i64 0, .string ⟨#[]⟩] HX4.out size52 rfl (onesOb _ _) ?_)
        exact bodyPost_ret (results_box rfl _ _ w.heap.size _ rfl (run_loadVar_row _ w.heap.size 29 29 _ (0, 0) _ (setRow_heap _ _ _ _ 29 _ HX4.out) Tryz.underlying29 rfl size52)) rfl ⟨HFIN.out _ _ HR.out rfl, below_setRowL HB4.out (Nat.le_refl _)⟩
    · have HR : Hid (ReadQ fs id (0, [], 7)) := Or.inr (Or.inl ⟨HIB.out, by rw [HPB.out]; exact hno, rfl⟩)
      clear hno
      go_wp2_with (refine wpList_store_row rfl 29 (.tmp 4) (.tmp 29) rfl w.heap.size #[.int .i64 0, .string ⟨#[]⟩] rfl rfl 29 #[.int .i64 0, .string ⟨#[]⟩] HX2.out size52 rfl (onesOb _ _) ?_)
      exact bodyPost_ret (results_box rfl _ _ w.heap.size _ rfl (run_loadVar_row _ w.heap.size 29 29 _ (0, 0) _ (setRow_heap _ _ _ _ 29 _ HX2.out) Tryz.underlying29 rfl size52)) rfl ⟨HFIN.out _ _ HR.out rfl, below_setRowL HB2.out (Nat.le_refl _)⟩
end Go.Proofs.YtlmeoahcpmikiaaGreatDoor
