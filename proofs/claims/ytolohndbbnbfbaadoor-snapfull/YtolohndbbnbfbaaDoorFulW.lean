/-
  SnapFull.
-/
import Derived.Test.YtolohndbbnbfbaaDoorNamA
import Derived.Test.YtolohndbbnbfbaaDoorSnapS
import Derived.Test.YtolohndbbnbfbaaDoorSnapN
import Derived.Test.YtolohndbbnbfbaaDoorSnapR
import Derived.Deep.RegionLaw
namespace Go.Proofs.YtolohndbbnbfbaaDoor
open Go.RowKit

theorem conv_at (W : World) (b : Nat) (cs : Array Value) (l : List UInt8) (h : W.heap[b]? = some (.cells cs 5 (0, 0))) (hc : cs.toList = l.map fun c => Value.int .u8 (c.toNat : Int)) :
    (convert 47 9 (.slice (some ⟨b, 0, none⟩) l.length l.length)).run Tryd.prog W = .ok (.string ⟨l.toArray⟩) W := by
  refine run_convert_bytes_back W 47 9 5 _ l.length l Tryd.underlying47 Tryd.underlying5 Tryd.underlying9 ?_
  intro i hi
  rw [Addr.add_lit, Nat.zero_add, cell_of_row W b _ _ 5 (0, 0) h, ← Array.getElem?_toList, hc]
  simp [hi]
theorem own_ne {w : World} {B e s n : Nat} {v : Value} {xs : List Value} (h : w.ownsRow B e s v (n + 1) xs) : v ≠ .slice none 0 0 := by
  intro e
  rcases h.2 with ⟨_, h0⟩ | ⟨_, _, _, he, _⟩
  · omega
  · rw [e] at he; cases he
theorem two_a (wr : World) (o q : Obj) : ((wr.alloc o).alloc q).drew.heap[wr.heap.size]? = (wr.alloc o).heap[wr.heap.size]? := Below.heap_alloc (wr.alloc o) q _ (by simp [go_sem])
theorem two_b (wr : World) (o : Obj) (cs : Array Value) : ((wr.alloc o).alloc (.cells cs 5)).drew.heap[wr.heap.size + 1]? = some (.cells cs 5 (0, 0)) := by
  have h := heap_alloc_new (wr.alloc o) (.cells cs 5)
  rw [show (wr.alloc o).heap.size = wr.heap.size + 1 by simp [go_sem]] at h
  exact h
theorem new_two (V : World) (n : Nat) (u v : Value) (h : V.heap.size = n) : ∀ j x, [u, v][j]? = some x → (V.alloc (.cells #[u, v] 32)).drew.cell? ((⟨n, 0, none⟩ : Addr).add j) = some x := by
  subst h
  intro j x hj
  match j, hj with
  | 0, hj => simp at hj; subst hj; simp [Addr.add]
  | 1, hj => simp at hj; subst hj; simp [Addr.add]

/-- The name of file number i, and so many noughts. -/
def nameF (i : Nat) : ByteArray := ⟨#[102, UInt8.ofNat (97 + i / 676), UInt8.ofNat (97 + i / 26 % 26), UInt8.ofNat (97 + i % 26)]⟩
def zerosB (S : Nat) : ByteArray := ⟨(List.replicate S (0 : UInt8)).toArray⟩
def fullF (S k : Nat) : List FileB := (List.range k).map fun i => (nameF i, zerosB S)
theorem fullF_len (S k : Nat) : (fullF S k).length = k := by simp [fullF]
theorem fullF_next (S k : Nat) : fullF S (k + 1) = fullF S k ++ [(nameF k, zerosB S)] := by simp [fullF, List.range_succ]
theorem zerosB_size (S : Nat) : (zerosB S).size = S := by simp [zerosB, ByteArray.size]
theorem fullF_size (S : Nat) : ∀ k, sizeF (fullF S k) = k * S
  | 0 => by simp [fullF, sizeF]
  | k + 1 => by
    have := fullF_size S k
    rw [fullF_next]
    unfold sizeF at this ⊢
    rw [List.map_append, List.sum_append, this, Nat.add_mul]
    simp [zerosB_size]
theorem byteN (n : Nat) (h : n < 256) : (UInt8.ofNat n).toNat = n := by simp; omega
theorem nameF_inj {i j : Nat} (hi : i < 2100) (hj : j < 2100) (h : nameF i = nameF j) : i = j := by
  unfold nameF at h
  simp only [ByteArray.mk.injEq, Array.mk.injEq, List.cons.injEq, and_true, true_and] at h
  obtain ⟨h1, h2, h3⟩ := h
  have e1 := congrArg UInt8.toNat h1
  have e2 := congrArg UInt8.toNat h2
  have e3 := congrArg UInt8.toNat h3
  rw [byteN _ (by omega), byteN _ (by omega)] at e1 e2 e3
  omega
theorem nameF_clean (i : Nat) (hi : i < 2100) : cleanB (nameF i) = true := by
  rw [clean_eq]
  have hl : (nameF i).data.toList = [102, UInt8.ofNat (97 + i / 676), UInt8.ofNat (97 + i / 26 % 26), UInt8.ofNat (97 + i % 26)] := rfl
  have b1 := byteN (97 + i / 676) (by omega)
  have b2 := byteN (97 + i / 26 % 26) (by omega)
  have b3 := byteN (97 + i % 26) (by omega)
  rw [hl]
  generalize UInt8.ofNat (97 + i / 676) = x at *
  generalize UInt8.ofNat (97 + i / 26 % 26) = y at *
  generalize UInt8.ofNat (97 + i % 26) = z at *
  have h47 : (47 : UInt8).toNat = 47 := rfl
  have hx : x ≠ 47 := fun e => by rw [e, h47] at b1; omega
  have hy : y ≠ 47 := fun e => by rw [e, h47] at b2; omega
  have hz : z ≠ 47 := fun e => by rw [e, h47] at b3; omega
  refine cleanL_iff.2 ⟨by simp, ?_, ?_⟩
  · unfold plainL
    rw [List.all_eq_true]
    intro c hc
    simp only [List.mem_cons, List.not_mem_nil, or_false] at hc
    rcases hc with rfl | rfl | rfl | rfl
    · rfl
    all_goals (simp only [decide_eq_true_eq]; omega)
  · rw [partsL_none _ (by simp only [List.mem_cons, List.not_mem_nil, or_false, not_or]; exact ⟨by decide, Ne.symm hx, Ne.symm hy, Ne.symm hz⟩)]
    intro p hp
    simp only [List.mem_cons, List.not_mem_nil, or_false] at hp
    subst hp
    rfl
theorem fullF_mem {S k : Nat} {f : FileB} (h : f ∈ fullF S k) : ∃ i, i < k ∧ f = (nameF i, zerosB S) := by
  unfold fullF at h
  simp only [List.mem_map, List.mem_range] at h
  obtain ⟨i, hi, rfl⟩ := h
  exact ⟨i, hi, rfl⟩
theorem fullF_ok (S k : Nat) (hk : k ≤ 2100) : OkF (fullF S k) := by
  refine ⟨?_, ?_, ?_⟩
  · intro f hf
    obtain ⟨i, hi, rfl⟩ := fullF_mem hf
    exact nameF_clean i (by omega)
  · unfold Apart fullF
    rw [List.pairwise_map]
    refine List.Pairwise.imp_of_mem ?_ (List.nodup_range (n := k))
    intro a b ha hb hab he
    simp only [List.mem_range] at ha hb
    exact hab (nameF_inj (by omega) (by omega) he)
  · intro f hf g hg
    obtain ⟨i, hi, rfl⟩ := fullF_mem hf
    obtain ⟨j, hj, rfl⟩ := fullF_mem hg
    refine Bool.eq_false_iff.2 fun h => ?_
    have h1 := begins_size h
    rw [ByteArray.size_append] at h1
    have h2 : (nameF i).size = 4 := rfl
    have h3 : (nameF j).size = 4 := rfl
    have h4 : slashB.size = 1 := rfl
    simp only at h1
    omega
theorem fullF_und {S k : Nat} {gs : List FileB} (hp : gs.Perm (fullF S k)) : undF gs ⟨#[102]⟩ = gs := by
  unfold undF
  rw [List.filter_eq_self]
  intro f hf
  obtain ⟨i, hi, rfl⟩ := fullF_mem (hp.mem_iff.1 hf)
  rfl

set_option maxHeartbeats 4000000 in
set_option maxRecDepth 50000 in
theorem full_loop (N S : Nat) (w : World) (hN : N ≤ 2100) (hS : S ≤ 5000) :
    Calls Tryd.prog 4 #[.int .i64 (N : Int), .int .i64 (S : Int)] w fun e w' => e = .returned (.bool true) ∧ Below w.heap.size w w' := by
  obtain ⟨i0, hi, hz0, hz1, hz2⟩ := info_parts info32
  obtain ⟨i5, hi5, hy0, hy1, hy2⟩ := info_parts Tryd.info5
  have n1 : ¬ (N : Int) < 0 := by omega
  have n2 : ¬ (2100 : Int) < N := by omega
  have n3 : ¬ (S : Int) < 0 := by omega
  have n4 : ¬ (5000 : Int) < S := by omega
  have HO0 : Hid (OwnF (w.alloc (.cells #[] 32)) w.heap.size (.slice (some ⟨w.heap.size, 0, none⟩) 0 0) []) := ⟨by rw [flat_list]; exact World.ownsRow_made w #[] 0 (Nat.le_refl _) (Nat.zero_le _) (by simp), by simp⟩
  obtain ⟨Zc, hZc⟩ : ∃ Zc, Zc = madeCells #[Value.int .u8 0] S := ⟨_, rfl⟩
  have HMK : Hid (∀ W : World, (Instr.makeSlice 47 (.int .i64 (S : Int)) (.int .i64 (S : Int))).run Tryd.prog W = .ok (.slice (some ⟨W.heap.size, 0, none⟩) S S) (W.alloc (.cells Zc 5))) := by
    intro W
    have h := run_makeSlice (P := Tryd.prog) W 47 5 i5 (.int .u8 0) Tryd.underlying47 hi5 hy0 .i64 .i64 (S : Int) (S : Int) (by omega) (Int.le_refl _) (by rw [hy1]; simp; omega) (by rw [hy2]; omega) (by omega)
    rw [h, hZc, hy1, Nat.mul_one, Int.toNat_natCast]
    rfl
  obtain ⟨Zs, hZs⟩ : ∃ Zs, Zs = (⟨(List.replicate S (0 : UInt8)).toArray⟩ : ByteArray) := ⟨_, rfl⟩
  have HZL : Hid (Zc.toList = (List.replicate S (0 : UInt8)).map fun c => Value.int .u8 (c.toNat : Int)) := by
    unfold Hid; rw [hZc, toList_madeCells_one, List.map_replicate]; rfl
  have HCZ : Hid (∀ (W : World) (b : Nat), W.heap[b]? = some (.cells Zc 5 (0, 0)) → (convert 47 9 (.slice (some ⟨b, 0, none⟩) S S)).run Tryd.prog W = .ok (.string Zs) W) := by
    intro W b h
    have := conv_at W b Zc (List.replicate S (0 : UInt8)) h HZL.out
    rw [List.length_replicate] at this
    rw [this, hZs]
  have HZS := hidM hZs
  clear hZc hZs HZL
  go_enter Tryd.func4, Tryd.ntmps4
  go_wp2
  go_loopw [5, 6] (fun v i wr => ∃ (k : Nat) (F : List FileB), k ≤ N ∧ i = .int .i64 (k : Int) ∧ F = fullF S k ∧ OwnF wr w.heap.size v F ∧ Below w.heap.size w wr) (fun _ i _ => N - (intOf i).toNat)
  case atStart => exact ⟨0, [], Nat.zero_le _, rfl, rfl, HO0.out, (Below.refl _ _).alloc (Nat.le_refl _) _⟩
  case round =>
    obtain ⟨k, F, hk, rfl, hF, hO, hB⟩ := hrel
    have HO := hidM hO
    have HB := hidM hB
    have HFK := hidM hF
    have hsz := hB.size
    have hFl : F.length ≤ 2100 := by rw [hF, fullF_len]; omega
    clear hO hB hF
    by_cases hkn : k < N
    · have hkn' : (k : Int) < N := by omega
      obtain ⟨a, ha⟩ : ∃ a, a = k / 676 := ⟨_, rfl⟩
      obtain ⟨b, hb⟩ : ∃ b, b = k / 26 := ⟨_, rfl⟩
      obtain ⟨c, hc⟩ : ∃ c, c = b % 26 := ⟨_, rfl⟩
      obtain ⟨d, hd⟩ : ∃ d, d = k % 26 := ⟨_, rfl⟩
      have ha' : (k : Int).tdiv 676 = (a : Int) := by rw [Int.tdiv_eq_ediv_of_nonneg (by omega)]; omega
      have hb' : (k : Int).tdiv 26 = (b : Int) := by rw [Int.tdiv_eq_ediv_of_nonneg (by omega)]; omega
      have ha2 : (k : Int) / 676 = (a : Int) := by omega
      have hb2 : (k : Int) / 26 = (b : Int) := by omega
      have hc' : (b : Int).tmod 26 = (c : Int) := by rw [Int.tmod_eq_emod_of_nonneg (by omega)]; omega
      have hd' : (k : Int).tmod 26 = (d : Int) := by rw [Int.tmod_eq_emod_of_nonneg (by omega)]; omega
      obtain ⟨x, hx⟩ : ∃ x, x = 97 + a := ⟨_, rfl⟩
      obtain ⟨y, hy⟩ : ∃ y, y = 97 + c := ⟨_, rfl⟩
      obtain ⟨z, hz⟩ : ∃ z, z = 97 + d := ⟨_, rfl⟩
      have hx' : (97 : Int) + a = (x : Int) := by omega
      have hy' : (97 : Int) + c = (y : Int) := by omega
      have hz' : (97 : Int) + d = (z : Int) := by omega
      have wa : IntKind.i64.wrap (a : Int) = a := by rw [IntKind.wrap_i64]; omega
      have wb : IntKind.i64.wrap (b : Int) = b := by rw [IntKind.wrap_i64]; omega
      have wx : IntKind.i64.wrap (x : Int) = x := by rw [IntKind.wrap_i64]; omega
      have wy : IntKind.i64.wrap (y : Int) = y := by rw [IntKind.wrap_i64]; omega
      have wz : IntKind.i64.wrap (z : Int) = z := by rw [IntKind.wrap_i64]; omega
      have ux : IntKind.u8.wrap (x : Int) = x := by rw [IntKind.wrap_u8]; omega
      have uy : IntKind.u8.wrap (y : Int) = y := by rw [IntKind.wrap_u8]; omega
      have uz : IntKind.u8.wrap (z : Int) = z := by rw [IntKind.wrap_u8]; omega
      have x8 : x < 256 := by omega
      have y8 : y < 256 := by omega
      have z8 : z < 256 := by omega
      obtain ⟨Ps, hPs⟩ : ∃ Ps, Ps = (⟨#[102, UInt8.ofNat x, UInt8.ofNat y, UInt8.ofNat z]⟩ : ByteArray) := ⟨_, rfl⟩
      have HCA : Hid (∀ (W : World) (b : Nat), W.heap[b]? = some (.cells #[.int .u8 102, .int .u8 (x : Int), .int .u8 (y : Int), .int .u8 (z : Int)] 5 (0, 0)) → (convert 47 9 (.slice (some ⟨b, 0, none⟩) 4 4)).run Tryd.prog W = .ok (.string Ps) W) := by
        intro W b h
        have := conv_at W b _ [102, UInt8.ofNat x, UInt8.ofNat y, UInt8.ofNat z] h (by simp; omega)
        rw [hPs]; exact this
      have HPS := hidM hPs
      have HA := hidM (And.intro ha (And.intro hb (And.intro hc (And.intro hd (And.intro hx (And.intro hy hz))))))
      clear ha hb hc hd hx hy hz hPs
      have m1 : (Instr.makeSlice 47 (.int .i64 (S : Int)) (.int .i64 (S : Int))).run Tryd.prog wr.drew = .ok (.slice (some ⟨wr.heap.size, 0, none⟩) S S) (wr.alloc (.cells Zc 5)).drew := HMK.out wr.drew
      have m2 : ∀ o, (Instr.makeSlice 47 (.int .i64 (S : Int)) (.int .i64 (S : Int))).run Tryd.prog (wr.alloc o).drew = .ok (.slice (some ⟨wr.heap.size + 1, 0, none⟩) S S) ((wr.alloc o).alloc (.cells Zc 5)).drew := fun o => by
        rw [HMK.out]; rw [show (wr.alloc o).drew.heap.size = wr.heap.size + 1 by simp [go_sem]]; rfl
      have q1' := HCA.out (wr.alloc (.cells #[.int .u8 102, .int .u8 (x : Int), .int .u8 (y : Int), .int .u8 (z : Int)] 5)).drew wr.heap.size (heap_alloc_new wr _)
      have q2' := HCA.out ((wr.alloc (.cells #[.int .u8 102, .int .u8 (x : Int), .int .u8 (y : Int), .int .u8 (z : Int)] 5)).alloc (.cells Zc 5)).drew wr.heap.size ((two_a wr _ _).trans (heap_alloc_new wr _))
      have q3' := HCA.out ((wr.alloc (.cells Zc 5)).alloc (.cells #[.int .u8 102, .int .u8 (x : Int), .int .u8 (y : Int), .int .u8 (z : Int)] 5)).drew (wr.heap.size + 1) (two_b wr _ _)
      have r1' := HCZ.out (wr.alloc (.cells Zc 5)).drew wr.heap.size (heap_alloc_new wr _)
      have r2' := HCZ.out ((wr.alloc (.cells Zc 5)).alloc (.cells #[.int .u8 102, .int .u8 (x : Int), .int .u8 (y : Int), .int .u8 (z : Int)] 5)).drew wr.heap.size ((two_a wr _ _).trans (heap_alloc_new wr _))
      have r3' := HCZ.out ((wr.alloc (.cells #[.int .u8 102, .int .u8 (x : Int), .int .u8 (y : Int), .int .u8 (z : Int)] 5)).alloc (.cells Zc 5)).drew (wr.heap.size + 1) (two_b wr _ _)
      go_upto_region 7 with fail
      have HX1 : Hid ((((wr.alloc (.cells #[.int .u8 102, .int .u8 (x : Int), .int .u8 (y : Int), .int .u8 (z : Int)] 5)).alloc (.cells Zc 5)).alloc (.cells #[.string Ps, .string Zs] 32)).drew.ownsRow w.heap.size 32 2 u5 F.length (Sort.flatK encF 2 F.toArray).toList) := World.ownsRow.drew (((HO.out.1.alloc _).alloc _).alloc _)
      have HX2 : Hid ((((wr.alloc (.cells Zc 5)).alloc (.cells #[.int .u8 102, .int .u8 (x : Int), .int .u8 (y : Int), .int .u8 (z : Int)] 5)).alloc (.cells #[.string Ps, .string Zs] 32)).drew.ownsRow w.heap.size 32 2 u5 F.length (Sort.flatK encF 2 F.toArray).toList) := World.ownsRow.drew (((HO.out.1.alloc _).alloc _).alloc _)
      have hone : ∀ u ∈ [Value.string Ps, Value.string Zs], u.oneCell' = true := by intro u hu; simp at hu; rcases hu with rfl | rfl <;> rfl
      have HBA : Hid (∀ o q r : Obj, Below w.heap.size w (((wr.alloc o).alloc q).alloc r).drew) := fun o q r => (((HB.out.alloc hsz _).alloc (by simp [go_sem]; omega) _).alloc (by simp [go_sem]; omega) _).drew
      go_region_law ((first
        | refine step_append_own rfl _ _ 22 rfl w.heap.size 32 i0 (.agg #[.string .empty, .string .empty]) 2 32 Tryd.underlying22 hi hz0 hz1 hz2 rfl (by decide) u5 F.length _ rfl HX1.out ⟨wr.heap.size + 1 + 1, 0, none⟩ 1 1 [.string Ps, .string Zs] (by rfl) rfl (new_two _ _ _ _ (by simp [go_sem])) hone (by unfold maxLen; omega) (by omega) (by simp [go_sem]; omega) ?_
        | refine step_append_own rfl _ _ 22 rfl w.heap.size 32 i0 (.agg #[.string .empty, .string .empty]) 2 32 Tryd.underlying22 hi hz0 hz1 hz2 rfl (by decide) u5 F.length _ rfl HX2.out ⟨wr.heap.size + 1 + 1, 0, none⟩ 1 1 [.string Ps, .string Zs] (by rfl) rfl (new_two _ _ _ _ (by simp [go_sem])) hone (by unfold maxLen; omega) (by omega) (by simp [go_sem]; omega) ?_); intro v' w2 hown' hgrow; have HOW := hidM (OwnF.push (f := (Ps, Zs)) hown' (own_ne hown')); have HBW := hidM ((HBA.out _ _ _).grown hgrow (by simp [go_sem]; omega) (fun k hk => (World.ownsRow.lt HX1.out k hk).1)); clear hown' hgrow)
      all_goals
        clear m1 m2 q1' q2' q3' r1' r2' r3'
        go_wp2
        refine ⟨⟨k + 1, F ++ [(Ps, Zs)], by omega, by go_num, ?_, HOW.out, HBW.out⟩, ?_⟩
        · rw [fullF_next, ← HFK.out, HPS.out, HZS.out]
          obtain ⟨ea, eb, ec, ed, ex, ey, ez⟩ := HA.out
          unfold nameF zerosB
          rw [ex, ey, ez, ea, ec, eb, ed]
        · simp [intOf]; omega
    · have hkn' : ¬ (k : Int) < N := by omega
      have hke : k = N := by omega
      subst hke
      obtain ⟨g, cF, hv, hg1, hg2, hg3, hat⟩ := HO.out.shape
      subst hv
      have hFe := HFK.out
      have hsF : sizeF F = k * S := by rw [hFe, fullF_size]
      have hFk : F.length = k := by rw [hFe, fullF_len]
      have hkS : k * S ≤ 10500000 := Nat.le_trans (Nat.mul_le_mul hN hS) (by decide)
      have HNEW := hidM (new_any g 0 cF F wr hg2 hat (by rw [hsF]; omega) (by omega))
      have HOK := hidM (show OkF F by rw [hFe]; exact fullF_ok S k hN)
      rw [hFk] at HNEW
      rw [hFk]
      obtain ⟨M, hM⟩ : ∃ M, M = k * S := ⟨_, rfl⟩
      have hM' : (k : Int) * S = (M : Int) := by rw [hM]; simp
      have M7 : M ≤ 10500000 := by omega
      have HSF := hidM (show sizeF F = M by rw [hsF, hM])
      have HFK2 := hidM hFk
      clear hat hsF hkS hM hFe hFk
      go_wp2_with fail
      refine HNEW.out.mono ?_
      rintro e w1 ⟨hP, hb1⟩
      have HB1 := hidM (HB.out.trans (hb1.mono hsz))
      by_cases hbig : 2000 < k ∨ 4194304 < M
      · have hbF : bigF F := by unfold bigF; rw [HFK2.out, HSF.out]; exact hbig
        rcases hP with ⟨_, he⟩ | ⟨hn, _⟩ | ⟨hn, _⟩
        · unfold newR at he
          subst he
          clear hb1
          by_cases h2000 : 2000 < k
          · have g1 : (2000 : Int) < k := by omega
            go_wp2_with fail
            refine (awake7_any w1).mono ?_
            rintro e w2 ⟨rfl, hb2⟩
            have HB2 := hidM (HB1.out.trans (hb2.mono HB1.out.size))
            clear hb2
            go_wp2
            go_ret
            exact ⟨rfl, HB2.out⟩
          · have g1 : ¬ (2000 : Int) < k := by omega
            have g2 : (4194304 : Int) < M := by omega
            go_wp2_with fail
            refine (awake7_any w1).mono ?_
            rintro e w2 ⟨rfl, hb2⟩
            have HB2 := hidM (HB1.out.trans (hb2.mono HB1.out.size))
            clear hb2
            go_wp2
            go_ret
            exact ⟨rfl, HB2.out⟩
        · exact absurd hbF hn
        · exact absurd hbF hn
      · have hbF : ¬ bigF F := by unfold bigF; rw [HFK2.out, HSF.out]; exact hbig
        rcases hP with ⟨hn, _⟩ | ⟨_, hn, _⟩ | ⟨_, _, gs, q, b, c, hperm, hrise, hFol, hq, hb, he⟩
        · exact absurd hn hbF
        · exact absurd HOK.out hn
        · unfold newR at he
          subst he
          have g1 : ¬ (2000 : Int) < k := by omega
          have g2 : ¬ (4194304 : Int) < M := by omega
          have hgl : gs.length = k := by rw [hperm.length_eq, HFK2.out]
          have hgs : sizeF gs = M := by rw [sizeF_perm hperm, HSF.out]
          have hund : undF gs ⟨#[102]⟩ = gs := fullF_und (S := S) (k := k) (by rw [← HFK.out]; exact hperm)
          clear hb1
          go_wp2_with fail
          refine (awake7_any w1).mono ?_
          rintro e w2 ⟨rfl, hb2⟩
          have HB2 := hidM (HB1.out.trans (hb2.mono HB1.out.size))
          have hF2 := hFol.below hb2
          have gl6 : gs.length ≤ 1000000 := by omega
          clear hb2 hFol HB1
          go_wp2_with fail
          refine (len_any q b 0 c gs w2 hF2).mono ?_
          rintro e w3 ⟨rfl, hb3⟩
          rw [hb3, hgl]
          have HB3 := HB2
          have hF3 := hF2
          clear hb3 hF2 HB2
          go_wp2_with fail
          refine (sizes_any q b 0 c gs w2 hF3 (by omega) gl6).mono ?_
          rintro e w4 ⟨rfl, hb4⟩
          have HB4 := hidM (HB3.out.trans (hb4.mono HB3.out.size))
          have hF4 := hF3.below hb4
          rw [hgs]
          clear hb4 hF3 HB3
          go_wp2_with fail
          refine (Under_any q b 0 c gs ⟨#[102]⟩ w4 hF4 gl6 hrise.rise).mono ?_
          rintro e w5 ⟨⟨v5, hO5, rfl⟩, hb5⟩
          have HB5 := hidM (HB4.out.trans (hb5.mono HB4.out.size))
          rw [hund] at hO5
          obtain ⟨a5, c5, hv5, _⟩ := hO5.shape
          have hpl : (pathsL gs).length = k := by unfold pathsL; rw [List.length_map, hgl]
          rw [hpl] at hv5
          subst hv5
          clear hb5 hF4 HB4 hO5
          go_wp2
          go_ret
          exact ⟨rfl, HB5.out⟩

set_option maxHeartbeats 1000000 in
theorem full_walk (n s : Int) (w : World) :
    Calls Tryd.prog 4 #[.int .i64 n, .int .i64 s] w fun e w' => e = .returned (.bool true) ∧ Below w.heap.size w w' := by
  by_cases h1 : n < 0
  · go_enter Tryd.func4, Tryd.ntmps4
    go_wp2_with fail
    refine (awake7_any w).mono ?_
    rintro e w1 ⟨rfl, hb⟩
    go_wp2
    go_ret
    exact ⟨rfl, hb⟩
  by_cases h2 : 2100 < n
  · go_enter Tryd.func4, Tryd.ntmps4
    go_wp2_with fail
    refine (awake7_any w).mono ?_
    rintro e w1 ⟨rfl, hb⟩
    go_wp2
    go_ret
    exact ⟨rfl, hb⟩
  by_cases h3 : s < 0
  · go_enter Tryd.func4, Tryd.ntmps4
    go_wp2_with fail
    refine (awake7_any w).mono ?_
    rintro e w1 ⟨rfl, hb⟩
    go_wp2
    go_ret
    exact ⟨rfl, hb⟩
  by_cases h4 : 5000 < s
  · go_enter Tryd.func4, Tryd.ntmps4
    go_wp2_with fail
    refine (awake7_any w).mono ?_
    rintro e w1 ⟨rfl, hb⟩
    go_wp2
    go_ret
    exact ⟨rfl, hb⟩
  have e1 : n = ((n.toNat : Nat) : Int) := by omega
  have e2 : s = ((s.toNat : Nat) : Int) := by omega
  rw [e1, e2]
  exact full_loop n.toNat s.toNat w (by omega) (by omega)
end Go.Proofs.YtolohndbbnbfbaaDoor
