/-
  Walks of the document's SHA-1: turn, out, words.
-/
import Derived.Test.YtbodjopdhciaeabDoorSumP
import Derived.Deep.RegionHeld3
namespace Go.Proofs.YtbodjopdhciaeabDoor
open Go.RowKit

set_option maxHeartbeats 800000 in
theorem turn_any (x s : Nat) (w : World) (hx : x < 4294967296) (h1 : 0 < s) (h2 : s < 32) :
    Calls Tryd.prog 33 #[.int .u32 x, .int .i64 s] w fun e w' => e = .returned (.int .u32 (rotl s x : Nat)) ∧ ∃ n, w' = w.drewN n := by
  have e1 : ((x : Int) * 2 ^ s % 4294967296) = ((x * 2 ^ s % 4294967296 : Nat) : Int) := by simp
  have e2 : ((x : Int) / 2 ^ (32 - s)) = ((x / 2 ^ (32 - s) : Nat) : Int) := by simp
  have HV : Hid (bits .or .u32 ((x : Int) * 2 ^ s % 4294967296) ((x : Int) / 2 ^ (32 - s)) = ((rotl s x : Nat) : Int)) := by
    unfold Hid
    rw [e1, e2, u32_or_nat _ _ (Nat.mod_lt _ (by decide)) (Nat.lt_of_le_of_lt (Nat.div_le_self _ _) hx), rotl_or s x h2 hx]
  clear e1 e2
  have q1 : IntKind.i64.wrap (32 - (s : Int)) = ((32 - s : Nat) : Int) := by rw [i64_small _ (by omega) (by omega)]; omega
  have q2 : (0 : Int) ≤ (s : Int) := by omega
  have q3 : (0 : Int) ≤ ((32 - s : Nat) : Int) := by omega
  go_enter Tryd.func33, Tryd.ntmps33
  go_wp2
  go_quiet (fail)
  go_wp2
  go_ret
  exact ⟨ret_int HV.out, nq, rfl⟩

theorem Tryd.info30 : (Tryd.prog.info? 30).map (fun i => (i.zero, i.size, i.bytes)) = some (some (.int .u32 0), 1, 4) := by kernel_rfl
/-- The value v owns just the words l. -/
def OwnW (w : World) (base : Nat) (v : Value) (l : List Nat) : Prop := w.ownsRow base 30 1 v l.length (wordsV l)
theorem wordsV_app (l m : List Nat) : wordsV (l ++ m) = wordsV l ++ wordsV m := by simp [wordsV]
theorem ownW_push {w1 : World} {B : Nat} {v' : Value} {P : List Nat} {c : Nat} (h : w1.ownsRow B 30 1 v' (P.length + 1) (wordsV P ++ [.int .u32 (c : Int)])) : OwnW w1 B v' (P ++ [c]) := by
  unfold OwnW
  rw [wordsV_app]
  simpa [wordsV] using h
theorem OwnW.at {w : World} {B g n c : Nat} {l : List Nat} (h : OwnW w B (.slice (some ⟨g, 0, none⟩) n c) l) (j : Nat) (hj : j < l.length) : w.cell? ⟨g, j, none⟩ = some (.int .u32 (l.getD j 0 : Nat)) := by
  have := World.ownsRow.cells (g := g) h rfl j _ (wordsV_at l j hj)
  rw [Addr.add_lit, Nat.zero_add, getElem_D l j hj] at this
  exact this
theorem bytes_one (l : List UInt8) : ∀ u ∈ bytesV l, u.oneCell' = true := by
  intro u hu
  simp only [bytesV, List.mem_map] at hu
  obtain ⟨c, _, rfl⟩ := hu
  rfl
theorem own_app {w1 : World} {B : Nat} {v' : Value} {P Q : List UInt8} (h : w1.ownsRow B 5 1 v' (P.length + Q.length) (bytesV P ++ bytesV Q)) : OwnB w1 B v' (P ++ Q) := by
  unfold OwnB
  rw [List.length_append]
  simpa [bytesV] using h
theorem own_emptyB (w : World) : OwnB (w.alloc (.cells #[] 5)) w.heap.size (.slice (some ⟨w.heap.size, 0, none⟩) 0 0) [] :=
  World.ownsRow_lit w #[] 0 (Nat.le_refl _) (Nat.zero_le _) rfl
theorem own_emptyW (w : World) : OwnW (w.alloc (.cells #[] 30)) w.heap.size (.slice (some ⟨w.heap.size, 0, none⟩) 0 0) [] :=
  World.ownsRow_lit w #[] 0 (Nat.le_refl _) (Nat.zero_le _) rfl
/-- Words that are read from a slice. -/
def WAt (w : World) (a : Option Addr) (l : List Nat) : Prop := l = [] ∨ ∃ b off, a = some ⟨b, off, none⟩ ∧ ∀ i, i < l.length → w.cell? ⟨b, off + i, none⟩ = some (.int .u32 (l.getD i 0 : Nat))
theorem WAt.below {w w' : World} {a : Option Addr} {l : List Nat} (h : WAt w a l) (hb : Below w.heap.size w w') : WAt w' a l := by
  rcases h with h0 | ⟨b, off, rfl, hc⟩
  · exact .inl h0
  · exact .inr ⟨b, off, rfl, fun i hi => (hb.cell (p := ⟨b, off + i, none⟩) (World.block_lt_of_cell? w _ (hc i hi))).trans (hc i hi)⟩
theorem WAt.get {w : World} {a : Option Addr} {l : List Nat} (h : WAt w a l) (i : Nat) (hi : i < l.length) : ∃ b off, a = some ⟨b, off, none⟩ ∧ w.cell? ⟨b, off + i, none⟩ = some (.int .u32 (l.getD i 0 : Nat)) := by
  rcases h with h0 | ⟨b, off, rfl, hc⟩
  · subst h0; simp at hi
  · exact ⟨b, off, rfl, hc i hi⟩

set_option maxHeartbeats 1600000 in
theorem out_any (a : Option Addr) (cap n : Nat) (l : List Nat) (w : World) (hn : l.length = n) (hl : n ≤ 100) (hbd : ∀ j, l.getD j 0 < 4294967296) (hr : WAt w a l) :
    Calls Tryd.prog 34 #[.slice a n cap] w fun e w' => e = .returned (.string ⟨(wordsB l).toArray⟩) ∧ Below w.heap.size w w' := by
  obtain ⟨i0, hi, hz0, hz1, hz2⟩ := info_parts Tryd.info5
  have HR := hidM hr
  have HBD := hidM hbd
  have HN := hidM hn
  have HST := hidM (own_emptyB w)
  have HB0 : Hid (Below w.heap.size w (w.alloc (.cells #[] 5))) := (Below.refl _ _).alloc (Nat.le_refl _) _
  clear hr hbd hn
  go_enter Tryd.func34, Tryd.ntmps34
  go_wp2
  go_loopw [3, 5, 9] (fun v _ i wr => ∃ (k : Nat) (P : List UInt8), k ≤ n ∧ i = .int .i64 k ∧ P = wordsB (l.take k) ∧ OwnB wr w.heap.size v P ∧ Below w.heap.size w wr) (fun _ _ i _ => n - (intOf i).toNat)
  case atStart => exact ⟨0, [], Nat.zero_le _, rfl, rfl, HST.out, HB0.out⟩
  case round =>
    obtain ⟨k, P, hk, rfl, hP, hown, hbr⟩ := hrel
    have HO := hidM hown
    have HB := hidM hbr
    have HP := hidM hP
    have HPL : Hid (P.length = 4 * k) := by unfold Hid; rw [hP, wordsB_len, List.length_take, HN.out]; omega
    clear hown hbr hP HST HB0
    by_cases hlt : k < n
    · have hlk : k < l.length := by rw [HN.out]; exact hlt
      obtain ⟨b, off, rfl, hcell⟩ := (HR.out.below HB.out).get k hlk
      have hx := HBD.out k
      have HX : Hid (wordsB (l.take (k + 1)) = P ++ wordB (l.getD k 0)) := by
        unfold Hid
        rw [HP.out, ← wordsB_snoc, List.take_add_one, List.getElem?_eq_getElem hlk, getElem_D l k hlk]; rfl
      have kk : (k : Int) < (n : Int) := by omega
      generalize l.getD k 0 = x at *
      have HCL := hidM (word_cells x hx)
      have HBS := hidM HB.out.size
      have HWL : Hid ((wordB x).length = 4) := wordB_len x
      go_wp2_with (first
        | (at_builtin; refine wpList_append_own _ rfl _ _ 57 rfl w.heap.size 5 i0 (.int .u8 0) 1 1 Tryd.underlying57 hi hz0 hz1 hz2 rfl (by decide) _ _ _ rfl (World.ownsRow.alloc HO.out _) ⟨wr.heap.size, 0, none⟩ 4 4 (bytesV (wordB x)) ?c0 ?c6 ?c1 (bytes_one _) ?c3 ?c4 ?c5 ?_))
      case c0 => rfl
      case c6 => rw [bytesV_len, HWL.out]
      case c1 =>
        intro j u hj
        have h := range_new wr (bytesV (wordB x)) 5
        rw [← HCL.out] at h hj
        rw [Addr.add_lit]
        exact h j u hj
      case c3 => rw [HPL.out]; unfold maxLen; omega
      case c4 => rw [HPL.out]; omega
      case c5 => have := HBS.out; simp; omega
      intro v' w1 hown' hgrow _
      have HO1 : Hid (OwnB w1 w.heap.size v' (P ++ wordB x)) := own_app (by rw [HWL.out]; exact hown')
      have HB1 := hidM (below_push HO.out HB.out HBS.out hgrow)
      clear hown' hgrow
      go_wp2
      go_roundw
      case rel => exact ⟨k + 1, _, by omega, by go_num, HX.out.symm, HO1.out, HB1.out⟩
      case measure => simp [intOf]; omega
    · have HF : Hid (wordsB l = P) := by unfold Hid; rw [HP.out, List.take_of_length_le (by rw [HN.out]; omega)]
      have hconv := conv_own HO.out
      go_wp2
      go_ret
      exact ⟨by rw [HF.out]; rfl, HB.out⟩

theorem own_drew {w : World} {B : Nat} {e : TypeId} {sz : Nat} {v : Value} {n : Nat} {xs : List Value} (h : w.ownsRow B e sz v n xs) : w.drew.ownsRow B e sz v n xs := h
theorem cell_newW (w : World) (x : Nat) (v : Value) (hv : v = .int .u32 (x : Int)) : ∀ j u, [Value.int .u32 (x : Int)][j]? = some u → (w.alloc (.cells #[v] 30)).cell? ((⟨w.heap.size, 0, none⟩ : Addr).add j) = some u := by
  subst hv
  intro j u hj
  match j, hj with
  | 0, hj => simp at hj; subst hj; simp [Addr.add]
theorem belowW_push {w wr w1 : World} {B : Nat} {v : Value} {P : List Nat} {o : Obj} (hown : OwnW wr B v P) (hb : Below B w wr) (hB : B ≤ wr.heap.size) (hg : (wr.alloc o).drew.grownBy w1 v.ownBlock) : Below B w w1 :=
  (hb.alloc hB o).drew.grown hg (by simp; omega) (fun k hk => (World.ownsRow.lt hown k hk).1)

theorem one_word (x : Nat) : ∀ u ∈ [Value.int .u32 (x : Int)], u.oneCell' = true := by
  intro u hu
  simp at hu
  subst hu
  rfl
/-- Four cells are left alone by what grows elsewhere. -/
theorem keepG4 {w w1 : World} {o : Obj} {row : Option Nat} {b o0 o1 o2 o3 : Nat} {v0 v1 v2 v3 : Value} (hb : b < w.heap.size) (hne : some b ≠ row) (hg : (w.alloc o).drew.grownBy w1 row)
    (h0 : w.cell? ⟨b, o0, none⟩ = some v0) (h1 : w.cell? ⟨b, o1, none⟩ = some v1) (h2 : w.cell? ⟨b, o2, none⟩ = some v2) (h3 : w.cell? ⟨b, o3, none⟩ = some v3) :
    w1.cell? ⟨b, o0, none⟩ = some v0 ∧ w1.cell? ⟨b, o1, none⟩ = some v1 ∧ w1.cell? ⟨b, o2, none⟩ = some v2 ∧ w1.cell? ⟨b, o3, none⟩ = some v3 := by
  have hx : w1.heap[b]? = w.heap[b]? := (hg.block b (by simp; omega) hne).trans (Below.heap_alloc w o b hb)
  exact ⟨(World.cell?_of_block (a := ⟨b, o0, none⟩) hx).trans h0, (World.cell?_of_block (a := ⟨b, o1, none⟩) hx).trans h1, (World.cell?_of_block (a := ⟨b, o2, none⟩) hx).trans h2, (World.cell?_of_block (a := ⟨b, o3, none⟩) hx).trans h3⟩

set_option maxRecDepth 100000 in
set_option maxHeartbeats 3200000 in
theorem words_any (b off cap : Nat) (p : List UInt8) (w : World) (hp : p.length = 64) (hr : w.rangeAt b off (bytesV p)) (hb : b < w.heap.size) :
    Calls Tryd.prog 32 #[.slice (some ⟨b, off, none⟩) 64 cap] w fun e w' => (∃ v, e = .returned v ∧ OwnW w' w.heap.size v (words16 p)) ∧ Below w.heap.size w w' := by
  obtain ⟨i0, hi, hz0, hz1, hz2⟩ := info_parts Tryd.info30
  have HG : Hid (∀ j, j < 64 → w.cell? ⟨b, off + j, none⟩ = some (.int .u8 ((p.getD j 0).toNat : Int))) := by
    intro j hj
    have := hr j _ (bytesV_at p j (by omega))
    rw [this, List.getD_eq_getElem?_getD, List.getElem?_eq_getElem (by omega)]
    rfl
  have HST := hidM (own_emptyW w)
  have HB0 : Hid (Below w.heap.size w (w.alloc (.cells #[] 30))) := (Below.refl _ _).alloc (Nat.le_refl _) _
  clear hr hp
  go_enter Tryd.func32, Tryd.ntmps32
  go_wp2
  go_loopw [3, 4] (fun v i wr => ∃ (k q : Nat), k ≤ 16 ∧ q = 4 * k ∧ i = .int .i64 q ∧ OwnW wr w.heap.size v ((List.range k).map (blkW p)) ∧ Below w.heap.size w wr) (fun _ i _ => 64 - (intOf i).toNat)
  case atStart => exact ⟨0, 0, by decide, rfl, rfl, HST.out, HB0.out⟩
  case round =>
    obtain ⟨k, q, hk, hq, rfl, hown, hbr⟩ := hrel
    have HO := hidM hown
    have HB := hidM hbr
    clear hown hbr HST HB0
    by_cases hlt : k < 16
    · have g : ∀ j, j < 64 → wr.cell? ⟨b, off + j, none⟩ = some (.int .u8 ((p.getD j 0).toNat : Int)) := fun j hj => (HB.out.cell (p := ⟨b, off + j, none⟩) hb).trans (HG.out j hj)
      have HV : Hid ((blkW p k : Nat) = be4 (p.getD (4 * k) 0).toNat (p.getD (4 * k + 1) 0).toNat (p.getD (4 * k + 2) 0).toNat (p.getD (4 * k + 3) 0).toNat) := rfl
      obtain ⟨p1, e1⟩ : ∃ z, z = q + 1 := ⟨_, rfl⟩
      obtain ⟨p2, e2⟩ : ∃ z, z = q + 2 := ⟨_, rfl⟩
      obtain ⟨p3, e3⟩ : ∃ z, z = q + 3 := ⟨_, rfl⟩
      rw [← hq, ← e1, ← e2, ← e3] at HV
      have hw1 : IntKind.i64.wrap ((q : Int) + 1) = (p1 : Int) := by rw [i64_small _ (by omega) (by omega)]; omega
      have hw2 : IntKind.i64.wrap ((q : Int) + 2) = (p2 : Int) := by rw [i64_small _ (by omega) (by omega)]; omega
      have hw3 : IntKind.i64.wrap ((q : Int) + 3) = (p3 : Int) := by rw [i64_small _ (by omega) (by omega)]; omega
      have l0 : (q : Int) < 64 := by omega
      have l1 : (p1 : Int) < 64 := by omega
      have l2 : (p2 : Int) < 64 := by omega
      have l3 : (p3 : Int) < 64 := by omega
      have g0 := g q (by omega)
      have g1 := g p1 (by omega)
      have g2 := g p2 (by omega)
      have g3 := g p3 (by omega)
      have b0 := byte_lt (p.getD q 0)
      have b1 := byte_lt (p.getD p1 0)
      have b2 := byte_lt (p.getD p2 0)
      have b3 := byte_lt (p.getD p3 0)
      generalize (p.getD q 0).toNat = c0 at *
      generalize (p.getD p1 0).toNat = c1 at *
      generalize (p.getD p2 0).toNat = c2 at *
      generalize (p.getD p3 0).toNat = c3 at *
      obtain ⟨x, hx⟩ : ∃ x, x = blkW p k := ⟨_, rfl⟩
      have HX : Hid (x = be4 c0 c1 c2 c3) := by unfold Hid; rw [hx, HV.out]
      obtain ⟨d0, hd0⟩ : ∃ d, d = c0 * 16777216 := ⟨_, rfl⟩
      have m0 : IntKind.u32.wrap ((c0 : Int) * 16777216) = (d0 : Int) := by rw [IntKind.wrap_u32']; omega
      have n0 : (c0 : Int) * 16777216 % 4294967296 = (d0 : Int) := by omega
      obtain ⟨d1, hd1⟩ : ∃ d, d = c1 * 65536 := ⟨_, rfl⟩
      have m1 : IntKind.u32.wrap ((c1 : Int) * 65536) = (d1 : Int) := by rw [IntKind.wrap_u32']; omega
      have n1 : (c1 : Int) * 65536 % 4294967296 = (d1 : Int) := by omega
      obtain ⟨d2, hd2⟩ : ∃ d, d = c2 * 256 := ⟨_, rfl⟩
      have m2 : IntKind.u32.wrap ((c2 : Int) * 256) = (d2 : Int) := by rw [IntKind.wrap_u32']; omega
      have n2 : (c2 : Int) * 256 % 4294967296 = (d2 : Int) := by omega
      have v0 : IntKind.u32.wrap (c0 : Int) = (c0 : Int) := by rw [IntKind.wrap_u32']; omega
      have z0 : (c0 : Int) % 4294967296 = (c0 : Int) := by omega
      have v1 : IntKind.u32.wrap (c1 : Int) = (c1 : Int) := by rw [IntKind.wrap_u32']; omega
      have z1 : (c1 : Int) % 4294967296 = (c1 : Int) := by omega
      have v2 : IntKind.u32.wrap (c2 : Int) = (c2 : Int) := by rw [IntKind.wrap_u32']; omega
      have z2 : (c2 : Int) % 4294967296 = (c2 : Int) := by omega
      have v3 : IntKind.u32.wrap (c3 : Int) = (c3 : Int) := by rw [IntKind.wrap_u32']; omega
      have z3 : (c3 : Int) % 4294967296 = (c3 : Int) := by omega
      obtain ⟨s1, hs1⟩ : ∃ d, d = d0 + d1 := ⟨_, rfl⟩
      obtain ⟨s2, hs2⟩ : ∃ d, d = s1 + d2 := ⟨_, rfl⟩
      have a1 : IntKind.u32.wrap ((d0 : Int) + (d1 : Int)) = (s1 : Int) := by rw [IntKind.wrap_u32']; omega
      have a2 : IntKind.u32.wrap ((s1 : Int) + (d2 : Int)) = (s2 : Int) := by rw [IntKind.wrap_u32']; omega
      have a3 : IntKind.u32.wrap ((s2 : Int) + (c3 : Int)) = (x : Int) := by rw [IntKind.wrap_u32', HX.out]; unfold be4; omega
      clear hd0 hd1 hd2 hs1 hs2
      have HN : Hid ((List.range (k + 1)).map (blkW p) = (List.range k).map (blkW p) ++ [x]) := by unfold Hid; rw [List.range_succ, List.map_append, hx]; rfl
      have HL : Hid (((List.range k).map (blkW p)).length = k) := by unfold Hid; simp
      have HBS := hidM HB.out.size
      have HNE : Hid (b < wr.heap.size) := Nat.lt_of_lt_of_le hb HBS.out
      generalize (List.range k).map (blkW p) = P at *
      have HQ := hidM hq
      have HGB : Hid (some b ≠ Value.ownBlock u3) := by
        intro he
        have := (World.ownsRow.lt HO.out b he.symm).1
        omega
      have HM1 : Hid (P.length + 1 ≤ maxLen) := by unfold Hid; rw [HL.out]; unfold maxLen; omega
      have HM2 : Hid ((P.length + 1) * 4 ≤ 140737488355328) := by unfold Hid; rw [HL.out]; omega
      have HOA : Hid ((wr.alloc (.cells #[.int .u32 (x : Int)] 30)).drew.ownsRow w.heap.size 30 1 u3 P.length (wordsV P)) := World.ownsRow.alloc HO.out _
      have HCA : Hid (∀ j u, [Value.int .u32 (x : Int)][j]? = some u → (wr.alloc (.cells #[.int .u32 (x : Int)] 30)).drew.cell? ((⟨wr.heap.size, 0, none⟩ : Addr).add j) = some u) := cell_newW wr x _ rfl
      have HM3 : Hid (w.heap.size ≤ (wr.alloc (.cells #[.int .u32 (x : Int)] 30)).drew.heap.size) := by unfold Hid; have := HBS.out; simp; omega
      have hq1 : 4 * k ≤ q := by omega
      have hq2 : q ≤ 4 * k := by omega
      clear hx g e1 e2 e3 hq
      go_wp2_with fail
      go_region_held3 (fun w' => w'.cell? ⟨b, off + q, none⟩ = some (.int .u8 (c0 : Int)) ∧ w'.cell? ⟨b, off + p1, none⟩ = some (.int .u8 (c1 : Int)) ∧ w'.cell? ⟨b, off + p2, none⟩ = some (.int .u8 (c2 : Int)) ∧ w'.cell? ⟨b, off + p3, none⟩ = some (.int .u8 (c3 : Int))) (first | exact keepG4 HNE.out HGB.out hgrow g0 g1 g2 g3 | go_keep)
        (first | (refine step_append_own rfl _ _ 26 rfl w.heap.size 30 i0 (.int .u32 0) 1 4 Tryd.underlying26 hi hz0 hz1 hz2 rfl (by decide) _ P.length (wordsV P) rfl HOA.out ⟨wr.heap.size, 0, none⟩ 1 1 [.int .u32 (x : Int)] (by rfl) rfl HCA.out (one_word x) HM1.out HM2.out HM3.out ?_; intro v' w2 hown' hgrow; have HO1 := hidM (ownW_push hown'); have HB1 := hidM (belowW_push HO.out HB.out HBS.out hgrow); clear hown'))
      clear hgrow
      go_wp2
      go_roundw
      case rel => exact ⟨k + 1, q + 4, by omega, by have := HQ.out; omega, by go_num, by rw [HN.out]; exact HO1.out, HB1.out⟩
      case measure => simp [intOf]; omega
    · have hq64 : ¬ (q : Int) < 64 := by omega
      have HW : Hid (OwnW wr w.heap.size u3 (words16 p)) := by
        have := HO.out
        rw [show k = 16 by omega] at this
        exact this
      clear hq
      go_wp2
      go_ret
      exact ⟨⟨_, rfl, HW.out⟩, HB.out⟩
end Go.Proofs.YtbodjopdhciaeabDoor
