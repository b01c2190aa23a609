/-
  RefsHops, the law's walk.
  The way to the card where the road reads a variable that no laid table ties: the world that the card hands on is of its shape, and this says what the variable holds.
  A heap into which the listed tables are laid meets the rows' condition.
-/
import Derived.Test.YtjoomlpocpdonaaDoorJRfW
import Derived.OwnWalk
import Derived.Laws.OwnMore
import Derived.Laws.BytesString
import Derived.Handed
import Derived.SizedLaws
import Derived.ChangeOld
import Derived.ShutString
import Derived.Shelf.Vars
import Derived.Test.YtjoomlpocpdonaaDoorRows
import Derived.ProofKit
import Derived.Lay
import Derived.LaidMore
import Derived.OpenShut
import Derived.Stop.Joined
import Derived.Stop.LaidErr
import Derived.Lib.LaidTab
namespace Go.Proofs.YtjoomlpocpdonaaDoor
open Go.RowKit

def toF (l : List (List UInt8 × List UInt8)) : List FileB := l.map fun f => (mkB f.1, mkB f.2)
def hopF (n : Nat) (r : Bool) : List FileB := toF (hopsH n r)
def flatF (fs : List FileB) : List Value := fs.flatMap fun f => [.string f.1, .string f.2]
theorem flatF_app (a b : List FileB) : flatF (a ++ b) = flatF a ++ flatF b := by unfold flatF; rw [List.flatMap_append]
theorem flatF_get : ∀ (fs : List FileB) (i : Nat) (h : i < fs.length), (flatF fs)[i * 2]? = some (.string fs[i].1) ∧ (flatF fs)[i * 2 + 1]? = some (.string fs[i].2)
  | [], i, h => by simp at h
  | f :: fs, 0, h => by simp [flatF]
  | f :: fs, i + 1, h => by
    have ih := flatF_get fs i (by simpa using h)
    have e : flatF (f :: fs) = .string f.1 :: .string f.2 :: flatF fs := by simp [flatF]
    rw [e, show (i + 1) * 2 = i * 2 + 2 by omega, show i * 2 + 2 + 1 = i * 2 + 1 + 2 by omega]
    simpa using ih
def OwnF (w : World) (B : Nat) (v : Value) (fs : List FileB) : Prop := w.ownsRow B 26 2 v fs.length (flatF fs)
theorem OwnF.push {w : World} {B : Nat} {v : Value} {fs : List FileB} {f : FileB} (h : w.ownsRow B 26 2 v (fs.length + 1) (flatF fs ++ [.string f.1, .string f.2])) : OwnF w B v (fs ++ [f]) := by
  unfold OwnF
  rw [flatF_app, List.length_append]
  exact h
theorem OwnF.files {w : World} {B : Nat} {v : Value} {fs : List FileB} (h : OwnF w B v fs) (hne : fs ≠ []) : ∃ g c, v = .slice (some ⟨g, 0, none⟩) fs.length c ∧ B ≤ g ∧ g < w.heap.size ∧ FilesAt w g 0 fs := by
  have h' := h
  rcases h.2 with ⟨hnil, hn⟩ | ⟨g, cap, cur, rfl, hbase, hbk, h1, h2, h3, h4⟩
  · exact absurd (List.eq_nil_of_length_eq_zero hn) hne
  · refine ⟨g, cap, rfl, hbase, (Array.getElem?_eq_some_iff.1 hbk).1, fun i hi => ?_⟩
    have hh := flatF_get fs i hi
    have c1 := World.ownsRow.cells h' (g := g) rfl (i * 2) _ hh.1
    have c2 := World.ownsRow.cells h' (g := g) rfl (i * 2 + 1) _ hh.2
    rw [Addr.add_lit] at c1 c2
    exact ⟨c1, by rw [show 0 + i * 2 + 1 = 0 + (i * 2 + 1) by omega]; exact c2⟩
theorem getL_toF (l : List (List UInt8 × List UInt8)) (p : List UInt8) : getL (toF l) p = getH l p := by
  unfold getL getH toF
  induction l with
  | nil => rfl
  | cons f l ih =>
    rw [List.map_cons, List.find?_cons, List.find?_cons]
    simp only [mkB_list]
    cases h : f.1 == p with
    | true => simp [mkB_list]
    | false => exact ih
theorem mkB_inj {a b : List UInt8} (h : mkB a = mkB b) : a = b := by
  have := congrArg (fun x : ByteArray => x.data.toList) h
  simpa [mkB_list] using this
theorem toF_ok {l : List (List UInt8 × List UInt8)} (h : okH l = true) : OkF (toF l) := by
  unfold okH at h
  simp only [Bool.and_eq_true, List.all_eq_true, decide_eq_true_eq, Bool.not_eq_true'] at h
  obtain ⟨h1, h2⟩ := h
  refine ⟨fun f hf => ?_, ?_, fun f hf g hg => ?_⟩
  · obtain ⟨x, hx, rfl⟩ := List.mem_map.1 hf
    rw [clean_eq, mkB_list]; exact (h1 x hx).1
  · unfold Apart toF
    rw [List.pairwise_map]
    have h3 : (l.map Prod.fst).Pairwise (· ≠ ·) := h2
    rw [List.pairwise_map] at h3
    exact h3.imp fun hne e => hne (mkB_inj e)
  · obtain ⟨x, hx, rfl⟩ := List.mem_map.1 hf
    obtain ⟨y, hy, rfl⟩ := List.mem_map.1 hg
    unfold beginsF
    rw [ByteArray.data_append, Array.toList_append, mkB_list, mkB_list]
    exact (h1 x hx).2 y hy
theorem hopF_small : ∀ n, n < 31 → ∀ r : Bool, sizeF (hopF n r) ≤ 100000 := by decide +kernel
theorem hopF_len (n : Nat) (r : Bool) : (hopF n r).length = n + 1 := by simp [hopF, toF, hopsH, preH]
theorem hopF_data : ∀ n, n < 31 → ∀ r : Bool, (hopF n r).all (fun f => decide (f.2.size ≤ 4194304)) = true := by decide +kernel
theorem preF_next (k : Nat) : toF (preH (k + 1)) = toF (preH k) ++ [(mkB (nH k), mkB (dH k))] := by
  unfold preH toF
  rw [List.range_succ, List.map_append, List.map_append]; rfl
theorem preF_len (k : Nat) : (toF (preH k)).length = k := by simp [toF, preH]
theorem hopF_end (n : Nat) (r : Bool) : hopF n r = toF (preH n) ++ [(mkB (nH n), mkB (lastH r))] := by
  unfold hopF hopsH toF
  rw [List.map_append]; rfl
theorem next_eq (k : Nat) : (⟨#[114, 101, 102, 115, 47, 104, 101, 97, 100, 115, 47, 98]⟩ : ByteArray) ++ ⟨#[UInt8.ofNat (97 + k)]⟩ = mkB (bH k) := ba_eq (by
  rw [mkB_list, ByteArray.data_append, Array.toList_append]; rfl)
theorem lead_eq (k : Nat) : (⟨#[114, 101, 102, 58, 32]⟩ : ByteArray) ++ mkB (bH k) = mkB (leadL ++ bH k) := ba_eq (by
  rw [mkB_list, ByteArray.data_append, Array.toList_append, mkB_list]; rfl)
theorem data_eq (k : Nat) : mkB (leadL ++ bH k) ++ (⟨#[10]⟩ : ByteArray) = mkB (dH k) := ba_eq (by
  rw [mkB_list, ByteArray.data_append, Array.toList_append, mkB_list]; rfl)
theorem last_eq : (⟨#[52, 98, 56, 50, 53, 100, 99, 54, 52, 50, 99, 98, 54, 101, 98, 57, 97, 48, 54, 48, 101, 53, 52, 98, 102, 56, 100, 54, 57, 50, 56, 56, 102, 98, 101, 101, 52, 57, 48, 52]⟩ : ByteArray) ++ ⟨#[10]⟩ = mkB (lastH false) := ba_eq (by
  rw [mkB_list, ByteArray.data_append, Array.toList_append]; rfl)
theorem text_hops {n : Nat} (h : n < 31) (r : Bool) {gs : List FileB} (hp : gs.Perm (hopF n r)) (ha : Apart gs) : parsed (textL gs) = (0, []) := by
  have h1 : getL gs packedL = none := by
    rw [getL_perm hp ha ((Apart.perm hp).1 ha)]
    unfold hopF
    rw [getL_toF]; exact hops_absent n h r
  unfold textL
  rw [h1]; rfl
theorem look_hops {n : Nat} (h : n < 31) (r : Bool) {gs : List FileB} (hp : gs.Perm (hopF n r)) (ha : Apart gs) : lookL (getL gs) [] (⟨#[72, 69, 65, 68]⟩ : ByteArray).data.toList = if r || decide (5 < n) then (9, []) else (0, idH) := by
  have h1 : getL gs = getH (hopsH n r) := by
    funext p
    rw [getL_perm hp ha ((Apart.perm hp).1 ha)]
    unfold hopF
    rw [getL_toF]
  rw [h1]; exact hops_look n h r
set_option maxRecDepth 100000 in
set_option maxHeartbeats 800000 in
theorem hops_tail (n : Nat) (r : Bool) (w w1 : World) (v : Value) (h : OwnF w1 w.heap.size v (hopF n r)) (hb : Below w.heap.size w w1) (hn : n ≤ 30) :
    ∃ g c, v = .slice (some ⟨g, 0, none⟩) (n + 1) c ∧ Calls Tryd.prog 6 #[v] w1 fun e w' => Below w.heap.size w w' ∧ ∃ gs q b c, Folder w' q b 0 c gs ∧ RiseS gs ∧ gs.length ≤ 2000 ∧ (∀ f ∈ gs, f.2.size ≤ 4194304) ∧ gs.Perm (hopF n r) ∧ e = .returned (.tuple #[.pointer (some ⟨q, 0, none⟩), .int .i64 0]) := by
  have hl := hopF_len n r
  obtain ⟨g, c, rfl, _, hgl, hF⟩ := h.files (by intro e; rw [e] at hl; simp at hl)
  refine ⟨g, c, by rw [hl], ?_⟩
  have hs := hopF_small n (by omega) r
  refine (new_any g 0 c (hopF n r) w1 hgl hF (by omega) (by omega)).mono fun e w' ⟨hp, hb1⟩ => ?_
  rcases hp with ⟨hx, _⟩ | ⟨_, hx, _⟩ | ⟨_,_, gs, q, b, c2, hperm, hrs, hF2, _,_, rfl⟩
  · exfalso
    unfold bigF at hx
    omega
  · exact absurd (toF_ok (hops_ok n (by omega) r)) hx
  · refine ⟨hb.trans (hb1.mono hb.size), gs, q, b, c2, hF2, hrs, ?_, fun f hf => ?_, hperm, rfl⟩
    · rw [hperm.length_eq]; omega
    · have := hopF_data n (by omega) r
      rw [List.all_eq_true] at this
      simpa using this f (hperm.mem_iff.1 hf)
set_option maxRecDepth 100000 in
set_option maxHeartbeats 1600000 in
theorem hops_walk (n : Nat) (r : Bool) (m : Int) (w : World) (hg : GOk m w) (hn : n ≤ 30) :
    Calls Tryd.prog 3 #[.int .i64 (n : Int), .bool r] w fun e w' => e = .returned (.bool true) ∧ Below w.heap.size w w' := by
  have HG := hidM hg
  clear hg
  have n1 : ¬ (n : Int) < 0 := by omega
  have n2 : ¬ (30 : Int) < (n : Int) := by omega
  obtain ⟨i0, hi, hz0, hz1, hz2⟩ := info_parts info32
  have HO0 : Hid (OwnF (w.alloc (.cells #[] 26)) w.heap.size (.slice (some ⟨w.heap.size, 0, none⟩) 0 0) []) := World.ownsRow_made w #[] 0 (Nat.le_refl _) (Nat.zero_le _) (by simp)
  have HB0 : Hid (Below w.heap.size w (w.alloc (.cells #[] 26))) := (Below.refl _ _).alloc (Nat.le_refl _) _
  go_enter Tryd.func3, Tryd.ntmps3
  go_wp2_with fail
  go_loopw [6, 7, 8] (fun v nm i wr => ∃ (k : Nat), k ≤ n ∧ i = .int .i64 k ∧ nm = .string (mkB (nH k)) ∧ OwnF wr w.heap.size v (toF (preH k)) ∧ Below w.heap.size w wr) (fun _ _ i _ => n - (intOf i).toNat)
  case atStart => exact ⟨0, Nat.zero_le _, rfl, rfl, HO0.out, HB0.out⟩
  case round =>
    obtain ⟨k, hk, rfl, rfl, hown, hbr⟩ := hrel
    have HO := hidM hown
    have HB := hidM hbr
    have hsz := hbr.size
    clear hown hbr HO0 HB0
    by_cases hlt : k < n
    · have kk : (k : Int) < (n : Int) := by omega
      obtain ⟨ch, hch⟩ : ∃ ch, UInt8.ofNat (97 + k) = ch := ⟨_, rfl⟩
      have hcv : (convert 24 9 (.slice (some ⟨wr.heap.size, 0, none⟩) 1 1)).run Tryd.prog (wr.alloc (.cells #[.int .u8 (97 + (k : Int))] 5)) = .ok (.string ⟨#[ch]⟩) (wr.alloc (.cells #[.int .u8 (97 + (k : Int))] 5)) := by
        refine run_convert_bytes_back _ 24 9 5 _ 1 [ch] Tryd.underlying24 Tryd.underlying5 Tryd.underlying9 ?_
        intro j hj
        obtain rfl : j = 0 := by simp at hj; exact hj
        have e : (ch.toNat : Int) = 97 + (k : Int) := by
          rw [← hch, UInt8.toNat_ofNat']
          omega
        rw [Addr.add_lit, World.cell?_alloc_mark _ _ 5 (0, 0) _]
        show some (Value.int .u8 (97 + (k : Int))) = some (.int .u8 ((ch.toNat : Nat) : Int))
        rw [e]
      have q1 := next_eq k
      rw [hch] at q1
      have q2 := lead_eq k
      have q3 := data_eq k
      have HPN := hidM (preF_next k)
      have HPL := hidM (preF_len k)
      have HNN : Hid (nH (k + 1) = bH k) := rfl
      have z1 : (mkB (bH k)).size = 13 := by rw [mkB_size]; rfl
      have z2 : (mkB (leadL ++ bH k)).size = 18 := by rw [mkB_size]; rfl
      have HK : Hid (∀ W v, OwnF W w.heap.size v (toF (preH k) ++ [(mkB (nH k), mkB (dH k))]) → OwnF W w.heap.size v (toF (preH (k + 1)))) := fun W v h => by rw [HPN.out]; exact h
      have HO2 : Hid (wr.ownsRow w.heap.size 26 2 u6 k (flatF (toF (preH k)))) := by
        have := HO.out
        unfold OwnF at this
        rwa [HPL.out] at this
      have HPU : Hid (∀ (W : World) v, W.ownsRow w.heap.size 26 2 v (k + 1) (flatF (toF (preH k)) ++ [.string (mkB (nH k)), .string (mkB (dH k))]) → OwnF W w.heap.size v (toF (preH (k + 1)))) := fun W v h => HK.out W v (OwnF.push (by rw [HPL.out]; exact h))
      clear HO HPN HPL HK
      generalize flatF (toF (preH k)) = FL at *
      generalize mkB (nH k) = NK at *
      generalize hNX : mkB (bH k) = NX at *
      generalize mkB (leadL ++ bH k) = X1 at *
      generalize mkB (dH k) = DX at *
      have HNX : Hid (mkB (nH (k + 1)) = NX) := hNX
      clear hNX HNN hch
      go_wp2_with (first
        | (at_builtin; refine wpList_append_own _ rfl _ _ 23 rfl w.heap.size 26 i0 (.agg #[.string .empty, .string .empty]) 2 32 Tryd.underlying23 hi hz0 hz1 hz2 rfl (by decide) _ _ _ rfl ((World.ownsRow.alloc (World.ownsRow.alloc HO2.out _) _)) ⟨wr.heap.size + 1, 0, none⟩ 1 1 [.string NK, .string DX] ?d0 rfl ?d1 ?d2 ?d3 ?d4 ?d5 ?_))
      case d0 => rfl
      case d1 =>
        intro j u hj
        rw [Addr.add_lit]
        have hq := World.cell?_alloc_mark (wr.alloc (.cells #[.int .u8 (97 + (k : Int))] 5)) #[.string NK, .string DX] 26 (0, 0) (0 + j)
        rw [show (wr.alloc (.cells #[.int .u8 (97 + (k : Int))] 5)).heap.size = wr.heap.size + 1 by simp] at hq
        rw [hq, Nat.zero_add]
        simpa using hj
      case d2 =>
        intro u hu
        simp only [List.mem_cons, List.not_mem_nil, or_false] at hu
        rcases hu with rfl | rfl <;> rfl
      case d3 => unfold maxLen; omega
      case d4 => omega
      case d5 => simp; omega
      intro v' w2 hown' hgrow _
      have HO3 := hidM (HPU.out w2 v' hown')
      have HB2 : Hid (Below w.heap.size w w2) := ((HB.out.alloc hsz _).alloc (by simp; omega) _).grown hgrow (by simp; omega) (fun j hj => (World.ownsRow.lt HO2.out j hj).1)
      clear hown' hgrow
      go_wp2_with fail
      go_roundw
      case rel => exact ⟨k + 1, by omega, by go_num, by rw [HNX.out], HO3.out, HB2.out⟩
      case measure => (show n - ((k : Int) + 1).toNat < n - ((k : Int)).toNat); omega
    · obtain rfl : k = n := by omega
      have HPL := hidM (preF_len k)
      have HO2 : Hid (wr.ownsRow w.heap.size 26 2 u6 k (flatF (toF (preH k)))) := by
        have := HO.out
        unfold OwnF at this
        rwa [HPL.out] at this
      have q4 := last_eq
      have HPU : Hid (∀ (W : World) v (d : ByteArray), d = mkB (lastH r) → W.ownsRow w.heap.size 26 2 v (k + 1) (flatF (toF (preH k)) ++ [.string (mkB (nH k)), .string d]) → OwnF W w.heap.size v (hopF k r)) := fun W v d hd h => by
        rw [hopF_end, ← hd]
        exact OwnF.push (by rw [HPL.out]; exact h)
      clear HO HPL
      generalize flatF (toF (preH k)) = FL at *
      generalize mkB (nH k) = NK at *
      cases r with
      | true =>
        have HLS : Hid ((⟨#[114, 101, 102, 58, 32, 72, 69, 65, 68, 10]⟩ : ByteArray) = mkB (lastH true)) := rfl
        go_wp2_with (first
          | (at_builtin; refine wpList_append_own _ rfl _ _ 23 rfl w.heap.size 26 i0 (.agg #[.string .empty, .string .empty]) 2 32 Tryd.underlying23 hi hz0 hz1 hz2 rfl (by decide) _ _ _ rfl (World.ownsRow.alloc HO2.out _) ⟨wr.heap.size, 0, none⟩ 1 1 [.string NK, .string ⟨#[114, 101, 102, 58, 32, 72, 69, 65, 68, 10]⟩] ?p0 rfl ?p1 ?p2 ?p3 ?p4 ?p5 ?_))
        case p2 => exact ⟨rfl, rfl⟩
        case p3 => unfold maxLen; omega
        case p4 => omega
        case p5 => omega
        intro v' w2 hown' hgrow _
        have HO3 := hidM (HPU.out w2 v' _ HLS.out hown')
        have HB2 : Hid (Below w.heap.size w w2) := (HB.out.alloc hsz _).grown hgrow (by simp; omega) (fun j hj => (World.ownsRow.lt HO2.out j hj).1)
        clear hown' hgrow HO2 HPU HB
        obtain ⟨g, c, rfl, HNW⟩ := hops_tail k true w w2 v' HO3.out HB2.out hn
        have HNW := hidM HNW
        clear HO3
        go_wp2_with fail
        refine HNW.out.mono ?_
        rintro _ w3 ⟨hb3, gs, q, b, c2, hF, hrs, hgl, hgz, hperm, rfl⟩
        have HB3 := hidM hb3
        have HO := hidM (open_any q b 0 c2 gs m w3 hF hrs hgl hgz (HG.out.below hb3))
        have HPE := hidM hperm
        have HAP := hidM hrs.apart
        clear hb3 hF hrs hgl hgz hperm HNW
        go_wp2_with fail
        refine HO.out.mono ?_
        rintro _ w4 ⟨hp4, hb4⟩
        have HB4 := hidM (HB3.out.trans (hb4.mono HB3.out.size))
        unfold OpenPost at hp4
        rw [text_hops (by omega) true HPE.out HAP.out] at hp4
        rcases hp4 with ⟨hx, _⟩ | ⟨_, rr, mb, hr, hR, rfl⟩
        · exact absurd rfl hx
        have HL := hidM (lookup_any rr b 0 c2 mb gs [] ⟨#[72, 69, 65, 68]⟩ m w4 hR (HG.out.below HB4.out))
        rw [look_hops (by omega) true HPE.out HAP.out] at HL
        clear hb4 hr hR HO HPE HAP HB3
        rw [if_pos (by rfl)] at HL
        have HL2 : Hid (Calls Tryd.prog 8 #[.pointer (some ⟨rr, 0, none⟩), .string ⟨#[72, 69, 65, 68]⟩] w4 fun e w' => e = .returned (.tuple #[.string .empty, .int .i64 9]) ∧ Below w4.heap.size w4 w') := HL.out
        clear HL
        go_wp2_with fail
        refine HL2.out.mono ?_
        rintro _ w5 ⟨rfl, hb5⟩
        have HB5 := hidM (HB4.out.trans (hb5.mono HB4.out.size))
        clear hb5 HL2 HB4
        go_wp2_with fail
        refine (awake_any m w5 (HG.out.below HB5.out)).mono ?_
        rintro _ w6 ⟨rfl, hb6⟩
        have HB6 := hidM (HB5.out.trans (hb6.mono HB5.out.size))
        clear hb6 HB5
        go_wp2_with fail
        go_ret
        exact ⟨rfl, HB6.out⟩
      | false =>
        generalize hLB : mkB (lastH false) = LB at *
        have HLB := hidM hLB
        clear hLB
        go_wp2_with (first
          | (at_builtin; refine wpList_append_own _ rfl _ _ 23 rfl w.heap.size 26 i0 (.agg #[.string .empty, .string .empty]) 2 32 Tryd.underlying23 hi hz0 hz1 hz2 rfl (by decide) _ _ _ rfl (World.ownsRow.alloc HO2.out _) ⟨wr.heap.size, 0, none⟩ 1 1 [.string NK, .string LB] ?e0 rfl ?e1 ?e2 ?e3 ?e4 ?e5 ?_))
        case e2 => exact ⟨rfl, rfl⟩
        case e3 => unfold maxLen; omega
        case e4 => omega
        case e5 => omega
        intro v' w2 hown' hgrow _
        have HO3 := hidM (HPU.out w2 v' _ rfl hown')
        have HB2 : Hid (Below w.heap.size w w2) := (HB.out.alloc hsz _).grown hgrow (by simp; omega) (fun j hj => (World.ownsRow.lt HO2.out j hj).1)
        clear hown' hgrow HO2 HPU HB
        obtain ⟨g, c, rfl, HNW⟩ := hops_tail k false w w2 v' HO3.out HB2.out hn
        have HNW := hidM HNW
        clear HO3
        go_wp2_with fail
        refine HNW.out.mono ?_
        rintro _ w3 ⟨hb3, gs, q, b, c2, hF, hrs, hgl, hgz, hperm, rfl⟩
        have HB3 := hidM hb3
        have HO := hidM (open_any q b 0 c2 gs m w3 hF hrs hgl hgz (HG.out.below hb3))
        have HPE := hidM hperm
        have HAP := hidM hrs.apart
        clear hb3 hF hrs hgl hgz hperm HNW
        go_wp2_with fail
        refine HO.out.mono ?_
        rintro _ w4 ⟨hp4, hb4⟩
        have HB4 := hidM (HB3.out.trans (hb4.mono HB3.out.size))
        unfold OpenPost at hp4
        rw [text_hops (by omega) false HPE.out HAP.out] at hp4
        rcases hp4 with ⟨hx, _⟩ | ⟨_, rr, mb, hr, hR, rfl⟩
        · exact absurd rfl hx
        have HL := hidM (lookup_any rr b 0 c2 mb gs [] ⟨#[72, 69, 65, 68]⟩ m w4 hR (HG.out.below HB4.out))
        rw [look_hops (by omega) false HPE.out HAP.out] at HL
        clear hb4 hr hR HO HPE HAP HB3
        by_cases h5 : 5 < k
        · have g5 : (5 : Int) < (k : Int) := by omega
          rw [if_pos (by simpa using h5)] at HL
          have HL2 : Hid (Calls Tryd.prog 8 #[.pointer (some ⟨rr, 0, none⟩), .string ⟨#[72, 69, 65, 68]⟩] w4 fun e w' => e = .returned (.tuple #[.string .empty, .int .i64 9]) ∧ Below w4.heap.size w4 w') := HL.out
          clear HL
          go_wp2_with fail
          refine HL2.out.mono ?_
          rintro _ w5 ⟨rfl, hb5⟩
          have HB5 := hidM (HB4.out.trans (hb5.mono HB4.out.size))
          clear hb5 HL2 HB4
          go_wp2_with fail
          refine (awake_any m w5 (HG.out.below HB5.out)).mono ?_
          rintro _ w6 ⟨rfl, hb6⟩
          have HB6 := hidM (HB5.out.trans (hb6.mono HB5.out.size))
          clear hb6 HB5
          go_wp2_with fail
          go_ret
          exact ⟨rfl, HB6.out⟩
        · have g5 : ¬ (5 : Int) < (k : Int) := by omega
          rw [if_neg (by simpa using h5)] at HL
          have HL2 : Hid (Calls Tryd.prog 8 #[.pointer (some ⟨rr, 0, none⟩), .string ⟨#[72, 69, 65, 68]⟩] w4 fun e w' => e = .returned (.tuple #[.string ⟨#[52, 98, 56, 50, 53, 100, 99, 54, 52, 50, 99, 98, 54, 101, 98, 57, 97, 48, 54, 48, 101, 53, 52, 98, 102, 56, 100, 54, 57, 50, 56, 56, 102, 98, 101, 101, 52, 57, 48, 52]⟩, .int .i64 0]) ∧ Below w4.heap.size w4 w') := HL.out
          clear HL
          go_wp2_with fail
          refine HL2.out.mono ?_
          rintro _ w5 ⟨rfl, hb5⟩
          have HB5 := hidM (HB4.out.trans (hb5.mono HB4.out.size))
          clear hb5 HL2 HB4
          go_wp2_with fail
          refine (awake_any m w5 (HG.out.below HB5.out)).mono ?_
          rintro _ w6 ⟨rfl, hb6⟩
          have HB6 := hidM (HB5.out.trans (hb6.mono HB5.out.size))
          clear hb6 HB5
          go_wp2_with fail
          go_ret
          exact ⟨rfl, HB6.out⟩
theorem hops_any (z : Int) (r : Bool) (m : Int) (w : World) (hm : w.cell? ⟨0, 0, none⟩ = some (.int .i64 m)) :
    Calls Tryd.prog 3 #[.int .i64 z, .bool r] w fun e w' => e = .returned (.bool true) ∧ Below w.heap.size w w' := by
  have h0lt : 0 < w.heap.size := by
    rcases Nat.lt_or_ge 0 w.heap.size with h | h
    · exact h
    · unfold World.cell? at hm
      rw [Array.getElem?_eq_none (by simpa using h)] at hm
      cases hm
  have HG : Hid (GOk m w) := ⟨h0lt, hm⟩
  clear hm h0lt
  by_cases h1 : z < 0
  · go_enter Tryd.func3, Tryd.ntmps3
    go_wp2_with fail
    refine (awake_any m w HG.out).mono ?_
    rintro _ w1 ⟨rfl, hb1⟩
    have HB1 := hidM hb1
    clear hb1
    go_wp2_with fail
    go_ret
    exact ⟨rfl, HB1.out⟩
  by_cases h2 : 30 < z
  · go_enter Tryd.func3, Tryd.ntmps3
    go_wp2_with fail
    refine (awake_any m w HG.out).mono ?_
    rintro _ w1 ⟨rfl, hb1⟩
    have HB1 := hidM hb1
    clear hb1
    go_wp2_with fail
    go_ret
    exact ⟨rfl, HB1.out⟩
  · obtain ⟨n, rfl⟩ : ∃ n : Nat, z = (n : Int) := ⟨z.toNat, by omega⟩
    exact hops_walk n r m w HG.out (by omega)
end Go.Proofs.YtjoomlpocpdonaaDoor
namespace Go.Proofs.YtjoomlpocpdonaaDoor
open Go.ChangeShapes Go.WideShapes Go.WideMaps Go.WideElems

def MI (w : World) : Prop := ∃ m, w.cell? ⟨0, 0, none⟩ = some (.int .i64 m)
theorem mi_of_open {w : World} (h : w.ShapedOpen Tryd.prog) : MI w :=
  cell_of_shapedOpen_int (P := Tryd.prog) (g := 0) (t := 3) (zero := #[.int .i64 0]) (k := .i64) h (of_decide_eq_true (by kernel_rfl)) (by kernel_rfl) rfl (by kernel_rfl) (by kernel_rfl) (by kernel_rfl)

theorem handed_open {H : Type} {enc : TypeId × Value → H} {a : Assume} {C : Checked} {os : Os} {f : FuncId} {fn : Func} {s : ChangeSpec} {conds : List PathCond} {apart fresh handsOn again : Bool} {X : World → Array Value → Prop}
    (hX : ∀ (w w' : World) (args : Array Value), w.heap = w'.heap → X w args → X w' args)
    (own : ownKnob C.prog.godebug = none) (started : os.Started) (noInit : C.prog.inits.idxOf? f = none) (hfn : C.prog.funcs[f]? = some fn)
    (wit : ∃ (w : World) (tape : Tape) (i : Input), w.os = os ∧ (w.forCall tape i).Shaped C.prog ∧ i.vars = [] ∧ Input.okWide C.prog (w.forCall tape i) .any w.heap.size f i ∧
      ((s.pre enc C.prog fn conds apart (w.forCall tape i).memory i.args ∧ X (w.forCall tape i).memory i.args) ∧ sizedMet enc C.prog fn (OpenSpec.ofChange s) apart (w.forCall tape i).memory i.args) ∧ a.holds C.prog (lone (Frame.enter C.prog f i.args .normal) [] (w.forCall tape i)))
    (K : ∀ (W : World) (base : Nat) (args : Array Value) (ds gs : List (DataW H)) (before : List MemPlace), W.ShapedOpen C.prog →
      (∀ (j : Nat) t v, fn.params[j]? = some t → args[j]? = some v → Value.okWide C.prog W .any base t v) →
      DataW.Whole enc C.prog fn.params.toList s.vars apart W args.toList ds gs before →
      conds.all (PathCond.test C.prog ⟨fn.params.toList, ds, s.plain.varTypes C.prog, gs⟩) = true →
      (DataW.weightsEach C.prog (fn.params.toList ++ s.plain.varTypes C.prog) (ds ++ gs)).all (· ≤ reachBytes) = true → X W args →
      Calls C.prog f args W fun e W' => ∃ v, e = .returned v ∧ s.post enc C.prog fn apart fresh handsOn again W args v W') :
    ReturnsInHanded a C os f .any (fun w args => (s.pre enc C.prog fn conds apart w args ∧ X w args) ∧ sizedMet enc C.prog fn (OpenSpec.ofChange s) apart w args) (s.post enc C.prog fn apart fresh handsOn again) := by
  refine returnsInHanded_of_calls own started noInit wit fun w tape i _ hso _ hok hpre _ => ?_
  obtain ⟨_,_,_, g, hg, _,_,_,_, hval⟩ := hok
  obtain rfl : g = fn := Option.some.inj (hg.symm.trans hfn)
  obtain ⟨⟨⟨ds, gs, before, hw, hc⟩, hx⟩, hz⟩ := hpre
  refine (K (w.forCall tape i) w.heap.size i.args ds gs before hso hval (DataW.Whole.of_heap (w' := w.forCall tape i) (by rfl) hw) hc (hz.weights hw) (hX _ _ _ (by rfl) hx)).mono fun e W' ⟨v, he, hp⟩ => ?_
  subst he
  exact ChangeSpec.post_blind hp
end Go.Proofs.YtjoomlpocpdonaaDoor
namespace Go.Proofs.YtjoomlpocpdonaaDoor
open Go.ChangeShapes Go.WideShapes Go.ChangeAt Go.WideMaps Go.WideElems Go.RowKit

def laidT : List (String × DataW Unit) := [("unicode/utf8.acceptRanges", Rows.laid_unicode_utf8_acceptRanges), ("unicode/utf8.first", Rows.laid_unicode_utf8_first)]
theorem own : ownKnob Tryd.prog.godebug = none := by kernel_rfl
theorem laidT_met (os : Os) (args : Array Value) : laidMetH Tryd.prog laidT ((World.laidAll Tryd.prog os laidT).forCall (fun _ _ => 0) ⟨#[], args, []⟩).memory := by
  rw [MakeChecks.laidMetH_plain _ _ _ (by kernel_rfl)]; exact laidMet_laidAll _ (by kernel_rfl) (by kernel_rfl)
end Go.Proofs.YtjoomlpocpdonaaDoor
