/-
  The document's Name, Kind, Find.
  The document SHA-1 in this seat.
-/
import Derived.Test.YtddoemeellbhaaaGreatDoorJDecA
import Derived.Test.YtddoemeellbhaaaGreatDoorJShelf
import Derived.Laws.BitsAllLaws
import Derived.WalkKit
import Derived.WalkSpells
import Derived.WalkLawsBesides
import Derived.Laws.IdiomStrings
import Derived.Deep.QuietTactic
import Derived.BigQuiet
import Derived.Deep.RegionHeld3
import Derived.Deep.MidRow
import Derived.Deep.RegionLaw
import Derived.Laws.MakeOwn
import Derived.Deep.RegionWith
import Derived.OwnWalk
import Derived.ArgAppend
namespace Go.Proofs.YtddoemeellbhaaaGreatDoor
open Go.RowKit
theorem nameL_small (k : Int) (h : k < 1) : nameL k = [] := by
  unfold nameL
  split
  · obtain rfl : k = 0 := by omega
    rfl
  · rfl
set_option maxHeartbeats 1600000 in
theorem rname_any (k : Int) (w : World) :
    Calls Tryz.prog 53 #[.int .i64 k] w fun e w' => e = .returned (.string ⟨(nameL k).toArray⟩) ∧ Below w.heap.size w w' := by
  by_cases h0 : k < 1
  · have hn := hidMO (nameL_small k h0)
    go_enter Tryz.func53, Tryz.ntmps53
    go_wp2
    go_ret
    exact ⟨by rw [hn.out]; rfl, Below.refl _ _⟩
  by_cases h5 : 4 < k
  · have hn := hidMO (nameL_big k (by omega))
    go_enter Tryz.func53, Tryz.ntmps53
    go_wp2
    go_ret
    exact ⟨by rw [hn.out]; rfl, Below.refl _ _⟩
  obtain rfl | rfl | rfl | rfl : k = 1 ∨ k = 2 ∨ k = 3 ∨ k = 4 := by omega
  all_goals
    go_enter Tryz.func53, Tryz.ntmps53
    go_wp2
    go_ret
    exact ⟨rfl, (Below.refl _ _).alloc (Nat.le_refl _) _⟩
theorem index_app (c : UInt8) (p q : List UInt8) (h : c ∉ p) : Lib.indexByte (p ++ c :: q) c = (p.length : Int) := by
  induction p with
  | nil => unfold Lib.indexByte; simp
  | cons b p ih =>
    have h1 : b ≠ c := fun e => h (by simp [e])
    have h2 := ih (fun hc => h (by simp [hc]))
    show Lib.indexByte (b :: (p ++ c :: q)) c = _
    unfold Lib.indexByte
    rw [if_neg (by simpa using h1), h2, if_neg (by simp)]
    simp
theorem index_none (c : UInt8) (l : List UInt8) (h : c ∉ l) : Lib.indexByte l c = -1 := by
  induction l with
  | nil => rfl
  | cons b l ih =>
    have h1 : b ≠ c := fun e => h (by simp [e])
    unfold Lib.indexByte
    rw [if_neg (by simpa using h1), ih (fun hc => h (by simp [hc]))]
    rfl
theorem split_at (s : ByteArray) (k : Nat) (h : k < s.size) : s.data.toList = s.data.toList.take k ++ s[k] :: s.data.toList.drop (k + 1) := by
  have h1 : k < s.data.toList.length := by simpa using h
  rw [show s[k] = s.data.toList[k] from rfl, ← List.drop_eq_getElem_cons h1, List.take_append_drop]
set_option maxHeartbeats 1600000 in
theorem find_any (s : ByteArray) (c : UInt8) (w : World) (hs : s.size ≤ 9223372036854775807) :
    Calls Tryz.prog 86 #[.string s, .int .u8 (c.toNat : Int)] w fun e w' => e = .returned (.int .i64 (Lib.indexByte s.data.toList c)) ∧ w' = w := by
  go_enter Tryz.func86, Tryz.ntmps86
  go_wp2
  go_loopw [5] (fun i wr => ∃ (k : Nat), k ≤ s.size ∧ i = .int .i64 k ∧ c ∉ s.data.toList.take k ∧ wr = w) (fun i _ => s.size - (intOf i).toNat)
  case atStart => exact ⟨0, Nat.zero_le _, rfl, by simp, rfl⟩
  case round =>
    obtain ⟨k, hk, rfl, hd, rfl⟩ := hrel
    have HD := hidMO hd
    clear hd
    by_cases hlt : k < s.size
    · have kk : (k : Int) < (s.size : Int) := by omega
      by_cases he : s[k] = c
      · have HI : Hid (Lib.indexByte s.data.toList c = (k : Int)) := by
          unfold Hid
          have h := index_app c (s.data.toList.take k) (s.data.toList.drop (k + 1)) HD.out
          rw [← he] at h
          rw [← split_at s k hlt, he] at h
          rw [h, List.length_take]
          have : s.data.toList.length = s.size := by simp
          rw [Nat.min_eq_left (by omega)]
        have e1 : (s[k].toNat : Int) = (c.toNat : Int) := by rw [he]
        clear he
        go_wp2
        go_ret
        exact ⟨by rw [HI.out]; rfl, rfl⟩
      · have HX : Hid (c ∉ s.data.toList.take (k + 1)) := by
          unfold Hid
          rw [take_one s k hlt]
          intro h
          rcases List.mem_append.1 h with h | h
          · exact HD.out h
          · rw [List.mem_singleton] at h; exact he h.symm
        have e1 : ¬ (s[k].toNat : Int) = (c.toNat : Int) := fun h => he (by rw [← UInt8.toNat_inj]; omega)
        have e2 : ((s[k].toNat : Int) == (c.toNat : Int)) = false := beq_false_of_ne e1
        clear he
        go_wp2
        go_roundw
        case rel => exact ⟨k + 1, by omega, by go_num, HX.out, trivial⟩
        case measure => (show s.size - ((k : Int) + 1).toNat < s.size - ((k : Int)).toNat); omega
    · obtain rfl : k = s.size := by omega
      have HI : Hid (Lib.indexByte s.data.toList c = -1) := index_none c _ (by
        have := HD.out
        rwa [List.take_of_length_le (by rw [sl_len]; omega)] at this)
      go_wp2
      go_ret
      exact ⟨by rw [HI.out]; rfl, rfl⟩
set_option maxHeartbeats 1600000 in
theorem rkind_any (s : ByteArray) (w : World) :
    Calls Tryz.prog 88 #[.string s] w fun e w' => e = .returned (.int .i64 (kindL s.data.toList : Nat)) ∧ Below w.heap.size w w' := by
  go_enter Tryz.func88, Tryz.ntmps88
  go_wp2
  go_loopw [3] (fun i wr => ∃ (k : Nat), 1 ≤ k ∧ k ≤ 5 ∧ i = .int .i64 k ∧ (∀ j, 1 ≤ j → j < k → nm j ≠ s.data.toList) ∧ Below w.heap.size w wr) (fun i _ => 5 - (intOf i).toNat)
  case atStart => exact ⟨1, by decide, by decide, rfl, fun j hj => by omega, Below.refl _ _⟩
  case round =>
    obtain ⟨k, hk1, hk, rfl, hd, hb⟩ := hrel
    have HD := hidMO hd
    have HB := hidMO hb
    clear hd hb
    by_cases hlt : k < 5
    · have kk : (k : Int) ≤ 4 := by omega
      have HC : Hid (∀ V, Calls Tryz.prog 53 #[.int .i64 (k : Int)] V fun e w' => e = .returned (.string ⟨(nm k).toArray⟩) ∧ Below V.heap.size V w') := fun V => by
        have h := rname_any (k : Int) V
        unfold nameL at h
        rw [if_pos (by omega), Int.toNat_natCast] at h
        exact h
      by_cases he : nm k = s.data.toList
      · have HK := hidMO (kindL_at k hlt _ he)
        have e1 : (⟨(nm k).toArray⟩ : ByteArray) = s := by rw [he]
        rw [e1] at HC
        clear e1 he
        go_wp2_with fail
        refine (HC.out _).mono ?_
        rintro _ w2 ⟨rfl, hb2⟩
        have HB2 := hidMO (two_le HB.out hb2 HB.out.size)
        go_wp2_with fail
        go_ret
        exact ⟨by rw [HK.out]; rfl, HB2.out⟩
      · have e1 : ((⟨(nm k).toArray⟩ : ByteArray).toList == s.toList) = false := by
          rw [ByteArray.toList_eq, ByteArray.toList_eq]; exact beq_false_of_ne he
        have HX : Hid (∀ j, 1 ≤ j → j < k + 1 → nm j ≠ s.data.toList) := fun j hj1 hj => by
          by_cases h : j < k
          · exact HD.out j hj1 h
          · have : j = k := by omega
            rw [this]; exact he
        clear he
        generalize (⟨(nm k).toArray⟩ : ByteArray) = X at *
        go_wp2_with fail
        refine (HC.out _).mono ?_
        rintro _ w2 ⟨rfl, hb2⟩
        have HB2 := hidMO (two_le HB.out hb2 HB.out.size)
        clear hb2
        go_wp2_with fail
        go_roundw
        case rel => exact ⟨k + 1, by omega, by omega, by go_num, HX.out, HB2.out⟩
        case measure => (show 5 - ((k : Int) + 1).toNat < 5 - ((k : Int)).toNat); omega
    · obtain rfl : k = 5 := by omega
      have HK : Hid (kindL s.data.toList = 0) := by
        unfold Hid kindL
        rw [if_neg (Ne.symm (HD.out 1 (by decide) (by decide))), if_neg (Ne.symm (HD.out 2 (by decide) (by decide))), if_neg (Ne.symm (HD.out 3 (by decide) (by decide))), if_neg (Ne.symm (HD.out 4 (by decide) (by decide)))]
      go_wp2_with fail
      go_ret
      exact ⟨by rw [HK.out]; rfl, HB.out⟩
end Go.Proofs.YtddoemeellbhaaaGreatDoor
namespace Go.Proofs.YtddoemeellbhaaaGreatDoor
open Go.RowKit
set_option maxRecDepth 100000 in
theorem add_wrap (a b : Nat) : IntKind.u32.wrap ((a : Int) + (b : Int)) = ((add32 a b : Nat) : Int) := by rw [IntKind.wrap_u32']; exact add_mod a b
set_option maxRecDepth 100000 in
theorem below_push {w wr w1 : World} {B : Nat} {v : Value} {P : List UInt8} {o : Obj} (hown : OwnBO wr B v P) (hb : Below B w wr) (hB : B ≤ wr.heap.size) (hg : (wr.alloc o).grownBy w1 v.ownBlock) : Below B w w1 :=
  (hb.alloc hB o).grown hg (by simp; omega) (fun k hk => (World.ownsRow.lt hown k hk).1)
set_option maxHeartbeats 800000 in
set_option maxRecDepth 100000 in
theorem turn_any (x s : Nat) (w : World) (hx : x < 4294967296) (h1 : 0 < s) (h2 : s < 32) :
    Calls Tryz.prog 99 #[.int .u32 x, .int .i64 s] w fun e w' => e = .returned (.int .u32 (rotl s x : Nat)) ∧ ∃ n, w' = w.drewN n := by
  have e1 : ((x : Int) * 2 ^ s % 4294967296) = ((x * 2 ^ s % 4294967296 : Nat) : Int) := by simp
  have e2 : ((x : Int) / 2 ^ (32 - s)) = ((x / 2 ^ (32 - s) : Nat) : Int) := by simp
  have HV : Hid (bits .or .u32 ((x : Int) * 2 ^ s % 4294967296) ((x : Int) / 2 ^ (32 - s)) = ((rotl s x : Nat) : Int)) := by
    unfold Hid
    rw [e1, e2, u32_or_nat _ _ (Nat.mod_lt _ (by decide)) (Nat.lt_of_le_of_lt (Nat.div_le_self _ _) hx), rotl_or s x h2 hx]
  clear e1 e2
  have q1 : IntKind.i64.wrap (32 - (s : Int)) = ((32 - s : Nat) : Int) := by rw [i64_smallO _ (by omega) (by omega)]; omega
  have q2 : (0 : Int) ≤ (s : Int) := by omega
  have q3 : (0 : Int) ≤ ((32 - s : Nat) : Int) := by omega
  go_enter Tryz.func99, Tryz.ntmps99
  go_wp2
  go_quiet (fail)
  go_wp2
  go_ret
  exact ⟨ret_intO HV.out, nq, rfl⟩
set_option maxRecDepth 100000 in
theorem Tryz.info79 : (Tryz.prog.info? 79).map (fun i => (i.zero, i.size, i.bytes)) = some (some (.int .u32 0), 1, 4) := by kernel_rfl
/-- The value v owns just the words l. -/
def OwnW (w : World) (base : Nat) (v : Value) (l : List Nat) : Prop := w.ownsRow base 79 1 v l.length (wordsV l)
set_option maxRecDepth 100000 in
theorem wordsV_app (l m : List Nat) : wordsV (l ++ m) = wordsV l ++ wordsV m := by simp [wordsV]
set_option maxRecDepth 100000 in
theorem ownW_push {w1 : World} {B : Nat} {v' : Value} {P : List Nat} {c : Nat} (h : w1.ownsRow B 79 1 v' (P.length + 1) (wordsV P ++ [.int .u32 (c : Int)])) : OwnW w1 B v' (P ++ [c]) := by
  unfold OwnW
  rw [wordsV_app]
  simpa [wordsV] using h
set_option maxRecDepth 100000 in
theorem OwnW.at {w : World} {B g n c : Nat} {l : List Nat} (h : OwnW w B (.slice (some ⟨g, 0, none⟩) n c) l) (j : Nat) (hj : j < l.length) : w.cell? ⟨g, j, none⟩ = some (.int .u32 (l.getD j 0 : Nat)) := by
  have := World.ownsRow.cells (g := g) h rfl j _ (wordsV_at l j hj)
  rw [Addr.add_lit, Nat.zero_add, getElem_D l j hj] at this
  exact this
set_option maxRecDepth 100000 in
theorem bytes_one (l : List UInt8) : ∀ u ∈ bytesVO l, u.oneCell' = true := by
  intro u hu
  simp only [bytesVO, List.mem_map] at hu
  obtain ⟨c, _, rfl⟩ := hu
  rfl
set_option maxRecDepth 100000 in
theorem own_app {w1 : World} {B : Nat} {v' : Value} {P Q : List UInt8} (h : w1.ownsRow B 5 1 v' (P.length + Q.length) (bytesVO P ++ bytesVO Q)) : OwnBO w1 B v' (P ++ Q) := by
  unfold OwnBO
  rw [List.length_append]
  simpa [bytesVO] using h
set_option maxRecDepth 100000 in
theorem own_emptyB (w : World) : OwnBO (w.alloc (.cells #[] 5)) w.heap.size (.slice (some ⟨w.heap.size, 0, none⟩) 0 0) [] :=
  World.ownsRow_lit w #[] 0 (Nat.le_refl _) (Nat.zero_le _) rfl
set_option maxRecDepth 100000 in
theorem own_emptyW (w : World) : OwnW (w.alloc (.cells #[] 79)) w.heap.size (.slice (some ⟨w.heap.size, 0, none⟩) 0 0) [] :=
  World.ownsRow_lit w #[] 0 (Nat.le_refl _) (Nat.zero_le _) rfl
/-- Words that are read from a slice. -/
def WAtO (w : World) (a : Option Addr) (l : List Nat) : Prop := l = [] ∨ ∃ b off, a = some ⟨b, off, none⟩ ∧ ∀ i, i < l.length → w.cell? ⟨b, off + i, none⟩ = some (.int .u32 (l.getD i 0 : Nat))
set_option maxRecDepth 100000 in
theorem WAtO.below {w w' : World} {a : Option Addr} {l : List Nat} (h : WAtO w a l) (hb : Below w.heap.size w w') : WAtO w' a l := by
  rcases h with h0 | ⟨b, off, rfl, hc⟩
  · exact .inl h0
  · exact .inr ⟨b, off, rfl, fun i hi => (hb.cell (p := ⟨b, off + i, none⟩) (World.block_lt_of_cell? w _ (hc i hi))).trans (hc i hi)⟩
set_option maxRecDepth 100000 in
theorem WAtO.get {w : World} {a : Option Addr} {l : List Nat} (h : WAtO w a l) (i : Nat) (hi : i < l.length) : ∃ b off, a = some ⟨b, off, none⟩ ∧ w.cell? ⟨b, off + i, none⟩ = some (.int .u32 (l.getD i 0 : Nat)) := by
  rcases h with h0 | ⟨b, off, rfl, hc⟩
  · subst h0; simp at hi
  · exact ⟨b, off, rfl, hc i hi⟩
set_option maxHeartbeats 1600000 in
set_option maxRecDepth 100000 in
theorem out_any (a : Option Addr) (cap n : Nat) (l : List Nat) (w : World) (hn : l.length = n) (hl : n ≤ 100) (hbd : ∀ j, l.getD j 0 < 4294967296) (hr : WAtO w a l) :
    Calls Tryz.prog 100 #[.slice a n cap] w fun e w' => e = .returned (.string ⟨(wordsB l).toArray⟩) ∧ Below w.heap.size w w' := by
  obtain ⟨i0, hi, hz0, hz1, hz2⟩ := info_parts Tryz.info5O
  have HR := hidMO hr
  have HBD := hidMO hbd
  have HN := hidMO hn
  have HST := hidMO (own_emptyB w)
  have HB0 : Hid (Below w.heap.size w (w.alloc (.cells #[] 5))) := (Below.refl _ _).alloc (Nat.le_refl _) _
  clear hr hbd hn
  go_enter Tryz.func100, Tryz.ntmps100
  go_wp2
  go_loopw [3, 5, 9] (fun v _ i wr => ∃ (k : Nat) (P : List UInt8), k ≤ n ∧ i = .int .i64 k ∧ P = wordsB (l.take k) ∧ OwnBO wr w.heap.size v P ∧ Below w.heap.size w wr) (fun _ _ i _ => n - (intOf i).toNat)
  case atStart => exact ⟨0, [], Nat.zero_le _, rfl, rfl, HST.out, HB0.out⟩
  case round =>
    obtain ⟨k, P, hk, rfl, hP, hown, hbr⟩ := hrel
    have HO := hidMO hown
    have HB := hidMO hbr
    have HP := hidMO hP
    have HPL : Hid (P.length = 4 * k) := by unfold Hid; rw [hP, wordsB_len, List.length_take, HN.out]; omega
    clear hown hbr hP HST HB0
    by_cases hlt : k < n
    · have hlk : k < l.length := by rw [HN.out]; exact hlt
      obtain ⟨b, off, rfl, hcell⟩ := (HR.out.below HB.out).get k hlk
      have hx := HBD.out k
      have HX : Hid (wordsB (l.take (k + 1)) = P ++ wordB (l.getD k 0)) := by
        unfold Hid
        rw [HP.out, ← wordsB_snoc, List.take_add_one, List.getElem?_eq_getElem hlk, getElem_D l k hlk]; rfl
      have kk : (k : Int) < (n : Int) := by omega
      generalize l.getD k 0 = x at *
      have HCL := hidMO (word_cells x hx)
      have HBS := hidMO HB.out.size
      have HWL : Hid ((wordB x).length = 4) := wordB_len x
      go_wp2_with (first
        | (at_builtin; refine wpList_append_own _ rfl _ _ 81 rfl w.heap.size 5 i0 (.int .u8 0) 1 1 Tryz.underlying81 hi hz0 hz1 hz2 rfl (by decide) _ _ _ rfl (World.ownsRow.alloc HO.out _) ⟨wr.heap.size, 0, none⟩ 4 4 (bytesVO (wordB x)) ?c0 ?c6 ?c1 (bytes_one _) ?c3 ?c4 ?c5 ?_))
      case c0 => rfl
      case c6 => rw [bytesV_lenO, HWL.out]
      case c1 =>
        intro j u hj
        have h := range_new wr (bytesVO (wordB x)) 5
        rw [← HCL.out] at h hj
        rw [Addr.add_lit]
        exact h j u hj
      case c3 => rw [HPL.out]; unfold maxLen; omega
      case c4 => rw [HPL.out]; omega
      case c5 => have := HBS.out; simp; omega
      intro v' w1 hown' hgrow _
      have HO1 : Hid (OwnBO w1 w.heap.size v' (P ++ wordB x)) := own_app (by rw [HWL.out]; exact hown')
      have HB1 := hidMO (below_push HO.out HB.out HBS.out hgrow)
      clear hown' hgrow
      go_wp2
      go_roundw
      case rel => exact ⟨k + 1, _, by omega, by go_num, HX.out.symm, HO1.out, HB1.out⟩
      case measure => simp [intOf]; omega
    · have HF : Hid (wordsB l = P) := by unfold Hid; rw [HP.out, List.take_of_length_le (by rw [HN.out]; omega)]
      have hconv := conv_ownO HO.out
      go_wp2
      go_ret
      exact ⟨by rw [HF.out]; rfl, HB.out⟩
set_option maxRecDepth 100000 in
theorem cell_newW (w : World) (x : Nat) (v : Value) (hv : v = .int .u32 (x : Int)) : ∀ j u, [Value.int .u32 (x : Int)][j]? = some u → (w.alloc (.cells #[v] 79)).cell? ((⟨w.heap.size, 0, none⟩ : Addr).add j) = some u := by
  subst hv
  intro j u hj
  match j, hj with
  | 0, hj => simp at hj; subst hj; simp [Addr.add]
set_option maxRecDepth 100000 in
theorem belowW_push {w wr w1 : World} {B : Nat} {v : Value} {P : List Nat} {o : Obj} (hown : OwnW wr B v P) (hb : Below B w wr) (hB : B ≤ wr.heap.size) (hg : (wr.alloc o).drew.grownBy w1 v.ownBlock) : Below B w w1 :=
  (hb.alloc hB o).drew.grown hg (by simp; omega) (fun k hk => (World.ownsRow.lt hown k hk).1)
set_option maxRecDepth 100000 in
theorem one_word (x : Nat) : ∀ u ∈ [Value.int .u32 (x : Int)], u.oneCell' = true := by
  intro u hu
  simp at hu
  subst hu
  rfl
set_option maxRecDepth 100000 in
/-- Four cells are left alone by what grows elsewhere. -/
theorem keepG4 {w w1 : World} {o : Obj} {row : Option Nat} {b o0 o1 o2 o3 : Nat} {v0 v1 v2 v3 : Value} (hb : b < w.heap.size) (hne : some b ≠ row) (hg : (w.alloc o).drew.grownBy w1 row)
    (h0 : w.cell? ⟨b, o0, none⟩ = some v0) (h1 : w.cell? ⟨b, o1, none⟩ = some v1) (h2 : w.cell? ⟨b, o2, none⟩ = some v2) (h3 : w.cell? ⟨b, o3, none⟩ = some v3) :
    w1.cell? ⟨b, o0, none⟩ = some v0 ∧ w1.cell? ⟨b, o1, none⟩ = some v1 ∧ w1.cell? ⟨b, o2, none⟩ = some v2 ∧ w1.cell? ⟨b, o3, none⟩ = some v3 := by
  have hx : w1.heap[b]? = w.heap[b]? := (hg.block b (by simp; omega) hne).trans (Below.heap_alloc w o b hb)
  exact ⟨(World.cell?_of_block (a := ⟨b, o0, none⟩) hx).trans h0, (World.cell?_of_block (a := ⟨b, o1, none⟩) hx).trans h1, (World.cell?_of_block (a := ⟨b, o2, none⟩) hx).trans h2, (World.cell?_of_block (a := ⟨b, o3, none⟩) hx).trans h3⟩
set_option maxRecDepth 100000 in
set_option maxHeartbeats 3200000 in
set_option maxRecDepth 100000 in
theorem words_any (b off cap : Nat) (p : List UInt8) (w : World) (hp : p.length = 64) (hr : w.rangeAt b off (bytesVO p)) (hb : b < w.heap.size) :
    Calls Tryz.prog 98 #[.slice (some ⟨b, off, none⟩) 64 cap] w fun e w' => (∃ v, e = .returned v ∧ OwnW w' w.heap.size v (words16 p)) ∧ Below w.heap.size w w' := by
  obtain ⟨i0, hi, hz0, hz1, hz2⟩ := info_parts Tryz.info79
  have HG : Hid (∀ j, j < 64 → w.cell? ⟨b, off + j, none⟩ = some (.int .u8 ((p.getD j 0).toNat : Int))) := by
    intro j hj
    have := hr j _ (bytesV_atO p j (by omega))
    rw [this, List.getD_eq_getElem?_getD, List.getElem?_eq_getElem (by omega)]
    rfl
  have HST := hidMO (own_emptyW w)
  have HB0 : Hid (Below w.heap.size w (w.alloc (.cells #[] 79))) := (Below.refl _ _).alloc (Nat.le_refl _) _
  clear hr hp
  go_enter Tryz.func98, Tryz.ntmps98
  go_wp2
  go_loopw [3, 4] (fun v i wr => ∃ (k q : Nat), k ≤ 16 ∧ q = 4 * k ∧ i = .int .i64 q ∧ OwnW wr w.heap.size v ((List.range k).map (blkW p)) ∧ Below w.heap.size w wr) (fun _ i _ => 64 - (intOf i).toNat)
  case atStart => exact ⟨0, 0, by decide, rfl, rfl, HST.out, HB0.out⟩
  case round =>
    obtain ⟨k, q, hk, hq, rfl, hown, hbr⟩ := hrel
    have HO := hidMO hown
    have HB := hidMO hbr
    clear hown hbr HST HB0
    by_cases hlt : k < 16
    · have g : ∀ j, j < 64 → wr.cell? ⟨b, off + j, none⟩ = some (.int .u8 ((p.getD j 0).toNat : Int)) := fun j hj => (HB.out.cell (p := ⟨b, off + j, none⟩) hb).trans (HG.out j hj)
      have HV : Hid ((blkW p k : Nat) = be4 (p.getD (4 * k) 0).toNat (p.getD (4 * k + 1) 0).toNat (p.getD (4 * k + 2) 0).toNat (p.getD (4 * k + 3) 0).toNat) := rfl
      obtain ⟨p1, e1⟩ : ∃ z, z = q + 1 := ⟨_, rfl⟩
      obtain ⟨p2, e2⟩ : ∃ z, z = q + 2 := ⟨_, rfl⟩
      obtain ⟨p3, e3⟩ : ∃ z, z = q + 3 := ⟨_, rfl⟩
      rw [← hq, ← e1, ← e2, ← e3] at HV
      have hw1 : IntKind.i64.wrap ((q : Int) + 1) = (p1 : Int) := by rw [i64_smallO _ (by omega) (by omega)]; omega
      have hw2 : IntKind.i64.wrap ((q : Int) + 2) = (p2 : Int) := by rw [i64_smallO _ (by omega) (by omega)]; omega
      have hw3 : IntKind.i64.wrap ((q : Int) + 3) = (p3 : Int) := by rw [i64_smallO _ (by omega) (by omega)]; omega
      have l0 : (q : Int) < 64 := by omega
      have l1 : (p1 : Int) < 64 := by omega
      have l2 : (p2 : Int) < 64 := by omega
      have l3 : (p3 : Int) < 64 := by omega
      have g0 := g q (by omega)
      have g1 := g p1 (by omega)
      have g2 := g p2 (by omega)
      have g3 := g p3 (by omega)
      have b0 := byte_ltO (p.getD q 0)
      have b1 := byte_ltO (p.getD p1 0)
      have b2 := byte_ltO (p.getD p2 0)
      have b3 := byte_ltO (p.getD p3 0)
      generalize (p.getD q 0).toNat = c0 at *
      generalize (p.getD p1 0).toNat = c1 at *
      generalize (p.getD p2 0).toNat = c2 at *
      generalize (p.getD p3 0).toNat = c3 at *
      obtain ⟨x, hx⟩ : ∃ x, x = blkW p k := ⟨_, rfl⟩
      have HX : Hid (x = be4 c0 c1 c2 c3) := by unfold Hid; rw [hx, HV.out]
      obtain ⟨d0, hd0⟩ : ∃ d, d = c0 * 16777216 := ⟨_, rfl⟩
      have m0 : IntKind.u32.wrap ((c0 : Int) * 16777216) = (d0 : Int) := by rw [IntKind.wrap_u32']; omega
      have n0 : (c0 : Int) * 16777216 % 4294967296 = (d0 : Int) := by omega
      obtain ⟨d1, hd1⟩ : ∃ d, d = c1 * 65536 := ⟨_, rfl⟩
      have m1 : IntKind.u32.wrap ((c1 : Int) * 65536) = (d1 : Int) := by rw [IntKind.wrap_u32']; omega
      have n1 : (c1 : Int) * 65536 % 4294967296 = (d1 : Int) := by omega
      obtain ⟨d2, hd2⟩ : ∃ d, d = c2 * 256 := ⟨_, rfl⟩
      have m2 : IntKind.u32.wrap ((c2 : Int) * 256) = (d2 : Int) := by rw [IntKind.wrap_u32']; omega
      have n2 : (c2 : Int) * 256 % 4294967296 = (d2 : Int) := by omega
      have v0 : IntKind.u32.wrap (c0 : Int) = (c0 : Int) := by rw [IntKind.wrap_u32']; omega
      have z0 : (c0 : Int) % 4294967296 = (c0 : Int) := by omega
      have v1 : IntKind.u32.wrap (c1 : Int) = (c1 : Int) := by rw [IntKind.wrap_u32']; omega
      have z1 : (c1 : Int) % 4294967296 = (c1 : Int) := by omega
      have v2 : IntKind.u32.wrap (c2 : Int) = (c2 : Int) := by rw [IntKind.wrap_u32']; omega
      have z2 : (c2 : Int) % 4294967296 = (c2 : Int) := by omega
      have v3 : IntKind.u32.wrap (c3 : Int) = (c3 : Int) := by rw [IntKind.wrap_u32']; omega
      have z3 : (c3 : Int) % 4294967296 = (c3 : Int) := by omega
      obtain ⟨s1, hs1⟩ : ∃ d, d = d0 + d1 := ⟨_, rfl⟩
      obtain ⟨s2, hs2⟩ : ∃ d, d = s1 + d2 := ⟨_, rfl⟩
      have a1 : IntKind.u32.wrap ((d0 : Int) + (d1 : Int)) = (s1 : Int) := by rw [IntKind.wrap_u32']; omega
      have a2 : IntKind.u32.wrap ((s1 : Int) + (d2 : Int)) = (s2 : Int) := by rw [IntKind.wrap_u32']; omega
      have a3 : IntKind.u32.wrap ((s2 : Int) + (c3 : Int)) = (x : Int) := by rw [IntKind.wrap_u32', HX.out]; unfold be4; omega
      clear hd0 hd1 hd2 hs1 hs2
      have HN : Hid ((List.range (k + 1)).map (blkW p) = (List.range k).map (blkW p) ++ [x]) := by unfold Hid; rw [List.range_succ, List.map_append, hx]; rfl
      have HL : Hid (((List.range k).map (blkW p)).length = k) := by unfold Hid; simp
      have HBS := hidMO HB.out.size
      have HNE : Hid (b < wr.heap.size) := Nat.lt_of_lt_of_le hb HBS.out
      generalize (List.range k).map (blkW p) = P at *
      have HQ := hidMO hq
      have HGB : Hid (some b ≠ Value.ownBlock u3) := by
        intro he
        have := (World.ownsRow.lt HO.out b he.symm).1
        omega
      have HM1 : Hid (P.length + 1 ≤ maxLen) := by unfold Hid; rw [HL.out]; unfold maxLen; omega
      have HM2 : Hid ((P.length + 1) * 4 ≤ 140737488355328) := by unfold Hid; rw [HL.out]; omega
      have HOA : Hid ((wr.alloc (.cells #[.int .u32 (x : Int)] 79)).drew.ownsRow w.heap.size 79 1 u3 P.length (wordsV P)) := World.ownsRow.alloc HO.out _
      have HCA : Hid (∀ j u, [Value.int .u32 (x : Int)][j]? = some u → (wr.alloc (.cells #[.int .u32 (x : Int)] 79)).drew.cell? ((⟨wr.heap.size, 0, none⟩ : Addr).add j) = some u) := cell_newW wr x _ rfl
      have HM3 : Hid (w.heap.size ≤ (wr.alloc (.cells #[.int .u32 (x : Int)] 79)).drew.heap.size) := by unfold Hid; have := HBS.out; simp; omega
      have hq1 : 4 * k ≤ q := by omega
      have hq2 : q ≤ 4 * k := by omega
      clear hx g e1 e2 e3 hq
      go_wp2_with fail
      go_region_held3 (fun w' => w'.cell? ⟨b, off + q, none⟩ = some (.int .u8 (c0 : Int)) ∧ w'.cell? ⟨b, off + p1, none⟩ = some (.int .u8 (c1 : Int)) ∧ w'.cell? ⟨b, off + p2, none⟩ = some (.int .u8 (c2 : Int)) ∧ w'.cell? ⟨b, off + p3, none⟩ = some (.int .u8 (c3 : Int))) (first | exact keepG4 HNE.out HGB.out hgrow g0 g1 g2 g3 | go_keep)
        (first | (refine step_append_own rfl _ _ 110 rfl w.heap.size 79 i0 (.int .u32 0) 1 4 Tryz.underlying110 hi hz0 hz1 hz2 rfl (by decide) _ P.length (wordsV P) rfl HOA.out ⟨wr.heap.size, 0, none⟩ 1 1 [.int .u32 (x : Int)] (by rfl) rfl HCA.out (one_word x) HM1.out HM2.out HM3.out ?_; intro v' w2 hown' hgrow; have HO1 := hidMO (ownW_push hown'); have HB1 := hidMO (belowW_push HO.out HB.out HBS.out hgrow); clear hown'))
      clear hgrow
      go_wp2
      go_roundw
      case rel => exact ⟨k + 1, q + 4, by omega, by have := HQ.out; omega, by go_num, by rw [HN.out]; exact HO1.out, HB1.out⟩
      case measure => simp [intOf]; omega
    · have hq64 : ¬ (q : Int) < 64 := by omega
      have HW : Hid (OwnW wr w.heap.size u3 (words16 p)) := by
        have := HO.out
        rw [show k = 16 by omega] at this
        exact this
      clear hq
      go_wp2
      go_ret
      exact ⟨⟨_, rfl, HW.out⟩, HB.out⟩
set_option maxRecDepth 100000 in
theorem heap_setCell_fz (w : World) (g i : Nat) (cs : Array Value) (t : TypeId) (fz : Nat × Nat) (v : Value) (hg : w.heap[g]? = some (.cells cs t fz)) : (w.setCell ⟨g, i, none⟩ v).heap[g]? = some (.cells (cs.setIfInBounds i v) t fz) := by
  unfold World.setCell
  simp [Array.getElem?_modify, hg]
set_option maxRecDepth 100000 in
theorem setCells_fz (b t : Nat) (fz : Nat × Nat) (rest : List Value) : ∀ (vs old A : List Value) (w : World), vs.length = old.length → w.heap[b]? = some (.cells (A ++ (old ++ rest)).toArray t fz) →
    (w.setCells b A.length vs).heap[b]? = some (.cells (A ++ (vs ++ rest)).toArray t fz)
  | [], [], _,_,_, h => h
  | v :: r, x :: old, A, w, hl, h => by
    rw [World.setCells]
    have h1 := heap_setCell_fz w b A.length _ t fz v h
    have e : (A ++ (x :: old ++ rest)).toArray.setIfInBounds A.length v = ((A ++ [v]) ++ (old ++ rest)).toArray := by
      rw [List.setIfInBounds_toArray, List.set_append_right _ _ (by omega)]; simp
    rw [e] at h1
    have h2 := setCells_fz b t fz rest r old (A ++ [v]) _ (by simpa using hl) h1
    rw [List.length_append] at h2
    simpa using h2
/-- The value v owns just the bytes l; no cell of its row is frozen. -/
def OwnM (w : World) (B : Nat) (v : Value) (l : List UInt8) : Prop :=
  ∃ g cap cur fz, v = .slice (some ⟨g, 0, none⟩) l.length cap ∧ B ≤ g ∧ w.heap[g]? = some (.cells cur 5 fz) ∧ (fz.2 = 0 ∨ cur.size ≤ fz.1) ∧ l.length ≤ cap ∧ cap ≤ maxLen ∧ cur.size = cap ∧ cur.toList.take l.length = bytesVO l
set_option maxRecDepth 100000 in
theorem OwnM.lt {w : World} {B : Nat} {v : Value} {l : List UInt8} (h : OwnM w B v l) : ∀ k, v.ownBlock = some k → B ≤ k ∧ k < w.heap.size := by
  obtain ⟨g, cap, cur, fz, rfl, hb, hg, _⟩ := h
  intro k hk
  simp [Value.ownBlock] at hk
  subst hk
  exact ⟨hb, (Array.getElem?_eq_some_iff.1 hg).1⟩
set_option maxRecDepth 100000 in
theorem OwnM.alloc {w : World} {B : Nat} {v : Value} {l : List UInt8} (h : OwnM w B v l) (o : Obj) : OwnM (w.alloc o) B v l := by
  obtain ⟨g, cap, cur, fz, h1, hb, hg, hr⟩ := h
  exact ⟨g, cap, cur, fz, h1, hb, by rw [Below.heap_alloc w o g (Array.getElem?_eq_some_iff.1 hg).1]; exact hg, hr⟩
set_option maxRecDepth 100000 in
theorem OwnM.cells {w : World} {B : Nat} {v : Value} {l : List UInt8} (h : OwnM w B v l) : ∃ g cap, v = .slice (some ⟨g, 0, none⟩) l.length cap ∧ B ≤ g ∧ g < w.heap.size ∧ l.length ≤ cap ∧ ∀ j (hj : j < l.length), w.cell? ⟨g, j, none⟩ = some (.int .u8 (l[j].toNat : Int)) := by
  obtain ⟨g, cap, cur, fz, h1, hb, hg, hf, hl, hm, hs, ht⟩ := h
  refine ⟨g, cap, h1, hb, (Array.getElem?_eq_some_iff.1 hg).1, hl, fun j hj => ?_⟩
  rw [cell_of_row w g j cur 5 fz hg]
  have h2 := bytesV_atO l j hj
  rw [← ht, List.getElem?_take, if_pos hj] at h2
  simpa using h2
set_option maxRecDepth 100000 in
theorem run_append_M (w : World) (ty : TypeId) (i : TypeInfo) (hi : Tryz.prog.info? 5 = some i) (hz0 : i.zero = some (.int .u8 0)) (hz1 : i.size = 1) (hz2 : i.bytes = 1) (B : Nat) (v : Value) (l news : List UInt8) (hown : OwnM w B v l) (ad : Addr) (m c : Nat) (hm : news.length = m) (hnews : ∀ j u, (bytesVO news)[j]? = some u → w.cell? (ad.add j) = some u)
    (h63 : l.length + m ≤ 1000000000) (hbase : B ≤ w.heap.size) :
    ∃ v' w', (Builtin.append_ #[81, 81] ty #[v, .slice (some ad) m c]).run Tryz.prog w = .ok v' w' ∧ OwnM w' B v' (l ++ news) ∧ w.grownBy w' v.ownBlock := by
  obtain ⟨g, cap, cur, fz, rfl, hb, hg, hf, hl, hcm, hs, ht⟩ := hown
  by_cases hroom : l.length + m ≤ cap
  · have hr := run_append_room_cells (P := Tryz.prog) w 81 ty 5 i Tryz.underlying81 hi g 0 l.length cap ad m c (bytesVO news) (by rw [bytesV_lenO, hz1, hm, Nat.mul_one]) hnews (bytes_one news) hroom
      (fun j hj => by
        rw [bytesV_lenO, hm] at hj
        rw [hz1, cell_of_row w g _ cur 5 fz hg]
        exact Option.isSome_iff_exists.2 ⟨_, Array.getElem?_eq_getElem (by omega)⟩)
      (fun j hj => by
        rw [bytesV_lenO, hm] at hj
        rw [hz1]
        unfold World.frozen?
        rw [hg]
        obtain ⟨f1, f2⟩ := fz
        rcases hf with hf | hf
        · simp at hf; subst hf; simp
        · simp at hf; simp; omega)
    refine ⟨_,_, hr, ?_, ?_⟩
    · rw [hz1, Nat.zero_add, Nat.mul_one]
      obtain ⟨old, rest, hsp, hol⟩ : ∃ old rest, cur.toList = bytesVO l ++ (old ++ rest) ∧ (bytesVO news).length = old.length := by
        refine ⟨(cur.toList.drop l.length).take m, (cur.toList.drop l.length).drop m, ?_, ?_⟩
        · rw [← ht, List.take_append_drop, List.take_append_drop]
        · rw [bytesV_lenO, hm, List.length_take, List.length_drop]; simp; omega
      have hcur : cur = (bytesVO l ++ (old ++ rest)).toArray := by rw [← hsp]
      rw [hcur] at hg
      have h2 := setCells_fz g 5 fz rest (bytesVO news) old (bytesVO l) w hol hg
      rw [bytesV_lenO] at h2
      have hlen : (bytesVO l ++ (old ++ rest)).length = cap := by rw [← hsp]; simpa using hs
      have hlen2 : (bytesVO l ++ (bytesVO news ++ rest)).length = cap := by
        rw [← hlen]; simp only [List.length_append, hol]
      refine ⟨g, cap, _, fz, by rw [List.length_append, hm], hb, h2, ?_, by rw [List.length_append, hm]; exact hroom, hcm, by rw [List.size_toArray]; exact hlen2, ?_⟩
      · rcases hf with hf | hf
        · exact .inl hf
        · right; rw [List.size_toArray, hlen2]; omega
      · show (bytesVO l ++ (bytesVO news ++ rest)).take (l ++ news).length = bytesVO (l ++ news)
        rw [← List.append_assoc, show bytesVO (l ++ news) = bytesVO l ++ bytesVO news by simp [bytesVO], show (l ++ news).length = (bytesVO l ++ bytesVO news).length by simp [bytesVO]]
        exact List.take_left
    · rw [hz1, Nat.zero_add, Nat.mul_one]
      have ho := OnlyO.setCells (b := g) (bytesVO news) l.length (OnlyO.refl g w)
      exact ⟨ho.os, ho.tape, ho.output, by rw [ho.size]; exact Nat.le_refl _, fun k _ hk => ho.block k (fun e => hk (by simp [Value.ownBlock, e]))⟩
  · have holds : ∀ j u, (bytesVO l)[j]? = some u → w.cell? ((⟨g, 0, none⟩ : Addr).add j) = some u := by
      intro j u hu
      rw [Addr.add_lit, Nat.zero_add, cell_of_row w g j cur 5 fz hg]
      have hj : j < l.length := by have := (List.getElem?_eq_some_iff.1 hu).1; rwa [bytesV_lenO] at this
      rw [← ht, List.getElem?_take, if_pos hj] at hu
      simpa using hu
    have hr := run_append_grow (P := Tryz.prog) w 81 ty 5 i (.int .u8 0) Tryz.underlying81 hi hz0 ⟨g, 0, none⟩ l.length cap (bytesVO l) (by rw [bytesV_lenO, hz1, Nat.mul_one]) holds ad m c (bytesVO news) (by rw [bytesV_lenO, hz1, hm, Nat.mul_one]) hnews (by omega) (by omega) (growslice_fits (by omega) (by rw [hz2]; omega))
    have hge := grownCap_ge w (l.length + m) cap 5
    have hcm2 : grownCap w (l.length + m) cap 5 ≤ maxLen := grownCap_le_maxLen w (l.length + m) cap 5 (by unfold maxLen; omega)
    refine ⟨_,_, hr, ⟨w.heap.size, _,_, (0, 0), by rw [List.length_append, hm], hbase, heap_alloc_new w.drew _, .inl rfl, by rw [List.length_append, hm]; exact hge, hcm2, ?_, ?_⟩, ⟨rfl, rfl, rfl, by simp, fun k hk _ => Below.heap_alloc w.drew _ k hk⟩⟩
    · simp only [Array.size_append, List.size_toArray, size_zeroCells, bytesV_lenO, hm]
      have : (Value.int .u8 0).cells.size = 1 := rfl
      rw [this]
      omega
    · simp only [Array.toList_append]
      rw [show bytesVO (l ++ news) = bytesVO l ++ bytesVO news by simp [bytesVO], show (l ++ news).length = (bytesVO l ++ bytesVO news).length by simp [bytesVO]]
      exact List.take_left
set_option maxRecDepth 100000 in
theorem wpList_append_M {ops : Array Oper} {rest : List Oper} {o : Oper} {a : Act} {w : World} {Q : Exit → Act → World → Prop} (hgd : o.guard = none) (s x : Operand)
    (ho : o.op = .call { callee := .builtin .append, args := #[s, x], argTypes := #[81, 81] }) (i : TypeInfo) (hi : Tryz.prog.info? 5 = some i) (hz0 : i.zero = some (.int .u8 0)) (hz1 : i.size = 1) (hz2 : i.bytes = 1) (B : Nat) (v : Value) (l news : List UInt8) (hs : a.eval s = v) (hown : OwnM w B v l)
    (ad : Addr) (m c : Nat) (hx : a.eval x = .slice (some ad) m c) (hm : news.length = m) (hnews : ∀ j u, (bytesVO news)[j]? = some u → w.cell? (ad.add j) = some u) (h63 : l.length + m ≤ 1000000000) (hbase : B ≤ w.heap.size)
    (h : ∀ v' w', OwnM w' B v' (l ++ news) → w.grownBy w' v.ownBlock → wpList Tryz.prog ops Q rest (a.put o.dst v') w') : wpList Tryz.prog ops Q (o :: rest) a w := by
  refine wpList_plain hgd fun K hK => ?_
  obtain ⟨v', w', hr, h2, h3⟩ := run_append_M w o.type i hi hz0 hz1 hz2 B v l news hown ad m c hm hnews h63 hbase
  unfold Oper.wp execOp
  simp only [ho, resolve, invoke, builtin, Sem.run_bind, Sem.run_pure, Result.andThen_ok, List.map_toArray, List.map_cons, List.map_nil, hs, hx, hr]
  exact hK _ _ (h v' w' h2 h3)
set_option maxRecDepth 100000 in
theorem own_string (w : World) (s : ByteArray) (hs : s.size ≤ 1000000000) :
    ∃ cap W, (convert 9 81 (.string s)).run Tryz.prog w = .ok (.slice (some ⟨w.heap.size, 0, none⟩) s.size cap) W ∧ OwnM W w.heap.size (.slice (some ⟨w.heap.size, 0, none⟩) s.size cap) s.data.toList ∧ Below w.heap.size w W := by
  have h := run_bytes_of_string (P := Tryz.prog) w 9 81 5 s Tryz.underlying9 Tryz.underlying81 Tryz.underlying5
  have hge := grownCap_ge w s.size 0 5
  have hcm := grownCap_le_maxLen w s.size 0 5 (by unfold maxLen; omega)
  have hsz : (bytesRow s (grownCap w s.size 0 5)).size = grownCap w s.size 0 5 := by unfold bytesRow; simp; omega
  refine ⟨_,_, h, ⟨w.heap.size, _,_,_, by simp, Nat.le_refl _, heap_alloc_new w.drew _, .inr (Nat.le_refl _), by simpa using hge, hcm, hsz, ?_⟩, ((Below.refl _ _).drew).alloc (by simp) _⟩
  unfold bytesRow
  rw [Array.toList_append, List.take_append_of_le_length (by simp), List.take_of_length_le (by simp)]
  simp [bytesVO]
/-- The eight bytes of a number, the highest first. -/
def b8 (n : Nat) (k : Nat) : List UInt8 := (List.range k).map fun j => UInt8.ofNat (n / 2 ^ (8 * (7 - j)) % 256)
set_option maxRecDepth 100000 in
theorem b8_succ (n k : Nat) : b8 n (k + 1) = b8 n k ++ [UInt8.ofNat (n / 2 ^ (8 * (7 - k)) % 256)] := by
  unfold b8; rw [List.range_succ, List.map_append]; rfl
set_option maxRecDepth 100000 in
theorem b8_len (n k : Nat) : (b8 n k).length = k := by simp [b8]
set_option maxRecDepth 100000 in
theorem b8_words (n : Nat) : b8 n 8 = wordB (n / 4294967296) ++ wordB (n % 4294967296) := by
  have e : ∀ k, n / 4294967296 / k = n / (4294967296 * k) := fun k => Nat.div_div_eq_div_mul n _ k
  unfold b8 wordB
  simp only [List.range, List.range.loop, List.map_cons, List.map_nil, List.cons_append, List.nil_append, e]
  have q24 : n % 4294967296 / 16777216 % 256 = n / 16777216 % 256 := by omega
  have q16 : n % 4294967296 / 65536 % 256 = n / 65536 % 256 := by omega
  have q8 : n % 4294967296 / 256 % 256 = n / 256 % 256 := by omega
  have q0 : n % 4294967296 % 256 = n % 256 := by omega
  rw [q24, q16, q8, q0]
  simp
set_option maxRecDepth 100000 in
/-- What stands behind the text: the mark and j noughts. -/
theorem pad_more (n j : Nat) (hj : j ≤ padN n) (h : ¬ (n + (1 + j)) % 64 = 56) : j + 1 ≤ padN n := by
  unfold padN at *; omega
set_option maxRecDepth 100000 in
theorem pad_end (n j : Nat) (hj : j ≤ padN n) (h : (n + (1 + j)) % 64 = 56) : j = padN n := by
  unfold padN at *; omega
set_option maxRecDepth 100000 in
theorem rep_snoc (j : Nat) : List.replicate (j + 1) (0 : UInt8) = List.replicate j 0 ++ [0] := List.replicate_succ'
set_option maxRecDepth 100000 in
theorem OwnM.next {w wr w1 : World} {B : Nat} {v : Value} {P : List UInt8} {o : Obj} (hown : OwnM wr B v P) (hb : Below B w wr) (hB : B ≤ wr.heap.size) (hg : (wr.alloc o).grownBy w1 v.ownBlock) : Below B w w1 :=
  (hb.alloc hB o).grown hg (by simp; omega) (fun k hk => (hown.lt k hk).1)
set_option maxRecDepth 100000 in
theorem cell_newB (w : World) (c : UInt8) (v : Value) (hv : v = .int .u8 (c.toNat : Int)) : ∀ j u, (bytesVO [c])[j]? = some u → (w.alloc (.cells #[v] 5)).cell? ((⟨w.heap.size, 0, none⟩ : Addr).add j) = some u := by
  subst hv
  intro j u hj
  match j, hj with
  | 0, hj => simp [bytesVO] at hj; subst hj; simp [Addr.add]
set_option maxHeartbeats 3200000 in
set_option maxRecDepth 100000 in
theorem pad_any (s : ByteArray) (w : World) (hs : s.size ≤ 1000000) :
    Calls Tryz.prog 97 #[.string s] w fun e w' => (∃ v, e = .returned v ∧ OwnM w' w.heap.size v (s.data.toList ++ padB s.size)) ∧ Below w.heap.size w w' := by
  obtain ⟨i0, hi, hz0, hz1, hz2⟩ := info_parts Tryz.info5O
  obtain ⟨cap, W, hcv, hoW, hbW⟩ := own_string w s (by omega)
  have HOW := hidMO hoW
  have HBW := hidMO hbW
  have HSL : Hid (s.data.toList.length = s.size) := by unfold Hid; simp
  have HC128 := hidMO (cell_newB W 128 (.int .u8 128) rfl)
  clear hoW hbW
  go_enter Tryz.func97, Tryz.ntmps97
  go_wp2_with (first
    | (at_builtin; refine wpList_append_M rfl _ _ rfl i0 hi hz0 hz1 hz2 w.heap.size _ s.data.toList [128] rfl (HOW.out.alloc _) ⟨W.heap.size, 0, none⟩ 1 1 rfl rfl HC128.out ?c1 ?c2 ?_))
  case c1 => rw [HSL.out]; omega
  case c2 => have := HBW.out.size; simp; omega
  intro v1 w1 hown1 hgr1
  have HO1 := hidMO hown1
  have HB1 := hidMO (HOW.out.next HBW.out HBW.out.size hgr1)
  clear hown1 hgr1 HOW HBW HC128 hcv
  go_wp2
  go_loopw [3] (fun v wr => ∃ (j n : Nat), j ≤ padN s.size ∧ n = s.size + (1 + j) ∧ (∃ c g, v = .slice (some ⟨g, 0, none⟩) n c) ∧ OwnM wr w.heap.size v (s.data.toList ++ (128 :: List.replicate j 0)) ∧ Below w.heap.size w wr) (fun v _ => 2000000 - (match v with | .slice _ n _ => n | _ => 0))
  case atStart =>
    obtain ⟨g, c, hv, _⟩ := HO1.out.cells
    refine ⟨0, s.size + 1, Nat.zero_le _, rfl, ⟨c, g, ?_⟩, HO1.out, HB1.out⟩
    rw [hv, List.length_append, HSL.out]; rfl
  case round =>
    obtain ⟨j, n, hj, hn, ⟨c, g, rfl⟩, hown, hbr⟩ := hrel
    have HO := hidMO hown
    have HB := hidMO hbr
    have HN := hidMO hn
    have hnb : n ≤ 1000065 := by have : padN s.size < 64 := by unfold padN; omega
                                 omega
    have HLEN : Hid ((s.data.toList ++ (128 :: List.replicate j 0)).length = n) := by unfold Hid; rw [List.length_append, HSL.out, List.length_cons, List.length_replicate, hn]; omega
    clear hown hbr HO1 HB1
    by_cases hm : n % 64 = 56
    · have hmb : ((n : Int) % 64 != 56) = false := by simp; omega
      have HPE : Hid (j = padN s.size) := pad_end s.size j hj (by rw [← hn]; exact hm)
      have HBA : Hid (s.data.toList ++ padB s.size = (s.data.toList ++ (128 :: List.replicate j 0)) ++ b8 (s.size * 8) 8) := by
        unfold Hid padB; rw [b8_words, HPE.out]; simp
      obtain ⟨N, hN⟩ : ∃ N, N = s.size * 8 := ⟨_, rfl⟩
      rw [← hN] at HBA
      have eN : (s.size : Int) * 8 = (N : Int) := by omega
      have hN8 : N ≤ 8000000 := by omega
      have HON : Hid (OwnM wr w.heap.size (.slice (some ⟨g, 0, none⟩) n c) ((s.data.toList ++ (128 :: List.replicate j 0)) ++ b8 N 0)) := by unfold Hid; simpa [b8] using HO.out
      clear hn hN HO
      generalize s.data.toList ++ (128 :: List.replicate j 0) = P at *
      obtain ⟨wo, hwo⟩ : ∃ wo : World, wo = wr := ⟨_, rfl⟩
      rw [← hwo] at HB HON ⊢
      clear hwo
      go_wp2
      go_loopw [3, 5] (fun v i wr => ∃ k : Nat, k ≤ 8 ∧ i = .int .i64 ((7 : Int) - k) ∧ OwnM wr w.heap.size v (P ++ b8 N k) ∧ Below w.heap.size w wr) (fun _ i _ => (intOf i + 1).toNat)
      case atStart => exact ⟨0, by decide, rfl, HON.out, HB.out⟩
      case round =>
        obtain ⟨k, hk, rfl, hown, hbr⟩ := hrel
        clear HON HB
        have HO := hidMO hown
        have HB := hidMO hbr
        clear hown hbr
        by_cases hk8 : k < 8
        · obtain ⟨q, hq⟩ : ∃ q, q = 7 - k := ⟨_, rfl⟩
          have e1 : (7 : Int) - (k : Int) = (q : Int) := by omega
          obtain ⟨e, he⟩ : ∃ e, e = 8 * q := ⟨_, rfl⟩
          have e2 : (8 : Int) * (q : Int) = (e : Int) := by omega
          have e56 : e ≤ 56 := by omega
          obtain ⟨cc, hcc⟩ : ∃ cc, cc = UInt8.ofNat (N / 2 ^ e % 256) := ⟨_, rfl⟩
          have e3 : (N : Int) / 2 ^ e % 256 = (cc.toNat : Int) := by rw [hcc]; simp
          have HB8 : Hid (b8 N (k + 1) = b8 N k ++ [cc]) := by unfold Hid; rw [b8_succ, hcc, he, hq]
          have HLP : Hid ((P ++ b8 N k).length = n + k) := by unfold Hid; rw [List.length_append, b8_len, HLEN.out]
          have HCB := hidMO (cell_newB wr cc (.int .u8 (cc.toNat : Int)) rfl)
          have HBS := hidMO HB.out.size
          simp only [e1]
          have HK : Hid ((q : Int) - 1 = (7 : Int) - ((k + 1 : Nat) : Int)) := by unfold Hid; omega
          clear hq he hcc e1
          go_wp2_with (first
            | (at_builtin; refine wpList_append_M rfl _ _ rfl i0 hi hz0 hz1 hz2 w.heap.size _ (P ++ b8 N k) [cc] rfl (HO.out.alloc _) ⟨wr.heap.size, 0, none⟩ 1 1 rfl rfl HCB.out ?d1 ?d2 ?_))
          case d1 => rw [HLP.out]; omega
          case d2 => have := HBS.out; simp; omega
          intro v' w2 hown' hgr'
          have HO2 : Hid (OwnM w2 w.heap.size v' (P ++ b8 N (k + 1))) := by
            unfold Hid; rw [HB8.out]; exact hown'
          have HB2 := hidMO (HO.out.next HB.out HBS.out hgr')
          clear hown' hgr'
          go_wp2
          go_roundw
          case rel => exact ⟨k + 1, by omega, val_intO HK.out, HO2.out, HB2.out⟩
          case measure => simp [intOf] <;> omega
        · obtain rfl : k = 8 := by omega
          have HF : Hid (OwnM wr w.heap.size u3 (s.data.toList ++ padB s.size)) := by unfold Hid; rw [HBA.out]; exact HO.out
          rw [show (7 : Int) - ((8 : Nat) : Int) = -1 from rfl]
          go_wp2
          go_ret
          exact ⟨⟨_, rfl, HF.out⟩, HB.out⟩
    · have hmb : ((n : Int) % 64 != 56) = true := by simp; omega
      have HJ2 : Hid (j + 1 ≤ padN s.size) := pad_more s.size j hj (by rw [← hn]; exact hm)
      have HC0 := hidMO (cell_newB wr 0 (.int .u8 0) rfl)
      have HBS := hidMO HB.out.size
      clear hn
      go_wp2_with (first
        | (at_builtin; refine wpList_append_M rfl _ _ rfl i0 hi hz0 hz1 hz2 w.heap.size _ (s.data.toList ++ (128 :: List.replicate j 0)) [0] rfl (HO.out.alloc _) ⟨wr.heap.size, 0, none⟩ 1 1 rfl rfl HC0.out ?c3 ?c4 ?_))
      case c3 => rw [HLEN.out]; omega
      case c4 => have := HBS.out; simp; omega
      intro v' w2 hown' hgr'
      have HO2 : Hid (OwnM w2 w.heap.size v' (s.data.toList ++ (128 :: List.replicate (j + 1) 0))) := by
        unfold Hid; rw [rep_snoc]; simpa using hown'
      have HB2 := hidMO (HO.out.next HB.out HBS.out hgr')
      obtain ⟨g', c', rfl, _⟩ := HO2.out.cells
      have HLE2 : Hid ((s.data.toList ++ (128 :: List.replicate (j + 1) 0)).length = n + 1) := by unfold Hid; rw [List.length_append, HSL.out, List.length_cons, List.length_replicate, HN.out]; omega
      rw [HLE2.out] at HO2 ⊢
      clear hown' hgr'
      go_wp2
      go_roundw
      case rel => exact ⟨j + 1, n + 1, HJ2.out, by rw [HN.out]; omega, ⟨c', g', rfl⟩, HO2.out, HB2.out⟩
      case measure => simp; omega
set_option maxRecDepth 100000 in
theorem quiet_ex {P : Program} {f : FuncId} {args : Array Value} {w : World} {n x : Nat} {v : Value}
    (h : Calls P f args (w.drewN (n + x)) fun e w' => e = .returned v ∧ ∃ m, w' = (w.drewN (n + x)).drewN m) : Calls P f args (w.drewN (n + x)) fun e w'' => e = .returned v ∧ ∃ m, w'' = w.drewN (n + m) :=
  h.mono fun _ _ ⟨he, m, hm⟩ => ⟨he, x + m, by rw [hm, World.drewN_drewN, Nat.add_assoc]⟩
set_option maxRecDepth 100000 in
/-- append onto words of the call's own: the cells that were there stay. -/
theorem run_append_W (w : World) (ty : TypeId) (i : TypeInfo) (hi : Tryz.prog.info? 79 = some i) (hz0 : i.zero = some (.int .u32 0)) (hz1 : i.size = 1) (hz2 : i.bytes = 4) (B g cap : Nat) (l : List Nat) (x : Nat) (hown : OwnW w B (.slice (some ⟨g, 0, none⟩) l.length cap) l) (ad : Addr) (c : Nat) (hnews : w.cell? ad = some (.int .u32 (x : Int)))
    (h63 : l.length ≤ 1000000) (hbase : B ≤ w.heap.size) :
    ∃ g' cap' w', (Builtin.append_ #[110, 110] ty #[.slice (some ⟨g, 0, none⟩) l.length cap, .slice (some ad) 1 c]).run Tryz.prog w = .ok (.slice (some ⟨g', 0, none⟩) (l.length + 1) cap') w' ∧ OwnW w' B (.slice (some ⟨g', 0, none⟩) (l.length + 1) cap') (l ++ [x]) ∧ w.grownBy w' (some g) ∧ ∀ j, j < l.length → w'.cell? ⟨g, j, none⟩ = w.cell? ⟨g, j, none⟩ := by
  have hn : ∀ j u, [Value.int .u32 (x : Int)][j]? = some u → w.cell? (ad.add j) = some u := by
    intro j u hj
    match j, hj with
    | 0, hj => simp at hj; subst hj; simpa [Addr.add] using hnews
  have hcells := fun j u => World.ownsRow.cells (g := g) hown rfl j u
  have hkeep : ∀ (w' : World) (g' cap' : Nat), OwnW w' B (.slice (some ⟨g', 0, none⟩) (l.length + 1) cap') (l ++ [x]) → g' = g → ∀ j, j < l.length → w'.cell? ⟨g, j, none⟩ = w.cell? ⟨g, j, none⟩ := by
    intro w' g' cap' ho hg j hj
    subst hg
    have h1 := ho.at j (by rw [List.length_append]; omega)
    have h2 := hown.at j hj
    rw [h1, h2, List.getD_eq_getElem?_getD, List.getD_eq_getElem?_getD, List.getElem?_append_left hj]
  rcases hown.2 with ⟨h0, _⟩ | ⟨g2, cap2, cur, hv, hbg, hg, hnc, hcm, hcs, htake⟩
  · simp at h0
  · simp only [Value.slice.injEq, Option.some.injEq, Addr.mk.injEq, and_true, true_and] at hv
    obtain ⟨rfl, rfl⟩ := hv
    by_cases hroom : l.length + 1 ≤ cap
    · have hr := run_append_room (P := Tryz.prog) w 110 ty 79 i Tryz.underlying110 hi g l.length cap cur hg ad 1 c [.int .u32 (x : Int)] (by rw [hz1]; rfl) hn (one_word x) hroom (by rw [hz1]; simp; omega)
      have ho : OwnW (w.setRow g (cur.toList.take (l.length * i.size) ++ [Value.int .u32 (x : Int)] ++ cur.toList.drop (l.length * i.size + [Value.int .u32 (x : Int)].length)).toArray) B (.slice (some ⟨g, 0, none⟩) (l.length + 1) cap) (l ++ [x]) := by
        refine ⟨by simp [wordsV_len], .inr ⟨g, cap, _, by rw [List.length_append]; rfl, hbg, setRow_heap w g cur _ 79 _ hg, by rw [List.length_append]; exact hroom, hcm, ?_, ?_⟩⟩
        · rw [hz1]; simp; omega
        · rw [hz1, Nat.mul_one, Nat.mul_one, wordsV_app]
          rw [Nat.mul_one] at htake
          rw [htake, show (l ++ [x]).length = (wordsV l ++ [Value.int .u32 (x : Int)]).length by simp [wordsV]]
          exact List.take_left
      exact ⟨g, cap, _, hr, ho, ⟨rfl, rfl, rfl, by simp, fun k _ hk => setRow_other w g k _ (fun e => hk (by rw [e]))⟩, hkeep _ g cap ho rfl⟩
    · have hr := run_append_grow (P := Tryz.prog) w 110 ty 79 i (.int .u32 0) Tryz.underlying110 hi hz0 ⟨g, 0, none⟩ l.length cap (wordsV l) (by rw [wordsV_len, hz1, Nat.mul_one]) hcells ad 1 c [.int .u32 (x : Int)] (by rw [hz1]; rfl) hn (by omega) (by omega) (growslice_fits (by omega) (by rw [hz2]; omega))
      have hge := grownCap_ge w (l.length + 1) cap 79
      have hcm2 : grownCap w (l.length + 1) cap 79 ≤ maxLen := grownCap_le_maxLen w (l.length + 1) cap 79 (by unfold maxLen; omega)
      refine ⟨w.heap.size, _,_, hr, ⟨by simp [wordsV_len], .inr ⟨w.heap.size, _,_, by rw [List.length_append]; rfl, hbase, heap_alloc_new w.drew _, by rw [List.length_append]; exact hge, hcm2, ?_, ?_⟩⟩, ⟨rfl, rfl, rfl, by simp, fun k hk _ => Below.heap_alloc w.drew _ k hk⟩, fun j _ => World.cell?_of_block (a := ⟨g, j, none⟩) (Below.heap_alloc w.drew _ g (Array.getElem?_eq_some_iff.1 hg).1)⟩
      · simp only [Array.size_append, List.size_toArray, size_zeroCells, wordsV_len]
        have : (Value.int .u32 0).cells.size = 1 := rfl
        rw [this]
        simp
        omega
      · simp only [Array.toList_append]
        rw [Nat.mul_one, wordsV_app, show (l ++ [x]).length = (wordsV l ++ [Value.int .u32 (x : Int)]).length by simp [wordsV]]
        exact List.take_left
set_option maxRecDepth 100000 in
theorem step_append_W {ops : Array Oper} {o : Oper} {a : Act} {w : World} {K : Act → World → Prop} {Q : Exit → Act → World → Prop} {E : Prop} (hgd : o.guard = none) (s y : Operand)
    (ho : o.op = .call { callee := .builtin .append, args := #[s, y], argTypes := #[110, 110] }) (i : TypeInfo) (hi : Tryz.prog.info? 79 = some i) (hz0 : i.zero = some (.int .u32 0)) (hz1 : i.size = 1) (hz2 : i.bytes = 4) (B g n cap : Nat) (l : List Nat) (x : Nat) (hs : a.eval s = .slice (some ⟨g, 0, none⟩) n cap) (hn : l.length = n) (hown : OwnW w B (.slice (some ⟨g, 0, none⟩) n cap) l)
    (ad : Addr) (c : Nat) (hx : a.eval y = .slice (some ad) 1 c) (hnews : w.cell? ad = some (.int .u32 (x : Int))) (h63 : l.length ≤ 1000000) (hbase : B ≤ w.heap.size)
    (h : ∀ g' cap' w', OwnW w' B (.slice (some ⟨g', 0, none⟩) (n + 1) cap') (l ++ [x]) → w.grownBy w' (some g) → (∀ j, j < n → w'.cell? ⟨g, j, none⟩ = w.cell? ⟨g, j, none⟩) → K (a.put o.dst (.slice (some ⟨g', 0, none⟩) (n + 1) cap')) w') :
    if Region.wanted o (yielded ops a.tmps) = true then Oper.wp Tryz.prog o a w K Q else E := by
  subst hn
  have hw : Region.wanted o (yielded ops a.tmps) = true := by simp [Region.wanted, hgd]
  rw [if_pos hw]
  obtain ⟨g', cap', w', hr, h2, h3, h4⟩ := run_append_W w o.type i hi hz0 hz1 hz2 B g cap l x hown ad c hnews h63 hbase
  unfold Oper.wp
  simp only [execOp, ho, resolve, invoke, builtin, Sem.run_bind, Sem.run_pure, Result.andThen_ok, List.map_toArray, List.map_cons, List.map_nil, hs, hx, hr]
  exact h g' cap' w' h2 h3 h4
set_option maxRecDepth 100000 in
/-- The row of eighty words, by the document's loop. -/
theorem keepW4 {w1 w2 : World} {g n a0 a1 a2 a3 : Nat} {v0 v1 v2 v3 : Value} (hk : ∀ j, j < n → w2.cell? ⟨g, j, none⟩ = w1.cell? ⟨g, j, none⟩) (l0 : a0 < n) (l1 : a1 < n) (l2 : a2 < n) (l3 : a3 < n)
    (h : w1.cell? ⟨g, a0, none⟩ = some v0 ∧ w1.cell? ⟨g, a1, none⟩ = some v1 ∧ w1.cell? ⟨g, a2, none⟩ = some v2 ∧ w1.cell? ⟨g, a3, none⟩ = some v3) :
    w2.cell? ⟨g, a0, none⟩ = some v0 ∧ w2.cell? ⟨g, a1, none⟩ = some v1 ∧ w2.cell? ⟨g, a2, none⟩ = some v2 ∧ w2.cell? ⟨g, a3, none⟩ = some v3 :=
  ⟨(hk a0 l0).trans h.1, (hk a1 l1).trans h.2.1, (hk a2 l2).trans h.2.2.1, (hk a3 l3).trans h.2.2.2⟩
set_option maxRecDepth 100000 in
theorem pad_blocks (M : List UInt8) : ∃ K, (M ++ padB M.length).length = 64 * K ∧ 1 ≤ K ∧ 64 * K ≤ M.length + 100 := by
  have h := pad_sum M.length
  have hl : (padB M.length).length ≤ 100 := by rw [padB_len]; unfold padN; omega
  have h9 : 9 ≤ (padB M.length).length := by rw [padB_len]; omega
  refine ⟨(M.length + (padB M.length).length) / 64, ?_, ?_, ?_⟩
  · rw [List.length_append]; omega
  · omega
  · omega
set_option maxRecDepth 100000 in
theorem wordsAt_blocks (mix : List Nat → List UInt8 → List Nat) (s : List Nat) (M : List UInt8) (K : Nat) (h : M.length = 64 * K) : wordsAt mix s M = absN mix s M K := by
  unfold wordsAt; rw [h, Nat.mul_comm, Nat.mul_div_cancel _ (by decide)]
set_option maxRecDepth 100000 in
theorem blk_len (M : List UInt8) (k K : Nat) (h : M.length = 64 * K) (hk : k < K) : (blk M k).length = 64 := by
  unfold blk; rw [List.length_take, List.length_drop]; omega
set_option maxRecDepth 100000 in
theorem OwnM.range {w : World} {B : Nat} {v : Value} {M : List UInt8} (h : OwnM w B v M) : ∃ g cap, v = .slice (some ⟨g, 0, none⟩) M.length cap ∧ B ≤ g ∧ g < w.heap.size ∧ M.length ≤ cap ∧ cap ≤ maxLen ∧ ∀ k K, M.length = 64 * K → k < K → w.rangeAt g (64 * k) (bytesVO (blk M k)) := by
  have h' := h
  obtain ⟨g, cap, cur, fz, h1, hb, hg, hf, hl, hm, hs, ht⟩ := h'
  obtain ⟨g2, cap2, e1, _,_,_, hc⟩ := h.cells
  rw [h1] at e1
  simp only [Value.slice.injEq, Option.some.injEq, Addr.mk.injEq, and_true, true_and] at e1
  obtain ⟨rfl, rfl⟩ := e1
  refine ⟨g, cap, h1, hb, (Array.getElem?_eq_some_iff.1 hg).1, hl, hm, fun k K hK hk => ?_⟩
  intro j v hv
  have hj : j < (blk M k).length := by have := (List.getElem?_eq_some_iff.1 hv).1; rwa [bytesV_lenO] at this
  have hj64 : j < 64 := by rw [blk_len M k K hK hk] at hj; exact hj
  rw [bytesV_atO _ j hj] at hv
  rw [hc (64 * k + j) (by omega)]
  simp only [Option.some.injEq] at hv
  rw [← hv]
  have e : (blk M k)[j]? = M[64 * k + j]? := by unfold blk; rw [List.getElem?_take, if_pos hj64, List.getElem?_drop]
  rw [List.getElem?_eq_getElem hj, List.getElem?_eq_getElem (show 64 * k + j < M.length by omega)] at e
  rw [Option.some.inj e]
set_option maxRecDepth 100000 in
set_option maxRecDepth 100000 in
theorem mixL1_of (x0 x1 x2 x3 x4 a b c d e : Nat) (p : List UInt8) (h : (a, b, c, d, e) = rounds1 (sched1 p) (x0, x1, x2, x3, x4) 80) : mixL1 [x0, x1, x2, x3, x4] p = [add32 x0 a, add32 x1 b, add32 x2 c, add32 x3 d, add32 x4 e] := by
  unfold mixL1
  show [add32 x0 (rounds1 (sched1 p) (x0, x1, x2, x3, x4) 80).1, add32 x1 (rounds1 (sched1 p) (x0, x1, x2, x3, x4) 80).2.1, add32 x2 (rounds1 (sched1 p) (x0, x1, x2, x3, x4) 80).2.2.1, add32 x3 (rounds1 (sched1 p) (x0, x1, x2, x3, x4) 80).2.2.2.1, add32 x4 (rounds1 (sched1 p) (x0, x1, x2, x3, x4) 80).2.2.2.2] = _
  rw [← h]
set_option maxRecDepth 100000 in
set_option maxHeartbeats 8000000 in
set_option maxRecDepth 100000 in
theorem rsum1_any (s : ByteArray) (w : World) (hs : s.size ≤ 1000000) :
    Calls Tryz.prog 55 #[.string s] w fun e w' => e = .returned (.string ⟨(sha1L s.data.toList).toArray⟩) ∧ Below w.heap.size w w' := by
  obtain ⟨i0, hi, hz0, hz1, hz2⟩ := info_parts Tryz.info79
  go_enter Tryz.func55, Tryz.ntmps55
  go_wp2_with fail
  refine (pad_any s w hs).mono ?_
  rintro _ w1 ⟨⟨v1, rfl, ho1⟩, hb1⟩
  obtain ⟨K, hK, hK1, hKb⟩ := pad_blocks s.data.toList
  have hsl : s.data.toList.length = s.size := by simp
  rw [hsl] at hK hKb
  obtain ⟨gp, cap, rfl, hgp1, hgp2, hcap, hcm, hrg⟩ := ho1.range
  have HSH : Hid (sha1L s.data.toList = wordsB (absN mixL1 h0 (s.data.toList ++ padB s.size) K)) := by
    unfold Hid sha1L; rw [hsl, wordsAt_blocks _ _ _ K hK]
  clear ho1
  generalize s.data.toList ++ padB s.size = M at *
  have HRG := hidMO (fun k hk => hrg k K hK hk)
  have HKM := hidMO hK
  have HB1 := hidMO hb1
  rw [hK] at hcap
  rw [hK]
  clear hrg hK hb1
  obtain ⟨LM, hLM⟩ : ∃ LM, LM = 64 * K := ⟨_, rfl⟩
  rw [← hLM] at hcap hKb ⊢
  have HLM := hidMO hLM
  have lm1 : 64 * K ≤ LM := by omega
  have lm2 : LM ≤ 64 * K := by omega
  have HCM : Hid (cap ≤ maxLen) := hcm
  have hcap9 : (cap : Int) ≤ 9223372036854775807 := by unfold maxLen at hcm; omega
  clear hLM hcm
  have HC0 : Hid ((w1.alloc (.cells #[.int .u32 1732584193, .int .u32 4023233417, .int .u32 2562383102, .int .u32 271733878, .int .u32 3285377520] 79)).heap[w1.heap.size]? = some (.cells #[.int .u32 1732584193, .int .u32 4023233417, .int .u32 2562383102, .int .u32 271733878, .int .u32 3285377520] 79 (0, 0))) := heap_alloc_new w1 _
  have HBZ : Hid (Below w1.heap.size w1 (w1.alloc (.cells #[.int .u32 1732584193, .int .u32 4023233417, .int .u32 2562383102, .int .u32 271733878, .int .u32 3285377520] 79))) := (Below.refl _ _).alloc (Nat.le_refl _) _
  go_wp2
  go_loopw [4, 5] (fun hv av wr => ∃ k q g x0 x1 x2 x3 x4 : Nat, k ≤ K ∧ q = 64 * k ∧ av = .int .i64 q ∧ hv = .slice (some ⟨g, 0, none⟩) 5 5 ∧ (wr.cell? ⟨g, 0, none⟩ = some (.int .u32 (x0 : Int)) ∧ wr.cell? ⟨g, 1, none⟩ = some (.int .u32 (x1 : Int)) ∧ wr.cell? ⟨g, 2, none⟩ = some (.int .u32 (x2 : Int)) ∧ wr.cell? ⟨g, 3, none⟩ = some (.int .u32 (x3 : Int)) ∧ wr.cell? ⟨g, 4, none⟩ = some (.int .u32 (x4 : Int))) ∧ [x0, x1, x2, x3, x4] = absN mixL1 h0 M k ∧ Below w1.heap.size w1 wr) (fun _ av _ => LM - (intOf av).toNat)
  case atStart => exact ⟨0, 0, w1.heap.size, 1732584193, 4023233417, 2562383102, 271733878, 3285377520, Nat.zero_le _, rfl, rfl, rfl, ⟨by rw [cell_of_row _ _ 0 _ 79 (0, 0) HC0.out]; rfl, by rw [cell_of_row _ _ 1 _ 79 (0, 0) HC0.out]; rfl, by rw [cell_of_row _ _ 2 _ 79 (0, 0) HC0.out]; rfl, by rw [cell_of_row _ _ 3 _ 79 (0, 0) HC0.out]; rfl, by rw [cell_of_row _ _ 4 _ 79 (0, 0) HC0.out]; rfl⟩, rfl, HBZ.out⟩
  case round =>
    obtain ⟨k, q, g, x0, x1, x2, x3, x4, hk, hq, rfl, rfl, hcells, habs, hbr⟩ := hrel
    have HAB := hidMO habs
    have HCE := hidMO hcells
    have HB := hidMO hbr
    have HQ := hidMO hq
    clear habs hcells hbr HC0 HBZ
    have hW5 : W32 5 [x0, x1, x2, x3, x4] := by rw [HAB.out]; exact absN_ok h0_ok (fun h p _ => mixL1_ok h p) M k
    have bx0 : x0 < 4294967296 := hW5.at5 0 x0 rfl
    have bx1 : x1 < 4294967296 := hW5.at5 1 x1 rfl
    have bx2 : x2 < 4294967296 := hW5.at5 2 x2 rfl
    have bx3 : x3 < 4294967296 := hW5.at5 3 x3 rfl
    have bx4 : x4 < 4294967296 := hW5.at5 4 x4 rfl
    by_cases hlt : k < K
    · have hqL : (q : Int) < (LM : Int) := by omega
      obtain ⟨q2, hq2⟩ : ∃ q2, q2 = q + 64 := ⟨_, rfl⟩
      have wq : IntKind.i64.wrap ((q : Int) + 64) = (q2 : Int) := by rw [IntKind.wrap_i64]; omega
      have wq' : (q : Int) + 64 = (q2 : Int) := by omega
      have s1 : (q : Int) ≤ (q2 : Int) := by omega
      have s2 : (q2 : Int) ≤ (cap : Int) := by omega
      have s3 : (0 : Int) ≤ (q : Int) := by omega
      have s4 : q2 - q = 64 := by omega
      have s5 : q < cap := by omega
      have hRB := HRG.out k hlt
      rw [← hq] at hRB
      have HRB : Hid (wr.rangeAt gp q (bytesVO (blk M k))) := rangeW_keep hRB HB.out hgp2
      have HBL : Hid ((blk M k).length = 64) := blk_len M k K HKM.out hlt
      have HGP : Hid (gp < wr.heap.size) := Nat.lt_of_lt_of_le hgp2 HB.out.size
      have HABS : Hid (absN mixL1 h0 M (k + 1) = mixL1 [x0, x1, x2, x3, x4] (blk M k)) := by unfold Hid; rw [absN, ← HAB.out]
      clear hRB hq hq2
      generalize blk M k = p at *
      go_wp2_with fail
      refine (words_any gp q (cap - q) p wr HBL.out HRB.out HGP.out).mono ?_
      rintro _ w2 ⟨⟨v2, rfl, ho2⟩, hb2⟩
      have hl16 : (words16 p).length = 16 := by simp [words16]
      obtain ⟨g2, c2, rfl⟩ : ∃ g2 c2, v2 = .slice (some ⟨g2, 0, none⟩) 16 c2 := by
        rcases ho2.2 with ⟨_, hn⟩ | ⟨g2, c2, cur, hv, _⟩
        · rw [hl16] at hn; omega
        · exact ⟨g2, c2, by rw [hv, hl16]⟩
      have HO2 := hidMO ho2
      have HB2 := hidMO hb2
      obtain ⟨wo, hwo⟩ : ∃ wo : World, wo = wr := ⟨_, rfl⟩
      rw [← hwo] at HO2 HB2 HCE HB HRB HGP
      have HL16 := hidMO hl16
      clear hwo ho2 hb2 hl16
      go_wp2
      go_loopw [6, 7] (fun v i wr => ∃ n N g6 c6 : Nat, n ≤ 64 ∧ N = 16 + n ∧ i = .int .i64 N ∧ v = .slice (some ⟨g6, 0, none⟩) N c6 ∧ wo.heap.size ≤ g6 ∧ OwnW wr wo.heap.size (.slice (some ⟨g6, 0, none⟩) N c6) (ext1 n (words16 p)) ∧ Below wo.heap.size wo wr) (fun _ i _ => 80 - (intOf i).toNat)
      case atStart => exact ⟨0, 16, g2, c2, by decide, rfl, rfl, rfl, (World.ownsRow.lt HO2.out g2 rfl).1, HO2.out, HB2.out⟩
      case round =>
        obtain ⟨n, N, g6, c6, hn, hN, rfl, rfl, hg6, hown, hbr⟩ := hrel
        clear HO2 HB2
        have HO := hidMO hown
        have HBI := hidMO hbr
        have HEL : Hid ((ext1 n (words16 p)).length = N) := by unfold Hid; rw [ext1_len, HL16.out, hN]
        have m1 : N ≤ 16 + n := by omega
        have m2 : 16 + n ≤ N := by omega
        have HNN := hidMO hN
        clear hown hbr hN
        by_cases h64 : n < 64
        · obtain ⟨a3, ea3⟩ : ∃ a, a = N - 3 := ⟨_, rfl⟩
          obtain ⟨a8, ea8⟩ : ∃ a, a = N - 8 := ⟨_, rfl⟩
          obtain ⟨a14, ea14⟩ : ∃ a, a = N - 14 := ⟨_, rfl⟩
          obtain ⟨a16, ea16⟩ : ∃ a, a = N - 16 := ⟨_, rfl⟩
          have w3 : IntKind.i64.wrap ((N : Int) - 3) = (a3 : Int) := by rw [i64_smallO _ (by omega) (by omega)]; omega
          have l3 : (a3 : Int) < (N : Int) := by omega
          have k3 : a3 < N := by omega
          have cc3 := HO.out.at a3 (by rw [HEL.out]; omega)
          have w8 : IntKind.i64.wrap ((N : Int) - 8) = (a8 : Int) := by rw [i64_smallO _ (by omega) (by omega)]; omega
          have l8 : (a8 : Int) < (N : Int) := by omega
          have k8 : a8 < N := by omega
          have cc8 := HO.out.at a8 (by rw [HEL.out]; omega)
          have w14 : IntKind.i64.wrap ((N : Int) - 14) = (a14 : Int) := by rw [i64_smallO _ (by omega) (by omega)]; omega
          have l14 : (a14 : Int) < (N : Int) := by omega
          have k14 : a14 < N := by omega
          have cc14 := HO.out.at a14 (by rw [HEL.out]; omega)
          have w16 : IntKind.i64.wrap ((N : Int) - 16) = (a16 : Int) := by rw [i64_smallO _ (by omega) (by omega)]; omega
          have l16 : (a16 : Int) < (N : Int) := by omega
          have k16 : a16 < N := by omega
          have cc16 := HO.out.at a16 (by rw [HEL.out]; omega)
          have dN : decide ((N : Int) < 80) = true := by simp; omega
          obtain ⟨y3, ey3⟩ : ∃ y, y = (ext1 n (words16 p)).getD a3 0 := ⟨_, rfl⟩
          rw [← ey3] at cc3
          have b3 : y3 < 4294967296 := by rw [ey3]; exact ext1_bound p n a3
          obtain ⟨y8, ey8⟩ : ∃ y, y = (ext1 n (words16 p)).getD a8 0 := ⟨_, rfl⟩
          rw [← ey8] at cc8
          have b8 : y8 < 4294967296 := by rw [ey8]; exact ext1_bound p n a8
          obtain ⟨y14, ey14⟩ : ∃ y, y = (ext1 n (words16 p)).getD a14 0 := ⟨_, rfl⟩
          rw [← ey14] at cc14
          have b14 : y14 < 4294967296 := by rw [ey14]; exact ext1_bound p n a14
          obtain ⟨y16, ey16⟩ : ∃ y, y = (ext1 n (words16 p)).getD a16 0 := ⟨_, rfl⟩
          rw [← ey16] at cc16
          have b16 : y16 < 4294967296 := by rw [ey16]; exact ext1_bound p n a16
          have HNX : Hid (nxt1 (ext1 n (words16 p)) (ext1 n (words16 p)).length = rotl 1 (((y3 ^^^ y8) ^^^ y14) ^^^ y16)) := by
            unfold Hid nxt1; rw [HEL.out, ← ea3, ← ea8, ← ea14, ← ea16, ey3, ey8, ey14, ey16]
          obtain ⟨x1', ex1⟩ : ∃ x, x = y3 ^^^ y8 := ⟨_, rfl⟩
          obtain ⟨x2', ex2⟩ : ∃ x, x = x1' ^^^ y14 := ⟨_, rfl⟩
          obtain ⟨x3', ex3⟩ : ∃ x, x = x2' ^^^ y16 := ⟨_, rfl⟩
          have q1 : bits .xor .u32 (y3 : Int) (y8 : Int) = (x1' : Int) := by rw [ex1]; exact u32_xor_nat _ _ b3 b8
          have bx1' : x1' < 4294967296 := by rw [ex1]; exact xor_lt b3 b8
          have q2' : bits .xor .u32 (x1' : Int) (y14 : Int) = (x2' : Int) := by rw [ex2]; exact u32_xor_nat _ _ bx1' b14
          have bx2' : x2' < 4294967296 := by rw [ex2]; exact xor_lt bx1' b14
          have q3 : bits .xor .u32 (x2' : Int) (y16 : Int) = (x3' : Int) := by rw [ex3]; exact u32_xor_nat _ _ bx2' b16
          have bx3' : x3' < 4294967296 := by rw [ex3]; exact xor_lt bx2' b16
          rw [← ex1, ← ex2, ← ex3] at HNX
          have HTN : Hid (∀ v : World, Calls Tryz.prog 99 #[.int .u32 (x3' : Int), .int .i64 1] v fun e w' => e = .returned (.int .u32 ((rotl 1 x3' : Nat) : Int)) ∧ ∃ n, w' = v.drewN n) := fun v => turn_any x3' 1 v bx3' (by decide) (by decide)
          obtain ⟨z, hz⟩ : ∃ z, z = rotl 1 x3' := ⟨_, rfl⟩
          rw [← hz] at HTN HNX
          have HEX : Hid (ext1 (n + 1) (words16 p) = ext1 n (words16 p) ++ [z]) := by unfold Hid; rw [ext1_succ, HNX.out]
          have HBS := hidMO HBI.out.size
          have HLE : Hid ((ext1 n (words16 p)).length ≤ 1000000) := by unfold Hid; rw [HEL.out]; omega
          clear ey3 ey8 ey14 ey16 ex1 ex2 ex3 ea3 ea8 ea14 ea16 hz HNX
          generalize ext1 n (words16 p) = P at *
          have HOA : Hid (∀ m, OwnW ((wr.drewN m).alloc (.cells #[.int .u32 (z : Int)] 79)) wo.heap.size (.slice (some ⟨g6, 0, none⟩) N c6) P) := fun m => World.ownsRow.alloc (w := wr.drewN m) HO.out _
          have HCA : Hid (∀ m, ((wr.drewN m).alloc (.cells #[.int .u32 (z : Int)] 79)).cell? ⟨wr.heap.size, 0, none⟩ = some (.int .u32 (z : Int))) := fun m => World.cell?_alloc_mark (wr.drewN m) #[.int .u32 (z : Int)] 79 (0, 0) 0
          have HBA : Hid (∀ m, wo.heap.size ≤ ((wr.drewN m).alloc (.cells #[.int .u32 (z : Int)] 79)).heap.size) := fun m => by have := HBS.out; simp; omega
          have HBG : Hid (∀ m w', ((wr.drewN m).alloc (.cells #[.int .u32 (z : Int)] 79)).grownBy w' (some g6) → Below wo.heap.size wo w') := fun m w' hg => ((below_drewN HBI.out m).alloc HBS.out _).grown hg (HBA.out m) (fun k hk => by simp at hk; omega)
          go_wp2_with fail
          go_region_held3 (fun w' => w'.cell? ⟨g6, a3, none⟩ = some (.int .u32 (y3 : Int)) ∧ w'.cell? ⟨g6, a8, none⟩ = some (.int .u32 (y8 : Int)) ∧ w'.cell? ⟨g6, a14, none⟩ = some (.int .u32 (y14 : Int)) ∧ w'.cell? ⟨g6, a16, none⟩ = some (.int .u32 (y16 : Int))) (first | exact keepW4 hkp k3 k8 k14 k16 (by assumption) | go_keep)
            (first
              | (go_at_call 99; with_reducible refine (HTN.out _).mono ?_; rintro e w' ⟨rfl, nT, rfl⟩)
              | (refine step_append_W rfl _ _ rfl i0 hi hz0 hz1 hz2 wo.heap.size g6 N c6 P z rfl HEL.out (HOA.out _) ⟨wr.heap.size, 0, none⟩ 1 rfl (HCA.out _) HLE.out (HBA.out _) ?_; intro g7 c7 w7 ho7 hg7 hkp; have HO7 := hidMO ho7; have HB7 := hidMO (HBG.out _ _ hg7)))
          clear hkp ho7 hg7
          have HG7 : Hid (wo.heap.size ≤ g7) := (World.ownsRow.lt HO7.out g7 rfl).1
          go_wp2
          go_roundw
          case rel => exact ⟨n + 1, N + 1, g7, c7, by omega, by rw [HNN.out]; omega, by go_num, rfl, HG7.out, by rw [HEX.out]; exact HO7.out, HB7.out⟩
          case measure => simp [intOf]; omega
        · obtain rfl : n = 64 := by omega
          obtain rfl : N = 80 := by omega
          have HSC : Hid (OwnW wr wo.heap.size (.slice (some ⟨g6, 0, none⟩) 80 c6) (sched1 p)) := HO.out
          have hce := HCE.out
          have HC5 : Hid (wr.cell? ⟨g, 0, none⟩ = some (.int .u32 (x0 : Int)) ∧ wr.cell? ⟨g, 1, none⟩ = some (.int .u32 (x1 : Int)) ∧ wr.cell? ⟨g, 2, none⟩ = some (.int .u32 (x2 : Int)) ∧ wr.cell? ⟨g, 3, none⟩ = some (.int .u32 (x3 : Int)) ∧ wr.cell? ⟨g, 4, none⟩ = some (.int .u32 (x4 : Int))) := by
            have hb : ∀ i v, wo.cell? ⟨g, i, none⟩ = some v → wr.cell? ⟨g, i, none⟩ = some v := fun i v hv => (HBI.out.cell (p := ⟨g, i, none⟩) (World.block_lt_of_cell? wo _ hv)).trans hv
            exact ⟨hb _ _ hce.1, hb _ _ hce.2.1, hb _ _ hce.2.2.1, hb _ _ hce.2.2.2.1, hb _ _ hce.2.2.2.2⟩
          clear HO hce
          obtain ⟨r0, r1, r2, r3, r4⟩ := HC5.out
          rw [show ((80 : Nat) : Int) = 80 from rfl]
          go_wp2
          go_quiet (fail)
          obtain ⟨wi, hwi⟩ : ∃ wi : World, wi = wr := ⟨_, rfl⟩
          rw [← hwi] at HSC HC5 HBI r0 r1 r2 r3 r4 ⊢
          clear hwi
          go_wp2
          go_loopw [8, 9, 10, 11, 12, 13, 14, 15, 16] (fun va vb vc vd ve i _ _ _ wr => ∃ (k a b c d e m : Nat), k ≤ 80 ∧ i = .int .i64 (k : Int) ∧ va = .int .u32 (a : Int) ∧ vb = .int .u32 (b : Int) ∧ vc = .int .u32 (c : Int) ∧ vd = .int .u32 (d : Int) ∧ ve = .int .u32 (e : Int) ∧
      a < 4294967296 ∧ b < 4294967296 ∧ c < 4294967296 ∧ d < 4294967296 ∧ e < 4294967296 ∧ (a, b, c, d, e) = rounds1 (sched1 p) (x0, x1, x2, x3, x4) k ∧ wr = wi.drewN m) (fun _ _ _ _ _ i _ _ _ _ => 80 - (intOf i).toNat)
          case atStart => exact ⟨0, x0, x1, x2, x3, x4, _, by omega, rfl, rfl, rfl, rfl, rfl, rfl, bx0, bx1, bx2, bx3, bx4, rfl, rfl⟩
          case round =>
            obtain ⟨kb, a, b, c, d, e, m, hkb, rfl, rfl, rfl, rfl, rfl, rfl, la, lb, lc, ld, le, hr, rfl⟩ := hrel
            have HR := hidMO hr
            clear hr
            by_cases h80 : kb < 80
            · have hx := HSC.out.at kb (by unfold sched1; rw [ext1_len]; simp [words16]; omega)
              have lx : (sched1 p).getD kb 0 < 4294967296 := ext1_bound p 64 kb
              have HST : Hid ((add32 (add32 (add32 (add32 (rotl 5 a) (f1 kb b c d)) e) (k1 kb)) ((sched1 p).getD kb 0), a, rotl 30 b, c, d) = rounds1 (sched1 p) (x0, x1, x2, x3, x4) (kb + 1)) := by
                unfold Hid; rw [rounds1_succ, ← HR.out]; rfl
              have HTA : Hid (∀ v : World, Calls Tryz.prog 99 #[.int .u32 (a : Int), .int .i64 5] v fun e w' => e = .returned (.int .u32 ((rotl 5 a : Nat) : Int)) ∧ ∃ n, w' = v.drewN n) := fun v => turn_any a 5 v la (by decide) (by decide)
              have HTB : Hid (∀ v : World, Calls Tryz.prog 99 #[.int .u32 (b : Int), .int .i64 30] v fun e w' => e = .returned (.int .u32 ((rotl 30 b : Nat) : Int)) ∧ ∃ n, w' = v.drewN n) := fun v => turn_any b 30 v lb (by decide) (by decide)
              have HRB2 : Hid (rotl 30 b < 4294967296) := rotl_lt 30 b (by decide) lb
              generalize (sched1 p).getD kb 0 = x at *
              generalize rotl 5 a = ra at *
              generalize rotl 30 b = rb at *
              clear HR
              by_cases h20 : kb < 20
              · have HFK : Hid (f1 kb b c d = (b &&& c) ||| ((ones32 ^^^ b) &&& d) ∧ k1 kb = 1518500249) := by unfold Hid f1 k1; simp [h20]
                rw [HFK.out.1, HFK.out.2] at HST
                clear HFK
                have z1 := u32_and_nat b c lb lc
                have z2 : bits .xor .u32 (b : Int) 4294967295 = ((ones32 ^^^ b : Nat) : Int) := by
                  have := u32_xor_nat b ones32 lb ones32_lt
                  rw [Nat.xor_comm] at this
                  exact this
                have m2 : ones32 ^^^ b < 4294967296 := xor_lt ones32_lt lb
                have m1 : b &&& c < 4294967296 := and_lt lc
                generalize b &&& c = bc at *
                generalize ones32 ^^^ b = nb' at *
                have z3 := u32_and_nat nb' d m2 ld
                have m3 : nb' &&& d < 4294967296 := and_lt ld
                generalize nb' &&& d = nd at *
                have z4 := u32_or_nat bc nd m1 m3
                generalize bc ||| nd = ff at *
                have y1 := u32_xor_nat b c lb lc
                have y2 := u32_xor_nat (b ^^^ c) d (xor_lt lb lc) ld
                clear m1 m2 m3
                have vt1 := add_wrap ra ff
                have ut1 := add_mod ra ff
                have HLt1 := hidMO (add32_lt ra ff)
                generalize add32 ra ff = t1 at *
                have vt2 := add_wrap t1 e
                have ut2 := add_mod t1 e
                have HLt2 := hidMO (add32_lt t1 e)
                generalize add32 t1 e = t2 at *
                have vt3 : IntKind.u32.wrap ((t2 : Int) + 1518500249) = ((add32 t2 1518500249 : Nat) : Int) := add_wrap t2 1518500249
                have ut3 : ((t2 : Int) + 1518500249) % 4294967296 = ((add32 t2 1518500249 : Nat) : Int) := add_mod t2 1518500249
                generalize add32 t2 1518500249 = t3 at *
                have vna := add_wrap t3 x
                have una := add_mod t3 x
                have HLna := hidMO (add32_lt t3 x)
                generalize add32 t3 x = na at *
                have i20 : decide ((kb : Int) < 20) = true := by simp; omega
                have i40 : decide ((kb : Int) < 40) = true := by simp; omega
                have i60 : decide ((kb : Int) < 60) = true := by simp; omega
                clear lx
                have k80 : (kb : Int) < 80 := by omega
                go_wp2
                go_quiet (first
                  | (go_at_call 99; with_reducible exact quiet_ex (HTA.out _)))
                go_wp2_with fail
                refine (HTB.out _).mono ?_
                rintro e' w' ⟨rfl, nz, rfl⟩
                go_wp2
                go_roundw
                case rel => exact ⟨kb + 1, na, a, rb, c, d, _, by omega, by go_num, val_intO (by omega), rfl, rfl, rfl, rfl, HLna.out, la, HRB2.out, lc, ld, HST.out, rfl⟩
                case measure => simp [intOf]; omega
              · by_cases h40 : kb < 40
                · have HFK : Hid (f1 kb b c d = (b ^^^ c) ^^^ d ∧ k1 kb = 1859775393) := by unfold Hid f1 k1; simp [h20, h40]
                  rw [HFK.out.1, HFK.out.2] at HST
                  clear HFK
                  have z1 := u32_xor_nat b c lb lc
                  have m1 : b ^^^ c < 4294967296 := xor_lt lb lc
                  generalize b ^^^ c = bc at *
                  have z2 := u32_xor_nat bc d m1 ld
                  generalize bc ^^^ d = ff at *
                  clear m1
                  have vt1 := add_wrap ra ff
                  have ut1 := add_mod ra ff
                  have HLt1 := hidMO (add32_lt ra ff)
                  generalize add32 ra ff = t1 at *
                  have vt2 := add_wrap t1 e
                  have ut2 := add_mod t1 e
                  have HLt2 := hidMO (add32_lt t1 e)
                  generalize add32 t1 e = t2 at *
                  have vt3 : IntKind.u32.wrap ((t2 : Int) + 1859775393) = ((add32 t2 1859775393 : Nat) : Int) := add_wrap t2 1859775393
                  have ut3 : ((t2 : Int) + 1859775393) % 4294967296 = ((add32 t2 1859775393 : Nat) : Int) := add_mod t2 1859775393
                  generalize add32 t2 1859775393 = t3 at *
                  have vna := add_wrap t3 x
                  have una := add_mod t3 x
                  have HLna := hidMO (add32_lt t3 x)
                  generalize add32 t3 x = na at *
                  have i20 : decide ((kb : Int) < 20) = false := by simp; omega
                  have i40 : decide ((kb : Int) < 40) = true := by simp; omega
                  have i60 : decide ((kb : Int) < 60) = true := by simp; omega
                  clear lx
                  have k80 : (kb : Int) < 80 := by omega
                  go_wp2
                  go_quiet (first
                    | (go_at_call 99; with_reducible exact quiet_ex (HTA.out _)))
                  go_wp2_with fail
                  refine (HTB.out _).mono ?_
                  rintro e' w' ⟨rfl, nz, rfl⟩
                  go_wp2
                  go_roundw
                  case rel => exact ⟨kb + 1, na, a, rb, c, d, _, by omega, by go_num, val_intO (by omega), rfl, rfl, rfl, rfl, HLna.out, la, HRB2.out, lc, ld, HST.out, rfl⟩
                  case measure => simp [intOf]; omega
                · by_cases h60 : kb < 60
                  · have HFK : Hid (f1 kb b c d = ((b &&& c) ||| (b &&& d)) ||| (c &&& d) ∧ k1 kb = 2400959708) := by unfold Hid f1 k1; simp [h20, h40, h60]
                    rw [HFK.out.1, HFK.out.2] at HST
                    clear HFK
                    have z1 := u32_and_nat b c lb lc
                    have z2 := u32_and_nat b d lb ld
                    have z3 := u32_and_nat c d lc ld
                    have m1 : b &&& c < 4294967296 := and_lt lc
                    have m2 : b &&& d < 4294967296 := and_lt ld
                    have m3 : c &&& d < 4294967296 := and_lt ld
                    generalize b &&& c = bc at *
                    generalize b &&& d = bd at *
                    generalize c &&& d = cd at *
                    have z4 := u32_or_nat bc bd m1 m2
                    have m4 : bc ||| bd < 4294967296 := or_lt m1 m2
                    generalize bc ||| bd = oo at *
                    have z5 := u32_or_nat oo cd m4 m3
                    generalize oo ||| cd = ff at *
                    clear m1 m2 m3 m4
                    have vt1 := add_wrap ra ff
                    have ut1 := add_mod ra ff
                    have HLt1 := hidMO (add32_lt ra ff)
                    generalize add32 ra ff = t1 at *
                    have vt2 := add_wrap t1 e
                    have ut2 := add_mod t1 e
                    have HLt2 := hidMO (add32_lt t1 e)
                    generalize add32 t1 e = t2 at *
                    have vt3 : IntKind.u32.wrap ((t2 : Int) + 2400959708) = ((add32 t2 2400959708 : Nat) : Int) := add_wrap t2 2400959708
                    have ut3 : ((t2 : Int) + 2400959708) % 4294967296 = ((add32 t2 2400959708 : Nat) : Int) := add_mod t2 2400959708
                    generalize add32 t2 2400959708 = t3 at *
                    have vna := add_wrap t3 x
                    have una := add_mod t3 x
                    have HLna := hidMO (add32_lt t3 x)
                    generalize add32 t3 x = na at *
                    have i20 : decide ((kb : Int) < 20) = false := by simp; omega
                    have i40 : decide ((kb : Int) < 40) = false := by simp; omega
                    have i60 : decide ((kb : Int) < 60) = true := by simp; omega
                    clear lx
                    have k80 : (kb : Int) < 80 := by omega
                    go_wp2
                    go_quiet (first
                      | (go_at_call 99; with_reducible exact quiet_ex (HTA.out _)))
                    go_wp2_with fail
                    refine (HTB.out _).mono ?_
                    rintro e' w' ⟨rfl, nz, rfl⟩
                    go_wp2
                    go_roundw
                    case rel => exact ⟨kb + 1, na, a, rb, c, d, _, by omega, by go_num, val_intO (by omega), rfl, rfl, rfl, rfl, HLna.out, la, HRB2.out, lc, ld, HST.out, rfl⟩
                    case measure => simp [intOf]; omega
                  · have HFK : Hid (f1 kb b c d = (b ^^^ c) ^^^ d ∧ k1 kb = 3395469782) := by unfold Hid f1 k1; simp [h20, h40, h60]
                    rw [HFK.out.1, HFK.out.2] at HST
                    clear HFK
                    have z1 := u32_xor_nat b c lb lc
                    have m1 : b ^^^ c < 4294967296 := xor_lt lb lc
                    generalize b ^^^ c = bc at *
                    have z2 := u32_xor_nat bc d m1 ld
                    generalize bc ^^^ d = ff at *
                    clear m1
                    have vt1 := add_wrap ra ff
                    have ut1 := add_mod ra ff
                    have HLt1 := hidMO (add32_lt ra ff)
                    generalize add32 ra ff = t1 at *
                    have vt2 := add_wrap t1 e
                    have ut2 := add_mod t1 e
                    have HLt2 := hidMO (add32_lt t1 e)
                    generalize add32 t1 e = t2 at *
                    have vt3 : IntKind.u32.wrap ((t2 : Int) + 3395469782) = ((add32 t2 3395469782 : Nat) : Int) := add_wrap t2 3395469782
                    have ut3 : ((t2 : Int) + 3395469782) % 4294967296 = ((add32 t2 3395469782 : Nat) : Int) := add_mod t2 3395469782
                    generalize add32 t2 3395469782 = t3 at *
                    have vna := add_wrap t3 x
                    have una := add_mod t3 x
                    have HLna := hidMO (add32_lt t3 x)
                    generalize add32 t3 x = na at *
                    have i20 : decide ((kb : Int) < 20) = false := by simp; omega
                    have i40 : decide ((kb : Int) < 40) = false := by simp; omega
                    have i60 : decide ((kb : Int) < 60) = false := by simp; omega
                    clear lx
                    have k80 : (kb : Int) < 80 := by omega
                    go_wp2
                    go_quiet (first
                      | (go_at_call 99; with_reducible exact quiet_ex (HTA.out _)))
                    go_wp2_with fail
                    refine (HTB.out _).mono ?_
                    rintro e' w' ⟨rfl, nz, rfl⟩
                    go_wp2
                    go_roundw
                    case rel => exact ⟨kb + 1, na, a, rb, c, d, _, by omega, by go_num, val_intO (by omega), rfl, rfl, rfl, rfl, HLna.out, la, HRB2.out, lc, ld, HST.out, rfl⟩
                    case measure => simp [intOf]; omega
            · obtain rfl : kb = 80 := by omega
              rw [show ((80 : Nat) : Int) = 80 from rfl]
              have HMX := hidMO (mixL1_of x0 x1 x2 x3 x4 a b c d e p HR.out)
              have t0 := add_wrap x0 a
              have t1 := add_wrap x1 b
              have t2 := add_wrap x2 c
              have t3 := add_wrap x3 d
              have t4 := add_wrap x4 e
              generalize add32 x0 a = n0 at *
              generalize add32 x1 b = n1 at *
              generalize add32 x2 c = n2 at *
              generalize add32 x3 d = n3 at *
              generalize add32 x4 e = n4 at *
              go_wp2
              go_region_held3 (fun w' => w'.cell? ⟨g, 0, none⟩ = some (.int .u32 (x0 : Int)) ∧ w'.cell? ⟨g, 1, none⟩ = some (.int .u32 (x1 : Int)) ∧ w'.cell? ⟨g, 2, none⟩ = some (.int .u32 (x2 : Int)) ∧ w'.cell? ⟨g, 3, none⟩ = some (.int .u32 (x3 : Int)) ∧ w'.cell? ⟨g, 4, none⟩ = some (.int .u32 (x4 : Int))) (go_keep) (fail)
              have HBN : Hid (Below w1.heap.size w1 ((wi.drewN (m + 1)).alloc (.cells #[.int .u32 (n0 : Int), .int .u32 (n1 : Int), .int .u32 (n2 : Int), .int .u32 (n3 : Int), .int .u32 (n4 : Int)] 79))) :=
                ((below_drewN (HB.out.trans (HBI.out.mono HB.out.size)) (m + 1)).alloc (by have a1 := HB.out.size; have a2 := HBI.out.size; show w1.heap.size ≤ wi.heap.size; omega) _)
              have hq3 : q2 = 64 * (k + 1) := by have := HQ.out; omega
              go_wp2
              go_roundw
              case rel => exact ⟨k + 1, q2, wi.heap.size, n0, n1, n2, n3, n4, by omega, hq3, by go_num, rfl, ⟨World.cell?_alloc_mark (wi.drewN (m + 1)) #[.int .u32 (n0 : Int), .int .u32 (n1 : Int), .int .u32 (n2 : Int), .int .u32 (n3 : Int), .int .u32 (n4 : Int)] 79 (0, 0) 0, World.cell?_alloc_mark (wi.drewN (m + 1)) #[.int .u32 (n0 : Int), .int .u32 (n1 : Int), .int .u32 (n2 : Int), .int .u32 (n3 : Int), .int .u32 (n4 : Int)] 79 (0, 0) 1, World.cell?_alloc_mark (wi.drewN (m + 1)) #[.int .u32 (n0 : Int), .int .u32 (n1 : Int), .int .u32 (n2 : Int), .int .u32 (n3 : Int), .int .u32 (n4 : Int)] 79 (0, 0) 2, World.cell?_alloc_mark (wi.drewN (m + 1)) #[.int .u32 (n0 : Int), .int .u32 (n1 : Int), .int .u32 (n2 : Int), .int .u32 (n3 : Int), .int .u32 (n4 : Int)] 79 (0, 0) 3, World.cell?_alloc_mark (wi.drewN (m + 1)) #[.int .u32 (n0 : Int), .int .u32 (n1 : Int), .int .u32 (n2 : Int), .int .u32 (n3 : Int), .int .u32 (n4 : Int)] 79 (0, 0) 4⟩, by rw [HABS.out, HMX.out], HBN.out⟩
              case measure => simp [intOf]; omega
    · obtain rfl : k = K := by omega
      have hqL : ¬ ((q : Int) < (LM : Int)) := by omega
      have HWA : Hid (WAtO wr (some ⟨g, 0, none⟩) [x0, x1, x2, x3, x4]) := by
        obtain ⟨r0, r1, r2, r3, r4⟩ := HCE.out
        refine .inr ⟨g, 0, rfl, fun i hi => ?_⟩
        have hi5 : i < 5 := hi
        rcases (by omega : i = 0 ∨ i = 1 ∨ i = 2 ∨ i = 3 ∨ i = 4) with rfl | rfl | rfl | rfl | rfl <;> assumption
      have HBD : Hid (∀ j, [x0, x1, x2, x3, x4].getD j 0 < 4294967296) := by
        intro j
        rcases (by omega : j = 0 ∨ j = 1 ∨ j = 2 ∨ j = 3 ∨ j = 4 ∨ 5 ≤ j) with rfl | rfl | rfl | rfl | rfl | h5
        · exact bx0
        · exact bx1
        · exact bx2
        · exact bx3
        · exact bx4
        · simp only [List.getD]; rw [List.getElem?_eq_none (by simpa using h5)]; decide
      have HSX : Hid (sha1L s.data.toList = wordsB [x0, x1, x2, x3, x4]) := by unfold Hid; rw [HSH.out, ← HAB.out]
      have HBE : Hid (Below w.heap.size w wr) := HB1.out.trans (HB.out.mono HB1.out.size)
      go_wp2_with fail
      refine (out_any (some ⟨g, 0, none⟩) 5 5 [x0, x1, x2, x3, x4] _ rfl (by decide) HBD.out HWA.out).mono ?_
      rintro _ w9 ⟨rfl, hb9⟩
      rw [← HSX.out]
      generalize hsx : (⟨(sha1L s.data.toList).toArray⟩ : ByteArray) = B at *
      clear HSX HSH
      go_wp2
      go_ret
      exact ⟨by rw [hsx]; rfl, HBE.out.trans (hb9.mono HBE.out.size)⟩
end Go.Proofs.YtddoemeellbhaaaGreatDoor
