/-
  Hexadecimal in this seat: Id, Hex, Unhex and the document's.
-/
import Derived.Laws.BitsAllLaws
import Derived.WalkKit
import Derived.WalkSpells
import Derived.WalkLawsBesides
import Derived.Laws.IdiomStrings
import Derived.Deep.QuietTactic
import Derived.BigQuiet
import Derived.Deep.RegionLaw
import Derived.Test.YtddoemeellbhaaaGreatDoorJZlbB
import Derived.Test.YtddoemeellbhaaaGreatDoorJSnapL
namespace Go.Proofs.YtddoemeellbhaaaGreatDoor
open Go.RowKit
set_option maxRecDepth 100000 in
theorem take_snocT (s : ByteArray) (k : Nat) (h : k < s.size) : s.data.toList.take (k + 1) = s.data.toList.take k ++ [s[k]] := by
  rw [List.take_succ_eq_append_getElem (by simpa using h)]; rfl
set_option maxRecDepth 100000 in
theorem byte_ltT (c : UInt8) : c.toNat < 256 := UInt8.toNat_lt c
set_option maxRecDepth 100000 in
theorem val_intT {k : IntKind} {a b : Int} (h : a = b) : Value.int k a = .int k b := by rw [h]
set_option maxRecDepth 100000 in
theorem Tryz.info5T : (Tryz.prog.info? 5).map (fun i => (i.zero, i.size, i.bytes)) = some (some (.int .u8 0), 1, 1) := by kernel_rfl
set_option maxRecDepth 100000 in
theorem bytesV_appT (l m : List UInt8) : bytesV (l ++ m) = bytesV l ++ bytesV m := by simp [bytesV]
/-- The value v owns just the bytes l, in memory from 'base' on. -/
def OwnBT (w : World) (base : Nat) (v : Value) (l : List UInt8) : Prop := w.ownsRow base 5 1 v l.length (bytesV l)
set_option maxRecDepth 100000 in
theorem conv_ownT {w : World} {base : Nat} {v : Value} {l : List UInt8} (h : OwnBT w base v l) :
    (convert 81 9 v).run Tryz.prog w = .ok (.string ⟨l.toArray⟩) w := by
  rcases h.2 with ⟨rfl, hn⟩ | ⟨g, cap, cur, rfl, hb, hg, hnc, hcm, hcs, htake⟩
  · have : l = [] := List.eq_nil_of_length_eq_zero hn
    subst this
    rw [run_convert_bytes_string w 81 9 5 none 0 0 Tryz.underlying81 Tryz.underlying5 Tryz.underlying9]
    rfl
  · refine run_convert_bytes_back w 81 9 5 _ cap l Tryz.underlying81 Tryz.underlying5 Tryz.underlying9 ?_
    intro j hj
    have := World.ownsRow.cells (g := g) h rfl j _ (bytesV_at l j hj)
    exact this
set_option maxRecDepth 100000 in
theorem cell_new_one (w : World) (v : Value) : ∀ j u, [v][j]? = some u → (w.alloc (.cells #[v] 5)).cell? ((⟨w.heap.size, 0, none⟩ : Addr).add j) = some u := by
  intro j u hj
  match j, hj with
  | 0, hj => simp at hj; subst hj; simp [Addr.add]
set_option maxRecDepth 100000 in
theorem own_empty (w : World) : OwnBT (w.alloc (.cells #[] 5)) w.heap.size (.slice (some ⟨w.heap.size, 0, none⟩) 0 0) [] :=
  World.ownsRow_lit w #[] 0 (Nat.le_refl _) (Nat.zero_le _) rfl
set_option maxRecDepth 100000 in
/-- What one append of a byte leaves. -/
theorem own_push {w1 : World} {B : Nat} {v' : Value} {P : List UInt8} {c : UInt8} (h : w1.ownsRow B 5 1 v' (P.length + 1) (bytesV P ++ [.int .u8 (c.toNat : Int)])) : OwnBT w1 B v' (P ++ [c]) := by
  unfold OwnBT
  rw [bytesV_appT]
  simpa [bytesV] using h
set_option maxRecDepth 100000 in
theorem below_pushT {w wr w1 : World} {B : Nat} {v : Value} {P : List UInt8} {o : Obj} (hown : OwnBT wr B v P) (hb : Below B w wr) (hB : B ≤ wr.heap.size) (hg : (wr.alloc o).grownBy w1 v.ownBlock) : Below B w w1 :=
  (hb.alloc hB o).grown hg (by simp; omega) (fun k hk => (World.ownsRow.lt hown k hk).1)
set_option maxRecDepth 100000 in
theorem cell_new_eq (w : World) (v v' : Value) (h : v = v') : ∀ j u, [v'][j]? = some u → (w.alloc (.cells #[v] 5)).cell? ((⟨w.heap.size, 0, none⟩ : Addr).add j) = some u := by
  subst h; exact cell_new_one w v
def digLT : List UInt8 := [48, 49, 50, 51, 52, 53, 54, 55, 56, 57, 97, 98, 99, 100, 101, 102]
def digH : ByteArray := ⟨digLT.toArray⟩
def digNT (q : Nat) : UInt8 := digLT.getD q 0
set_option maxRecDepth 100000 in
theorem dig_atT (q : Nat) (h : q < 16) : digH[q]'h = digNT q := by
  unfold digNT
  rw [List.getD_eq_getElem?_getD, List.getElem?_eq_getElem (h := h)]
  rfl
set_option maxRecDepth 100000 in
theorem dig_cutT (q : Nat) (h : q < 16) : digH.extract q (q + 1) = ⟨#[digNT q]⟩ := by
  have : ∀ q, q < 16 → digH.extract q (q + 1) = ⟨#[digNT q]⟩ := by decide
  exact this q h
def isDigT (c : UInt8) : Bool := (decide (48 ≤ c.toNat) && decide (c.toNat ≤ 57)) || (decide (97 ≤ c.toNat) && decide (c.toNat ≤ 102))
def hexV (c : UInt8) : Nat := if 48 ≤ c.toNat ∧ c.toNat ≤ 57 then c.toNat - 48 else if 97 ≤ c.toNat ∧ c.toNat ≤ 102 then c.toNat - 87 else 0
set_option maxRecDepth 100000 in
theorem hexV_lt (c : UInt8) : hexV c < 16 := by
  unfold hexV
  split
  · omega
  · split <;> omega
set_option maxRecDepth 100000 in
theorem dig_is (q : Nat) (h : q < 16) : isDigT (digNT q) = true ∧ hexV (digNT q) = q := by
  have : ∀ q, q < 16 → isDigT (digNT q) = true ∧ hexV (digNT q) = q := by decide
  exact this q h
def hex2T (c : UInt8) : List UInt8 := [digNT (c.toNat / 16), digNT (c.toNat % 16)]
def hexLT (l : List UInt8) : List UInt8 := l.flatMap hex2T
set_option maxRecDepth 100000 in
theorem hexL_snocT (l : List UInt8) (c : UInt8) : hexLT (l ++ [c]) = hexLT l ++ hex2T c := by simp [hexLT]
set_option maxRecDepth 100000 in
theorem hexL_lenT (l : List UInt8) : (hexLT l).length = 2 * l.length := by
  induction l with
  | nil => rfl
  | cons c l ih => show (hex2T c ++ hexLT l).length = _; rw [List.length_append, ih]; simp [hex2T]; omega
set_option maxRecDepth 100000 in
theorem hexL_takeT (s : ByteArray) (k : Nat) (h : k < s.size) : hexLT (s.data.toList.take (k + 1)) = hexLT (s.data.toList.take k) ++ hex2T s[k] := by rw [take_snocT s k h, hexL_snocT]
def hexed (l : List UInt8) : Bool := l.all isDigT && decide (l.length % 2 = 0)
def pairV (l : List UInt8) (k : Nat) : UInt8 := UInt8.ofNat (hexV (l.getD (2 * k) 0) * 16 + hexV (l.getD (2 * k + 1) 0))
def unhexN (l : List UInt8) (n : Nat) : List UInt8 := (List.range n).map (pairV l)
def unhexL (l : List UInt8) : List UInt8 := unhexN l (l.length / 2)
set_option maxRecDepth 100000 in
theorem unhexN_succ (l : List UInt8) (n : Nat) : unhexN l (n + 1) = unhexN l n ++ [pairV l n] := by simp [unhexN, List.range_succ]
set_option maxRecDepth 100000 in
theorem unhexN_len (l : List UInt8) (n : Nat) : (unhexN l n).length = n := by simp [unhexN]
set_option maxRecDepth 100000 in
theorem unhexL_cons (a b : UInt8) (l : List UInt8) : unhexL (a :: b :: l) = UInt8.ofNat (hexV a * 16 + hexV b) :: unhexL l := by
  unfold unhexL unhexN
  rw [show (a :: b :: l).length / 2 = l.length / 2 + 1 by simp; omega, List.range_succ_eq_map, List.map_cons, List.map_map]
  congr 1
set_option maxRecDepth 100000 in
theorem unhex_hex (l : List UInt8) : unhexL (hexLT l) = l := by
  induction l with
  | nil => rfl
  | cons c l ih =>
    have hc := byte_ltT c
    show unhexL (digNT (c.toNat / 16) :: digNT (c.toNat % 16) :: hexLT l) = _
    rw [unhexL_cons, ih, (dig_is _ (by omega)).2, (dig_is _ (by omega)).2]
    congr 1
    apply UInt8.toNat_inj.1
    simp
    omega
set_option maxRecDepth 100000 in
theorem hexed_hex (l : List UInt8) : hexed (hexLT l) = true := by
  unfold hexed
  rw [hexL_lenT]
  have : (hexLT l).all isDigT = true := by
    induction l with
    | nil => rfl
    | cons c l ih =>
      have hc := byte_ltT c
      show (digNT (c.toNat / 16) :: digNT (c.toNat % 16) :: hexLT l).all isDigT = true
      rw [List.all_cons, List.all_cons, ih, (dig_is _ (by omega)).1, (dig_is _ (by omega)).1]
      rfl
  rw [this]
  simp
/-- All places below n hold digits. -/
def DigTo (l : List UInt8) (n : Nat) : Prop := ∀ i, i < n → isDigT (l.getD i 0) = true
set_option maxRecDepth 100000 in
theorem digTo_all (l : List UInt8) (h : DigTo l l.length) : l.all isDigT = true := by
  rw [List.all_eq_true]
  intro c hc
  obtain ⟨i, hi, rfl⟩ := List.getElem_of_mem hc
  have := h i hi
  rwa [List.getD_eq_getElem?_getD, List.getElem?_eq_getElem hi] at this
set_option maxRecDepth 100000 in
theorem not_all (l : List UInt8) (i : Nat) (hi : i < l.length) (h : isDigT (l.getD i 0) = false) : l.all isDigT = false := by
  rw [List.all_eq_false]
  refine ⟨l[i], List.getElem_mem hi, ?_⟩
  rw [List.getD_eq_getElem?_getD, List.getElem?_eq_getElem hi] at h
  simpa using h
set_option maxRecDepth 100000 in
theorem all_digTo (l : List UInt8) (h : l.all isDigT = true) : DigTo l l.length := by
  intro i hi
  rw [List.getD_eq_getElem?_getD, List.getElem?_eq_getElem hi]
  exact List.all_eq_true.1 h _ (List.getElem_mem hi)
set_option maxRecDepth 100000 in
theorem getD_at (s : ByteArray) (k : Nat) (h : k < s.size) : s.data.toList.getD k 0 = s[k] := by
  rw [List.getD_eq_getElem?_getD, List.getElem?_eq_getElem (by simpa using h)]
  rfl
set_option maxRecDepth 100000 in
theorem len_size (s : ByteArray) : s.data.toList.length = s.size := by simp
set_option maxRecDepth 100000 in
theorem ret_pair {a b : Int} {k : IntKind} {p q : Bool} (h : a = b) (g : p = q) : Ending.returned (.tuple #[.int k a, .bool p]) = .returned (.tuple #[.int k b, .bool q]) := by rw [h, g]
set_option maxHeartbeats 400000 in
set_option maxRecDepth 100000 in
theorem hexValue_any (c : UInt8) (w : World) :
    Calls Tryz.prog 79 #[.int .u8 (c.toNat : Int)] w fun e w' => e = .returned (.tuple #[.int .u8 (hexV c : Nat), .bool (isDigT c)]) ∧ w' = w := by
  have hc := byte_ltT c
  by_cases h1 : 48 ≤ c.toNat ∧ c.toNat ≤ 57
  · have HV : Hid (hexV c = c.toNat - 48) := by unfold Hid hexV; rw [if_pos h1]
    have HD : Hid (isDigT c = true) := by unfold Hid isDigT; simp [h1]
    obtain ⟨a1, a2⟩ := h1
    generalize c.toNat = n at *
    go_enter Tryz.func79, Tryz.ntmps79
    go_wp2
    go_ret2
    exact ⟨ret_pair (by rw [HV.out]; omega) HD.out.symm, rfl⟩
  · by_cases h2 : 97 ≤ c.toNat ∧ c.toNat ≤ 102
    · have HV : Hid (hexV c = c.toNat - 87) := by unfold Hid hexV; rw [if_neg h1, if_pos h2]
      have HD : Hid (isDigT c = true) := by unfold Hid isDigT; simp [h2]
      obtain ⟨a1, a2⟩ := h2
      clear h1
      generalize c.toNat = n at *
      have g1 : ¬ n ≤ 57 := by omega
      go_enter Tryz.func79, Tryz.ntmps79
      go_wp2
      go_ret2
      exact ⟨ret_pair (by rw [HV.out]; omega) HD.out.symm, rfl⟩
    · have HV : Hid (hexV c = 0) := by unfold Hid hexV; rw [if_neg h1, if_neg h2]
      have HD : Hid (isDigT c = false) := by unfold Hid isDigT; simp; omega
      have hcases : c.toNat < 48 ∨ (57 < c.toNat ∧ c.toNat < 97) ∨ 102 < c.toNat := by omega
      clear h1 h2
      generalize c.toNat = n at *
      rcases hcases with g | ⟨g1, g2⟩ | g
      · have g3 : n < 97 := by omega
        go_enter Tryz.func79, Tryz.ntmps79
        go_wp2
        go_ret2
        exact ⟨ret_pair (by rw [HV.out]; rfl) HD.out.symm, rfl⟩
      · go_enter Tryz.func79, Tryz.ntmps79
        go_wp2
        go_ret2
        exact ⟨ret_pair (by rw [HV.out]; rfl) HD.out.symm, rfl⟩
      · go_enter Tryz.func79, Tryz.ntmps79
        go_wp2
        go_ret2
        exact ⟨ret_pair (by rw [HV.out]; rfl) HD.out.symm, rfl⟩
set_option maxRecDepth 100000 in
theorem ret_bool {p q : Bool} (h : p = q) : Ending.returned (.bool p) = .returned (.bool q) := by rw [h]
def idB (l : List UInt8) : Bool := l.all isDigT && decide (l.length = 40)
set_option maxRecDepth 100000 in
theorem idB_no (l : List UInt8) (i : Nat) (hi : i < l.length) (h : isDigT (l.getD i 0) = false) : idB l = false := by
  unfold idB; rw [not_all l i hi h]; rfl
set_option maxRecDepth 100000 in
theorem idB_yes (l : List UInt8) (hd : DigTo l l.length) (h : l.length = 40) : idB l = true := by
  unfold idB; rw [digTo_all l hd, h]; rfl
set_option maxRecDepth 100000 in
theorem idB_len (l : List UInt8) (h : ¬ l.length = 40) : idB l = false := by
  unfold idB; simp [h]
set_option maxHeartbeats 400000 in
set_option maxRecDepth 100000 in
theorem id_anyT (s : ByteArray) (w : World) (hs : s.size ≤ maxLen) :
    Calls Tryz.prog 41 #[.string s] w fun e w' => e = .returned (.bool (idB s.data.toList)) ∧ w' = w := by
  unfold maxLen at hs
  by_cases h40 : s.size = 40
  · have H40 := hidM h40
    have g1 : ((s.size : Int) != 40) = false := by rw [h40]; rfl
    have i1 : s.size ≤ 40 := by omega
    have i2 : 40 ≤ s.size := by omega
    clear h40
    go_enter Tryz.func41, Tryz.ntmps41
    go_wp2
    go_loop [3, 4, 5] (fun i _ _ => ∃ k : Nat, k ≤ s.size ∧ i = .int .i64 k ∧ DigTo s.data.toList k) (fun i _ _ => s.size - (intOf i).toNat)
    case atStart => exact ⟨0, Nat.zero_le _, rfl, fun i hi => by omega⟩
    case round =>
      obtain ⟨k, hk, rfl, hd⟩ := hrel
      have HD := hidM hd
      clear hd
      by_cases hlt : k < s.size
      · obtain ⟨c, hc⟩ : ∃ c, c = s[k] := ⟨_, rfl⟩
        have HC : Hid (s.data.toList.getD k 0 = c) := by unfold Hid; rw [getD_at s k hlt, hc]
        have hcc : (s[k].toNat : Int) = (c.toNat : Int) := by rw [hc]
        clear hc
        cases hdg : isDigT c
        · have HB := hidM hdg
          go_wp2_with fail
          refine (hexValue_any c w).mono ?_
          rintro e w1 ⟨rfl, rfl⟩
          clear hcc
          go_wp2
          go_ret
          exact ⟨ret_bool (idB_no s.data.toList k (by simpa using hlt) (by rw [HC.out]; exact HB.out)).symm, rfl⟩
        · have HB := hidM hdg
          go_wp2_with fail
          refine (hexValue_any c w).mono ?_
          rintro e w1 ⟨rfl, rfl⟩
          clear hcc
          go_wp2
          go_round
          case rel =>
            refine ⟨k + 1, by omega, by go_num, fun i hi => ?_⟩
            by_cases e : i = k
            · subst e; rw [HC.out]; exact HB.out
            · exact HD.out i (by omega)
          case measure => simp [intOf]; omega
      · go_wp2
        go_ret
        exact ⟨ret_bool (idB_yes s.data.toList (by intro i hi; rw [len_size] at hi; exact HD.out i (by omega)) (by rw [len_size]; exact H40.out)).symm, rfl⟩
  · have g1 : ((s.size : Int) != 40) = true := by simp; omega
    have H40 := hidM h40
    clear h40
    go_enter Tryz.func41, Tryz.ntmps41
    go_wp2
    go_ret
    exact ⟨ret_bool (idB_len s.data.toList (by rw [len_size]; exact H40.out)).symm, rfl⟩
set_option maxRecDepth 100000 in
theorem hexed_no (l : List UInt8) (i : Nat) (hi : i < l.length) (h : isDigT (l.getD i 0) = false) : hexed l = false := by
  unfold hexed; rw [not_all l i hi h]; rfl
set_option maxRecDepth 100000 in
theorem hexed_yes (l : List UInt8) (hd : DigTo l l.length) : hexed l = decide (l.length % 2 = 0) := by
  unfold hexed; rw [digTo_all l hd]; rfl
set_option maxHeartbeats 800000 in
set_option maxRecDepth 100000 in
theorem hexed_any (s : ByteArray) (w : World) (hs : s.size ≤ maxLen) :
    Calls Tryz.prog 45 #[.string s] w fun e w' => e = .returned (.bool (hexed s.data.toList)) ∧ w' = w := by
  unfold maxLen at hs
  go_enter Tryz.func45, Tryz.ntmps45
  go_wp2
  go_loop [3] (fun i => ∃ k : Nat, k ≤ s.size ∧ i = .int .i64 k ∧ DigTo s.data.toList k) (fun i => s.size - (intOf i).toNat)
  case atStart => exact ⟨0, Nat.zero_le _, rfl, fun i hi => by omega⟩
  case round =>
    obtain ⟨k, hk, rfl, hd⟩ := hrel
    have HD := hidM hd
    clear hd
    by_cases hlt : k < s.size
    · have HC : Hid (s.data.toList.getD k 0 = s[k]) := getD_at s k hlt
      have hdg : isDigT s[k] = true ∨ isDigT s[k] = false := by cases isDigT s[k] <;> simp
      have yes : Hid (isDigT s[k] = true → DigTo s.data.toList (k + 1)) := by
        intro h i hi
        by_cases e : i = k
        · subst e; rw [HC.out]; exact h
        · exact HD.out i (by omega)
      have no : Hid (isDigT s[k] = false → hexed s.data.toList = false) := fun h => hexed_no s.data.toList k (by simpa using hlt) (by rw [HC.out]; exact h)
      have HI : Hid (isDigT s[k] = ((decide (48 ≤ s[k].toNat) && decide (s[k].toNat ≤ 57)) || (decide (97 ≤ s[k].toNat) && decide (s[k].toNat ≤ 102)))) := rfl
      clear hdg HC
      by_cases a1 : 48 ≤ s[k].toNat
      · by_cases a2 : s[k].toNat ≤ 57
        · have HY : Hid (DigTo s.data.toList (k + 1)) := yes.out (by rw [HI.out]; simp [a1, a2])
          clear yes no HI
          have d48 : decide ((48 : Int) ≤ (s[k].toNat : Int)) = true := by simp; omega
          have d57 : decide ((s[k].toNat : Int) ≤ (57 : Int)) = true := by simp; omega
          go_wp2
          go_round
          case rel => exact ⟨k + 1, by omega, by go_num, HY.out⟩
          case measure => simp [intOf]; omega
        · by_cases a3 : 97 ≤ s[k].toNat
          · by_cases a4 : s[k].toNat ≤ 102
            · have HY : Hid (DigTo s.data.toList (k + 1)) := yes.out (by rw [HI.out]; simp [a3, a4])
              clear yes no HI
              have d48 : decide ((48 : Int) ≤ (s[k].toNat : Int)) = true := by simp; omega
              have d57 : decide ((s[k].toNat : Int) ≤ (57 : Int)) = false := by simp; omega
              have d97 : decide ((97 : Int) ≤ (s[k].toNat : Int)) = true := by simp; omega
              have d102 : decide ((s[k].toNat : Int) ≤ (102 : Int)) = true := by simp; omega
              go_wp2
              go_round
              case rel => exact ⟨k + 1, by omega, by go_num, HY.out⟩
              case measure => simp [intOf]; omega
            · have HN : Hid (hexed s.data.toList = false) := no.out (by rw [HI.out]; simp; omega)
              clear yes no HI
              have d48 : decide ((48 : Int) ≤ (s[k].toNat : Int)) = true := by simp; omega
              have d57 : decide ((s[k].toNat : Int) ≤ (57 : Int)) = false := by simp; omega
              have d97 : decide ((97 : Int) ≤ (s[k].toNat : Int)) = true := by simp; omega
              have d102 : decide ((s[k].toNat : Int) ≤ (102 : Int)) = false := by simp; omega
              go_wp2
              go_ret
              exact ⟨ret_bool HN.out.symm, rfl⟩
          · have HN : Hid (hexed s.data.toList = false) := no.out (by rw [HI.out]; simp; omega)
            clear yes no HI
            have d48 : decide ((48 : Int) ≤ (s[k].toNat : Int)) = true := by simp; omega
            have d57 : decide ((s[k].toNat : Int) ≤ (57 : Int)) = false := by simp; omega
            have d97 : decide ((97 : Int) ≤ (s[k].toNat : Int)) = false := by simp; omega
            go_wp2
            go_ret
            exact ⟨ret_bool HN.out.symm, rfl⟩
      · have a3 : ¬ 97 ≤ s[k].toNat := by omega
        have HN : Hid (hexed s.data.toList = false) := no.out (by rw [HI.out]; simp; omega)
        clear yes no HI
        have d48 : decide ((48 : Int) ≤ (s[k].toNat : Int)) = false := by simp; omega
        have d97 : decide ((97 : Int) ≤ (s[k].toNat : Int)) = false := by simp; omega
        go_wp2
        go_ret
        exact ⟨ret_bool HN.out.symm, rfl⟩
    · have HF : Hid (hexed s.data.toList = decide (s.size % 2 = 0)) := by
        unfold Hid
        rw [hexed_yes s.data.toList (by intro i hi; rw [len_size] at hi; exact HD.out i (by omega)), len_size]
      go_wp2
      go_ret
      refine ⟨ret_bool ?_, rfl⟩
      rw [HF.out]
      by_cases h : s.size % 2 = 0
      · have : ((s.size : Int) % 2 == 0) = true := by simp; omega
        rw [this]; simp [h]
      · have : ((s.size : Int) % 2 == 0) = false := by simp; omega
        rw [this]; simp [h]
set_option maxRecDepth 100000 in
/-- append onto a slice of the call's own, as one step of a region that draws. -/
theorem step_append_ownT {P : Program} {ops : Array Oper} {o : Oper} {a : Act} {w : World} {K : Act → World → Prop} {Q : Exit → Act → World → Prop} {E : Prop}
    (hg : o.guard = none) (s x : Operand) (t : TypeId) (hop : o.op = Op.call { callee := Callee.builtin Builtin.append, args := #[s, x], argTypes := #[t, t] })
    (base : Nat) (e : TypeId) (i : TypeInfo) (z : Value) (size bytes : Nat) (h1 : P.underlying t = some (.slice e)) (h2 : P.info? e = some i) (h3 : i.zero = some z) (h4 : i.size = size) (h5 : i.bytes = bytes) (h6 : z.cells.size = size) (h7 : 0 < size)
    (v : Value) (n : Nat) (xs : List Value) (hs : a.eval s = v) (hown : w.ownsRow base e size v n xs)
    (ad : Addr) (m c : Nat) (news : List Value) (hx : a.eval x = .slice (some ad) m c) (hn : news.length = m * size) (hc : ∀ j u, news[j]? = some u → w.cell? (ad.add j) = some u) (h1c : ∀ u ∈ news, u.oneCell' = true)
    (b1 : n + m ≤ maxLen) (b2 : (n + m) * bytes ≤ 140737488355328) (b3 : base ≤ w.heap.size)
    (hK : ∀ v' w', w'.ownsRow base e size v' (n + m) (xs ++ news) → w.grownBy w' v.ownBlock → K (a.put o.dst v') w') :
    if Region.wanted o (yielded ops a.tmps) = true then Oper.wp P o a w K Q else E := by
  have hw : Region.wanted o (yielded ops a.tmps) = true := by simp [Region.wanted, hg]
  rw [if_pos hw]
  obtain ⟨v', w', hrun, r1, r2, _⟩ := run_append_own (P := P) w base t o.type e i z size bytes h1 h2 h3 h4 h5 h6 h7 v n xs hown ad m c news hn hc h1c b1 b2 b3
  unfold Oper.wp
  simp [execOp, hop, resolve, invoke, builtin, hs, hx, hrun, Result.andThen]
  exact hK v' w' r1 r2
set_option maxRecDepth 100000 in
theorem and15u8T (a : Nat) (ha : a < 256) : bits .and .u8 (a : Int) 15 = ((a % 16 : Nat) : Int) := by
  have := u8_and_nat a 15 ha (by omega)
  rw [nat_mask4] at this
  exact this
set_option maxRecDepth 100000 in
theorem cell_new_twoT (w : World) (u v u' v' : Value) (hu : u = u') (hv : v = v') : ∀ j x, [u', v'][j]? = some x → (w.alloc (.cells #[u, v] 5)).drew.cell? ((⟨w.heap.size, 0, none⟩ : Addr).add j) = some x := by
  subst hu; subst hv
  intro j x hj
  match j, hj with
  | 0, hj => simp at hj; subst hj; simp [Addr.add]
  | 1, hj => simp at hj; subst hj; simp [Addr.add]
set_option maxRecDepth 100000 in
theorem own_push2T {w1 : World} {B : Nat} {v' : Value} {P : List UInt8} {c d : UInt8} (h : w1.ownsRow B 5 1 v' (P.length + 2) (bytesV P ++ [.int .u8 (c.toNat : Int), .int .u8 (d.toNat : Int)])) : OwnBT w1 B v' (P ++ [c, d]) := by
  unfold OwnBT
  rw [bytesV_appT]
  simpa [bytesV] using h
set_option maxRecDepth 100000 in
theorem below_push_drewT {w wr w1 : World} {B : Nat} {v : Value} {P : List UInt8} {o : Obj} (hown : OwnBT wr B v P) (hb : Below B w wr) (hB : B ≤ wr.heap.size) (hg : (wr.alloc o).drew.grownBy w1 v.ownBlock) : Below B w w1 :=
  (hb.alloc hB o).drew.grown hg (by simp; omega) (fun k hk => (World.ownsRow.lt hown k hk).1)
set_option maxHeartbeats 1600000 in
set_option maxRecDepth 100000 in
theorem hex_anyT (s : ByteArray) (w : World) (hs : s.size ≤ 1048576) :
    Calls Tryz.prog 67 #[.string s] w fun e w' => e = .returned (.string ⟨(hexLT s.data.toList).toArray⟩) ∧ Below w.heap.size w w' := by
  obtain ⟨i0, hi, hz0, hz1, hz2⟩ := info_parts Tryz.info5T
  go_enter Tryz.func67, Tryz.ntmps67
  go_wp2_with (at_make; refine wpList_make_own _ rfl _ _ 81 rfl w.heap.size 5 i0 (.int .u8 0) 1 Tryz.underlying81 hi hz0 hz1 .i64 .i64 _ (2 * s.size) rfl rfl ?c0 ?c1 ?c2 ?c3 ?_)
  case c0 => omega
  case c1 => rw [hz2]; omega
  case c2 => unfold maxLen; omega
  case c3 => exact Nat.le_refl _
  intro w1 hown hgrow
  have hbel : Below w.heap.size w w1 := (Below.refl _ _).grown hgrow (Nat.le_refl _) (by intro k hk; cases hk)
  have hown2 : OwnBT w1 w.heap.size (.slice (some ⟨w.heap.size, 0, none⟩) 0 (2 * s.size)) [] := hown
  clear hown hgrow
  go_wp2
  go_loopw [3, 4] (fun v i wr => ∃ (k : Nat) (P : List UInt8), k ≤ s.size ∧ i = .int .i64 k ∧ P = hexLT (s.data.toList.take k) ∧ OwnBT wr w.heap.size v P ∧ Below w.heap.size w wr) (fun _ i _ => s.size - (intOf i).toNat)
  case atStart => exact ⟨0, [], Nat.zero_le _, rfl, rfl, hown2, hbel⟩
  case round =>
    obtain ⟨k, P, hk, rfl, hP, hownr, hbr⟩ := hrel
    clear hown2 hbel
    have HP := hidM hP
    have hB := hbr.size
    by_cases hlt : k < s.size
    · have hl : P.length = 2 * k := by rw [hP, hexL_lenT]; simp; omega
      have HL := hidM hl
      have hc := byte_ltT s[k]
      obtain ⟨q1, hq1⟩ : ∃ q, q = s[k].toNat / 16 := ⟨_, rfl⟩
      obtain ⟨q2, hq2⟩ : ∃ q, q = s[k].toNat % 16 := ⟨_, rfl⟩
      have r1 : (s[k].toNat : Int) / 16 = (q1 : Int) := by omega
      have r2 : bits .and .u8 (s[k].toNat : Int) 15 = (q2 : Int) := by rw [hq2]; exact and15u8T _ hc
      have l1 : q1 < 16 := by omega
      have l2 : q2 < 16 := by omega
      have m1 : (q1 : Int) < 16 := by omega
      have m2 : (q2 : Int) < 16 := by omega
      have kk : (k : Int) < (s.size : Int) := by omega
      have HX : Hid (hexLT (s.data.toList.take (k + 1)) = P ++ [digNT q1, digNT q2]) := by unfold Hid; rw [hexL_takeT s k hlt, ← hP, hq1, hq2]; rfl
      clear hq1 hq2 hP hl
      go_wp2
      go_region_law (refine step_append_ownT rfl _ _ 81 rfl w.heap.size 5 i0 (.int .u8 0) 1 1 Tryz.underlying81 hi hz0 hz1 hz2 rfl (by decide) u3 P.length (bytesV P) rfl (by exact (hownr.alloc _).drew) ⟨wr.heap.size, 0, none⟩ 2 2 [.int .u8 ((digNT q1).toNat : Int), .int .u8 ((digNT q2).toNat : Int)] (by rfl) rfl (by exact cell_new_twoT wr _ _ _ _ (val_intT (congrArg (fun c : UInt8 => (c.toNat : Int)) (dig_atT q1 l1))) (val_intT (congrArg (fun c : UInt8 => (c.toNat : Int)) (dig_atT q2 l2)))) (by intro u hu; simp at hu; rcases hu with rfl | rfl <;> rfl) (by have := HL.out; unfold maxLen; omega) (by have := HL.out; omega) (by simp; omega) ?_; intro v' w2 hown' hgrow; have HO := hidM (own_push2T hown'); have HB := hidM (below_push_drewT hownr hbr hB hgrow); clear hown' hgrow hownr hbr hB)
      all_goals
        go_wp2
        go_roundw
        case rel => exact ⟨k + 1, _, by omega, by go_num, HX.out.symm, HO.out, HB.out⟩
        case measure => simp [intOf]; omega
    · have HF : Hid (hexLT s.data.toList = P) := by unfold Hid; rw [hP, List.take_of_length_le (by simp; omega)]
      have hconv := conv_ownT hownr
      have HB := hidM hbr
      clear hownr hbr hB hP
      go_wp2
      go_ret
      exact ⟨by rw [HF.out]; rfl, HB.out⟩
set_option maxRecDepth 100000 in
theorem app_twoT (P : List UInt8) (a b : UInt8) : (⟨P.toArray⟩ : ByteArray) ++ (⟨#[a]⟩ ++ ⟨#[b]⟩) = ⟨(P ++ [a, b]).toArray⟩ := by
  apply ByteArray.ext
  simp [ByteArray.data_append]
set_option maxHeartbeats 1600000 in
set_option maxRecDepth 100000 in
theorem rhex_anyT (s : ByteArray) (w : World) (hs : s.size ≤ 1048576) :
    Calls Tryz.prog 54 #[.string s] w fun e w' => e = .returned (.string ⟨(hexLT s.data.toList).toArray⟩) ∧ Below w.heap.size w w' := by
  go_enter Tryz.func54, Tryz.ntmps54
  go_wp2
  go_loopw [3, 4, 5] (fun v i _ wr => ∃ (k : Nat) (S : ByteArray), k ≤ s.size ∧ i = .int .i64 k ∧ v = .string S ∧ S.size = 2 * k ∧ S = ⟨(hexLT (s.data.toList.take k)).toArray⟩ ∧ Below w.heap.size w wr) (fun _ i _ _ => s.size - (intOf i).toNat)
  case atStart => exact ⟨0, ⟨#[]⟩, Nat.zero_le _, rfl, rfl, rfl, rfl, Below.refl _ _⟩
  case round =>
    obtain ⟨k, S, hk, rfl, rfl, hS, hP, hbr⟩ := hrel
    have HP := hidM hP
    have HB := hidM hbr
    have HS := hidM hS
    have hS2 : S.size ≤ 2 * k := by omega
    clear hP hbr hS
    by_cases hlt : k < s.size
    · have hc := byte_ltT s[k]
      obtain ⟨c, hcc⟩ : ∃ c, c = s[k].toNat := ⟨_, rfl⟩
      obtain ⟨q1, hq1⟩ : ∃ q, q = c / 16 := ⟨_, rfl⟩
      obtain ⟨q2, hq2⟩ : ∃ q, q = c % 16 := ⟨_, rfl⟩
      have kk : (k : Int) < (s.size : Int) := by omega
      have r0 : (s[k].toNat : Int) = (c : Int) := by omega
      have r1 : (c : Int) / 16 = (q1 : Int) := by omega
      have r2 : (c : Int) % 16 = (q2 : Int) := by omega
      have l1 : q1 < 16 := by omega
      have l2 : q2 < 16 := by omega
      have hcut1 := dig_cutT q1 l1
      have hcut2 := dig_cutT q2 l2
      unfold digH digLT at hcut1 hcut2
      have HX : Hid (hexLT (s.data.toList.take (k + 1)) = hexLT (s.data.toList.take k) ++ [digNT q1, digNT q2]) := by unfold Hid; rw [hexL_takeT s k hlt, hq1, hq2, hcc]; rfl
      clear hq1 hq2
      have HCC := hidM hcc
      clear hcc
      go_wp2
      go_quiet (fail)
      go_wp2
      go_roundw
      case rel =>
        refine ⟨k + 1, _, by omega, by go_num, rfl, ?_, ?_, below_drewN HB.out _⟩
        · have h1 := HS.out
          rw [ByteArray.size_append, ByteArray.size_append, h1]
          show 2 * k + (1 + 1) = _
          omega
        · rw [HX.out, HP.out]; exact app_twoT _ _ _
      case measure => simp [intOf]; omega
    · have HF : Hid (S = ⟨(hexLT s.data.toList).toArray⟩) := by unfold Hid; rw [HP.out, List.take_of_length_le (by simp; omega)]
      go_wp2
      go_ret
      exact ⟨by rw [← HF.out]; rfl, HB.out⟩
set_option maxRecDepth 100000 in
theorem or4 (a b : Nat) (ha : a < 16) (hb : b < 16) : bits .or .u8 ((a : Int) * 16) (b : Int) = ((a * 16 + b : Nat) : Int) := by
  rw [show (a : Int) * 16 = ((a * 16 : Nat) : Int) by omega, u8_or_nat _ _ (by omega) (by omega), nat_join 4 _ _ (by omega) (by omega)]
set_option maxRecDepth 100000 in
theorem conv_bytes (t : ByteArray) (w : World) : ∃ cap W, (convert 9 81 (.string t)).run Tryz.prog w = .ok (.slice (some ⟨w.heap.size, 0, none⟩) t.size cap) W ∧
    (∀ j (h : j < t.size), W.cell? ⟨w.heap.size, j, none⟩ = some (.int .u8 (t[j].toNat : Int))) ∧ Below w.heap.size w W := by
  refine ⟨_, _, run_bytes_of_string w 9 81 5 t Tryz.underlying9 Tryz.underlying81 Tryz.underlying5, ?_, ?_⟩
  · intro j h
    have e : w.heap.size = w.drew.heap.size := rfl
    rw [e, World.cell?_alloc_mark, bytesRow_at t _ j h]
    rfl
  · exact ((Below.refl _ _).drew).alloc (Nat.le_refl _) _
set_option maxRecDepth 100000 in
theorem digit_cases (c : UInt8) (h : isDigT c = true) : (48 ≤ c.toNat ∧ c.toNat ≤ 57 ∧ hexV c = c.toNat - 48) ∨ (97 ≤ c.toNat ∧ c.toNat ≤ 102 ∧ hexV c = c.toNat - 87) := by
  unfold isDigT at h
  unfold hexV
  simp only [Bool.or_eq_true, Bool.and_eq_true, decide_eq_true_eq] at h
  rcases h with ⟨h1, h2⟩ | ⟨h1, h2⟩
  · left; exact ⟨h1, h2, by rw [if_pos ⟨h1, h2⟩]⟩
  · right; exact ⟨h1, h2, by rw [if_neg (by omega), if_pos ⟨h1, h2⟩]⟩
set_option maxRecDepth 100000 in
theorem ext_two0 (s : ByteArray) (k : Nat) (k1 : 2 * k < s.size) (h : 0 < (s.extract (2 * k) (2 * k + 2)).size) : (s.extract (2 * k) (2 * k + 2))[0]'h = s[2 * k] := by
  show (s.extract (2 * k) (2 * k + 2)).data[0]'(by simpa using h) = s.data[2 * k]
  simp
set_option maxRecDepth 100000 in
theorem ext_two1 (s : ByteArray) (k : Nat) (k2 : 2 * k + 1 < s.size) (h : 1 < (s.extract (2 * k) (2 * k + 2)).size) : (s.extract (2 * k) (2 * k + 2))[1]'h = s[2 * k + 1] := by
  show (s.extract (2 * k) (2 * k + 2)).data[1]'(by simpa using h) = s.data[2 * k + 1]
  simp
set_option maxRecDepth 100000 in
theorem ownB_below {w W : World} {B : Nat} {v : Value} {P : List UInt8} (h : OwnBT w B v P) (hb : Below w.heap.size w W) : OwnBT W B v P :=
  World.ownsRow.kept (row := none) h ⟨hb.os, hb.tape, hb.output, hb.size, fun k hk _ => hb.block k hk⟩ (by cases v.ownBlock <;> simp)
end Go.Proofs.YtddoemeellbhaaaGreatDoor
