/-
  Taken over from another program: TreD.
  Taken over from another program: Hex.
  Taken over from another program: TreE.
-/
import Derived.Test.YtlmeoahcpmikiaaGreatDoorTTreC
import Derived.Laws.BitsAllLaws
import Derived.WalkKit
import Derived.WalkSpells
import Derived.WalkLawsBesides
import Derived.Laws.IdiomStrings
import Derived.Deep.QuietTactic
import Derived.BigQuiet
import Derived.Deep.RegionLaw
namespace Go.Proofs.YtlmeoahcpmikiaaGreatDoor.T
open Go.RowKit
theorem idx_both (c : UInt8) (l : List UInt8) : (c ∉ l → Lib.indexByte l c = -1) ∧ (c ∈ l → 0 ≤ Lib.indexByte l c) := by
  induction l with
  | nil => exact ⟨fun _ => rfl, fun h => by simp at h⟩
  | cons b l ih =>
    unfold Lib.indexByte
    by_cases hb : b = c
    · rw [if_pos (by simpa using hb)]
      exact ⟨fun h => absurd (by rw [hb]; exact List.mem_cons_self) h, fun _ => Int.le_refl _⟩
    · rw [if_neg (by simpa using hb)]
      by_cases hm : c ∈ l
      · have h1 := ih.2 hm
        rw [if_neg (by simp; omega)]
        exact ⟨fun h => absurd (List.mem_cons_of_mem _ hm) h, fun _ => by omega⟩
      · have h1 := ih.1 hm
        rw [if_pos (by rw [h1]; rfl)]
        exact ⟨fun _ => rfl, fun h => by rcases List.mem_cons.1 h with h | h; exact absurd h.symm hb; exact absurd h hm⟩
theorem idx_mem (c : UInt8) (l : List UInt8) : decide (0 ≤ Lib.indexByte l c) = decide (c ∈ l) := by
  by_cases h : c ∈ l
  · rw [decide_eq_true h, decide_eq_true ((idx_both c l).2 h)]
  · rw [decide_eq_false h, (idx_both c l).1 h]; rfl
theorem beq_list (s : ByteArray) (l : List UInt8) : (s.toList == l) = decide (s.data.toList = l) := by
  rw [Go.ByteArray.toList_eq]
  by_cases h : s.data.toList = l
  · rw [h]; simp
  · rw [decide_eq_false h]; exact beq_false_of_ne h
theorem nameB_iff (l : List UInt8) : nameB l = (decide (1 ≤ l.length) && decide (l.length ≤ 100) && decide ((47 : UInt8) ∉ l) && decide ((0 : UInt8) ∉ l) && decide (l ≠ [46]) && decide (l ≠ [46, 46]) && decide (l.map lowC ≠ dotGit)) := by
  unfold nameB
  simp only [Bool.decide_and, Bool.and_assoc]
set_option maxHeartbeats 2000000 in
set_option maxRecDepth 100000 in
theorem name_any (s : ByteArray) (w : World) (hG : GT w) :
    Calls Tryz.prog 118 #[.string s] w fun e w' => e = .returned (.bool (nameB s.data.toList)) ∧ Below w.heap.size w w' := by
  have HG := hidM hG
  have HLN : Hid (s.data.toList.length = s.size) := Array.length_toList
  have HC1 : Hid (Calls Tryz.prog 106 #[.string s, .string ⟨#[47]⟩] w fun e w' => e = .returned (.bool (decide ((47 : UInt8) ∈ s.data.toList))) ∧ w' = w) := by
    have h := Tryz.strings_Contains_one s 47 w
    rw [idx_mem] at h
    exact h
  have HC2 : Hid (Calls Tryz.prog 106 #[.string s, .string ⟨#[0]⟩] w fun e w' => e = .returned (.bool (decide ((0 : UInt8) ∈ s.data.toList))) ∧ w' = w) := by
    have h := Tryz.strings_Contains_one s 0 w
    rw [idx_mem] at h
    exact h
  have HNB := hidM (nameB_iff s.data.toList)
  have b0 := beq_list s []
  have b1 := beq_list s [46]
  have b2 := beq_list s [46, 46]
  clear hG
  go_enter Tryz.func118, Tryz.ntmps118
  by_cases h0 : s.data.toList = []
  · rw [decide_eq_true h0] at b0
    have HR : Hid (nameB s.data.toList = false) := by unfold Hid; rw [HNB.out, h0]; rfl
    clear HNB h0 b1 b2
    go_wp2
    go_ret
    exact ⟨by rw [HR.out]; rfl, Below.refl _ _⟩
  · rw [decide_eq_false h0] at b0
    have n0 : 1 ≤ s.data.toList.length := List.length_pos_iff.2 h0
    by_cases h1 : 100 < s.size
    · have g1 : (100 : Int) < (s.size : Int) := by omega
      have HR : Hid (nameB s.data.toList = false) := by unfold Hid; rw [HNB.out, decide_eq_false (show ¬ s.data.toList.length ≤ 100 by rw [HLN.out]; omega)]; simp
      clear HNB h0 b1 b2 n0
      go_wp2
      go_ret
      exact ⟨by rw [HR.out]; rfl, Below.refl _ _⟩
    · have g1 : ¬ (100 : Int) < (s.size : Int) := by omega
      clear h0
      go_wp2_with fail
      refine HC1.out.mono ?_
      rintro _ w0 ⟨rfl, h0⟩
      rw [h0]
      clear h0 w0
      by_cases h2 : (47 : UInt8) ∈ s.data.toList
      · have HR : Hid (nameB s.data.toList = false) := by unfold Hid; rw [HNB.out, decide_eq_false (p := (47 : UInt8) ∉ s.data.toList) (fun h => h h2)]; simp
        rw [decide_eq_true h2]
        clear HNB b1 b2 n0 h2
        go_wp2
        go_ret
        exact ⟨by rw [HR.out]; rfl, Below.refl _ _⟩
      · rw [decide_eq_false h2]
        go_wp2_with fail
        refine HC2.out.mono ?_
        rintro _ w0 ⟨rfl, h0⟩
        rw [h0]
        clear h0 w0
        by_cases h3 : (0 : UInt8) ∈ s.data.toList
        · have HR : Hid (nameB s.data.toList = false) := by unfold Hid; rw [HNB.out, decide_eq_false (p := (0 : UInt8) ∉ s.data.toList) (fun h => h h3)]; simp
          rw [decide_eq_true h3]
          clear HNB b1 b2 n0 h2 h3
          go_wp2
          go_ret
          exact ⟨by rw [HR.out]; rfl, Below.refl _ _⟩
        · rw [decide_eq_false h3]
          have HF := hidM (fold_any s w HG.out (by omega))
          have HN2 : Hid (nameB s.data.toList = (decide (s.data.toList ≠ [46]) && decide (s.data.toList ≠ [46, 46]) && decide (s.data.toList.map lowC ≠ dotGit))) := by
            unfold Hid
            rw [HNB.out, decide_eq_true n0, decide_eq_true (show s.data.toList.length ≤ 100 by rw [HLN.out]; omega), decide_eq_true h2, decide_eq_true h3]
            simp
          clear HNB n0 h2 h3
          by_cases h4 : s.data.toList = [46]
          · rw [decide_eq_true h4] at b1
            have HR : Hid (nameB s.data.toList = false) := by unfold Hid; rw [HN2.out, h4]; rfl
            clear HN2 h4 b2
            go_wp2
            go_ret
            exact ⟨by rw [HR.out]; rfl, Below.refl _ _⟩
          · rw [decide_eq_false h4] at b1
            by_cases h5 : s.data.toList = [46, 46]
            · rw [decide_eq_true h5] at b2
              have HR : Hid (nameB s.data.toList = false) := by unfold Hid; rw [HN2.out, h5]; rfl
              clear HN2 h4 h5
              go_wp2
              go_ret
              exact ⟨by rw [HR.out]; rfl, Below.refl _ _⟩
            · rw [decide_eq_false h5] at b2
              have HR : Hid (nameB s.data.toList = !decide (s.data.toList.map lowC = dotGit)) := by
                unfold Hid
                rw [HN2.out, decide_eq_true h4, decide_eq_true h5]
                simp
              clear HN2 h4 h5
              go_wp2_with fail
              refine HF.out.mono ?_
              rintro _ w1 ⟨rfl, hb⟩
              have HB := hidM hb
              clear hb HF
              generalize decide (s.data.toList.map lowC = dotGit) = q at *
              go_wp2
              go_ret
              exact ⟨by rw [HR.out]; rfl, HB.out⟩
end Go.Proofs.YtlmeoahcpmikiaaGreatDoor.T
namespace Go.Proofs.YtlmeoahcpmikiaaGreatDoor.T
open Go.RowKit
set_option maxRecDepth 100000 in
theorem take_snoc (s : ByteArray) (k : Nat) (h : k < s.size) : s.data.toList.take (k + 1) = s.data.toList.take k ++ [s[k]] := by
  rw [List.take_succ_eq_append_getElem (by simpa using h)]; rfl
set_option maxRecDepth 100000 in
theorem byte_lt (c : UInt8) : c.toNat < 256 := UInt8.toNat_lt c
set_option maxRecDepth 100000 in
theorem val_int {k : IntKind} {a b : Int} (h : a = b) : Value.int k a = .int k b := by rw [h]
set_option maxRecDepth 100000 in
theorem Tryz.info5 : (Tryz.prog.info? 5).map (fun i => (i.zero, i.size, i.bytes)) = some (some (.int .u8 0), 1, 1) := by kernel_rfl
set_option maxRecDepth 100000 in
theorem bytesV_app (l m : List UInt8) : bytesV (l ++ m) = bytesV l ++ bytesV m := by simp [bytesV]
/-- The value v owns just the bytes l, in memory from 'base' on. -/
def OwnB (w : World) (base : Nat) (v : Value) (l : List UInt8) : Prop := w.ownsRow base 5 1 v l.length (bytesV l)
set_option maxRecDepth 100000 in
theorem conv_own {w : World} {base : Nat} {v : Value} {l : List UInt8} (h : OwnB w base v l) :
    (convert 74 9 v).run Tryz.prog w = .ok (.string ⟨l.toArray⟩) w := by
  rcases h.2 with ⟨rfl, hn⟩ | ⟨g, cap, cur, rfl, hb, hg, hnc, hcm, hcs, htake⟩
  · have : l = [] := List.eq_nil_of_length_eq_zero hn
    subst this
    rw [run_convert_bytes_string w 74 9 5 none 0 0 Tryz.underlying74 Tryz.underlying5 Tryz.underlying9]
    rfl
  · refine run_convert_bytes_back w 74 9 5 _ cap l Tryz.underlying74 Tryz.underlying5 Tryz.underlying9 ?_
    intro j hj
    have := World.ownsRow.cells (g := g) h rfl j _ (bytesV_at l j hj)
    exact this
set_option maxRecDepth 100000 in
theorem cell_new_one (w : World) (v : Value) : ∀ j u, [v][j]? = some u → (w.alloc (.cells #[v] 5)).cell? ((⟨w.heap.size, 0, none⟩ : Addr).add j) = some u := by
  intro j u hj
  match j, hj with
  | 0, hj => simp at hj; subst hj; simp [Addr.add]
set_option maxRecDepth 100000 in
theorem own_empty (w : World) : OwnB (w.alloc (.cells #[] 5)) w.heap.size (.slice (some ⟨w.heap.size, 0, none⟩) 0 0) [] :=
  World.ownsRow_lit w #[] 0 (Nat.le_refl _) (Nat.zero_le _) rfl
set_option maxRecDepth 100000 in
/-- What one append of a byte leaves. -/
theorem own_push {w1 : World} {B : Nat} {v' : Value} {P : List UInt8} {c : UInt8} (h : w1.ownsRow B 5 1 v' (P.length + 1) (bytesV P ++ [.int .u8 (c.toNat : Int)])) : OwnB w1 B v' (P ++ [c]) := by
  unfold OwnB
  rw [bytesV_app]
  simpa [bytesV] using h
set_option maxRecDepth 100000 in
theorem below_push {w wr w1 : World} {B : Nat} {v : Value} {P : List UInt8} {o : Obj} (hown : OwnB wr B v P) (hb : Below B w wr) (hB : B ≤ wr.heap.size) (hg : (wr.alloc o).grownBy w1 v.ownBlock) : Below B w w1 :=
  (hb.alloc hB o).grown hg (by simp; omega) (fun k hk => (World.ownsRow.lt hown k hk).1)
set_option maxRecDepth 100000 in
theorem cell_new_eq (w : World) (v v' : Value) (h : v = v') : ∀ j u, [v'][j]? = some u → (w.alloc (.cells #[v] 5)).cell? ((⟨w.heap.size, 0, none⟩ : Addr).add j) = some u := by
  subst h; exact cell_new_one w v
def digL : List UInt8 := [48, 49, 50, 51, 52, 53, 54, 55, 56, 57, 97, 98, 99, 100, 101, 102]
def digH : ByteArray := ⟨digL.toArray⟩
def digN (q : Nat) : UInt8 := digL.getD q 0
set_option maxRecDepth 100000 in
theorem dig_at (q : Nat) (h : q < 16) : digH[q]'h = digN q := by
  unfold digN
  rw [List.getD_eq_getElem?_getD, List.getElem?_eq_getElem (h := h)]
  rfl
def isDig (c : UInt8) : Bool := (decide (48 ≤ c.toNat) && decide (c.toNat ≤ 57)) || (decide (97 ≤ c.toNat) && decide (c.toNat ≤ 102))
def hexV (c : UInt8) : Nat := if 48 ≤ c.toNat ∧ c.toNat ≤ 57 then c.toNat - 48 else if 97 ≤ c.toNat ∧ c.toNat ≤ 102 then c.toNat - 87 else 0
set_option maxRecDepth 100000 in
theorem hexV_lt (c : UInt8) : hexV c < 16 := by
  unfold hexV
  split
  · omega
  · split <;> omega
def hex2 (c : UInt8) : List UInt8 := [digN (c.toNat / 16), digN (c.toNat % 16)]
def hexL (l : List UInt8) : List UInt8 := l.flatMap hex2
set_option maxRecDepth 100000 in
theorem hexL_snoc (l : List UInt8) (c : UInt8) : hexL (l ++ [c]) = hexL l ++ hex2 c := by simp [hexL]
set_option maxRecDepth 100000 in
theorem hexL_len (l : List UInt8) : (hexL l).length = 2 * l.length := by
  induction l with
  | nil => rfl
  | cons c l ih => show (hex2 c ++ hexL l).length = _; rw [List.length_append, ih]; simp [hex2]; omega
set_option maxRecDepth 100000 in
theorem hexL_take (s : ByteArray) (k : Nat) (h : k < s.size) : hexL (s.data.toList.take (k + 1)) = hexL (s.data.toList.take k) ++ hex2 s[k] := by rw [take_snoc s k h, hexL_snoc]
def hexed (l : List UInt8) : Bool := l.all isDig && decide (l.length % 2 = 0)
def pairV (l : List UInt8) (k : Nat) : UInt8 := UInt8.ofNat (hexV (l.getD (2 * k) 0) * 16 + hexV (l.getD (2 * k + 1) 0))
def unhexN (l : List UInt8) (n : Nat) : List UInt8 := (List.range n).map (pairV l)
def unhexL (l : List UInt8) : List UInt8 := unhexN l (l.length / 2)
set_option maxRecDepth 100000 in
theorem unhexN_succ (l : List UInt8) (n : Nat) : unhexN l (n + 1) = unhexN l n ++ [pairV l n] := by simp [unhexN, List.range_succ]
set_option maxRecDepth 100000 in
theorem unhexN_len (l : List UInt8) (n : Nat) : (unhexN l n).length = n := by simp [unhexN]
set_option maxRecDepth 100000 in
theorem unhexL_cons (a b : UInt8) (l : List UInt8) : unhexL (a :: b :: l) = UInt8.ofNat (hexV a * 16 + hexV b) :: unhexL l := by
  unfold unhexL unhexN
  rw [show (a :: b :: l).length / 2 = l.length / 2 + 1 by simp; omega, List.range_succ_eq_map, List.map_cons, List.map_map]
  congr 1
/-- All places below n hold digits. -/
def DigTo (l : List UInt8) (n : Nat) : Prop := ∀ i, i < n → isDig (l.getD i 0) = true
set_option maxRecDepth 100000 in
theorem digTo_all (l : List UInt8) (h : DigTo l l.length) : l.all isDig = true := by
  rw [List.all_eq_true]
  intro c hc
  obtain ⟨i, hi, rfl⟩ := List.getElem_of_mem hc
  have := h i hi
  rwa [List.getD_eq_getElem?_getD, List.getElem?_eq_getElem hi] at this
set_option maxRecDepth 100000 in
theorem not_all (l : List UInt8) (i : Nat) (hi : i < l.length) (h : isDig (l.getD i 0) = false) : l.all isDig = false := by
  rw [List.all_eq_false]
  refine ⟨l[i], List.getElem_mem hi, ?_⟩
  rw [List.getD_eq_getElem?_getD, List.getElem?_eq_getElem hi] at h
  simpa using h
set_option maxRecDepth 100000 in
theorem all_digTo (l : List UInt8) (h : l.all isDig = true) : DigTo l l.length := by
  intro i hi
  rw [List.getD_eq_getElem?_getD, List.getElem?_eq_getElem hi]
  exact List.all_eq_true.1 h _ (List.getElem_mem hi)
set_option maxRecDepth 100000 in
theorem getD_at (s : ByteArray) (k : Nat) (h : k < s.size) : s.data.toList.getD k 0 = s[k] := by
  rw [List.getD_eq_getElem?_getD, List.getElem?_eq_getElem (by simpa using h)]
  rfl
set_option maxRecDepth 100000 in
theorem len_size (s : ByteArray) : s.data.toList.length = s.size := by simp
set_option maxRecDepth 100000 in
theorem ret_pair {a b : Int} {k : IntKind} {p q : Bool} (h : a = b) (g : p = q) : Ending.returned (.tuple #[.int k a, .bool p]) = .returned (.tuple #[.int k b, .bool q]) := by rw [h, g]
set_option maxHeartbeats 400000 in
set_option maxRecDepth 100000 in
theorem hexValue_any (c : UInt8) (w : World) :
    Calls Tryz.prog 73 #[.int .u8 (c.toNat : Int)] w fun e w' => e = .returned (.tuple #[.int .u8 (hexV c : Nat), .bool (isDig c)]) ∧ w' = w := by
  have hc := byte_lt c
  by_cases h1 : 48 ≤ c.toNat ∧ c.toNat ≤ 57
  · have HV : Hid (hexV c = c.toNat - 48) := by unfold Hid hexV; rw [if_pos h1]
    have HD : Hid (isDig c = true) := by unfold Hid isDig; simp [h1]
    obtain ⟨a1, a2⟩ := h1
    generalize c.toNat = n at *
    go_enter Tryz.func73, Tryz.ntmps73
    go_wp2
    go_ret2
    exact ⟨ret_pair (by rw [HV.out]; omega) HD.out.symm, rfl⟩
  · by_cases h2 : 97 ≤ c.toNat ∧ c.toNat ≤ 102
    · have HV : Hid (hexV c = c.toNat - 87) := by unfold Hid hexV; rw [if_neg h1, if_pos h2]
      have HD : Hid (isDig c = true) := by unfold Hid isDig; simp [h2]
      obtain ⟨a1, a2⟩ := h2
      clear h1
      generalize c.toNat = n at *
      have g1 : ¬ n ≤ 57 := by omega
      go_enter Tryz.func73, Tryz.ntmps73
      go_wp2
      go_ret2
      exact ⟨ret_pair (by rw [HV.out]; omega) HD.out.symm, rfl⟩
    · have HV : Hid (hexV c = 0) := by unfold Hid hexV; rw [if_neg h1, if_neg h2]
      have HD : Hid (isDig c = false) := by unfold Hid isDig; simp; omega
      have hcases : c.toNat < 48 ∨ (57 < c.toNat ∧ c.toNat < 97) ∨ 102 < c.toNat := by omega
      clear h1 h2
      generalize c.toNat = n at *
      rcases hcases with g | ⟨g1, g2⟩ | g
      · have g3 : n < 97 := by omega
        go_enter Tryz.func73, Tryz.ntmps73
        go_wp2
        go_ret2
        exact ⟨ret_pair (by rw [HV.out]; rfl) HD.out.symm, rfl⟩
      · go_enter Tryz.func73, Tryz.ntmps73
        go_wp2
        go_ret2
        exact ⟨ret_pair (by rw [HV.out]; rfl) HD.out.symm, rfl⟩
      · go_enter Tryz.func73, Tryz.ntmps73
        go_wp2
        go_ret2
        exact ⟨ret_pair (by rw [HV.out]; rfl) HD.out.symm, rfl⟩
set_option maxRecDepth 100000 in
theorem ret_bool {p q : Bool} (h : p = q) : Ending.returned (.bool p) = .returned (.bool q) := by rw [h]
def idB (l : List UInt8) : Bool := l.all isDig && decide (l.length = 40)
set_option maxRecDepth 100000 in
theorem idB_no (l : List UInt8) (i : Nat) (hi : i < l.length) (h : isDig (l.getD i 0) = false) : idB l = false := by
  unfold idB; rw [not_all l i hi h]; rfl
set_option maxRecDepth 100000 in
theorem idB_yes (l : List UInt8) (hd : DigTo l l.length) (h : l.length = 40) : idB l = true := by
  unfold idB; rw [digTo_all l hd, h]; rfl
set_option maxRecDepth 100000 in
theorem idB_len (l : List UInt8) (h : ¬ l.length = 40) : idB l = false := by
  unfold idB; simp [h]
set_option maxHeartbeats 400000 in
set_option maxRecDepth 100000 in
theorem id_any (s : ByteArray) (w : World) (hs : s.size ≤ maxLen) :
    Calls Tryz.prog 47 #[.string s] w fun e w' => e = .returned (.bool (idB s.data.toList)) ∧ w' = w := by
  unfold maxLen at hs
  by_cases h40 : s.size = 40
  · have H40 := hidM h40
    have g1 : ((s.size : Int) != 40) = false := by rw [h40]; rfl
    have i1 : s.size ≤ 40 := by omega
    have i2 : 40 ≤ s.size := by omega
    clear h40
    go_enter Tryz.func47, Tryz.ntmps47
    go_wp2
    go_loop [3, 4, 5] (fun i _ _ => ∃ k : Nat, k ≤ s.size ∧ i = .int .i64 k ∧ DigTo s.data.toList k) (fun i _ _ => s.size - (intOf i).toNat)
    case atStart => exact ⟨0, Nat.zero_le _, rfl, fun i hi => by omega⟩
    case round =>
      obtain ⟨k, hk, rfl, hd⟩ := hrel
      have HD := hidM hd
      clear hd
      by_cases hlt : k < s.size
      · obtain ⟨c, hc⟩ : ∃ c, c = s[k] := ⟨_, rfl⟩
        have HC : Hid (s.data.toList.getD k 0 = c) := by unfold Hid; rw [getD_at s k hlt, hc]
        have hcc : (s[k].toNat : Int) = (c.toNat : Int) := by rw [hc]
        clear hc
        cases hdg : isDig c
        · have HB := hidM hdg
          go_wp2_with fail
          refine (hexValue_any c w).mono ?_
          rintro e w1 ⟨rfl, rfl⟩
          clear hcc
          go_wp2
          go_ret
          exact ⟨ret_bool (idB_no s.data.toList k (by simpa using hlt) (by rw [HC.out]; exact HB.out)).symm, rfl⟩
        · have HB := hidM hdg
          go_wp2_with fail
          refine (hexValue_any c w).mono ?_
          rintro e w1 ⟨rfl, rfl⟩
          clear hcc
          go_wp2
          go_round
          case rel =>
            refine ⟨k + 1, by omega, by go_num, fun i hi => ?_⟩
            by_cases e : i = k
            · subst e; rw [HC.out]; exact HB.out
            · exact HD.out i (by omega)
          case measure => simp [intOf]; omega
      · go_wp2
        go_ret
        exact ⟨ret_bool (idB_yes s.data.toList (by intro i hi; rw [len_size] at hi; exact HD.out i (by omega)) (by rw [len_size]; exact H40.out)).symm, rfl⟩
  · have g1 : ((s.size : Int) != 40) = true := by simp; omega
    have H40 := hidM h40
    clear h40
    go_enter Tryz.func47, Tryz.ntmps47
    go_wp2
    go_ret
    exact ⟨ret_bool (idB_len s.data.toList (by rw [len_size]; exact H40.out)).symm, rfl⟩
set_option maxRecDepth 100000 in
theorem hexed_no (l : List UInt8) (i : Nat) (hi : i < l.length) (h : isDig (l.getD i 0) = false) : hexed l = false := by
  unfold hexed; rw [not_all l i hi h]; rfl
set_option maxRecDepth 100000 in
theorem hexed_yes (l : List UInt8) (hd : DigTo l l.length) : hexed l = decide (l.length % 2 = 0) := by
  unfold hexed; rw [digTo_all l hd]; rfl
set_option maxHeartbeats 800000 in
set_option maxRecDepth 100000 in
theorem hexed_any (s : ByteArray) (w : World) (hs : s.size ≤ maxLen) :
    Calls Tryz.prog 78 #[.string s] w fun e w' => e = .returned (.bool (hexed s.data.toList)) ∧ w' = w := by
  unfold maxLen at hs
  go_enter Tryz.func78, Tryz.ntmps78
  go_wp2
  go_loop [3] (fun i => ∃ k : Nat, k ≤ s.size ∧ i = .int .i64 k ∧ DigTo s.data.toList k) (fun i => s.size - (intOf i).toNat)
  case atStart => exact ⟨0, Nat.zero_le _, rfl, fun i hi => by omega⟩
  case round =>
    obtain ⟨k, hk, rfl, hd⟩ := hrel
    have HD := hidM hd
    clear hd
    by_cases hlt : k < s.size
    · have HC : Hid (s.data.toList.getD k 0 = s[k]) := getD_at s k hlt
      have hdg : isDig s[k] = true ∨ isDig s[k] = false := by cases isDig s[k] <;> simp
      have yes : Hid (isDig s[k] = true → DigTo s.data.toList (k + 1)) := by
        intro h i hi
        by_cases e : i = k
        · subst e; rw [HC.out]; exact h
        · exact HD.out i (by omega)
      have no : Hid (isDig s[k] = false → hexed s.data.toList = false) := fun h => hexed_no s.data.toList k (by simpa using hlt) (by rw [HC.out]; exact h)
      have HI : Hid (isDig s[k] = ((decide (48 ≤ s[k].toNat) && decide (s[k].toNat ≤ 57)) || (decide (97 ≤ s[k].toNat) && decide (s[k].toNat ≤ 102)))) := rfl
      clear hdg HC
      by_cases a1 : 48 ≤ s[k].toNat
      · by_cases a2 : s[k].toNat ≤ 57
        · have HY : Hid (DigTo s.data.toList (k + 1)) := yes.out (by rw [HI.out]; simp [a1, a2])
          clear yes no HI
          have d48 : decide ((48 : Int) ≤ (s[k].toNat : Int)) = true := by simp; omega
          have d57 : decide ((s[k].toNat : Int) ≤ (57 : Int)) = true := by simp; omega
          go_wp2
          go_round
          case rel => exact ⟨k + 1, by omega, by go_num, HY.out⟩
          case measure => simp [intOf]; omega
        · by_cases a3 : 97 ≤ s[k].toNat
          · by_cases a4 : s[k].toNat ≤ 102
            · have HY : Hid (DigTo s.data.toList (k + 1)) := yes.out (by rw [HI.out]; simp [a3, a4])
              clear yes no HI
              have d48 : decide ((48 : Int) ≤ (s[k].toNat : Int)) = true := by simp; omega
              have d57 : decide ((s[k].toNat : Int) ≤ (57 : Int)) = false := by simp; omega
              have d97 : decide ((97 : Int) ≤ (s[k].toNat : Int)) = true := by simp; omega
              have d102 : decide ((s[k].toNat : Int) ≤ (102 : Int)) = true := by simp; omega
              go_wp2
              go_round
              case rel => exact ⟨k + 1, by omega, by go_num, HY.out⟩
              case measure => simp [intOf]; omega
            · have HN : Hid (hexed s.data.toList = false) := no.out (by rw [HI.out]; simp; omega)
              clear yes no HI
              have d48 : decide ((48 : Int) ≤ (s[k].toNat : Int)) = true := by simp; omega
              have d57 : decide ((s[k].toNat : Int) ≤ (57 : Int)) = false := by simp; omega
              have d97 : decide ((97 : Int) ≤ (s[k].toNat : Int)) = true := by simp; omega
              have d102 : decide ((s[k].toNat : Int) ≤ (102 : Int)) = false := by simp; omega
              go_wp2
              go_ret
              exact ⟨ret_bool HN.out.symm, rfl⟩
          · have HN : Hid (hexed s.data.toList = false) := no.out (by rw [HI.out]; simp; omega)
            clear yes no HI
            have d48 : decide ((48 : Int) ≤ (s[k].toNat : Int)) = true := by simp; omega
            have d57 : decide ((s[k].toNat : Int) ≤ (57 : Int)) = false := by simp; omega
            have d97 : decide ((97 : Int) ≤ (s[k].toNat : Int)) = false := by simp; omega
            go_wp2
            go_ret
            exact ⟨ret_bool HN.out.symm, rfl⟩
      · have a3 : ¬ 97 ≤ s[k].toNat := by omega
        have HN : Hid (hexed s.data.toList = false) := no.out (by rw [HI.out]; simp; omega)
        clear yes no HI
        have d48 : decide ((48 : Int) ≤ (s[k].toNat : Int)) = false := by simp; omega
        have d97 : decide ((97 : Int) ≤ (s[k].toNat : Int)) = false := by simp; omega
        go_wp2
        go_ret
        exact ⟨ret_bool HN.out.symm, rfl⟩
    · have HF : Hid (hexed s.data.toList = decide (s.size % 2 = 0)) := by
        unfold Hid
        rw [hexed_yes s.data.toList (by intro i hi; rw [len_size] at hi; exact HD.out i (by omega)), len_size]
      go_wp2
      go_ret
      refine ⟨ret_bool ?_, rfl⟩
      rw [HF.out]
      by_cases h : s.size % 2 = 0
      · have : ((s.size : Int) % 2 == 0) = true := by simp; omega
        rw [this]; simp [h]
      · have : ((s.size : Int) % 2 == 0) = false := by simp; omega
        rw [this]; simp [h]
set_option maxRecDepth 100000 in
/-- append onto a slice of the call's own, as one step of a region that draws. -/
theorem step_append_own {P : Program} {ops : Array Oper} {o : Oper} {a : Act} {w : World} {K : Act → World → Prop} {Q : Exit → Act → World → Prop} {E : Prop}
    (hg : o.guard = none) (s x : Operand) (t : TypeId) (hop : o.op = Op.call { callee := Callee.builtin Builtin.append, args := #[s, x], argTypes := #[t, t] })
    (base : Nat) (e : TypeId) (i : TypeInfo) (z : Value) (size bytes : Nat) (h1 : P.underlying t = some (.slice e)) (h2 : P.info? e = some i) (h3 : i.zero = some z) (h4 : i.size = size) (h5 : i.bytes = bytes) (h6 : z.cells.size = size) (h7 : 0 < size)
    (v : Value) (n : Nat) (xs : List Value) (hs : a.eval s = v) (hown : w.ownsRow base e size v n xs)
    (ad : Addr) (m c : Nat) (news : List Value) (hx : a.eval x = .slice (some ad) m c) (hn : news.length = m * size) (hc : ∀ j u, news[j]? = some u → w.cell? (ad.add j) = some u) (h1c : ∀ u ∈ news, u.oneCell' = true)
    (b1 : n + m ≤ maxLen) (b2 : (n + m) * bytes ≤ 140737488355328) (b3 : base ≤ w.heap.size)
    (hK : ∀ v' w', w'.ownsRow base e size v' (n + m) (xs ++ news) → w.grownBy w' v.ownBlock → K (a.put o.dst v') w') :
    if Region.wanted o (yielded ops a.tmps) = true then Oper.wp P o a w K Q else E := by
  have hw : Region.wanted o (yielded ops a.tmps) = true := by simp [Region.wanted, hg]
  rw [if_pos hw]
  obtain ⟨v', w', hrun, r1, r2, _⟩ := run_append_own (P := P) w base t o.type e i z size bytes h1 h2 h3 h4 h5 h6 h7 v n xs hown ad m c news hn hc h1c b1 b2 b3
  unfold Oper.wp
  simp [execOp, hop, resolve, invoke, builtin, hs, hx, hrun, Result.andThen]
  exact hK v' w' r1 r2
set_option maxRecDepth 100000 in
theorem and15u8 (a : Nat) (ha : a < 256) : bits .and .u8 (a : Int) 15 = ((a % 16 : Nat) : Int) := by
  have := u8_and_nat a 15 ha (by omega)
  rw [nat_mask4] at this
  exact this
set_option maxRecDepth 100000 in
theorem cell_new_two (w : World) (u v u' v' : Value) (hu : u = u') (hv : v = v') : ∀ j x, [u', v'][j]? = some x → (w.alloc (.cells #[u, v] 5)).drew.cell? ((⟨w.heap.size, 0, none⟩ : Addr).add j) = some x := by
  subst hu; subst hv
  intro j x hj
  match j, hj with
  | 0, hj => simp at hj; subst hj; simp [Addr.add]
  | 1, hj => simp at hj; subst hj; simp [Addr.add]
set_option maxRecDepth 100000 in
theorem own_push2 {w1 : World} {B : Nat} {v' : Value} {P : List UInt8} {c d : UInt8} (h : w1.ownsRow B 5 1 v' (P.length + 2) (bytesV P ++ [.int .u8 (c.toNat : Int), .int .u8 (d.toNat : Int)])) : OwnB w1 B v' (P ++ [c, d]) := by
  unfold OwnB
  rw [bytesV_app]
  simpa [bytesV] using h
set_option maxRecDepth 100000 in
theorem below_push_drew {w wr w1 : World} {B : Nat} {v : Value} {P : List UInt8} {o : Obj} (hown : OwnB wr B v P) (hb : Below B w wr) (hB : B ≤ wr.heap.size) (hg : (wr.alloc o).drew.grownBy w1 v.ownBlock) : Below B w w1 :=
  (hb.alloc hB o).drew.grown hg (by simp; omega) (fun k hk => (World.ownsRow.lt hown k hk).1)
set_option maxHeartbeats 1600000 in
set_option maxRecDepth 100000 in
theorem hex_any (s : ByteArray) (w : World) (hs : s.size ≤ 1048576) :
    Calls Tryz.prog 49 #[.string s] w fun e w' => e = .returned (.string ⟨(hexL s.data.toList).toArray⟩) ∧ Below w.heap.size w w' := by
  obtain ⟨i0, hi, hz0, hz1, hz2⟩ := info_parts Tryz.info5
  go_enter Tryz.func49, Tryz.ntmps49
  go_wp2_with (at_make; refine wpList_make_own _ rfl _ _ 74 rfl w.heap.size 5 i0 (.int .u8 0) 1 Tryz.underlying74 hi hz0 hz1 .i64 .i64 _ (2 * s.size) rfl rfl ?c0 ?c1 ?c2 ?c3 ?_)
  case c0 => omega
  case c1 => rw [hz2]; omega
  case c2 => unfold maxLen; omega
  case c3 => exact Nat.le_refl _
  intro w1 hown hgrow
  have hbel : Below w.heap.size w w1 := (Below.refl _ _).grown hgrow (Nat.le_refl _) (by intro k hk; cases hk)
  have hown2 : OwnB w1 w.heap.size (.slice (some ⟨w.heap.size, 0, none⟩) 0 (2 * s.size)) [] := hown
  clear hown hgrow
  go_wp2
  go_loopw [3, 4] (fun v i wr => ∃ (k : Nat) (P : List UInt8), k ≤ s.size ∧ i = .int .i64 k ∧ P = hexL (s.data.toList.take k) ∧ OwnB wr w.heap.size v P ∧ Below w.heap.size w wr) (fun _ i _ => s.size - (intOf i).toNat)
  case atStart => exact ⟨0, [], Nat.zero_le _, rfl, rfl, hown2, hbel⟩
  case round =>
    obtain ⟨k, P, hk, rfl, hP, hownr, hbr⟩ := hrel
    clear hown2 hbel
    have HP := hidM hP
    have hB := hbr.size
    by_cases hlt : k < s.size
    · have hl : P.length = 2 * k := by rw [hP, hexL_len]; simp; omega
      have HL := hidM hl
      have hc := byte_lt s[k]
      obtain ⟨q1, hq1⟩ : ∃ q, q = s[k].toNat / 16 := ⟨_, rfl⟩
      obtain ⟨q2, hq2⟩ : ∃ q, q = s[k].toNat % 16 := ⟨_, rfl⟩
      have r1 : (s[k].toNat : Int) / 16 = (q1 : Int) := by omega
      have r2 : bits .and .u8 (s[k].toNat : Int) 15 = (q2 : Int) := by rw [hq2]; exact and15u8 _ hc
      have l1 : q1 < 16 := by omega
      have l2 : q2 < 16 := by omega
      have m1 : (q1 : Int) < 16 := by omega
      have m2 : (q2 : Int) < 16 := by omega
      have kk : (k : Int) < (s.size : Int) := by omega
      have HX : Hid (hexL (s.data.toList.take (k + 1)) = P ++ [digN q1, digN q2]) := by unfold Hid; rw [hexL_take s k hlt, ← hP, hq1, hq2]; rfl
      clear hq1 hq2 hP hl
      go_wp2
      go_region_law (refine step_append_own rfl _ _ 74 rfl w.heap.size 5 i0 (.int .u8 0) 1 1 Tryz.underlying74 hi hz0 hz1 hz2 rfl (by decide) u3 P.length (bytesV P) rfl (by exact (hownr.alloc _).drew) ⟨wr.heap.size, 0, none⟩ 2 2 [.int .u8 ((digN q1).toNat : Int), .int .u8 ((digN q2).toNat : Int)] (by rfl) rfl (by exact cell_new_two wr _ _ _ _ (val_int (congrArg (fun c : UInt8 => (c.toNat : Int)) (dig_at q1 l1))) (val_int (congrArg (fun c : UInt8 => (c.toNat : Int)) (dig_at q2 l2)))) (by intro u hu; simp at hu; rcases hu with rfl | rfl <;> rfl) (by have := HL.out; unfold maxLen; omega) (by have := HL.out; omega) (by simp; omega) ?_; intro v' w2 hown' hgrow; have HO := hidM (own_push2 hown'); have HB := hidM (below_push_drew hownr hbr hB hgrow); clear hown' hgrow hownr hbr hB)
      all_goals
        go_wp2
        go_roundw
        case rel => exact ⟨k + 1, _, by omega, by go_num, HX.out.symm, HO.out, HB.out⟩
        case measure => simp [intOf]; omega
    · have HF : Hid (hexL s.data.toList = P) := by unfold Hid; rw [hP, List.take_of_length_le (by simp; omega)]
      have hconv := conv_own hownr
      have HB := hidM hbr
      clear hownr hbr hB hP
      go_wp2
      go_ret
      exact ⟨by rw [HF.out]; rfl, HB.out⟩
set_option maxRecDepth 100000 in
theorem or4 (a b : Nat) (ha : a < 16) (hb : b < 16) : bits .or .u8 ((a : Int) * 16) (b : Int) = ((a * 16 + b : Nat) : Int) := by
  rw [show (a : Int) * 16 = ((a * 16 : Nat) : Int) by omega, u8_or_nat _ _ (by omega) (by omega), nat_join 4 _ _ (by omega) (by omega)]
set_option maxHeartbeats 1600000 in
set_option maxRecDepth 100000 in
theorem unhex_yes (s : ByteArray) (w : World) (hs : s.size ≤ 1048576) (hh : hexed s.data.toList = true) :
    Calls Tryz.prog 26 #[.string s] w fun e w' => e = .returned (.tuple #[.string ⟨(unhexL s.data.toList).toArray⟩, .bool true]) ∧ Below w.heap.size w w' := by
  obtain ⟨i0, hi, hz0, hz1, hz2⟩ := info_parts Tryz.info5
  unfold hexed at hh
  rw [Bool.and_eq_true] at hh
  have HD := hidM (all_digTo _ hh.1)
  have hev : s.size % 2 = 0 := by have := hh.2; rw [len_size] at this; exact of_decide_eq_true this
  clear hh
  obtain ⟨m, hm⟩ : ∃ m, s.size = 2 * m := ⟨s.size / 2, by omega⟩
  have HM := hidM hm
  have hm1 : s.size ≤ 2 * m := by omega
  have hm2 : 2 * m ≤ s.size := by omega
  have hz : ((s.size : Int) % 2 != 0) = false := by simp; omega
  clear hm hev
  go_enter Tryz.func26, Tryz.ntmps26
  go_wp2_with (at_make; refine wpList_make_own _ rfl _ _ 74 rfl w.heap.size 5 i0 (.int .u8 0) 1 Tryz.underlying74 hi hz0 hz1 .i64 .i64 _ m rfl rfl ?c0 ?c1 ?c2 ?c3 ?_)
  case c0 => omega
  case c1 => rw [hz2]; omega
  case c2 => unfold maxLen; omega
  case c3 => exact Nat.le_refl _
  intro w1 hown hgrow
  have hbel : Below w.heap.size w w1 := (Below.refl _ _).grown hgrow (Nat.le_refl _) (by intro k hk; cases hk)
  have hown2 : OwnB w1 w.heap.size (.slice (some ⟨w.heap.size, 0, none⟩) 0 m) [] := hown
  clear hown hgrow
  go_wp2
  go_loopw [4, 5, 6, 7, 8, 9] (fun v i _ _ _ _ wr => ∃ (k : Nat) (P : List UInt8), k ≤ m ∧ i = .int .i64 ((2 * k : Nat) : Int) ∧ P = unhexN s.data.toList k ∧ OwnB wr w.heap.size v P ∧ Below w.heap.size w wr) (fun _ i _ _ _ _ _ => s.size - (intOf i).toNat)
  case atStart => exact ⟨0, [], Nat.zero_le _, rfl, rfl, hown2, hbel⟩
  case round =>
    obtain ⟨k, P, hk, rfl, hP, hownr, hbr⟩ := hrel
    clear hown2 hbel
    have HP := hidM hP
    have hB := hbr.size
    by_cases hlt : k < m
    · have hl : P.length = k := by rw [hP, unhexN_len]
      have HL := hidM hl
      have k1 : 2 * k < s.size := by omega
      have k2 : 2 * k + 1 < s.size := by omega
      obtain ⟨c, hc⟩ : ∃ c, c = s[2 * k] := ⟨_, rfl⟩
      obtain ⟨d, hd⟩ : ∃ d, d = s[2 * k + 1] := ⟨_, rfl⟩
      have gc : s.data.toList.getD (2 * k) 0 = c := by rw [getD_at s _ k1, hc]
      have gd : s.data.toList.getD (2 * k + 1) 0 = d := by rw [getD_at s _ k2, hd]
      have dc : isDig c = true := by rw [← gc]; exact HD.out _ (by rw [len_size]; omega)
      have dd : isDig d = true := by rw [← gd]; exact HD.out _ (by rw [len_size]; omega)
      have HV : Hid (unhexN s.data.toList (k + 1) = P ++ [UInt8.ofNat (hexV c * 16 + hexV d)]) := by
        unfold Hid; rw [unhexN_succ, ← hP]; unfold pairV; rw [gc, gd]
      have rc : (s[2 * k].toNat : Int) = (c.toNat : Int) := by rw [hc]
      have rd : (s[2 * k + 1].toNat : Int) = (d.toNat : Int) := by rw [hd]
      clear hc hd gc gd hP hl
      have b1 := hexV_lt c
      have b2 := hexV_lt d
      go_wp2_with fail
      refine (hexValue_any c wr).mono ?_
      rintro e wr' ⟨rfl, rfl⟩
      go_wp2_with fail
      refine (hexValue_any d wr').mono ?_
      rintro e wr ⟨rfl, rfl⟩
      have HE : Hid (((hexV c * 16 + hexV d : Nat) : Int) = ((UInt8.ofNat (hexV c * 16 + hexV d)).toNat : Int)) := by unfold Hid; simp; omega
      have ho : bits .or .u8 ((hexV c : Int) * 16) (hexV d : Int) = ((hexV c * 16 + hexV d : Nat) : Int) := or4 _ _ b1 b2
      rw [HE.out] at ho
      generalize UInt8.ofNat (hexV c * 16 + hexV d) = x at *
      generalize hexV c = x1 at *
      generalize hexV d = x2 at *
      clear HE rc rd
      go_wp2_with (first
        | (at_builtin; refine wpList_append_own _ rfl _ _ 74 rfl w.heap.size 5 i0 (.int .u8 0) 1 1 Tryz.underlying74 hi hz0 hz1 hz2 rfl (by decide) _ _ _ rfl (hownr.alloc _) ⟨wr.heap.size, 0, none⟩ 1 1 [.int .u8 (x.toNat : Int)] ?d0 rfl ?d1 ?d2 ?d3 ?d4 ?d5 ?_))
      case d0 => rfl
      case d1 => exact cell_new_one wr _
      case d2 => intro u hu; simp at hu; subst hu; rfl
      case d3 => have := HL.out; unfold maxLen; omega
      case d4 => have := HL.out; omega
      case d5 => simp; omega
      intro v' w2 hown' hgrow _
      have HO := hidM (own_push hown')
      have HB := hidM (below_push hownr hbr hB hgrow)
      clear hown' hgrow hownr hbr hB ho dc dd
      go_wp2
      go_roundw
      case rel => exact ⟨k + 1, P ++ [x], by omega, by go_num, HV.out.symm, HO.out, HB.out⟩
      case measure => simp [intOf]; omega
    · have HF : Hid (unhexL s.data.toList = P) := by
        unfold Hid unhexL; rw [hP, len_size, show s.size / 2 = k by omega]
      have hge : ¬ 2 * (k : Int) < (s.size : Int) := by omega
      have hconv := conv_own hownr
      have HB := hidM hbr
      clear hownr hbr hB hP
      go_wp2
      go_ret2
      exact ⟨by rw [HF.out]; rfl, HB.out⟩
end Go.Proofs.YtlmeoahcpmikiaaGreatDoor.T
namespace Go.Proofs.YtlmeoahcpmikiaaGreatDoor.T
open Go.RowKit
/-- an entry that lies in a block -/
def EBox (w : World) (b : Nat) (m : Int) (nm id : ByteArray) : Prop := w.heap[b]? = some (.cells #[.int .i64 m, .string nm, .string id] 47 (0, 0))
section
variable {w w' : World} {b : Nat} {m : Int} {nm id : ByteArray}
theorem EBox.c0 (h : EBox w b m nm id) : w.cell? ⟨b, 0, none⟩ = some (.int .i64 m) := by rw [cell_of_row w b _ _ 47 (0, 0) h]; rfl
theorem EBox.c1 (h : EBox w b m nm id) : w.cell? ⟨b, 1, none⟩ = some (.string nm) := by rw [cell_of_row w b _ _ 47 (0, 0) h]; rfl
theorem EBox.c2 (h : EBox w b m nm id) : w.cell? ⟨b, 2, none⟩ = some (.string id) := by rw [cell_of_row w b _ _ 47 (0, 0) h]; rfl
theorem EBox.lt (h : EBox w b m nm id) : b < w.heap.size := (Array.getElem?_eq_some_iff.1 h).1
theorem EBox.below (h : EBox w b m nm id) (hb : Below w.heap.size w w') : EBox w' b m nm id := (hb.block b h.lt).trans h
end
/-- is an entry right by itself -/
def rightB (m : Int) (nm id : List UInt8) : Bool := decide (m ∈ modesL) && nameB nm && idB id
theorem modeR_of (m : Int) : (modeR (octZ m)).isSome = decide (m ∈ modesL) := by
  by_cases h : m ∈ modesL
  · rw [decide_eq_true h]
    unfold modeR
    rw [List.find?_isSome]
    exact ⟨m, h, by simp⟩
  · rw [decide_eq_false h]
    have : modeR (octZ m) = none := by
      unfold modeR
      rw [List.find?_eq_none]
      intro x hx e
      simp only [beq_iff_eq] at e
      exact h (octZ_inj e ▸ hx)
    rw [this]; rfl
set_option maxHeartbeats 1000000 in
set_option maxRecDepth 100000 in
theorem right_any (m : Int) (nm id : ByteArray) (w : World) (hG : GT w) (h0 : -9223372036854775808 ≤ m) (h1 : m ≤ 9223372036854775807) (hi : id.size ≤ maxLen) :
    Calls Tryz.prog 71 #[.agg #[.int .i64 m, .string nm, .string id]] w fun e w' => e = .returned (.bool (rightB m nm.data.toList id.data.toList)) ∧ Below w.heap.size w w' := by
  have HE0 : Hid (EBox (w.alloc (.cells #[.int .i64 m, .string nm, .string id] 47)) w.heap.size m nm id) := heap_alloc_new w _
  have HB0 : Hid (Below w.heap.size w (w.alloc (.cells #[.int .i64 m, .string nm, .string id] 47))) := (Below.refl _ w).alloc (Nat.le_refl _) _
  have HG0 := hidM (hG.below HB0.out)
  have HRB : Hid (rightB m nm.data.toList id.data.toList = ((modeR (octZ m)).isSome && nameB nm.data.toList && idB id.data.toList)) := by unfold Hid rightB; rw [modeR_of]
  clear hG
  go_enter Tryz.func71, Tryz.ntmps71
  have c0 := HE0.out.c0
  go_wp2_with fail
  generalize w.alloc (.cells #[.int .i64 m, .string nm, .string id] 47) = w1 at *
  obtain ⟨b, hb⟩ : ∃ b, b = w.heap.size := ⟨_, rfl⟩
  rw [← hb] at HE0 HB0
  simp only [← hb]
  have HBB := hidM hb
  clear hb
  refine (written_any m w1 HG0.out h0 h1).mono ?_
  rintro _ w2 ⟨rfl, hb2⟩
  have HE2 := hidM (HE0.out.below hb2)
  have HG2 := hidM (HG0.out.below hb2)
  have HB2 : Hid (Below b w w2) := HB0.out.trans (hb2.mono (by rw [HBB.out]; exact HB0.out.size))
  clear hb2 HE0 HG0 HB0 c0
  have HMO := hidM (modeOf_any ⟨(octZ m).toArray⟩ w2 HG2.out)
  have ho : (⟨(octZ m).toArray⟩ : ByteArray).data.toList = octZ m := rfl
  rw [ho] at HMO
  clear ho
  go_wp2_with fail
  refine HMO.out.mono ?_
  rintro _ w3 ⟨rfl, hb3⟩
  have HE3 := hidM (HE2.out.below hb3)
  have HG3 := hidM (HG2.out.below hb3)
  have HB3 : Hid (Below b w w3) := HB2.out.trans (hb3.mono (by rw [HBB.out]; exact HB2.out.size))
  clear hb3 HE2 HG2 HB2 HMO
  have c1 := HE3.out.c1
  generalize (⟨(octZ m).toArray⟩ : ByteArray) = O at *
  cases hm : (modeR (octZ m)).isSome with
  | false =>
    rw [hm] at HRB
    generalize (modeR (octZ m)).getD 0 = mm at *
    clear hm
    go_wp2
    go_ret
    exact ⟨by rw [HRB.out]; rfl, by rw [← HBB.out]; exact HB3.out⟩
  | true =>
    rw [hm] at HRB
    generalize (modeR (octZ m)).getD 0 = mm at *
    clear hm
    have HNA := hidM (name_any nm w3 HG3.out)
    go_wp2_with fail
    refine HNA.out.mono ?_
    rintro _ w4 ⟨rfl, hb4⟩
    have HE4 := hidM (HE3.out.below hb4)
    have HB4 : Hid (Below b w w4) := HB3.out.trans (hb4.mono (by rw [HBB.out]; exact HB3.out.size))
    have c2 := HE4.out.c2
    clear hb4 HNA HE3 HG3 HB3 c1
    cases hn : nameB nm.data.toList with
    | false =>
      rw [hn] at HRB
      clear hn
      go_wp2
      go_ret
      exact ⟨by rw [HRB.out]; rfl, by rw [← HBB.out]; exact HB4.out⟩
    | true =>
      rw [hn] at HRB
      clear hn
      have HID := hidM (id_any id w4 hi)
      go_wp2_with fail
      refine HID.out.mono ?_
      rintro _ w0 ⟨rfl, h9⟩
      rw [h9]
      clear h9 w0
      generalize idB id.data.toList = q at *
      go_wp2
      go_ret
      exact ⟨by rw [HRB.out]; simp, by rw [← HBB.out]; exact HB4.out⟩
/-- by which entries rise -/
def keyL (m : Int) (nm : List UInt8) : List UInt8 := if m = 16384 then nm ++ [47] else nm
set_option maxHeartbeats 1000000 in
set_option maxRecDepth 100000 in
theorem key_any (m : Int) (nm id : ByteArray) (w : World) (hn : nm.size ≤ 140737488355328) :
    Calls Tryz.prog 72 #[.agg #[.int .i64 m, .string nm, .string id]] w fun e w' => e = .returned (.string ⟨(keyL m nm.data.toList).toArray⟩) ∧ Below w.heap.size w w' := by
  have HE0 : Hid (EBox (w.alloc (.cells #[.int .i64 m, .string nm, .string id] 47)) w.heap.size m nm id) := heap_alloc_new w _
  have HB0 : Hid (Below w.heap.size w (w.alloc (.cells #[.int .i64 m, .string nm, .string id] 47))) := (Below.refl _ w).alloc (Nat.le_refl _) _
  have c0 := HE0.out.c0
  have c1 := HE0.out.c1
  have n1 : ¬ 9223372036854775807 < nm.size + 1 := by omega
  go_enter Tryz.func72, Tryz.ntmps72
  by_cases hm : m = 16384
  · have e1 : (m == 16384) = true := by simp; exact hm
    have HR : Hid ((nm ++ ⟨#[47]⟩ : ByteArray) = ⟨(keyL m nm.data.toList).toArray⟩) := by
      refine bytes_ext ?_
      unfold keyL
      rw [if_pos hm]
      simp [ByteArray.data_append]
    clear hm
    go_wp2
    go_ret
    exact ⟨by rw [← HR.out]; rfl, HB0.out⟩
  · have e1 : (m == 16384) = false := by simp; exact hm
    have HR : Hid (nm = ⟨(keyL m nm.data.toList).toArray⟩) := by
      refine bytes_ext ?_
      unfold keyL
      rw [if_neg hm]
    clear hm
    go_wp2
    go_ret
    exact ⟨by rw [← HR.out]; rfl, HB0.out⟩
end Go.Proofs.YtlmeoahcpmikiaaGreatDoor.T
