/-
  Bytes that the call owns, the mark of whose row lies behind its cells (as []byte(s) lays them): append; the document's Pad.
-/
import Derived.Test.YtbodjopdhciaeabDoorRefA
import Derived.ArgAppend
namespace Go.Proofs.YtbodjopdhciaeabDoor
open Go.RowKit

theorem heap_setCell_fz (w : World) (g i : Nat) (cs : Array Value) (t : TypeId) (fz : Nat × Nat) (v : Value) (hg : w.heap[g]? = some (.cells cs t fz)) : (w.setCell ⟨g, i, none⟩ v).heap[g]? = some (.cells (cs.setIfInBounds i v) t fz) := by
  unfold World.setCell
  simp [Array.getElem?_modify, hg]
theorem setCells_fz (b t : Nat) (fz : Nat × Nat) (rest : List Value) : ∀ (vs old A : List Value) (w : World), vs.length = old.length → w.heap[b]? = some (.cells (A ++ (old ++ rest)).toArray t fz) →
    (w.setCells b A.length vs).heap[b]? = some (.cells (A ++ (vs ++ rest)).toArray t fz)
  | [], [], _, _, _, h => h
  | v :: r, x :: old, A, w, hl, h => by
    rw [World.setCells]
    have h1 := heap_setCell_fz w b A.length _ t fz v h
    have e : (A ++ (x :: old ++ rest)).toArray.setIfInBounds A.length v = ((A ++ [v]) ++ (old ++ rest)).toArray := by
      rw [List.setIfInBounds_toArray, List.set_append_right _ _ (by omega)]; simp
    rw [e] at h1
    have h2 := setCells_fz b t fz rest r old (A ++ [v]) _ (by simpa using hl) h1
    rw [List.length_append] at h2
    simpa using h2
/-- The value v owns just the bytes l; no cell of its row is frozen. -/
def OwnM (w : World) (B : Nat) (v : Value) (l : List UInt8) : Prop :=
  ∃ g cap cur fz, v = .slice (some ⟨g, 0, none⟩) l.length cap ∧ B ≤ g ∧ w.heap[g]? = some (.cells cur 5 fz) ∧ (fz.2 = 0 ∨ cur.size ≤ fz.1) ∧ l.length ≤ cap ∧ cap ≤ maxLen ∧ cur.size = cap ∧ cur.toList.take l.length = bytesV l
theorem OwnM.lt {w : World} {B : Nat} {v : Value} {l : List UInt8} (h : OwnM w B v l) : ∀ k, v.ownBlock = some k → B ≤ k ∧ k < w.heap.size := by
  obtain ⟨g, cap, cur, fz, rfl, hb, hg, _⟩ := h
  intro k hk
  simp [Value.ownBlock] at hk
  subst hk
  exact ⟨hb, (Array.getElem?_eq_some_iff.1 hg).1⟩
theorem OwnM.alloc {w : World} {B : Nat} {v : Value} {l : List UInt8} (h : OwnM w B v l) (o : Obj) : OwnM (w.alloc o) B v l := by
  obtain ⟨g, cap, cur, fz, h1, hb, hg, hr⟩ := h
  exact ⟨g, cap, cur, fz, h1, hb, by rw [Below.heap_alloc w o g (Array.getElem?_eq_some_iff.1 hg).1]; exact hg, hr⟩
theorem OwnM.cells {w : World} {B : Nat} {v : Value} {l : List UInt8} (h : OwnM w B v l) : ∃ g cap, v = .slice (some ⟨g, 0, none⟩) l.length cap ∧ B ≤ g ∧ g < w.heap.size ∧ l.length ≤ cap ∧ ∀ j (hj : j < l.length), w.cell? ⟨g, j, none⟩ = some (.int .u8 (l[j].toNat : Int)) := by
  obtain ⟨g, cap, cur, fz, h1, hb, hg, hf, hl, hm, hs, ht⟩ := h
  refine ⟨g, cap, h1, hb, (Array.getElem?_eq_some_iff.1 hg).1, hl, fun j hj => ?_⟩
  rw [cell_of_row w g j cur 5 fz hg]
  have h2 := bytesV_at l j hj
  rw [← ht, List.getElem?_take, if_pos hj] at h2
  simpa using h2
theorem run_append_M (w : World) (ty : TypeId) (i : TypeInfo) (hi : Tryd.prog.info? 5 = some i) (hz0 : i.zero = some (.int .u8 0)) (hz1 : i.size = 1) (hz2 : i.bytes = 1) (B : Nat) (v : Value) (l news : List UInt8) (hown : OwnM w B v l) (ad : Addr) (m c : Nat) (hm : news.length = m) (hnews : ∀ j u, (bytesV news)[j]? = some u → w.cell? (ad.add j) = some u)
    (h63 : l.length + m ≤ 1000000000) (hbase : B ≤ w.heap.size) :
    ∃ v' w', (Builtin.append_ #[57, 57] ty #[v, .slice (some ad) m c]).run Tryd.prog w = .ok v' w' ∧ OwnM w' B v' (l ++ news) ∧ w.grownBy w' v.ownBlock := by
  obtain ⟨g, cap, cur, fz, rfl, hb, hg, hf, hl, hcm, hs, ht⟩ := hown
  by_cases hroom : l.length + m ≤ cap
  · have hr := run_append_room_cells (P := Tryd.prog) w 57 ty 5 i Tryd.underlying57 hi g 0 l.length cap ad m c (bytesV news) (by rw [bytesV_len, hz1, hm, Nat.mul_one]) hnews (bytes_one news) hroom
      (fun j hj => by
        rw [bytesV_len, hm] at hj
        rw [hz1, cell_of_row w g _ cur 5 fz hg]
        exact Option.isSome_iff_exists.2 ⟨_, Array.getElem?_eq_getElem (by omega)⟩)
      (fun j hj => by
        rw [bytesV_len, hm] at hj
        rw [hz1]
        unfold World.frozen?
        rw [hg]
        obtain ⟨f1, f2⟩ := fz
        rcases hf with hf | hf
        · simp at hf; subst hf; simp
        · simp at hf; simp; omega)
    refine ⟨_, _, hr, ?_, ?_⟩
    · rw [hz1, Nat.zero_add, Nat.mul_one]
      obtain ⟨old, rest, hsp, hol⟩ : ∃ old rest, cur.toList = bytesV l ++ (old ++ rest) ∧ (bytesV news).length = old.length := by
        refine ⟨(cur.toList.drop l.length).take m, (cur.toList.drop l.length).drop m, ?_, ?_⟩
        · rw [← ht, List.take_append_drop, List.take_append_drop]
        · rw [bytesV_len, hm, List.length_take, List.length_drop]; simp; omega
      have hcur : cur = (bytesV l ++ (old ++ rest)).toArray := by rw [← hsp]
      rw [hcur] at hg
      have h2 := setCells_fz g 5 fz rest (bytesV news) old (bytesV l) w hol hg
      rw [bytesV_len] at h2
      have hlen : (bytesV l ++ (old ++ rest)).length = cap := by rw [← hsp]; simpa using hs
      have hlen2 : (bytesV l ++ (bytesV news ++ rest)).length = cap := by
        rw [← hlen]; simp only [List.length_append, hol]
      refine ⟨g, cap, _, fz, by rw [List.length_append, hm], hb, h2, ?_, by rw [List.length_append, hm]; exact hroom, hcm, by rw [List.size_toArray]; exact hlen2, ?_⟩
      · rcases hf with hf | hf
        · exact .inl hf
        · right; rw [List.size_toArray, hlen2]; omega
      · show (bytesV l ++ (bytesV news ++ rest)).take (l ++ news).length = bytesV (l ++ news)
        rw [← List.append_assoc, show bytesV (l ++ news) = bytesV l ++ bytesV news by simp [bytesV], show (l ++ news).length = (bytesV l ++ bytesV news).length by simp [bytesV]]
        exact List.take_left
    · rw [hz1, Nat.zero_add, Nat.mul_one]
      have ho := Only.setCells (b := g) (bytesV news) l.length (Only.refl g w)
      exact ⟨ho.os, ho.tape, ho.output, by rw [ho.size]; exact Nat.le_refl _, fun k _ hk => ho.block k (fun e => hk (by simp [Value.ownBlock, e]))⟩
  · have holds : ∀ j u, (bytesV l)[j]? = some u → w.cell? ((⟨g, 0, none⟩ : Addr).add j) = some u := by
      intro j u hu
      rw [Addr.add_lit, Nat.zero_add, cell_of_row w g j cur 5 fz hg]
      have hj : j < l.length := by have := (List.getElem?_eq_some_iff.1 hu).1; rwa [bytesV_len] at this
      rw [← ht, List.getElem?_take, if_pos hj] at hu
      simpa using hu
    have hr := run_append_grow (P := Tryd.prog) w 57 ty 5 i (.int .u8 0) Tryd.underlying57 hi hz0 ⟨g, 0, none⟩ l.length cap (bytesV l) (by rw [bytesV_len, hz1, Nat.mul_one]) holds ad m c (bytesV news) (by rw [bytesV_len, hz1, hm, Nat.mul_one]) hnews (by omega) (by omega) (growslice_fits (by omega) (by rw [hz2]; omega))
    have hge := grownCap_ge w (l.length + m) cap 5
    have hcm2 : grownCap w (l.length + m) cap 5 ≤ maxLen := grownCap_le_maxLen w (l.length + m) cap 5 (by unfold maxLen; omega)
    refine ⟨_, _, hr, ⟨w.heap.size, _, _, (0, 0), by rw [List.length_append, hm], hbase, heap_alloc_new w.drew _, .inl rfl, by rw [List.length_append, hm]; exact hge, hcm2, ?_, ?_⟩, ⟨rfl, rfl, rfl, by simp, fun k hk _ => Below.heap_alloc w.drew _ k hk⟩⟩
    · simp only [Array.size_append, List.size_toArray, size_zeroCells, bytesV_len, hm]
      have : (Value.int .u8 0).cells.size = 1 := rfl
      rw [this]
      omega
    · simp only [Array.toList_append]
      rw [show bytesV (l ++ news) = bytesV l ++ bytesV news by simp [bytesV], show (l ++ news).length = (bytesV l ++ bytesV news).length by simp [bytesV]]
      exact List.take_left
theorem wpList_append_M {ops : Array Oper} {rest : List Oper} {o : Oper} {a : Act} {w : World} {Q : Exit → Act → World → Prop} (hgd : o.guard = none) (s x : Operand)
    (ho : o.op = .call { callee := .builtin .append, args := #[s, x], argTypes := #[57, 57] }) (i : TypeInfo) (hi : Tryd.prog.info? 5 = some i) (hz0 : i.zero = some (.int .u8 0)) (hz1 : i.size = 1) (hz2 : i.bytes = 1) (B : Nat) (v : Value) (l news : List UInt8) (hs : a.eval s = v) (hown : OwnM w B v l)
    (ad : Addr) (m c : Nat) (hx : a.eval x = .slice (some ad) m c) (hm : news.length = m) (hnews : ∀ j u, (bytesV news)[j]? = some u → w.cell? (ad.add j) = some u) (h63 : l.length + m ≤ 1000000000) (hbase : B ≤ w.heap.size)
    (h : ∀ v' w', OwnM w' B v' (l ++ news) → w.grownBy w' v.ownBlock → wpList Tryd.prog ops Q rest (a.put o.dst v') w') : wpList Tryd.prog ops Q (o :: rest) a w := by
  refine wpList_plain hgd fun K hK => ?_
  obtain ⟨v', w', hr, h2, h3⟩ := run_append_M w o.type i hi hz0 hz1 hz2 B v l news hown ad m c hm hnews h63 hbase
  unfold Oper.wp execOp
  simp only [ho, resolve, invoke, builtin, Sem.run_bind, Sem.run_pure, Result.andThen_ok, List.map_toArray, List.map_cons, List.map_nil, hs, hx, hr]
  exact hK _ _ (h v' w' h2 h3)
theorem own_string (w : World) (s : ByteArray) (hs : s.size ≤ 1000000000) :
    ∃ cap W, (convert 9 57 (.string s)).run Tryd.prog w = .ok (.slice (some ⟨w.heap.size, 0, none⟩) s.size cap) W ∧ OwnM W w.heap.size (.slice (some ⟨w.heap.size, 0, none⟩) s.size cap) s.data.toList ∧ Below w.heap.size w W := by
  have h := run_bytes_of_string (P := Tryd.prog) w 9 57 5 s Tryd.underlying9 Tryd.underlying57 Tryd.underlying5
  have hge := grownCap_ge w s.size 0 5
  have hcm := grownCap_le_maxLen w s.size 0 5 (by unfold maxLen; omega)
  have hsz : (bytesRow s (grownCap w s.size 0 5)).size = grownCap w s.size 0 5 := by unfold bytesRow; simp; omega
  refine ⟨_, _, h, ⟨w.heap.size, _, _, _, by simp, Nat.le_refl _, heap_alloc_new w.drew _, .inr (Nat.le_refl _), by simpa using hge, hcm, hsz, ?_⟩, ((Below.refl _ _).drew).alloc (by simp) _⟩
  unfold bytesRow
  rw [Array.toList_append, List.take_append_of_le_length (by simp), List.take_of_length_le (by simp)]
  simp [bytesV]

/-- The eight bytes of a number, the highest first. -/
def b8 (n : Nat) (k : Nat) : List UInt8 := (List.range k).map fun j => UInt8.ofNat (n / 2 ^ (8 * (7 - j)) % 256)
theorem b8_succ (n k : Nat) : b8 n (k + 1) = b8 n k ++ [UInt8.ofNat (n / 2 ^ (8 * (7 - k)) % 256)] := by
  unfold b8; rw [List.range_succ, List.map_append]; rfl
theorem b8_len (n k : Nat) : (b8 n k).length = k := by simp [b8]
theorem b8_words (n : Nat) : b8 n 8 = wordB (n / 4294967296) ++ wordB (n % 4294967296) := by
  have e : ∀ k, n / 4294967296 / k = n / (4294967296 * k) := fun k => Nat.div_div_eq_div_mul n _ k
  unfold b8 wordB
  simp only [List.range, List.range.loop, List.map_cons, List.map_nil, List.cons_append, List.nil_append, e]
  have q24 : n % 4294967296 / 16777216 % 256 = n / 16777216 % 256 := by omega
  have q16 : n % 4294967296 / 65536 % 256 = n / 65536 % 256 := by omega
  have q8 : n % 4294967296 / 256 % 256 = n / 256 % 256 := by omega
  have q0 : n % 4294967296 % 256 = n % 256 := by omega
  rw [q24, q16, q8, q0]
  simp
/-- What stands behind the text: the mark and j noughts. -/
theorem pad_more (n j : Nat) (hj : j ≤ padN n) (h : ¬ (n + (1 + j)) % 64 = 56) : j + 1 ≤ padN n := by
  unfold padN at *; omega
theorem pad_end (n j : Nat) (hj : j ≤ padN n) (h : (n + (1 + j)) % 64 = 56) : j = padN n := by
  unfold padN at *; omega
theorem rep_snoc (j : Nat) : List.replicate (j + 1) (0 : UInt8) = List.replicate j 0 ++ [0] := List.replicate_succ'
theorem OwnM.next {w wr w1 : World} {B : Nat} {v : Value} {P : List UInt8} {o : Obj} (hown : OwnM wr B v P) (hb : Below B w wr) (hB : B ≤ wr.heap.size) (hg : (wr.alloc o).grownBy w1 v.ownBlock) : Below B w w1 :=
  (hb.alloc hB o).grown hg (by simp; omega) (fun k hk => (hown.lt k hk).1)
theorem cell_newB (w : World) (c : UInt8) (v : Value) (hv : v = .int .u8 (c.toNat : Int)) : ∀ j u, (bytesV [c])[j]? = some u → (w.alloc (.cells #[v] 5)).cell? ((⟨w.heap.size, 0, none⟩ : Addr).add j) = some u := by
  subst hv
  intro j u hj
  match j, hj with
  | 0, hj => simp [bytesV] at hj; subst hj; simp [Addr.add]

set_option maxHeartbeats 3200000 in
theorem pad_any (s : ByteArray) (w : World) (hs : s.size ≤ 1000000) :
    Calls Tryd.prog 31 #[.string s] w fun e w' => (∃ v, e = .returned v ∧ OwnM w' w.heap.size v (s.data.toList ++ padB s.size)) ∧ Below w.heap.size w w' := by
  obtain ⟨i0, hi, hz0, hz1, hz2⟩ := info_parts Tryd.info5
  obtain ⟨cap, W, hcv, hoW, hbW⟩ := own_string w s (by omega)
  have HOW := hidM hoW
  have HBW := hidM hbW
  have HSL : Hid (s.data.toList.length = s.size) := by unfold Hid; simp
  have HC128 := hidM (cell_newB W 128 (.int .u8 128) rfl)
  clear hoW hbW
  go_enter Tryd.func31, Tryd.ntmps31
  go_wp2_with (first
    | (at_builtin; refine wpList_append_M rfl _ _ rfl i0 hi hz0 hz1 hz2 w.heap.size _ s.data.toList [128] rfl (HOW.out.alloc _) ⟨W.heap.size, 0, none⟩ 1 1 rfl rfl HC128.out ?c1 ?c2 ?_))
  case c1 => rw [HSL.out]; omega
  case c2 => have := HBW.out.size; simp; omega
  intro v1 w1 hown1 hgr1
  have HO1 := hidM hown1
  have HB1 := hidM (HOW.out.next HBW.out HBW.out.size hgr1)
  clear hown1 hgr1 HOW HBW HC128 hcv
  go_wp2
  go_loopw [3] (fun v wr => ∃ (j n : Nat), j ≤ padN s.size ∧ n = s.size + (1 + j) ∧ (∃ c g, v = .slice (some ⟨g, 0, none⟩) n c) ∧ OwnM wr w.heap.size v (s.data.toList ++ (128 :: List.replicate j 0)) ∧ Below w.heap.size w wr) (fun v _ => 2000000 - (match v with | .slice _ n _ => n | _ => 0))
  case atStart =>
    obtain ⟨g, c, hv, _⟩ := HO1.out.cells
    refine ⟨0, s.size + 1, Nat.zero_le _, rfl, ⟨c, g, ?_⟩, HO1.out, HB1.out⟩
    rw [hv, List.length_append, HSL.out]; rfl
  case round =>
    obtain ⟨j, n, hj, hn, ⟨c, g, rfl⟩, hown, hbr⟩ := hrel
    have HO := hidM hown
    have HB := hidM hbr
    have HN := hidM hn
    have hnb : n ≤ 1000065 := by have : padN s.size < 64 := by unfold padN; omega
                                 omega
    have HLEN : Hid ((s.data.toList ++ (128 :: List.replicate j 0)).length = n) := by unfold Hid; rw [List.length_append, HSL.out, List.length_cons, List.length_replicate, hn]; omega
    clear hown hbr HO1 HB1
    by_cases hm : n % 64 = 56
    · have hmb : ((n : Int) % 64 != 56) = false := by simp; omega
      have HPE : Hid (j = padN s.size) := pad_end s.size j hj (by rw [← hn]; exact hm)
      have HBA : Hid (s.data.toList ++ padB s.size = (s.data.toList ++ (128 :: List.replicate j 0)) ++ b8 (s.size * 8) 8) := by
        unfold Hid padB; rw [b8_words, HPE.out]; simp
      obtain ⟨N, hN⟩ : ∃ N, N = s.size * 8 := ⟨_, rfl⟩
      rw [← hN] at HBA
      have eN : (s.size : Int) * 8 = (N : Int) := by omega
      have hN8 : N ≤ 8000000 := by omega
      have HON : Hid (OwnM wr w.heap.size (.slice (some ⟨g, 0, none⟩) n c) ((s.data.toList ++ (128 :: List.replicate j 0)) ++ b8 N 0)) := by unfold Hid; simpa [b8] using HO.out
      clear hn hN HO
      generalize s.data.toList ++ (128 :: List.replicate j 0) = P at *
      obtain ⟨wo, hwo⟩ : ∃ wo : World, wo = wr := ⟨_, rfl⟩
      rw [← hwo] at HB HON ⊢
      clear hwo
      go_wp2
      go_loopw [3, 5] (fun v i wr => ∃ k : Nat, k ≤ 8 ∧ i = .int .i64 ((7 : Int) - k) ∧ OwnM wr w.heap.size v (P ++ b8 N k) ∧ Below w.heap.size w wr) (fun _ i _ => (intOf i + 1).toNat)
      case atStart => exact ⟨0, by decide, rfl, HON.out, HB.out⟩
      case round =>
        obtain ⟨k, hk, rfl, hown, hbr⟩ := hrel
        clear HON HB
        have HO := hidM hown
        have HB := hidM hbr
        clear hown hbr
        by_cases hk8 : k < 8
        · obtain ⟨q, hq⟩ : ∃ q, q = 7 - k := ⟨_, rfl⟩
          have e1 : (7 : Int) - (k : Int) = (q : Int) := by omega
          obtain ⟨e, he⟩ : ∃ e, e = 8 * q := ⟨_, rfl⟩
          have e2 : (8 : Int) * (q : Int) = (e : Int) := by omega
          have e56 : e ≤ 56 := by omega
          obtain ⟨cc, hcc⟩ : ∃ cc, cc = UInt8.ofNat (N / 2 ^ e % 256) := ⟨_, rfl⟩
          have e3 : (N : Int) / 2 ^ e % 256 = (cc.toNat : Int) := by rw [hcc]; simp
          have HB8 : Hid (b8 N (k + 1) = b8 N k ++ [cc]) := by unfold Hid; rw [b8_succ, hcc, he, hq]
          have HLP : Hid ((P ++ b8 N k).length = n + k) := by unfold Hid; rw [List.length_append, b8_len, HLEN.out]
          have HCB := hidM (cell_newB wr cc (.int .u8 (cc.toNat : Int)) rfl)
          have HBS := hidM HB.out.size
          simp only [e1]
          have HK : Hid ((q : Int) - 1 = (7 : Int) - ((k + 1 : Nat) : Int)) := by unfold Hid; omega
          clear hq he hcc e1
          go_wp2_with (first
            | (at_builtin; refine wpList_append_M rfl _ _ rfl i0 hi hz0 hz1 hz2 w.heap.size _ (P ++ b8 N k) [cc] rfl (HO.out.alloc _) ⟨wr.heap.size, 0, none⟩ 1 1 rfl rfl HCB.out ?d1 ?d2 ?_))
          case d1 => rw [HLP.out]; omega
          case d2 => have := HBS.out; simp; omega
          intro v' w2 hown' hgr'
          have HO2 : Hid (OwnM w2 w.heap.size v' (P ++ b8 N (k + 1))) := by
            unfold Hid; rw [HB8.out]; exact hown'
          have HB2 := hidM (HO.out.next HB.out HBS.out hgr')
          clear hown' hgr'
          go_wp2
          go_roundw
          case rel => exact ⟨k + 1, by omega, val_int HK.out, HO2.out, HB2.out⟩
          case measure => simp [intOf] <;> omega
        · obtain rfl : k = 8 := by omega
          have HF : Hid (OwnM wr w.heap.size u3 (s.data.toList ++ padB s.size)) := by unfold Hid; rw [HBA.out]; exact HO.out
          rw [show (7 : Int) - ((8 : Nat) : Int) = -1 from rfl]
          go_wp2
          go_ret
          exact ⟨⟨_, rfl, HF.out⟩, HB.out⟩
    · have hmb : ((n : Int) % 64 != 56) = true := by simp; omega
      have HJ2 : Hid (j + 1 ≤ padN s.size) := pad_more s.size j hj (by rw [← hn]; exact hm)
      have HC0 := hidM (cell_newB wr 0 (.int .u8 0) rfl)
      have HBS := hidM HB.out.size
      clear hn
      go_wp2_with (first
        | (at_builtin; refine wpList_append_M rfl _ _ rfl i0 hi hz0 hz1 hz2 w.heap.size _ (s.data.toList ++ (128 :: List.replicate j 0)) [0] rfl (HO.out.alloc _) ⟨wr.heap.size, 0, none⟩ 1 1 rfl rfl HC0.out ?c3 ?c4 ?_))
      case c3 => rw [HLEN.out]; omega
      case c4 => have := HBS.out; simp; omega
      intro v' w2 hown' hgr'
      have HO2 : Hid (OwnM w2 w.heap.size v' (s.data.toList ++ (128 :: List.replicate (j + 1) 0))) := by
        unfold Hid; rw [rep_snoc]; simpa using hown'
      have HB2 := hidM (HO.out.next HB.out HBS.out hgr')
      obtain ⟨g', c', rfl, _⟩ := HO2.out.cells
      have HLE2 : Hid ((s.data.toList ++ (128 :: List.replicate (j + 1) 0)).length = n + 1) := by unfold Hid; rw [List.length_append, HSL.out, List.length_cons, List.length_replicate, HN.out]; omega
      rw [HLE2.out] at HO2 ⊢
      clear hown' hgr'
      go_wp2
      go_roundw
      case rel => exact ⟨j + 1, n + 1, HJ2.out, by rw [HN.out]; omega, ⟨c', g', rfl⟩, HO2.out, HB2.out⟩
      case measure => simp; omega
end Go.Proofs.YtbodjopdhciaeabDoor
