/-
  The document's frame around a stream; a frame one bit of whose sum is turned is refused; the law ZlibWrites, walked.
-/
import Derived.Test.YtkckobhpanghiaaDoorRSum
import Derived.Test.YtkckobhpanghiaaDoorRStW
import Derived.Test.YtkckobhpanghiaaDoorZWrA
import Derived.Test.YtkckobhpanghiaaDoorFrmA
import Derived.Laws.BitsAllLaws
import Derived.Laws.IdiomStrings
namespace Go.Proofs.YtkckobhpanghiaaDoor
open Go.RowKit
theorem cv78 {b : Nat} {V : World} (h : V.heap[b]? = some (.cells #[.int .u8 120, .int .u8 1] 5)) :
    (convert 34 9 (.slice (some ⟨b, 0, none⟩) 2 2)).run Tryd.prog V = .ok (.string ⟨#[120, 1]⟩) V := by
  refine run_convert_bytes_back V 34 9 5 ⟨b, 0, none⟩ 2 [120, 1] Tryd.underlying34 Tryd.underlying5 Tryd.underlying9 ?_
  intro j hj
  have h2 : j = 0 ∨ j = 1 := by simp at hj; omega
  rcases h2 with rfl | rfl <;> simp [World.cell?, h, Addr.add]
theorem cv78_keep {b : Nat} {V w5 : World} (hb : Below V.heap.size V w5) (h : V.heap[b]? = some (.cells #[.int .u8 120, .int .u8 1] 5)) :
    w5.heap[b]? = some (.cells #[.int .u8 120, .int .u8 1] 5) := by
  rw [hb.block b (by rcases Nat.lt_or_ge b V.heap.size with h1 | h1; exact h1; rw [Array.getElem?_eq_none h1] at h; cases h)]
  exact h
theorem below_step {w V w5 : World} (h0 : Below w.heap.size w V) (h : Below V.heap.size V w5) : Hid (Below w.heap.size w w5) := h0.trans (h.mono h0.size)
set_option maxHeartbeats 4000000 in
set_option maxRecDepth 100000 in
theorem rframe_any (x s : ByteArray) (w : World) (hs : s.size ≤ 65535) (hx : x.size ≤ 70000) :
    Calls Tryd.prog 28 #[.string x, .string s] w fun e w' => e = .returned (.string ⟨(([120, 1] : List UInt8) ++ x.data.toList ++ zsum s.data.toList).toArray⟩) ∧ Below w.heap.size w w' := by
  obtain ⟨S, hS⟩ : ∃ S, S = adSum s.data.toList := ⟨_, rfl⟩
  have HA : Hid (∀ V : World, Calls Tryd.prog 45 #[.string s] V fun e w' => e = .returned (.int .u32 (S : Int)) ∧ w' = V) := fun V => by rw [hS]; exact radler_any s V (by unfold maxLen; omega)
  have hS32 : S < 4294967296 := by rw [hS]; exact adSum_lt _
  have HF : Hid (zsum s.data.toList = bigL S 4) := by rw [hS]; rfl
  clear hS
  have u1 : IntKind.u64.wrap (S : Int) = (S : Int) := by rw [IntKind.wrap_u64]; omega
  obtain ⟨Y, hY⟩ : ∃ Y : ByteArray, Y = ⟨(bigL S 4).toArray⟩ := ⟨_, rfl⟩
  have hY4 : Y.size ≤ 4 := by
    have : Y.data.toList.length = Y.size := Array.length_toList
    rw [← this, hY]; show (bigL S 4).length ≤ 4; rw [bigL_len]; exact Nat.le_refl _
  have HB : Hid (∀ V : World, Calls Tryd.prog 44 #[.int .u64 (S : Int), .int .i64 4] V fun e w' => e = .returned (.string Y) ∧ Below V.heap.size V w') := fun V => by rw [hY]; exact rbig_any S 4 V (by unfold M64; omega) (by omega)
  obtain ⟨Q, hQ⟩ : ∃ Q : ByteArray, (⟨#[120, 1]⟩ ++ x : ByteArray) = Q := ⟨_, rfl⟩
  have hqs : Q.size ≤ 70002 := by rw [← hQ, ByteArray.size_append]; show 2 + x.size ≤ 70002; omega
  have HT : Hid ((Q ++ Y : ByteArray) = ⟨(([120, 1] : List UInt8) ++ x.data.toList ++ zsum s.data.toList).toArray⟩) := by
    refine bytes_ext ?_
    rw [str_add, ← hQ, str_add, hY, HF.out]
  clear HF hY
  have hcv : ∀ W : World, (convert 34 9 (.slice (some ⟨W.heap.size, 0, none⟩) 2 2)).run Tryd.prog (W.alloc (.cells #[.int .u8 120, .int .u8 1] 5)) = .ok (.string ⟨#[120, 1]⟩) (W.alloc (.cells #[.int .u8 120, .int .u8 1] 5)) := fun W => cv78 (heap_alloc_new W _)
  have hcd : ∀ W : World, (convert 34 9 (.slice (some ⟨W.heap.size, 0, none⟩) 2 2)).run Tryd.prog (W.alloc (.cells #[.int .u8 120, .int .u8 1] 5)).drew = .ok (.string ⟨#[120, 1]⟩) (W.alloc (.cells #[.int .u8 120, .int .u8 1] 5)).drew := fun W => cv78 (heap_alloc_new W _)
  have n1 : ¬ 9223372036854775807 < 2 + x.size := by omega
  have n2 : ¬ 9223372036854775807 < Q.size + Y.size := by omega
  go_enter Tryd.func28, Tryd.ntmps28
  go_wp2_with fail
  go_region_with
      (first
        | (go_at_call 45; with_reducible refine (HA.out _).mono ?_; rintro e w6 ⟨rfl, h6⟩; rw [h6]; clear h6 w6)
        | (go_at_call 44; with_reducible refine (HB.out _).mono ?_; rintro e w5 ⟨rfl, HUP⟩; (first | (have hc5 := cv78 (cv78_keep HUP (heap_alloc_new w _))) | skip); have HK := below_step (w := w) (by repeat (first | exact Below.refl _ _ | apply Below.drew | apply below_drewN | exact (Below.refl _ _).alloc (Nat.le_refl _) _)) HUP; clear HUP))
  all_goals go_wp2
  all_goals go_ret
  all_goals first
    | exact ⟨congrArg (fun z => Ending.returned (.string z)) HT.out, HK.out⟩
    | exact ⟨congrArg (fun z => Ending.returned (.string z)) HT.out, HK.out.alloc HK.out.size _⟩
    | trace_state

theorem ZQ.spoilt {l : List UInt8} {A M t : Nat} {o : List UInt8} {r : List UInt8 × Nat × Nat} (h : ZQ l A M r) (hA : A + 2 ≤ l.length) (hM : M ≤ 65536) (hh : headB (l.getD A 0).toNat (l.getD (A + 1) 0).toNat = true)
    (hr : Run (l.drop (A + 2)) M (.blk false) 0 [] (.good t o)) (hl : A + 2 + (t + 7) / 8 + 4 ≤ l.length) (hz : (l.drop (A + 2 + (t + 7) / 8)).take 4 ≠ zsum o) : r = ([], 0, 5) := by
  rcases h with ⟨h, _⟩ | ⟨A', M', ha, hm, _, _, h⟩
  · omega
  · obtain rfl : A = A' := by omega
    obtain rfl : M = M' := by omega
    rcases h with ⟨h, _⟩ | ⟨_, h, _⟩ | ⟨_, _, o', n, e, hq, h⟩
    · omega
    · rw [hh] at h; cases h
    · have h2 := hq.run (by omega) hM hr
      simp only [Prod.mk.injEq] at h2
      obtain ⟨rfl, rfl, rfl⟩ := h2
      rcases h with ⟨h, _⟩ | ⟨_, h, _⟩ | ⟨_, _, _, h⟩ | ⟨_, _, h, _⟩
      · exact absurd rfl h
      · omega
      · exact h
      · exact absurd h hz
/-- a frame whose sum has another byte -/
theorem frame_spoilt {x s : List UInt8} (h : FrameOf x s) (q : Nat) (hq4 : q < 4) (y : UInt8) (hy : y ≠ x.getD (x.length - 1 - q) 0) {M : Nat} {r : List UInt8 × Nat × Nat} (hM : s.length ≤ M) (hM2 : M ≤ 65536)
    (hq : ZQ (x.set (x.length - 1 - q) y) ((0 : Nat) : Int) (M : Int) r) : r = ([], 0, 5) := by
  obtain ⟨Z, hT, _, rfl⟩ := h
  have hz := zsum_len s
  have hlen : ([120, 1] ++ Z ++ zsum s).length = 6 + Z.length := by
    simp only [List.length_append, List.length_cons, List.length_nil, hz]; omega
  have hl2 : ([120, 1] ++ Z : List UInt8).length = 2 + Z.length := by simp only [List.length_append, List.length_cons, List.length_nil]
  have hset : ([120, 1] ++ Z ++ zsum s).set (([120, 1] ++ Z ++ zsum s).length - 1 - q) y = [120, 1] ++ Z ++ (zsum s).set (3 - q) y := by
    rw [hlen, List.set_append_right _ _ (by omega), hl2, show 6 + Z.length - 1 - q - (2 + Z.length) = 3 - q by omega]
  have hne : (zsum s).set (3 - q) y ≠ zsum s := by
    intro he
    apply hy
    have h1 : ((zsum s).set (3 - q) y).getD (3 - q) 0 = y := by
      rw [List.getD_eq_getElem?_getD, List.getElem?_set_self (by omega)]; rfl
    rw [he] at h1
    rw [hlen, List.getD_eq_getElem?_getD, List.getElem?_append_right (by omega), hl2, show 6 + Z.length - 1 - q - (2 + Z.length) = 3 - q by omega, ← List.getD_eq_getElem?_getD]
    exact h1.symm
  rw [hset] at hq
  generalize hZ : (zsum s).set (3 - q) y = zs at *
  have hzs : zs.length = 4 := by rw [← hZ, List.length_set, hz]
  obtain ⟨t, ht, hrun⟩ := hT.app zs
  refine ZQ.spoilt (A := 0) (M := M) (t := t) (o := s) hq (by simp) hM2 (by exact (by decide +kernel : headB (UInt8.toNat 120) (UInt8.toNat 1) = true)) ?_ ?_ ?_
  · have : ([120, 1] ++ Z ++ zs).drop (0 + 2) = Z ++ zs := by simp
    rw [this]
    exact hrun M hM
  · rw [ht, List.length_append, hl2, hzs]; omega
  · rw [ht, Nat.zero_add, List.drop_append, List.drop_of_length_le (by omega), List.nil_append, hl2, Nat.sub_self, List.drop_zero, List.take_of_length_le (by omega)]
    exact hne

theorem xor_byte (a : UInt8) (d : Nat) (hd : d < 8) : ∃ y : UInt8, bits .xor .u8 (a.toNat : Int) ((2 : Int) ^ d % 256) = (y.toNat : Int) ∧ y ≠ a := by
  have hk : ∃ k : Nat, (2 : Int) ^ d % 256 = (k : Int) ∧ k < 256 ∧ k ≠ 0 := by
    have : d = 0 ∨ d = 1 ∨ d = 2 ∨ d = 3 ∨ d = 4 ∨ d = 5 ∨ d = 6 ∨ d = 7 := by omega
    rcases this with rfl | rfl | rfl | rfl | rfl | rfl | rfl | rfl
    · exact ⟨1, by decide, by decide, by decide⟩
    · exact ⟨2, by decide, by decide, by decide⟩
    · exact ⟨4, by decide, by decide, by decide⟩
    · exact ⟨8, by decide, by decide, by decide⟩
    · exact ⟨16, by decide, by decide, by decide⟩
    · exact ⟨32, by decide, by decide, by decide⟩
    · exact ⟨64, by decide, by decide, by decide⟩
    · exact ⟨128, by decide, by decide, by decide⟩
  obtain ⟨k, hk, hk2, hk0⟩ := hk
  have hlt : a.toNat ^^^ k < 256 := Nat.xor_lt_two_pow (n := 8) a.toNat_lt hk2
  have hof : (UInt8.ofNat (a.toNat ^^^ k)).toNat = a.toNat ^^^ k := by rw [UInt8.toNat_ofNat']; exact Nat.mod_eq_of_lt hlt
  refine ⟨UInt8.ofNat (a.toNat ^^^ k), ?_, ?_⟩
  · rw [hk, u8_xor_nat _ _ a.toNat_lt hk2, hof]
  · intro h
    have h1 := congrArg UInt8.toNat h
    rw [hof] at h1
    have h2 : a.toNat ^^^ (a.toNat ^^^ k) = k := by rw [← Nat.xor_assoc, Nat.xor_self, Nat.zero_xor]
    rw [h1, Nat.xor_self] at h2
    exact hk0 h2.symm
/-- the row with one byte set anew -/
theorem conv_set (w7 : World) (b p cap : Nat) (l : List UInt8) (y : UInt8) (hp : p < l.length) (hc : ∀ j (hj : j < l.length), w7.cell? ⟨b, j, none⟩ = some (.int .u8 (l[j].toNat : Int))) :
    (convert 34 9 (.slice (some ⟨b, 0, none⟩) l.length cap)).run Tryd.prog (w7.setCell ⟨b, p, none⟩ (.int .u8 (y.toNat : Int))).drew = .ok (.string ⟨(l.set p y).toArray⟩) (w7.setCell ⟨b, p, none⟩ (.int .u8 (y.toNat : Int))).drew := by
  have h := run_convert_bytes_back (P := Tryd.prog) (w7.setCell ⟨b, p, none⟩ (.int .u8 (y.toNat : Int))).drew 34 9 5 ⟨b, 0, none⟩ cap (l.set p y) Tryd.underlying34 Tryd.underlying5 Tryd.underlying9 (fun j hj => by
    have hj' : j < l.length := by simpa using hj
    have ha : (⟨b, 0, none⟩ : Addr).add j = ⟨b, j, none⟩ := by rw [Addr.add_lit, Nat.zero_add]
    rw [ha]
    show (w7.setCell ⟨b, p, none⟩ (.int .u8 (y.toNat : Int))).cell? ⟨b, j, none⟩ = _
    by_cases hjp : p = j
    · subst hjp
      rw [World.cell?_setCell_same _ _ _ (hc p hp), List.getElem_set_self]
    · rw [World.cell?_setCell_other _ _ _ _ (by intro h; cases h; exact hjp rfl), hc j hj', List.getElem_set_ne hjp])
  rw [List.length_set] at h
  exact h
/-- the row of []byte(s) -/
theorem row_string (w : World) (s : ByteArray) (hs : s.size ≤ 1000000000) :
    ∃ cap W, (convert 9 34 (.string s)).run Tryd.prog w = .ok (.slice (some ⟨w.heap.size, 0, none⟩) s.size cap) W ∧ s.size ≤ cap ∧ cap ≤ maxLen ∧
      (∀ j (hj : j < s.data.toList.length), W.cell? ⟨w.heap.size, j, none⟩ = some (.int .u8 (s.data.toList[j].toNat : Int))) ∧ (∀ j, j < s.size → W.frozen? ⟨w.heap.size, j, none⟩ = false) ∧ Below w.heap.size w W := by
  have h := run_bytes_of_string (P := Tryd.prog) w 9 34 5 s Tryd.underlying9 Tryd.underlying34 Tryd.underlying5
  have hge := grownCap_ge w s.size 0 5
  have hcm := grownCap_le_maxLen w s.size 0 5 (by unfold maxLen; omega)
  have hsz : (bytesRow s (grownCap w s.size 0 5)).size = grownCap w s.size 0 5 := by unfold bytesRow; simp; omega
  refine ⟨_, _, h, hge, hcm, fun j hj => ?_, fun j hj => ?_, ((Below.refl _ _).drew).alloc (by simp) _⟩
  · rw [cell_of_row _ w.heap.size j _ 5 _ (heap_alloc_new w.drew _)]
    have h2 := bytesV_at s.data.toList j hj
    have ht : (bytesRow s (grownCap w s.size 0 5)).toList.take s.data.toList.length = bytesV s.data.toList := by
      unfold bytesRow
      rw [Array.toList_append, List.take_append_of_le_length (by simp), List.take_of_length_le (by simp)]
      simp [bytesV]
    rw [← ht, List.getElem?_take, if_pos hj] at h2
    simpa using h2
  · unfold World.frozen?
    have hh := heap_alloc_new w.drew (.cells (bytesRow s (grownCap w s.size 0 5)) 5 ((bytesRow s (grownCap w s.size 0 5)).size, (bytesRow s (grownCap w s.size 0 5)).size + 1))
    rw [show w.drew.heap.size = w.heap.size from rfl] at hh
    simp only [hh]
    simp only [hsz]
    have : ¬ grownCap w s.size 0 5 ≤ j := by omega
    simp [this]
set_option maxHeartbeats 8000000 in
set_option maxRecDepth 100000 in
theorem zwrites_walk (s0 front0 back0 : ByteArray) (bit : Int) (w : World) (hG : GOk w) :
    Calls Tryd.prog 10 #[.string s0, .string front0, .string back0, .int .i64 bit] w fun e w' => e = .returned (.bool true) ∧ Below w.heap.size w w' := by
  have HG := hidM hG
  clear hG
  go_enter Tryd.func10, Tryd.ntmps10
  go_wp2_with fail
  refine (fewF_any s0 2000 w).mono ?_
  rintro _ w9 ⟨rfl, h9⟩
  rw [h9]
  clear h9 w9
  have hs := fewB_size s0 2000
  generalize fewB s0 2000 = s at *
  go_wp2_with fail
  refine (fewF_any front0 200 w).mono ?_
  rintro _ w9 ⟨rfl, h9⟩
  rw [h9]
  clear h9 w9
  have hf := fewB_size front0 200
  generalize fewB front0 200 = front at *
  have HLS : Hid (s.data.toList.length = s.size) := Array.length_toList
  have HLF : Hid (front.data.toList.length = front.size) := Array.length_toList
  go_wp2_with fail
  refine (zwrite_any s w (by omega)).mono ?_
  rintro _ w1 ⟨⟨x, rfl, hX, hx1, hx2⟩, hb1⟩
  have HX := hidM hX
  have HB1 := hidM hb1
  have HLX : Hid (x.data.toList.length = x.size) := Array.length_toList
  clear hX hb1
  go_wp2_with fail
  refine (awake6_any w1 (HG.out.below HB1.out)).mono ?_
  rintro _ w2 ⟨rfl, hb2⟩
  have HB2 : Hid (Below w.heap.size w w2) := HB1.out.trans (hb2.mono HB1.out.size)
  clear hb2 HB1
  go_wp2_with fail
  refine (plain_any s w2 (by omega)).mono ?_
  rintro _ w3 ⟨rfl, hb3⟩
  have HB3 : Hid (Below w.heap.size w w3) := HB2.out.trans (hb3.mono HB2.out.size)
  clear hb3 HB2
  obtain ⟨T, hT⟩ : ∃ T : ByteArray, (⟨(storedB 1 s.data.toList).toArray⟩ : ByteArray) = T := ⟨_, rfl⟩
  have HTT := hidM hT
  clear hT
  have HP : Hid ((⟨(([120, 1] : List UInt8) ++ T.data.toList ++ zsum s.data.toList).toArray⟩ : ByteArray) = ⟨(plainL s.data.toList).toArray⟩) := by rw [← HTT.out]; rfl
  generalize (⟨(plainL s.data.toList).toArray⟩ : ByteArray) = P at *
  go_wp2_with fail
  refine (rstored_any s w3 (by omega)).mono ?_
  rintro _ w4 ⟨rfl, hb4⟩
  have HB4 : Hid (Below w.heap.size w w4) := HB3.out.trans (hb4.mono HB3.out.size)
  clear hb4 HB3
  have hst : T.size ≤ 70000 := by
    rw [← HTT.out]
    show (storedB 1 s.data.toList).toArray.size ≤ _
    rw [List.size_toArray, storedB_len, HLS.out]; omega
  rw [HTT.out]
  clear HTT
  go_wp2_with fail
  refine (rframe_any T s w4 (by omega) hst).mono ?_
  rintro _ w5 ⟨rfl, hb5⟩
  have HB5 : Hid (Below w.heap.size w w5) := HB4.out.trans (hb5.mono HB4.out.size)
  clear hb5 HB4 hst
  rw [HP.out]
  have k6 : ¬ (x.size : Int) < 6 := by omega
  go_wp2_with fail
  refine (fewF_any back0 200 w5).mono ?_
  rintro _ w9 ⟨rfl, h9⟩
  rw [h9]
  clear h9 w9
  have hbk := fewB_size back0 200
  generalize fewB back0 200 = back at *
  have HLB : Hid (back.data.toList.length = back.size) := Array.length_toList
  go_wp2_with fail
  refine (zread_any (front ++ x ++ back) (front.size : Int) (s.size : Int) w5 (by rw [ByteArray.size_append, ByteArray.size_append]; omega) (HG.out.below HB5.out)).mono ?_
  rintro _ w6 ⟨⟨r, hq, rfl⟩, hb6⟩
  have HB6 : Hid (Below w.heap.size w w6) := HB5.out.trans (hb6.mono HB5.out.size)
  clear hb6 HB5
  rw [str_add, str_add, List.append_assoc, ← HLF.out, ← HLS.out] at hq
  have hr := frame_read HX.out (Nat.le_refl _) (by rw [HLS.out]; omega) hq
  subst hr
  clear hq
  simp only [string_back, HLX.out]
  by_cases hbit : bit < 0 ∨ 31 < bit
  · by_cases h0 : bit < 0
    · go_wp2
      go_ret
      exact ⟨rfl, HB6.out⟩
    · have h31 : (31 : Int) < bit := by omega
      go_wp2
      go_ret
      exact ⟨rfl, HB6.out⟩
  · obtain ⟨c, rfl⟩ : ∃ c : Nat, bit = (c : Int) := ⟨bit.toNat, by omega⟩
    have k0 : ¬ (c : Int) < 0 := by omega
    have k31 : ¬ (31 : Int) < (c : Int) := by omega
    obtain ⟨cap, w7, hcv, hcap, hcm, hcell, hfz, hb7⟩ := row_string w6 x (by omega)
    obtain ⟨n1, hn1⟩ : ∃ n1, x.size = n1 + 1 := ⟨x.size - 1, by omega⟩
    obtain ⟨q, hq⟩ : ∃ q, q = c / 8 := ⟨_, rfl⟩
    obtain ⟨d, hd⟩ : ∃ d, d = c % 8 := ⟨_, rfl⟩
    obtain ⟨p, hp⟩ : ∃ p, p = n1 - q := ⟨_, rfl⟩
    have e1 : (x.size : Int) - 1 = (n1 : Int) := by omega
    have e2 : (c : Int) / 8 = (q : Int) := by omega
    have e2' : (c : Int).tdiv 8 = (q : Int) := by rw [Int.tdiv_eq_ediv_of_nonneg (by omega)]; exact e2
    have e3 : (c : Int) % 8 = (d : Int) := by omega
    have e3' : (c : Int).tmod 8 = (d : Int) := by rw [Int.tmod_eq_emod_of_nonneg (by omega)]; exact e3
    have e4 : (n1 : Int) - (q : Int) = (p : Int) := by omega
    have hpx : p < x.size := by omega
    have hpi : (p : Int) < (x.size : Int) := by omega
    have hq4 : q < 4 := by omega
    have hd8 : d < 8 := by omega
    have HPE : Hid (p = x.data.toList.length - 1 - q) := by unfold Hid; rw [HLX.out]; omega
    clear hn1 hq hd hp
    have hpl : p < x.data.toList.length := by rw [HLX.out]; exact hpx
    have hc1 := hcell p hpl
    have hf1 := hfz p hpx
    obtain ⟨y, hy1, hy2⟩ := xor_byte x.data.toList[p] d hd8
    have HY : Hid (y ≠ x.data.toList.getD (x.data.toList.length - 1 - q) 0) := by
      unfold Hid
      rw [← HPE.out, List.getD_eq_getElem?_getD, List.getElem?_eq_getElem hpl]
      exact hy2
    generalize x.data.toList[p] = a at *
    have HCV := hidM (conv_set w7 w6.heap.size p cap x.data.toList y hpl hcell)
    rw [HLX.out] at HCV
    have HB7 : Hid (Below w.heap.size w (w7.setCell ⟨w6.heap.size, p, none⟩ (.int .u8 (y.toNat : Int))).drew) := ((HB6.out.trans (hb7.mono HB6.out.size)).setCell HB6.out.size _).drew
    have HSZ : Hid ((⟨(x.data.toList.set p y).toArray⟩ : ByteArray).size ≤ 1000000) := by
      show (x.data.toList.set p y).toArray.size ≤ _
      rw [List.size_toArray, List.length_set, HLX.out]; omega
    clear hcell hfz hb7 HB6 hpl hy2
    go_wp2_with fail
    go_region
    have hcq := HCV.out
    generalize (w7.setCell ⟨w6.heap.size, p, none⟩ (.int .u8 (y.toNat : Int))).drew = V at *
    have HU : Hid ((⟨(x.data.toList.set p y).toArray⟩ : ByteArray).data.toList = x.data.toList.set p y) := rfl
    generalize (⟨(x.data.toList.set p y).toArray⟩ : ByteArray) = U at *
    clear HCV hc1 hf1 hcv
    go_wp2_with fail
    refine (zread_any U 0 (s.size : Int) V HSZ.out (HG.out.below HB7.out)).mono ?_
    rintro _ w8 ⟨⟨r, hq, rfl⟩, hb8⟩
    have HB8 : Hid (Below w.heap.size w w8) := HB7.out.trans (hb8.mono HB7.out.size)
    clear hb8 HB7
    rw [HU.out, HPE.out, ← HLS.out] at hq
    have hr := frame_spoilt HX.out q hq4 y HY.out (Nat.le_refl _) (by rw [HLS.out]; omega) hq
    subst hr
    clear hq
    go_wp2
    go_ret
    exact ⟨rfl, HB8.out⟩
end Go.Proofs.YtkckobhpanghiaaDoor
