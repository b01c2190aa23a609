/-
  Walks of the document's constants of SHA-256: primes, Table.
-/
import Derived.Test.YtbodjopdhciaeabDoorRefF
namespace Go.Proofs.YtbodjopdhciaeabDoor
open Go.RowKit

theorem Tryd.info34 : (Tryd.prog.info? 34).map (fun i => (i.zero, i.size, i.bytes)) = some (some (.int .u64 0), 1, 8) := by kernel_rfl
def longsV (l : List Nat) : List Value := l.map fun x : Nat => Value.int .u64 (x : Int)
theorem longsV_at (l : List Nat) (j : Nat) (hj : j < l.length) : (longsV l)[j]? = some (.int .u64 (l[j] : Int)) := by simp [longsV, List.getElem?_map, List.getElem?_eq_getElem hj]
/-- The value v owns just the numbers l. -/
def OwnU (w : World) (base : Nat) (v : Value) (l : List Nat) : Prop := w.ownsRow base 34 1 v l.length (longsV l)
theorem ownU_push {w1 : World} {B : Nat} {v' : Value} {P : List Nat} {c : Nat} (h : w1.ownsRow B 34 1 v' (P.length + 1) (longsV P ++ [.int .u64 (c : Int)])) : OwnU w1 B v' (P ++ [c]) := by
  unfold OwnU
  have e : longsV (P ++ [c]) = longsV P ++ [.int .u64 (c : Int)] := by simp [longsV]
  rw [e]
  simpa using h
theorem OwnU.at {w : World} {B g n c : Nat} {l : List Nat} (h : OwnU w B (.slice (some ⟨g, 0, none⟩) n c) l) (j : Nat) (hj : j < l.length) : w.cell? ⟨g, j, none⟩ = some (.int .u64 (l.getD j 0 : Nat)) := by
  have := World.ownsRow.cells (g := g) h rfl j _ (longsV_at l j hj)
  rw [Addr.add_lit, Nat.zero_add, getElem_D l j hj] at this
  exact this
theorem own_emptyU (w : World) : OwnU (w.alloc (.cells #[] 34)) w.heap.size (.slice (some ⟨w.heap.size, 0, none⟩) 0 0) [] :=
  World.ownsRow_lit w #[] 0 (Nat.le_refl _) (Nat.zero_le _) rfl

theorem ownU_form {w : World} {B : Nat} {v : Value} {l : List Nat} (h : OwnU w B v l) (hl : 0 < l.length) : ∃ g c, v = .slice (some ⟨g, 0, none⟩) l.length c := by
  rcases h.2 with ⟨_, hn⟩ | ⟨g, c, cur, hv, _⟩
  · omega
  · exact ⟨g, c, hv⟩
theorem own_below {w w' : World} {base : Nat} {e : TypeId} {size : Nat} {v : Value} {n : Nat} {xs : List Value} (h : w.ownsRow base e size v n xs) (hb : Below w.heap.size w w') : w'.ownsRow base e size v n xs := by
  refine ⟨h.1, ?_⟩
  rcases h.2 with h0 | ⟨g, cap, cur, hv, hg, hc, hr⟩
  · exact .inl h0
  · exact .inr ⟨g, cap, cur, hv, hg, (hb.block g (Array.getElem?_eq_some_iff.1 hc).1).trans hc, hr⟩
theorem ownW_form {w : World} {B : Nat} {v : Value} {l : List Nat} (h : OwnW w B v l) (hl : 0 < l.length) : ∃ g c, v = .slice (some ⟨g, 0, none⟩) l.length c := by
  rcases h.2 with ⟨_, hn⟩ | ⟨g, c, cur, hv, _⟩
  · omega
  · exact ⟨g, c, hv⟩
theorem takeN_snoc (l : List Nat) (k : Nat) (hk : k < l.length) : l.take (k + 1) = l.take k ++ [l.getD k 0] := by
  rw [List.take_add_one, List.getElem?_eq_getElem hk, getElem_D l k hk]; rfl
theorem sieve_two : ∀ j, ∀ q ∈ sieve j, 2 ≤ q := by
  intro j
  induction j with
  | zero => intro q hq; simp [sieve] at hq
  | succ j ih =>
    intro q hq
    rw [sieve] at hq
    split at hq
    · rcases List.mem_append.1 hq with h | h
      · exact ih q h
      · simp at h; omega
    · exact ih q hq
/-- Does none of the first i divide p? -/
def none_ (p : Nat) (l : List Nat) (i : Nat) : Bool := (l.take i).all (fun q => p % q != 0)
theorem none_succ (p : Nat) (l : List Nat) (i : Nat) (hi : i < l.length) : none_ p l (i + 1) = (none_ p l i && (p % l.getD i 0 != 0)) := by
  unfold none_
  rw [List.take_add_one, List.getElem?_eq_getElem hi, getElem_D l i hi]
  simp [List.all_append]
theorem none_all (p : Nat) (l : List Nat) : none_ p l l.length = l.all (fun q => p % q != 0) := by unfold none_; rw [List.take_length]
theorem sieve_len_le : ∀ j, (sieve j).length ≤ j := by
  intro j
  induction j with
  | zero => simp [sieve]
  | succ j ih =>
    rw [sieve]
    split
    · rw [List.length_append]; simp; exact ih
    · omega

theorem rem_bool (q x : Nat) : ((q : Int) % (x : Int) != 0) = (q % x != 0) := by
  have e : ((q : Int) % (x : Int)) = ((q % x : Nat) : Int) := by simp
  rw [e]
  by_cases h : q % x = 0
  · rw [h]; rfl
  · have h2 : ((q % x : Nat) : Int) ≠ 0 := by omega
    rw [bne_iff_ne.2 h, bne_iff_ne.2 h2]
theorem one_long (x : Nat) : ∀ u ∈ [Value.int .u64 (x : Int)], u.oneCell' = true := by
  intro u hu
  simp only [List.mem_singleton] at hu
  subst hu; rfl
set_option maxHeartbeats 1600000 in
theorem primes_any (n J : Nat) (w : World) (hn : n ≤ 100) (hJ : J ≤ 1000) (h1 : ∀ j, j < J → (sieve j).length < n) (h2 : (sieve J).length = n) :
    Calls Tryd.prog 35 #[.int .i64 n] w fun e w' => (∃ v, e = .returned v ∧ OwnU w' w.heap.size v (sieve J)) ∧ Below w.heap.size w w' := by
  obtain ⟨i0, hi, hz0, hz1, hz2⟩ := info_parts Tryd.info34
  have H1 := hidM h1
  have H2 := hidM h2
  have HST := hidM (own_emptyU w)
  have HB0 : Hid (Below w.heap.size w (w.alloc (.cells #[] 34))) := (Below.refl _ _).alloc (Nat.le_refl _) _
  clear h1 h2
  go_enter Tryd.func35, Tryd.ntmps35
  go_wp2
  go_loopw [3, 4] (fun v p wr => ∃ (j q g L c : Nat), j ≤ J ∧ q = j + 2 ∧ p = .int .u64 q ∧ v = .slice (some ⟨g, 0, none⟩) L c ∧ L = (sieve j).length ∧ OwnU wr w.heap.size (.slice (some ⟨g, 0, none⟩) L c) (sieve j) ∧ Below w.heap.size w wr) (fun _ p _ => J + 2 - (intOf p).toNat)
  case atStart => exact ⟨0, 2, w.heap.size, 0, 0, Nat.zero_le _, rfl, rfl, rfl, rfl, HST.out, HB0.out⟩
  case round =>
    obtain ⟨j, q, g, L, c, hj, hq, rfl, rfl, hL, hown, hbr⟩ := hrel
    have HO := hidM hown
    have HB := hidM hbr
    have HL := hidM hL
    have HLJ := hidM (hL ▸ sieve_len_le j)
    have HTW := hidM (sieve_two j)
    clear hown hbr HST HB0
    by_cases hlt : j < J
    · have hl := H1.out j hlt
      rw [← hL] at hl
      have kk : (L : Int) < (n : Int) := by omega
      have HSU : Hid (sieve (j + 1) = if (sieve j).all (fun x => q % x != 0) then sieve j ++ [q] else sieve j) := by unfold Hid; rw [hq, sieve]
      have HQ := hidM hq
      have hq9 : q ≤ 2000 := by omega
      clear hL hq
      generalize sieve j = S at *
      go_wp2
      obtain ⟨wi, hwi⟩ : ∃ wi : World, wi = wr := ⟨_, rfl⟩
      rw [← hwi] at HO HB ⊢
      clear hwi
      go_loopw [5, 7, 17] (fun is _ ix wr => ∃ i : Nat, i ≤ L ∧ ix = .int .i64 i ∧ is = .bool (none_ q S i) ∧ wr = wi) (fun _ _ ix _ => L - (intOf ix).toNat)
      case atStart => exact ⟨0, Nat.zero_le _, rfl, rfl, rfl⟩
      case round =>
        obtain ⟨i, hil, rfl, rfl, rfl⟩ := hrel
        by_cases hi2 : i < L
        · have hiS : i < S.length := by rw [← HL.out]; exact hi2
          have hc := HO.out.at i hiS
          have HNS := hidM (none_succ q S i hiS)
          have hx2 : 2 ≤ S.getD i 0 := HTW.out _ (by rw [← getElem_D S i hiS]; exact List.getElem_mem hiS)
          generalize S.getD i 0 = x at *
          have ki : (i : Int) < (L : Int) := by omega
          have hx0 : (x : Int) ≠ 0 := by omega
          have hx1 : ((x : Int) == 0) = false := by simp; omega
          have HRB := hidM (rem_bool q x)
          cases hnn : none_ q S i
          · rw [hnn] at HNS
            clear hnn
            go_wp2
            exact ⟨⟨i + 1, by omega, by go_num, by rw [HNS.out]; rfl, trivial⟩, by simp [intOf]; omega⟩
          · rw [hnn] at HNS
            clear hnn
            go_wp2
            exact ⟨⟨i + 1, by omega, by go_num, by rw [HNS.out, HRB.out]; rfl, trivial⟩, by simp [intOf]; omega⟩
        · obtain rfl : i = L := by omega
          have HAL : Hid (none_ q S i = S.all (fun x => q % x != 0)) := by unfold Hid; rw [HL.out, none_all]
          have hii : ¬ (i : Int) < (i : Int) := by omega
          clear hi2 hil
          cases hnn : none_ q S i
          · have HS2 : Hid (sieve (j + 1) = S) := by unfold Hid; rw [HSU.out, ← HAL.out, hnn]; rfl
            clear HAL HSU
            go_wp2
            exact ⟨⟨j + 1, q + 1, g, i, c, by omega, by rw [HQ.out], by go_num, rfl, by rw [HS2.out, HL.out], by rw [HS2.out]; exact HO.out, HB.out⟩, by have := HQ.out; simp [intOf]; omega⟩
          · have HS2 : Hid (sieve (j + 1) = S ++ [q]) := by unfold Hid; rw [HSU.out, ← HAL.out, hnn]; rfl
            have HBS := hidM HB.out.size
            clear HAL HSU
            go_wp2_with (first
              | (at_builtin; refine wpList_append_own _ rfl _ _ 62 rfl w.heap.size 34 i0 (.int .u64 0) 1 8 Tryd.underlying62 hi hz0 hz1 hz2 rfl (by decide) _ _ _ rfl (World.ownsRow.alloc HO.out _) ⟨wr.heap.size, 0, none⟩ 1 1 [.int .u64 (q : Int)] ?c0 ?c6 ?c1 (one_long _) ?c3 ?c4 ?c5 ?_))
            case c3 => rw [← HL.out]; unfold maxLen; omega
            case c4 => rw [← HL.out]; omega
            case c5 => have := HBS.out; omega
            intro v' w1 hown' hgrow _
            have HO1 : Hid (OwnU w1 w.heap.size v' (S ++ [q])) := ownU_push hown'
            have HB1 : Hid (Below w.heap.size w w1) := (HB.out.alloc HBS.out _).grown hgrow (by have := HBS.out; simp; omega) (fun k hk => (World.ownsRow.lt HO.out k hk).1)
            obtain ⟨g2, c2, rfl⟩ := ownU_form HO1.out (by simp)
            have HLE : Hid ((S ++ [q]).length = i + 1) := by unfold Hid; rw [List.length_append, ← HL.out]; rfl
            rw [HLE.out] at HO1 ⊢
            clear hown' hgrow
            go_wp2
            exact ⟨⟨j + 1, q + 1, g2, i + 1, c2, by omega, by rw [HQ.out], by go_num, rfl, by rw [HS2.out, HLE.out], by rw [HS2.out]; exact HO1.out, HB1.out⟩, by have := HQ.out; simp [intOf]; omega⟩
    · obtain rfl : j = J := by omega
      have hLn : L = n := by rw [hL, H2.out]
      subst hLn
      clear hL HL hq
      go_wp2
      go_ret
      exact ⟨⟨_, rfl, HO.out⟩, HB.out⟩

theorem sieve_64 : sieve 310 = sieveT 310 2 [] := by have := sieveT_is 310 0; rw [Nat.zero_add] at this; exact this.symm
theorem sieve_18 : sieve 18 = [2, 3, 5, 7, 11, 13, 17, 19] := by have := sieveT_is 18 0; rw [Nat.zero_add] at this; rw [← this]; exact sieve8
theorem primes64_any (w : World) : Calls Tryd.prog 35 #[.int .i64 64] w fun e w' => (∃ v, e = .returned v ∧ OwnU w' w.heap.size v (sieve 310)) ∧ Below w.heap.size w w' :=
  primes_any 64 310 w (by decide) (by decide) (fun j hj => by have := sieveT_is j 0; rw [Nat.zero_add, Nat.zero_add] at this; rw [← this]; exact sieve64_lens j hj) (by rw [sieve_64]; exact sieve64)
theorem primes8_any (w : World) : Calls Tryd.prog 35 #[.int .i64 8] w fun e w' => (∃ v, e = .returned v ∧ OwnU w' w.heap.size v (sieve 18)) ∧ Below w.heap.size w w' :=
  primes_any 8 18 w (by decide) (by decide) (fun j hj => by have := sieveT_is j 0; rw [Nat.zero_add, Nat.zero_add] at this; rw [← this]; exact sieve8_lens j hj) (by rw [sieve_18]; rfl)
theorem rootN (u : Nat → Int → Bool) (l m : List Nat) (h : l.map (fun (p : Nat) => IntKind.u32.wrap (rootI (u p) 41 0)) = m.map Int.ofNat) (k : Nat) (hk : k < l.length) : IntKind.u32.wrap (rootI (u (l.getD k 0)) 41 0) = ((m.getD k 0 : Nat) : Int) := by
  have e := congrArg (fun x => x[k]?) h
  simp only [List.getElem?_map] at e
  rw [List.getElem?_eq_getElem hk, getElem_D l k hk] at e
  rw [List.getD_eq_getElem?_getD (l := m)]
  cases hm : m[k]? with
  | none => rw [hm] at e; simp at e
  | some y => rw [hm] at e; simpa using e

set_option maxHeartbeats 1600000 in
theorem table_any (w : World) : Calls Tryd.prog 13 #[] w fun e w' => (∃ v, e = .returned v ∧ OwnW w' w.heap.size v kL2) ∧ Below w.heap.size w w' := by
  obtain ⟨i0, hi, hz0, hz1, hz2⟩ := info_parts Tryd.info30
  have HST := hidM (own_emptyW w)
  have HB0 : Hid (Below w.heap.size w (w.alloc (.cells #[] 30))) := (Below.refl _ _).alloc (Nat.le_refl _) _
  have HRT : Hid (∀ k, k < (sieve 310).length → IntKind.u32.wrap (rootI (fun y => under3 y ((sieve 310).getD k 0 : Nat)) 41 0) = ((kL2.getD k 0 : Nat) : Int)) := by
    rw [sieve_64]
    exact fun k hk => rootN (fun p y => under3 y p) _ _ root3_is k hk
  have HSL : Hid ((sieve 310).length = 64) := by unfold Hid; rw [sieve_64]; exact sieve64
  generalize hS : sieve 310 = S at *
  go_enter Tryd.func13, Tryd.ntmps13
  go_wp2_with fail
  refine (primes64_any _).mono ?_
  rintro _ w1 ⟨⟨v, rfl, hv⟩, hb1⟩
  rw [hS] at hv
  obtain ⟨gS, cS, rfl⟩ := ownU_form hv (by rw [HSL.out]; decide)
  rw [HSL.out] at hv ⊢
  have HSC : Hid (∀ k, k < 64 → w1.cell? ⟨gS, k, none⟩ = some (.int .u64 (S.getD k 0 : Nat))) := fun k hk => hv.at k (by rw [HSL.out]; exact hk)
  have hgS := World.ownsRow.lt hv gS rfl
  have HG1 : Hid (w.heap.size ≠ gS) := by intro h; have := hgS.1; simp at this; omega
  have HG2 : Hid (gS < w1.heap.size) := hgS.2
  have HO0 : Hid (OwnW w1 w.heap.size (.slice (some ⟨w.heap.size, 0, none⟩) 0 0) []) := own_below HST.out hb1
  have HB1 : Hid (Below w.heap.size w w1) := HB0.out.trans (hb1.mono HB0.out.size)
  clear hv hb1 hgS HST HB0 hS
  go_wp2
  go_loopw [1, 3, 7] (fun v _ i wr => ∃ (k g c : Nat), k ≤ 64 ∧ i = .int .i64 k ∧ v = .slice (some ⟨g, 0, none⟩) k c ∧ g ≠ gS ∧ gS < wr.heap.size ∧ (∀ k, k < 64 → wr.cell? ⟨gS, k, none⟩ = some (.int .u64 (S.getD k 0 : Nat))) ∧ OwnW wr w.heap.size (.slice (some ⟨g, 0, none⟩) k c) (kL2.take k) ∧ Below w.heap.size w wr) (fun _ _ i _ => 64 - (intOf i).toNat)
  case atStart => exact ⟨0, w.heap.size, 0, Nat.zero_le _, rfl, rfl, HG1.out, HG2.out, HSC.out, HO0.out, HB1.out⟩
  case round =>
    obtain ⟨k, g, c, hk, rfl, rfl, hg, hgs, hcs, hown, hbr⟩ := hrel
    have HO := hidM hown
    have HB := hidM hbr
    have HC := hidM hcs
    have HG := hidM hg
    have HGS := hidM hgs
    clear hown hbr hcs hg hgs HSC HG1 HG2 HO0 HB1
    by_cases hlt : k < 64
    · have hc := HC.out k hlt
      have kk : (k : Int) < 64 := by omega
      have HV := hidM (HRT.out k (by rw [HSL.out]; exact hlt))
      generalize S.getD k 0 = p at *
      have HRA := hidM (fun v => roots_any 3 (p : Int) (fun y => under3 y p) v (fun y v => under3_any y p v))
      rw [HV.out] at HRA
      generalize hx : kL2.getD k 0 = x at *
      go_wp2_with fail
      refine (HRA.out _).mono ?_
      rintro _ w2 ⟨rfl, m, rfl⟩
      have HL : Hid ((kL2.take k).length = k) := by unfold Hid; rw [List.length_take]; show min k 64 = k; omega
      have HTK : Hid (kL2.take (k + 1) = kL2.take k ++ [x]) := by
        unfold Hid
        rw [takeN_snoc kL2 k hlt, hx]
      have HBS := hidM HB.out.size
      have HOD : Hid (OwnW (wr.drewN m) w.heap.size (.slice (some ⟨g, 0, none⟩) k c) (kL2.take k)) := HO.out
      have HBD : Hid (Below w.heap.size w (wr.drewN m)) := below_drewN HB.out m
      have HBE : Hid (w.heap.size ≤ (wr.drewN m).heap.size) := HBS.out
      have HCD : Hid (∀ k, k < 64 → (wr.drewN m).cell? ⟨gS, k, none⟩ = some (.int .u64 (S.getD k 0 : Nat))) := HC.out
      have HGD : Hid (gS < (wr.drewN m).heap.size) := HGS.out
      clear HO HB HC HGS hx HV HRA hc
      generalize wr.drewN m = wd at *
      generalize kL2.take k = P at *
      go_wp2_with (first
        | (at_builtin; refine wpList_append_own _ rfl _ _ 26 rfl w.heap.size 30 i0 (.int .u32 0) 1 4 Tryd.underlying26 hi hz0 hz1 hz2 rfl (by decide) _ _ _ rfl (World.ownsRow.alloc HOD.out _) ⟨wd.heap.size, 0, none⟩ 1 1 [.int .u32 (x : Int)] ?c0 ?c6 ?c1 (one_word _) ?c3 ?c4 ?c5 ?_))
      case c0 => rfl
      case c6 => rfl
      case c1 => exact cell_newW wd x _ rfl
      case c3 => rw [HL.out]; unfold maxLen; omega
      case c4 => rw [HL.out]; omega
      case c5 => have := HBE.out; simp; omega
      intro v' w1 hown' hgrow _
      have HO1 : Hid (OwnW w1 w.heap.size v' (P ++ [x])) := ownW_push hown'
      have HB1 : Hid (Below w.heap.size w w1) := (HBD.out.alloc HBE.out _).grown hgrow (by have := HBE.out; simp; omega) (fun k hk => (World.ownsRow.lt HOD.out k hk).1)
      have HBK : Hid (w1.heap[gS]? = wd.heap[gS]?) := (hgrow.block gS (by have := HGD.out; simp; omega) (by intro h; exact HG.out (Option.some.inj h).symm)).trans (Below.heap_alloc wd _ gS HGD.out)
      have HC1 : Hid (∀ k, k < 64 → w1.cell? ⟨gS, k, none⟩ = some (.int .u64 (S.getD k 0 : Nat))) := fun k hk => (World.cell?_of_block (a := ⟨gS, k, none⟩) HBK.out).trans (HCD.out k hk)
      have HG1 : Hid (gS < w1.heap.size) := World.block_lt_of_cell? w1 _ (HC1.out 0 (by decide))
      obtain ⟨g2, c2, rfl⟩ := ownW_form HO1.out (by simp)
      have HNE : Hid (g2 ≠ gS) := by
        intro h
        subst h
        have a1 := HO1.out.at 0 (by simp)
        rw [HC1.out 0 (by decide)] at a1
        simp at a1
      have HLE : Hid ((P ++ [x]).length = k + 1) := by unfold Hid; rw [List.length_append, HL.out]; rfl
      rw [HLE.out] at HO1 ⊢
      clear hown' hgrow
      go_wp2
      go_roundw
      case rel => exact ⟨k + 1, g2, c2, by omega, by go_num, rfl, HNE.out, HG1.out, HC1.out, by rw [HTK.out]; exact HO1.out, HB1.out⟩
      case measure => simp [intOf]; omega
    · obtain rfl : k = 64 := by omega
      have HOE : Hid (OwnW wr w.heap.size (.slice (some ⟨g, 0, none⟩) 64 c) kL2) := by
        have := HO.out
        rw [List.take_of_length_le (show kL2.length ≤ 64 from Nat.le_refl _)] at this
        exact this
      rw [show ((64 : Nat) : Int) = 64 from rfl]
      clear HO
      go_wp2
      go_ret
      exact ⟨⟨_, rfl, HOE.out⟩, HB.out⟩
end Go.Proofs.YtbodjopdhciaeabDoor
