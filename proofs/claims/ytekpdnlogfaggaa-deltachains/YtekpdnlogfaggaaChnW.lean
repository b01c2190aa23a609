/-
  DeltaChains.
-/
import Derived.Test.YtekpdnlogfaggaaLawW
import Derived.SliceStrings
namespace Go.Proofs.Ytekpdnlogfaggaa
open Go.RowKit

/-- A slice whose first 'len' cells hold the strings f. -/
def StrsAt (w : World) (a : Option Addr) (len : Nat) (f : Nat → ByteArray) : Prop :=
  len ≤ maxLen ∧ (len = 0 ∨ ∃ b off, a = some ⟨b, off, none⟩ ∧ ∀ i, i < len → w.cell? ⟨b, off + i, none⟩ = some (.string (f i)))
theorem StrsAt.below {w w' : World} {a : Option Addr} {len : Nat} {f : Nat → ByteArray} (h : StrsAt w a len f) (hb : Below w.heap.size w w') : StrsAt w' a len f := by
  refine ⟨h.1, ?_⟩
  rcases h.2 with h0 | ⟨b, off, rfl, hc⟩
  · exact .inl h0
  · exact .inr ⟨b, off, rfl, fun i hi => (hb.cell (p := ⟨b, off + i, none⟩) (World.block_lt_of_cell? w _ (hc i hi))).trans (hc i hi)⟩
theorem StrsAt.get {w : World} {a : Option Addr} {len : Nat} {f : Nat → ByteArray} (h : StrsAt w a len f) (i : Nat) (hi : i < len) : ∃ b off, a = some ⟨b, off, none⟩ ∧ w.cell? ⟨b, off + i, none⟩ = some (.string (f i)) := by
  rcases h.2 with h0 | ⟨b, off, rfl, hc⟩
  · omega
  · exact ⟨b, off, rfl, hc i hi⟩
theorem Try.info9 : (Try.prog.info? 9).map (fun i => (i.zero, i.size, i.bytes)) = some (some (.string ⟨#[]⟩), 1, 16) := by kernel_rfl
def strsV (l : List ByteArray) : List Value := l.map Value.string
def OwnS (w : World) (B : Nat) (v : Value) (l : List ByteArray) : Prop := w.ownsRow B 9 1 v l.length (strsV l)
theorem OwnS.push {w : World} {B : Nat} {v : Value} {l : List ByteArray} {x : ByteArray} (h : w.ownsRow B 9 1 v (l.length + 1) (strsV l ++ [.string x])) : OwnS w B v (l ++ [x]) := by
  unfold OwnS strsV
  rw [List.map_append]
  simpa [strsV] using h
theorem OwnS.shape {w : World} {B : Nat} {v : Value} {l : List ByteArray} (h : OwnS w B v l) : ∃ a c, v = .slice a l.length c ∧ ∀ j (hj : j < l.length), ∃ g, a = some ⟨g, 0, none⟩ ∧ B ≤ g ∧ g < w.heap.size ∧ w.cell? ⟨g, j, none⟩ = some (.string l[j]) := by
  rcases h.2 with ⟨rfl, hn⟩ | ⟨g, cap, cur, rfl, hb, hg, hr⟩
  · exact ⟨none, 0, by rw [hn], fun j hj => by omega⟩
  · refine ⟨_, cap, rfl, fun j hj => ⟨g, rfl, hb, (Array.getElem?_eq_some_iff.1 hg).1, ?_⟩⟩
    have := World.ownsRow.cells (g := g) h rfl j (.string l[j]) (by simp [strsV, hj])
    rwa [Addr.add_lit, Nat.zero_add] at this
theorem OwnS.same {w w' : World} {B : Nat} {v : Value} {l : List ByteArray} (h : OwnS w B v l) (hb : Below w.heap.size w w') : OwnS w' B v l := by
  refine ⟨h.1, ?_⟩
  rcases h.2 with h0 | ⟨g, cap, cur, hv, hg, hc, hr⟩
  · exact .inl h0
  · exact .inr ⟨g, cap, cur, hv, hg, by rw [hb.block g ((Array.getElem?_eq_some_iff.1 hc).1)]; exact hc, hr⟩
theorem new_str (w : World) (v : Value) : ∀ j u, [v][j]? = some u → (w.alloc (.cells #[v] 9)).cell? ((⟨w.heap.size, 0, none⟩ : Addr).add j) = some u := by
  intro j u hj
  match j, hj with
  | 0, hj => simp at hj; subst hj; simp [Addr.add]

/-- Each text told by the one ahead of it. -/
def Chain : ByteArray → List ByteArray → ByteArray → Prop
  | a, [], c => a = c
  | a, d :: ds, c => ∃ b, b.size ≤ 300 ∧ IsDelta a b d ∧ Chain b ds c
theorem Chain.snoc : ∀ {a : ByteArray} {ds : List ByteArray} {b c d : ByteArray}, Chain a ds b → c.size ≤ 300 → IsDelta b c d → Chain a (ds ++ [d]) c
  | a, [], b, c, d, h, hc, hd => by
    cases h
    exact ⟨c, hc, hd, rfl⟩
  | a, e :: ds, b, c, d, ⟨x, hx, h1, h2⟩, hc, hd => ⟨x, hx, h1, h2.snoc hc hd⟩

set_option maxHeartbeats 4000000 in
set_option maxRecDepth 20000 in
theorem chains_walk (a : Option Addr) (len cap : Nat) (f : Nat → ByteArray) (w : World) (hf : StrsAt w a len f) :
    Calls Try.prog 5 #[.slice a len cap] w fun e w' => e = .returned (.bool true) ∧ Below w.heap.size w w' := by
  obtain ⟨i0, hi, hz0, hz1, hz2⟩ := info_parts Try.info9
  have hlen : len ≤ 9223372036854775807 := by have := hf.1; unfold maxLen at this; omega
  have HF := hidM hf
  clear hf
  go_enter Try.func5, Try.ntmps5
  go_wp2
  go_loopw [3, 4, 5, 6, 7] (fun v x y i _ wr => ∃ (k : Nat) (F L : ByteArray) (ds : List ByteArray), k ≤ len ∧ k ≤ 12 ∧ i = .int .i64 (k : Int) ∧ x = .string F ∧ y = .string L ∧ OwnS wr w.heap.size v ds ∧ Below w.heap.size w wr ∧ Chain F ds L ∧ F.size ≤ 300 ∧ L.size ≤ 300 ∧ ds.length ≤ k ∧ (k = 0 → ds = [])) (fun _ _ _ i _ _ => 12 - (intOf i).toNat)
  case atStart => exact ⟨0, ⟨#[]⟩, ⟨#[]⟩, [], Nat.zero_le _, by decide, rfl, rfl, rfl, World.ownsRow_lit w #[] 0 (Nat.le_refl _) (Nat.zero_le _) rfl, (Below.refl _ _).alloc (Nat.le_refl _) _, rfl, by decide, by decide, Nat.le_refl _, fun _ => rfl⟩
  case round =>
    obtain ⟨k, F, L, ds, hkl, hk12, rfl, rfl, rfl, hO, hB, hC, hFs, hLs, hdl, hk0⟩ := hrel
    have HB := hidM hB
    have HC := hidM hC
    have HO := hidM hO
    have hsz := hB.size
    clear hO hB hC
    by_cases hgo : k < len ∧ k < 12
    · have g1 : (k : Int) < len := by omega
      have g2 : (k : Int) < 12 := by omega
      obtain ⟨b, off, hab, hcell⟩ := (HF.out.below HB.out).get k hgo.1
      subst hab
      have hts := fewL_size (f k) 300
      by_cases hkz : k = 0
      · have hds := hk0 hkz
        subst hkz hds
        have hcell0 : wr.cell? ⟨b, off, none⟩ = some (.string (f 0)) := hcell
        clear hcell
        go_wp2_with fail
        refine (few_any (f 0) 300 wr (by decide)).mono ?_
        rintro e w1 ⟨rfl, hw1⟩
        rw [hw1]
        clear hw1
        generalize fewL (f 0) 300 = T at *
        go_wp2
        refine ⟨⟨1, T, T, [], by omega, by decide, rfl, rfl, rfl, HO.out, HB.out, rfl, hts, hts, by decide, fun h => by omega⟩, ?_⟩
        simp [intOf]
      · have hkz' : ¬ (k : Int) = 0 := by omega
        have hkz2 : ((k : Int) == 0) = false := by simpa using hkz'
        go_wp2_with fail
        refine (few_any (f k) 300 wr (by decide)).mono ?_
        rintro e w1 ⟨rfl, hw1⟩
        rw [hw1]
        clear hw1
        generalize fewL (f k) 300 = T at *
        go_wp2_with fail
        refine (make_any L T wr (by omega) (by omega)).mono ?_
        rintro e w2 ⟨d, rfl, hD, hB2⟩
        have HB2 := hidM (HB.out.trans (hB2.mono hsz))
        have HO2 : Hid (w2.ownsRow w.heap.size 9 1 u3 ds.length (strsV ds)) := HO.out.same hB2
        have HC2 := hidM (HC.out.snoc hts hD)
        have hsz2 : w.heap.size ≤ w2.heap.size := HB2.out.size
        clear hD hB2 HO HC HB hcell
        go_wp2_with (first
          | (at_builtin; go_loud (refine wpList_append_own _ rfl _ _ 36 rfl w.heap.size 9 i0 (.string ⟨#[]⟩) 1 16 Try.underlying36 hi hz0 hz1 hz2 rfl (by decide) _ _ _ rfl (World.ownsRow.alloc HO2.out _) ⟨w2.heap.size, 0, none⟩ 1 1 [.string d] ?c0 rfl ?c1 ?c2 ?c3 ?c4 ?c5 ?_)))
        try (case c0 => rfl)
        try (case c1 => exact new_str w2 _)
        case c2 => first | rfl | (intro u hu; simp at hu; subst hu; rfl)
        case c3 => unfold maxLen; first | omega | (simp; omega)
        case c4 => first | omega | (simp; omega)
        case c5 => first | omega | (simp; omega)
        intro v' w6 hown hgr _
        have HB6 := hidM ((HB2.out.alloc hsz2 _).grown hgr (by simp; omega) (fun q hq => (World.ownsRow.lt HO2.out q hq).1))
        have HO6 := hidM (OwnS.push (l := ds) hown)
        clear hown hgr HB2 HO2
        go_wp2
        refine ⟨⟨k + 1, F, T, ds ++ [d], by omega, by omega, by go_num, rfl, rfl, HO6.out, HB6.out, HC2.out, hFs, hts, by rw [List.length_append]; simp; omega, fun h => by omega⟩, ?_⟩
        simp [intOf]; omega
    · have hgo' : ¬ (k : Int) < len ∨ ¬ (k : Int) < 12 := by omega
      obtain ⟨va, vc, hv, hcells⟩ := HO.out.shape
      obtain ⟨N, hN⟩ : ∃ N, N = ds.length := ⟨_, rfl⟩
      rw [← hN] at hdl hv
      have HN := hidM hN
      have HCE := hidM hcells
      clear hcells hN
      subst hv
      by_cases hkl2 : k < len
      · have h1 : (k : Int) < len := by omega
        have h2 : ¬ (k : Int) < 12 := by omega
        go_wp2
        obtain ⟨w0, hw0⟩ : ∃ w0, w0 = wr := ⟨_, rfl⟩
        rw [← hw0] at HB HCE hsz
        have HW0 := hidM hw0
        rw [← hw0]
        clear hw0 HW0 HO
        go_loopw [8, 42] (fun s j wr => ∃ (m : Nat) (S : ByteArray), m ≤ N ∧ j = .int .i64 (m : Int) ∧ s = .string S ∧ S.size ≤ 300 ∧ Chain S (ds.drop m) L ∧ Below w0.heap.size w0 wr) (fun _ j _ => N - (intOf j).toNat)
        case atStart => exact ⟨0, F, Nat.zero_le _, rfl, rfl, hFs, HC.out, Below.refl _ _⟩
        case round =>
          obtain ⟨m, S, hm, rfl, rfl, hSs, hch, hbb⟩ := hrel
          have HBB := hidM hbb
          have hszb := hbb.size
          by_cases hmN : m < N
          · have hmN' : (m : Int) < N := by omega
            obtain ⟨g, hva, hgB, hgw, hc⟩ := HCE.out m (by rw [← HN.out]; exact hmN)
            subst hva
            have hc2 : wr.cell? ⟨g, m, none⟩ = some (.string (ds[m]'(by rw [← HN.out]; exact hmN))) := (hbb.cell (p := ⟨g, m, none⟩) hgw).trans hc
            have hdrop : ds.drop m = ds[m]'(by rw [← HN.out]; exact hmN) :: ds.drop (m + 1) := by rw [List.drop_eq_getElem_cons]
            rw [hdrop] at hch
            obtain ⟨x, hx, hD, hch2⟩ := hch
            generalize ds[m]'(by rw [← HN.out]; exact hmN) = d at *
            have hds := hD.size
            have c1 := apply_any S d 300 wr (by omega) (by omega)
            rw [hD.ok 300 (by omega) (by omega) (by omega)] at c1
            simp only [back_ba] at c1
            have HCH := hidM hch2
            clear hch2 hD hdrop hc hbb
            go_wp2_with fail
            refine c1.mono ?_
            rintro e w2 ⟨rfl, hB2⟩
            have HB2 := hidM (HBB.out.trans (hB2.mono hszb))
            clear hB2 c1 HBB hc2
            go_wp2
            refine ⟨⟨m + 1, x, by omega, by go_num, rfl, hx, HCH.out, HB2.out⟩, ?_⟩
            simp [intOf]; omega
          · have hmN' : ¬ (m : Int) < N := by omega
            have hnil : ds.drop m = [] := List.drop_of_length_le (by have := HN.out; omega)
            rw [hnil] at hch
            have hSL : S = L := hch
            subst hSL
            clear hch hnil hbb
            go_wp2_with fail
            refine (awake_any wr).mono ?_
            rintro e w3 ⟨rfl, hB3⟩
            have HB3 := hidM (HB.out.trans ((HBB.out.mono hsz).trans (hB3.mono (by omega))))
            clear hB3
            go_wp2
            go_ret
            exact ⟨rfl, HB3.out⟩
      · have h1 : ¬ (k : Int) < len := by omega
        go_wp2
        obtain ⟨w0, hw0⟩ : ∃ w0, w0 = wr := ⟨_, rfl⟩
        rw [← hw0] at HB HCE hsz
        have HW0 := hidM hw0
        rw [← hw0]
        clear hw0 HW0 HO
        go_loopw [8, 42] (fun s j wr => ∃ (m : Nat) (S : ByteArray), m ≤ N ∧ j = .int .i64 (m : Int) ∧ s = .string S ∧ S.size ≤ 300 ∧ Chain S (ds.drop m) L ∧ Below w0.heap.size w0 wr) (fun _ j _ => N - (intOf j).toNat)
        case atStart => exact ⟨0, F, Nat.zero_le _, rfl, rfl, hFs, HC.out, Below.refl _ _⟩
        case round =>
          obtain ⟨m, S, hm, rfl, rfl, hSs, hch, hbb⟩ := hrel
          have HBB := hidM hbb
          have hszb := hbb.size
          by_cases hmN : m < N
          · have hmN' : (m : Int) < N := by omega
            obtain ⟨g, hva, hgB, hgw, hc⟩ := HCE.out m (by rw [← HN.out]; exact hmN)
            subst hva
            have hc2 : wr.cell? ⟨g, m, none⟩ = some (.string (ds[m]'(by rw [← HN.out]; exact hmN))) := (hbb.cell (p := ⟨g, m, none⟩) hgw).trans hc
            have hdrop : ds.drop m = ds[m]'(by rw [← HN.out]; exact hmN) :: ds.drop (m + 1) := by rw [List.drop_eq_getElem_cons]
            rw [hdrop] at hch
            obtain ⟨x, hx, hD, hch2⟩ := hch
            generalize ds[m]'(by rw [← HN.out]; exact hmN) = d at *
            have hds := hD.size
            have c1 := apply_any S d 300 wr (by omega) (by omega)
            rw [hD.ok 300 (by omega) (by omega) (by omega)] at c1
            simp only [back_ba] at c1
            have HCH := hidM hch2
            clear hch2 hD hdrop hc hbb
            go_wp2_with fail
            refine c1.mono ?_
            rintro e w2 ⟨rfl, hB2⟩
            have HB2 := hidM (HBB.out.trans (hB2.mono hszb))
            clear hB2 c1 HBB hc2
            go_wp2
            refine ⟨⟨m + 1, x, by omega, by go_num, rfl, hx, HCH.out, HB2.out⟩, ?_⟩
            simp [intOf]; omega
          · have hmN' : ¬ (m : Int) < N := by omega
            have hnil : ds.drop m = [] := List.drop_of_length_le (by have := HN.out; omega)
            rw [hnil] at hch
            have hSL : S = L := hch
            subst hSL
            clear hch hnil hbb
            go_wp2_with fail
            refine (awake_any wr).mono ?_
            rintro e w3 ⟨rfl, hB3⟩
            have HB3 := hidM (HB.out.trans ((HBB.out.mono hsz).trans (hB3.mono (by omega))))
            clear hB3
            go_wp2
            go_ret
            exact ⟨rfl, HB3.out⟩
end Go.Proofs.Ytekpdnlogfaggaa
