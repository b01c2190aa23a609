/-
  HuffReads: what the document's Read answers is what the program's Read answers; the walk.
-/
import Derived.Test.YtpidofgmbjkbiaaRdR
import Derived.Test.YtpidofgmbjkbiaaHcdW
import Derived.Test.YtpidofgmbjkbiaaBackM
import Derived.Test.YtpidofgmbjkbiaaBitF
import Derived.Test.YtpidofgmbjkbiaaAll
namespace Go.Proofs.Ytpidofgmbjkbiaa
open Go.RowKit

theorem hib_snoc (x c n : Nat) (hc : c < 2) : hib (2 * x + c) (n + 1) = hib x n ++ [(c == 1)] := by
  induction n with
  | zero =>
    have e : (2 * x + c) / 2 ^ 0 % 2 = c := by rw [Nat.pow_zero, Nat.div_one]; omega
    show [((2 * x + c) / 2 ^ 0 % 2 == 1)] = [(c == 1)]
    rw [e]
  | succ n ih =>
    have e : (2 * x + c) / 2 ^ (n + 1) = x / 2 ^ n := by
      rw [Nat.pow_succ, Nat.mul_comm (2 ^ n) 2, ← Nat.div_div_eq_div_mul]
      congr 1
      omega
    rw [hib, ih, e]; rfl
theorem nb_bit (b : List Bool) (n : Nat) (h : n < b.length) : (nb b / 2 ^ n % 2 == 1) = b[n] := by
  rw [← nb_drop, List.drop_eq_getElem_cons h, nb]
  cases b[n]
  · have : (false.toNat + 2 * nb (b.drop (n + 1))) % 2 = 0 := by simp
    rw [this]; rfl
  · have : (true.toNat + 2 * nb (b.drop (n + 1))) % 2 = 1 := by simp
    rw [this]; rfl
theorem take_hib (b : List Bool) (n : Nat) (h : n ≤ b.length) : b.take n = hib (rv (nb b) n) n := by
  induction n with
  | zero => simp [hib]
  | succ n ih =>
    rw [rv, hib_snoc _ _ _ (Nat.mod_lt _ (by decide)), ← ih (by omega), nb_bit b n (by omega), List.take_succ_eq_append_getElem (by omega)]
theorem hib_inj (x y n : Nat) (hx : x < 2 ^ n) (hy : y < 2 ^ n) (h : hib x n = hib y n) : x = y := by
  have h1 := nb_hib x n
  rw [h, nb_hib, Nat.mod_eq_of_lt hx, Nat.mod_eq_of_lt hy] at h1
  exact h1.symm
theorem hib_take (c n l : Nat) (h : l ≤ n) : (hib c n).take l = hib (c / 2 ^ (n - l)) l := by
  induction n generalizing l with
  | zero => have : l = 0 := by omega
            subst this; rfl
  | succ n ih =>
    rcases l with _ | l
    · rfl
    · rw [hib, List.take_succ_cons, ih l (by omega), hib]
      congr 1
      · rw [Nat.div_div_eq_div_mul, ← Nat.pow_add]
        congr 4
        omega
      · rw [show n + 1 - (l + 1) = n - l by omega]
/-- b begins with a code just if its bits so far are that code. -/
theorem beg_code (b : List Bool) (c n : Nat) (hc : c < 2 ^ n) : beg b (hib c n) = true ↔ n ≤ b.length ∧ rv (nb b) n = c := by
  unfold beg
  rw [hib_len, Bool.and_eq_true, decide_eq_true_eq, decide_eq_true_eq]
  constructor
  · rintro ⟨h1, h2⟩
    rw [take_hib b n h1] at h2
    exact ⟨h1, hib_inj _ _ n (rv_lt _ _) hc h2⟩
  · rintro ⟨h1, h2⟩
    exact ⟨h1, by rw [take_hib b n h1, h2]⟩
/-- A longer code begins with b. -/
theorem code_beg (b : List Bool) (c n : Nat) (h : b.length ≤ n) (he : c / 2 ^ (n - b.length) = rv (nb b) b.length) : beg (hib c n) b = true := by
  unfold beg
  rw [hib_len, Bool.and_eq_true, decide_eq_true_eq, decide_eq_true_eq]
  refine ⟨h, ?_⟩
  rw [hib_take c n b.length h, he, ← take_hib b b.length (Nat.le_refl _), List.take_length]
/-- Where no code has come and more bits are wanting, some code goes on so. -/
theorem more_some (ln : Nat → Nat) (L : Nat) (b : List Bool) (hf : Fit ln L) (h15 : ∀ i, ln i ≤ 15) (hl : b.length < lgs ln L) (hno : ∀ j, 1 ≤ j → j ≤ b.length → ¬ Hit ln L (nb b) j) :
    ∃ s, s < L ∧ b.length < ln s ∧ beg (csOf ln L s) b = true := by
  rcases hf with hk | h0 | ⟨h1, h2⟩
  · have h15' : lgs ln L ≤ 15 := lgs_le ln 15 h15 L
    have hex : ∃ j, 1 ≤ j ∧ j ≤ lgs ln L ∧ Hit ln L (nb b) j := Classical.byContradiction fun hn =>
      hit_some ln L (nb b) hk h15' fun j hj1 hj2 hh => hn ⟨j, hj1, hj2, hh⟩
    obtain ⟨j, hj1, hj2, hh⟩ := hex
    have hjl : b.length < j := by
      rcases Nat.lt_or_ge b.length j with h | h
      · exact h
      · exact absurd hh (hno j hj1 h)
    unfold Hit at hh
    obtain ⟨s, hsL, hsn, hsp, hsi⟩ := cnt_at ln j (rv (nb b) j - fstC ln L j) L (by omega)
    have hcode : codeC ln L s = rv (nb b) j := by
      unfold codeC
      rw [hsn, if_neg (by omega), hsi]
      omega
    refine ⟨s, hsL, by omega, ?_⟩
    unfold csOf
    rw [hcode, hsn]
    exact code_beg b _ j (by omega) (rv_prefix (nb b) b.length j (by omega))
  · omega
  · have hb : b = [] := List.eq_nil_of_length_eq_zero (by omega)
    obtain ⟨s, hsL, hsn, _, _⟩ := cnt_at ln 1 0 L (by omega)
    refine ⟨s, hsL, by rw [hb, hsn]; decide, ?_⟩
    rw [hb]
    unfold beg
    simp
/-- Both answer the same. -/
theorem reads_agree (ln : Nat → Nat) (L : Nat) (b : List Bool) (l d : Nat) (e e2 : Ending) (hf : Fit ln L) (h15 : ∀ i, ln i ≤ 15) (hl : b.length = l) (h : ReadPost ln L (nb b) l e d) (k : RefRead (csOf ln L) L b e2) :
    (∃ s n : Nat, 0 < n ∧ n ≤ l ∧ d = n ∧ e = .returned (.tuple #[.int .i64 (s : Int), .int .i64 0]) ∧ e2 = .returned (.tuple #[.int .i64 (s : Int), .int .i64 (n : Int), .int .i64 0])) ∨
    (∃ r : Int, r ≠ 0 ∧ e = .returned (.tuple #[.int .i64 0, .int .i64 r]) ∧ e2 = .returned (.tuple #[.int .i64 0, .int .i64 0, .int .i64 r])) := by
  have hcl : ∀ s, s < L → codeC ln L s < 2 ^ ln s := fun s hs => codeC_lt ln L s hs (h15 s) hf.le
  have hbeg : ∀ s, s < L → (beg b (csOf ln L s) = true ↔ ln s ≤ l ∧ rv (nb b) (ln s) = codeC ln L s) := fun s hs => by
    have := beg_code b (codeC ln L s) (ln s) (hcl s hs)
    rw [hl] at this
    exact this
  rcases h with ⟨s, hs, h0, h1, h2, he, hd⟩ | ⟨h1, h2, he, hd⟩ | ⟨h1, h2, he, hd⟩
  · have hb := (hbeg s hs).2 ⟨h1, h2⟩
    rcases k with ⟨s', n, ks, kn, k0, kb, ke⟩ | ⟨kn, _⟩
    · rw [csOf_len] at kn
      obtain ⟨k1, k2⟩ := (hbeg s' ks).1 kb
      have hss : s = s' := code_same ln L (nb b) s s' h15 hs ks h0 (by omega) h2 k2
      subst hss
      exact .inl ⟨s, n, k0, by omega, by omega, he, ke⟩
    · exact absurd hb (by rw [kn s hs (by rw [csOf_len]; exact h0)]; decide)
  · rcases k with ⟨s', n, ks, kn, k0, kb, ke⟩ | ⟨kn, kk⟩
    · rw [csOf_len] at kn
      obtain ⟨k1, k2⟩ := (hbeg s' ks).1 kb
      exact absurd (hit_of ln L (nb b) s' ks (by omega) k2) (h2 _ (by omega) k1)
    · rcases kk with ⟨_, ke⟩ | ⟨k3, _⟩
      · exact .inr ⟨6, by decide, he, ke⟩
      · obtain ⟨s, hs, hs1, hs2⟩ := more_some ln L b hf h15 (by omega) (fun j hj1 hj2 => h2 j hj1 (by omega))
        exact absurd hs2 (by rw [k3 s hs (by rw [csOf_len]; exact hs1)]; decide)
  · rcases k with ⟨s', n, ks, kn, k0, kb, ke⟩ | ⟨kn, kk⟩
    · rw [csOf_len] at kn
      obtain ⟨k1, k2⟩ := (hbeg s' ks).1 kb
      exact absurd (hit_of ln L (nb b) s' ks (by omega) k2) (h2 _ (by omega) (lgs_ge ln L s' ks))
    · rcases kk with ⟨⟨s, hs, hs1, _⟩, _⟩ | ⟨_, ke⟩
      · rw [csOf_len] at hs1
        have := lgs_ge ln L s hs
        omega
      · exact .inr ⟨3, by decide, he, ke⟩
theorem bat_drop {w : World} {g : Nat} {l : List Bool} (h : BAt w (some ⟨g, 0, none⟩) l) (t : Nat) : BAt w (some ⟨g, t, none⟩) (l.drop t) := by
  by_cases h0 : l.drop t = []
  · exact .inl h0
  · rcases h with hn | ⟨b, off, he, hc⟩
    · subst hn; simp at h0
    · simp only [Option.some.injEq, Addr.mk.injEq, and_true] at he
      obtain ⟨rfl, rfl⟩ := he
      refine .inr ⟨g, t, rfl, fun i hi => ?_⟩
      rw [List.length_drop] at hi
      have := hc (t + i) (by omega)
      rw [Nat.zero_add] at this
      rw [this, List.getElem_drop]
theorem BAt.only {w w' : World} {a : Option Addr} {l : List Bool} {rb : Nat} (h : BAt w a l) (ho : Only rb w w') (ha : ∀ bb o, a = some ⟨bb, o, none⟩ → bb ≠ rb) : BAt w' a l := by
  rcases h with h0 | ⟨b, off, he, hc⟩
  · exact .inl h0
  · exact .inr ⟨b, off, he, fun i hi => (World.cell?_of_block (a := ⟨b, off + i, none⟩) (ho.block b (ha b off he))).trans (hc i hi)⟩

set_option maxRecDepth 20000 in
set_option maxHeartbeats 4000000 in
theorem hreads_walk (a : Option Addr) (len cap : Nat) (s : ByteArray) (f : Nat → Int) (w : World) (hf : IntsAt w a len .i64 f) (hn : a = none → len = 0 ∧ cap = 0) (hcap : len ≤ cap) :
    Calls Try.prog 4 #[.slice a len cap, .string s] w fun e w' => e = .returned (.bool true) ∧ Below w.heap.size w w' := by
  have HF := hidM hf
  have HN := hidM hn
  have HCAP := hidM hcap
  obtain ⟨m, hm⟩ : ∃ m, m = min len 400 := ⟨_, rfl⟩
  have HM := hidM hm
  have m400 : m ≤ 400 := by omega
  clear hf hn hcap hm
  go_enter Try.func4, Try.ntmps4
  go_wp2_with fail
  refine (fewS_any s 60 w).mono ?_
  rintro e w0 ⟨⟨X, rfl, hX, _⟩, rfl⟩
  go_wp2_with fail
  refine (few_any a len cap m f w0 HF.out HM.out HN.out HCAP.out).mono ?_
  rintro e w1 ⟨⟨a1, c1, rfl, hf1⟩, hb1⟩
  have HF1 := hidM hf1
  have HB1 := hidM hb1
  clear hf1 hb1
  go_wp2_with fail
  refine (new_sep a1 m c1 f w1 HF1.out).mono ?_
  rintro e w2 ⟨hp, hb2⟩
  have HP := hidM hp
  have HB2 : Hid (Below w0.heap.size w0 w2) := HB1.out.trans (hb2.mono HB1.out.size)
  obtain ⟨t2, r2, rfl⟩ : ∃ t2 r2, e = .returned (.tuple #[t2, .int .i64 r2]) := by
    rcases hp with ⟨_, he⟩ | ⟨_, _, he⟩ | ⟨_, ln, _, _, ⟨_, he⟩ | ⟨_, b, he, _⟩⟩ <;> exact ⟨_, _, he⟩
  clear hb2 hp
  go_wp2_with fail
  refine (few_any a len cap m f w2 (HF.out.below HB2.out) HM.out HN.out HCAP.out).mono ?_
  rintro e w3 ⟨⟨a3, c3, rfl, hf3⟩, hb3⟩
  have HB3 : Hid (Below w0.heap.size w0 w3) := HB2.out.trans (hb3.mono HB2.out.size)
  have HB23 := hidM hb3
  have HF3 := hidM hf3
  clear hb3 hf3
  go_wp2_with fail
  refine (check_any a3 m c3 f w3 HF3.out).mono ?_
  rintro e w4 ⟨hk, rfl⟩
  have hcase := new_chk HP.out hk
  clear hk
  rcases hcase with ⟨r, hr, he, rfl⟩ | ⟨h320, ln, b, hln, h15, hfit, he, htab, rfl⟩
  · simp only [Ending.returned.injEq, Value.tuple.injEq, Array.mk.injEq, List.cons.injEq, Value.int.injEq, and_true, true_and] at he
    obtain ⟨rfl, rfl⟩ := he
    have hrb : (r2 != 0) = true := by simpa using hr
    go_wp2_with fail
    refine (hawake_any w4).mono ?_
    rintro e w5 ⟨rfl, hb5⟩
    have HB5 : Hid (Below w0.heap.size w0 w5) := HB3.out.trans (hb5.mono HB3.out.size)
    clear hb5
    go_wp2
    go_ret
    exact ⟨rfl, HB5.out⟩
  · simp only [Ending.returned.injEq, Value.tuple.injEq, Array.mk.injEq, List.cons.injEq, Value.int.injEq, and_true, true_and] at he
    obtain ⟨rfl, rfl⟩ := he
    have HLN := hidM hln
    have H15 := hidM h15
    have HFIT := hidM hfit
    have HT := hidM (htab.below HB23.out (Nat.le_refl _))
    have HE2 := hidM HB23.out.size
    clear hln h15 hfit htab HP
    go_wp2_with fail
    refine (newR_any X w4 (by omega)).mono ?_
    rintro e w5 ⟨rfl, hr5, hb5⟩
    have HR5 := hidM hr5
    have HB5 : Hid (Below w0.heap.size w0 w5) := HB3.out.trans (hb5.mono HB3.out.size)
    have HT5 := hidM (HT.out.below hb5 HE2.out)
    have HE5 : Hid (w2.heap.size ≤ w5.heap.size) := Nat.le_trans HE2.out hb5.size
    have HRW : Hid (w0.heap.size ≤ w4.heap.size) := HB3.out.size
    clear hr5 hb5 HT
    obtain ⟨rb, hrb⟩ : ∃ rb, rb = w4.heap.size := ⟨_, rfl⟩
    rw [← hrb] at HR5 HE2 HRW ⊢
    clear hrb
    go_wp2_with fail
    refine (few_any a len cap m f w5 (HF.out.below HB5.out) HM.out HN.out HCAP.out).mono ?_
    rintro e w6 ⟨⟨a6, c6, rfl, hf6⟩, hb6⟩
    have HB6 : Hid (Below w0.heap.size w0 w6) := HB5.out.trans (hb6.mono HB5.out.size)
    have HF6 := hidM (ints_to hf6 HLN.out H15.out)
    have HT6 := hidM (HT5.out.below hb6 HE5.out)
    have HR6 := hidM (HR5.out.below hb6)
    have HE6 : Hid (w2.heap.size ≤ w6.heap.size) := Nat.le_trans HE5.out hb6.size
    clear hf6 hb6 HT5 HR5
    go_wp2_with fail
    refine (codes_any a6 m c6 ln w6 HF6.out H15.out h320 HFIT.out.le).mono ?_
    rintro e w7 ⟨⟨a7, c7, rfl, hc7⟩, hb7⟩
    have HB7 : Hid (Below w0.heap.size w0 w7) := HB6.out.trans (hb7.mono HB6.out.size)
    have HT7 := hidM (HT6.out.below hb7 HE6.out)
    have HC7 := hidM hc7
    have HR7 := hidM (HR6.out.below hb7)
    have HRL := hidM HR6.out.lt
    have HE7 : Hid (w2.heap.size ≤ w7.heap.size) := Nat.le_trans HE6.out hb7.size
    clear hc7 hb7 HT6 HR6
    go_wp2_with fail
    refine (rbits_any X w7 (by omega)).mono ?_
    rintro e w8 ⟨⟨v8, rfl, ho8⟩, hb8⟩
    have HB8 : Hid (Below w0.heap.size w0 w8) := HB7.out.trans (hb8.mono HB7.out.size)
    have HT8 := hidM (HT7.out.below hb8 HE7.out)
    have HC8 := hidM (HC7.out.below hb8)
    have HR8 := hidM (HR7.out.below hb8)
    have HE8 : Hid (w2.heap.size ≤ w8.heap.size) := Nat.le_trans HE7.out hb8.size
    obtain ⟨hol, g8, c8, hv8⟩ := ho8
    have hl8 : (bitsL X.data.toList).length = 8 * X.size := by rw [bitsL_len]; simp
    have hg8 : rb < g8 := by
      have h1 := (World.ownsRow.lt hol g8 (by rw [hv8]; rfl)).1
      have h2 := HR7.out.lt
      omega
    have hcap8 : 8 * X.size ≤ c8 := by
      rcases hol.2 with ⟨h0, _⟩ | ⟨g', cap', cur, hv, _, _, hnc, _⟩
      · rw [hv8] at h0; simp at h0
      · rw [hv8] at hv
        simp only [Value.slice.injEq] at hv
        rw [hl8] at hnc
        omega
    have HA8 : Hid (BAt w8 (some ⟨g8, 0, none⟩) (bitsL X.data.toList)) := by
      obtain ⟨a', c', hv, hb⟩ := hol.bat
      rw [hv8] at hv
      simp only [Value.slice.injEq] at hv
      rw [hv.1]; exact hb
    rw [hl8] at hv8
    subst hv8
    have HL8 := hidM hl8
    clear hol hb8 hl8 HT7 HC7 HR7 HB7
    obtain ⟨N, hN⟩ : ∃ N, N = 8 * X.size := ⟨_, rfl⟩
    have HNN := hidM hN
    rw [← hN] at hcap8 HL8 ⊢
    have hN480 : N ≤ 480 := by omega
    clear hN
    go_wp2
    go_loopw [9, 10] (fun v i wr => ∃ k t l c o : Nat, k ≤ 500 ∧ i = .int .i64 k ∧ t + l = N ∧ l ≤ c ∧ (l = 0 ∨ o = t) ∧ v = .slice (some ⟨g8, o, none⟩) l c ∧ RBox wr rb X t ∧ BAt wr (some ⟨g8, 0, none⟩) (bitsL X.data.toList) ∧ TabS wr b ln m w1.heap.size w2.heap.size ∧ CodesAt wr w6.heap.size a7 ln m ∧ Below w0.heap.size w0 wr) (fun _ i _ => 500 - (intOf i).toNat)
    case atStart => exact ⟨0, 0, N, c8, 0, by decide, rfl, by omega, hcap8, .inr rfl, rfl, HR8.out, HA8.out, HT8.out, HC8.out, HB8.out⟩
    case round =>
      obtain ⟨k, t, l, c, o, hk, rfl, htl, hlc, hot, rfl, hr, ha, ht, hc, hb⟩ := hrel
      have HR := hidM hr
      have HA := hidM ha
      have HTT := hidM ht
      have HC := hidM hc
      have HB := hidM hb
      have HTL := hidM htl
      have l480 : l ≤ 480 := by omega
      clear hr ha ht hc hb htl HR8 HA8 HT8 HC8 HB8
      by_cases hlt : k < 500
      · have HTX : Hid (t + l = 8 * X.size) := by unfold Hid; rw [← HNN.out]; exact HTL.out
        have HLB : Hid (((bitsL X.data.toList).drop t).length = l) := by unfold Hid; rw [List.length_drop, HL8.out]; have := HTL.out; omega
        have HBO : Hid (∀ w', BAt w' (some ⟨g8, 0, none⟩) (bitsL X.data.toList) → BAt w' (some ⟨g8, o, none⟩) ((bitsL X.data.toList).drop t)) := fun w' h => by
          rcases hot with h0 | rfl
          · exact .inl (List.eq_nil_of_length_eq_zero (by rw [HLB.out, h0]))
          · exact bat_drop h o
        have HVB : Hid (le X.data.toList / 2 ^ t = nb ((bitsL X.data.toList).drop t)) := by unfold Hid; rw [nb_drop, bitsL_nb]
        go_wp2_with fail
        refine (read_sep b rb ln m X t l wr HTT.out.tab (fun w' ho => (HTT.out.only (.inr HE2.out) ho).tab) HR.out (by omega) HTX.out h320 H15.out HFIT.out.le).mono ?_
        rintro e w9 ⟨⟨d, hrp, hr9⟩, ho9⟩
        rw [HVB.out] at hrp
        have HRP := hidM hrp
        have HR9 := hidM hr9
        have HA9 : Hid (BAt w9 (some ⟨g8, 0, none⟩) (bitsL X.data.toList)) := HA.out.only ho9 (fun bb o he => by simp at he; omega)
        have HT9 := hidM (HTT.out.only (.inr HE2.out) ho9)
        have HC9 : Hid (CodesAt w9 w6.heap.size a7 ln m) := HC.out.keep fun q h1 _ => ho9.block q (by have := HRL.out; omega)
        have HB9 : Hid (Below w0.heap.size w0 w9) := HB.out.trans (ho9.below HRW.out)
        obtain ⟨x9, r9, rfl⟩ : ∃ x9 r9, e = .returned (.tuple #[.int .i64 x9, .int .i64 r9]) := by
          rcases hrp with ⟨s', _, _, _, _, he, _⟩ | ⟨_, _, he, _⟩ | ⟨_, _, he, _⟩ <;> exact ⟨_, _, he⟩
        clear hrp hr9 ho9 HR HA HTT HC HB
        go_wp2_with fail
        refine (rread_any w6.heap.size a7 (some ⟨g8, o, none⟩) m c7 c l ln ((bitsL X.data.toList).drop t) w9 HC9.out (HBO.out _ HA9.out) HLB.out h320 H15.out (by omega)).mono ?_
        rintro e w10 ⟨hrr, n10, rfl⟩
        have hag := reads_agree ln m ((bitsL X.data.toList).drop t) l d _ e HFIT.out H15.out HLB.out HRP.out hrr
        clear hrr HRP
        rcases hag with ⟨sy, n, hn0, hnl, rfl, he, rfl⟩ | ⟨r, hr0, he, rfl⟩
        · simp only [Ending.returned.injEq, Value.tuple.injEq, Array.mk.injEq, List.cons.injEq, Value.int.injEq, and_true, true_and] at he
          obtain ⟨rfl, rfl⟩ := he
          obtain ⟨l', hl'⟩ : ∃ l', l' = l - d := ⟨_, rfl⟩
          have HL' : Hid (t + d + l' = 8 * X.size) := by unfold Hid; have := HTX.out; omega
          have HLN' : Hid (t + d + l' = N) := by unfold Hid; have := HTL.out; omega
          have e1 : (l : Int) - (d : Int) = (l' : Int) := by omega
          have e2 : l - d = l' := hl'.symm
          clear hl'
          by_cases hcd : d < c
          · obtain ⟨c', hc'⟩ : ∃ c', c' = c - d := ⟨_, rfl⟩
            have e3 : (c : Int) - (d : Int) = (c' : Int) := by omega
            have e4 : c - d = c' := hc'.symm
            have hcc' : 0 < c' := by omega
            have HLC : Hid (l' ≤ c') := by unfold Hid; omega
            have HOT : Hid (l' = 0 ∨ o + d = t + d) := by unfold Hid; omega
            clear hc' hot
            go_wp2_with fail
            refine (left_any rb X (t + d) l' _ (HR9.out.drewN n10) (by omega) HL'.out).mono ?_
            rintro e w11 ⟨rfl, n11, rfl⟩
            go_wp2
            go_roundw
            case rel => exact ⟨k + 1, t + d, l', c', o + d, by omega, by go_num, HLN'.out, HLC.out, HOT.out, rfl, HR9.out, HA9.out, HT9.out.keep fun _ _ _ => rfl, HC9.out, below_drewN HB9.out _⟩
            case measure => simp [intOf]; omega
          · obtain rfl : c = d := by omega
            obtain rfl : l' = 0 := by omega
            go_wp2_with fail
            refine (left_any rb X (t + c) 0 _ (HR9.out.drewN n10) (by omega) HL'.out).mono ?_
            rintro e w11 ⟨rfl, n11, rfl⟩
            go_wp2
            go_roundw
            case rel => exact ⟨k + 1, t + c, 0, 0, o, by omega, by go_num, HLN'.out, by omega, .inl rfl, rfl, HR9.out, HA9.out, HT9.out.keep fun _ _ _ => rfl, HC9.out, below_drewN HB9.out _⟩
            case measure => simp [intOf]; omega
        · simp only [Ending.returned.injEq, Value.tuple.injEq, Array.mk.injEq, List.cons.injEq, Value.int.injEq, and_true, true_and] at he
          obtain ⟨rfl, rfl⟩ := he
          have hrb : (r9 != 0) = true := by simpa using hr0
          have hrr : (r9 != r9) = false := by simp
          go_wp2_with fail
          refine (hawake_any _).mono ?_
          rintro e w11 ⟨rfl, hb11⟩
          have HB11 : Hid (Below w0.heap.size w0 w11) := (below_drewN HB9.out n10).trans (hb11.mono (below_drewN HB9.out n10).size)
          clear hb11
          go_wp2
          go_ret
          exact ⟨rfl, HB11.out⟩
      · go_wp2_with fail
        refine (hawake_any _).mono ?_
        rintro e w11 ⟨rfl, hb11⟩
        have HB11 : Hid (Below w0.heap.size w0 w11) := HB.out.trans (hb11.mono HB.out.size)
        clear hb11
        go_wp2
        go_ret
        exact ⟨rfl, HB11.out⟩
end Go.Proofs.Ytpidofgmbjkbiaa
