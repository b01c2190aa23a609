import Derived.Calls
import Derived.StepT
namespace Go.Proofs.YtdbkmcjdkiljaaaDoor
open Go

def resW {α : Type} : Result α → World | .ok _ w => w | .halt _ w => w
theorem setCell_drawn (w : World) (a : Addr) (v : Value) : (w.setCell a v).drawn = w.drawn := rfl
theorem freeze_drawn (w : World) (a : Addr) (n : Nat) : (w.freeze a n).drawn = w.drawn := by
  unfold World.freeze
  repeat' (first | rfl | split)
theorem ask_drawn {α : Type} (k : Ask α) : ∀ w : World, w.drawn ≤ (w.ask k).2.drawn := by
  induction k with
  | done a => intro w; exact Nat.le_refl _
  | ask what range k ih =>
    intro w
    unfold World.ask
    dsimp only
    split
    · exact ih _ _
    · exact Nat.le_trans (Nat.le_succ w.drawn) (ih _ { w with drawn := w.drawn + 1 })
theorem sys_drawn (w : World) (c : Sys) : w.drawn ≤ (w.sys c).2.drawn := by
  unfold World.sys
  have h := ask_drawn (Kernel.perform c w.os) w
  split
  · exact Nat.le_refl _
  · rename_i he
    rw [he] at h
    exact h
theorem far_drawn {p : Program} {w : World} {a : Addr} {v : Value} {t : Bool} {r : World × List Addr} (h : w.farStore p a v t = .ok r) : r.1.drawn = w.drawn := by
  unfold World.farStore at h
  split at h
  · split at h
    · rename_i r' hr
      cases h
      unfold World.viewStore at hr
      simp only [bind, Except.bind, pure, Except.pure] at hr
      repeat' (split at hr <;> try contradiction)
      all_goals (try (cases hr; rfl))
    · cases h
  · cases h
theorem run_drawn {α : Type} (p : Program) (s : Sem α) : ∀ w : World, w.drawn ≤ (resW (s.run p w)).drawn := by
  induction s with
  | pure a => intro w; exact Nat.le_refl _
  | load m a k ih =>
    intro w
    unfold Sem.run
    split
    · exact ih _ _
    · split
      · exact ih _ _
      · exact Nat.le_refl _
  | store m a v k ih =>
    intro w
    have hs : ∀ v, w.drawn ≤ (resW (match w.cell? a with
      | some _ => if w.frozen? a then .halt (.unsupported (.unsafePointer "a write to bytes that a string shares")) w else k.run p (w.setCell a v)
      | none => match w.farStore p a v (m == .atomic) with
        | .ok (w, _) => k.run p w
        | .error h => .halt h w)).drawn := fun v => by
      split
      · split
        · exact Nat.le_refl _
        · exact ih (w.setCell a _)
      · split
        · rename_i hf
          have := far_drawn hf
          dsimp only at this
          rw [← this]
          exact ih _
        · exact Nat.le_refl _
    cases v <;> first | exact Nat.le_refl _ | exact hs _
  | new o k ih => intro w; exact ih _ { w with heap := w.heap.push o }
  | shape r k ih => intro w; exact ih _ w
  | freeze a n k ih => intro w; unfold Sem.run; have := ih (w.freeze a n); rw [freeze_drawn] at this; exact this
  | frozen a k ih => intro w; exact ih _ w
  | getObj r k ih =>
    intro w
    unfold Sem.run
    split
    · exact Nat.le_refl _
    · exact ih _ _
    · exact Nat.le_refl _
  | setObj r o k ih =>
    intro w
    unfold Sem.run
    split
    · exact Nat.le_refl _
    · exact ih { w with heap := w.heap.setIfInBounds r o }
    · exact Nat.le_refl _
  | choose q k ih =>
    intro w
    unfold Sem.run
    split
    · exact ih _ _
    · exact Nat.le_trans (Nat.le_succ w.drawn) (ih _ { w with drawn := w.drawn + 1 })
  | sys c k ih => intro w; exact Nat.le_trans (sys_drawn w c) (ih _ _)
  | program k ih => intro w; exact ih _ w
  | mark m k ih => intro w; exact ih w
  | halt h => intro w; exact Nat.le_refl _
theorem run_ok {α : Type} {p : Program} {s : Sem α} {w w' : World} {a : α} (h : s.run p w = .ok a w') : w.drawn ≤ w'.drawn := by
  have := run_drawn p s w; rw [h] at this; exact this
theorem run_halt {α : Type} {p : Program} {s : Sem α} {w w' : World} {a : Halt} (h : s.run p w = .halt a w') : w.drawn ≤ w'.drawn := by
  have := run_drawn p s w; rw [h] at this; exact this

def gW : GStep → World
  | .go _ w _ => w
  | .comm _ _ _ _ w _ => w
  | .spawn _ _ w _ => w
  | .count _ w _ => w
  | .timer _ _ w _ => w
  | .alone _ _ w _ => w
  | .newcoro _ _ _ w _ => w
  | .coroswitch _ _ _ w _ => w
  | .collect _ w _ => w
  | .watch _ w _ => w
  | .ended _ w _ => w
theorem gW_after (es : Array Event) (s : GStep) : gW (GStep.after es s) = gW s := by cases s <;> rfl
theorem throw_W (fr : Frame) (m : String) (w : World) : gW (endThrow fr m w) = w := rfl
theorem printing_W (p : Program) (fr : Frame) (v : Value) (w : World) : gW (endPrinting p fr v w) = w := by
  unfold endPrinting
  dsimp only
  split <;> rfl
theorem endWith_W (w : World) (fd : Nat) (text : ByteArray) (o : Outcome) : w.drawn ≤ (gW (endWith w fd text o)).drawn := by
  unfold endWith
  have h := sys_drawn w (.write fd text)
  dsimp only
  split
  · rename_i he; rw [he] at h; split <;> exact h
  · rename_i he; rw [he] at h; exact h
  · rename_i he; rw [he] at h; exact h
theorem fatal_W (p : Program) (fr : Frame) (cs : List Frame) (d : Option Dying) (m : String) (w : World) : w.drawn ≤ (gW (endFatal p fr cs d m w)).drawn := by
  unfold endFatal
  dsimp only
  split
  · rename_i he; exact run_ok he
  · rename_i he; exact run_halt he
  · rename_i he; exact run_halt he
theorem writeOn_W (p : Program) (fr : Frame) (d : Dying) (f : Fatal) (w : World) : w.drawn ≤ (gW (writeOn p fr d f w)).drawn := by
  unfold writeOn
  dsimp only
  split
  · exact Nat.le_refl _
  · rw [Sem.runT_eq]
    split
    · rename_i he; exact run_ok (Prod.mk.inj he).1
    · rename_i he; exact run_halt (Prod.mk.inj he).1
    · rename_i he; exact run_halt (Prod.mk.inj he).1
    · rename_i he; exact run_halt (Prod.mk.inj he).1
theorem die_W (p : Program) (fr : Frame) (d : Dying) (w : World) : w.drawn ≤ (gW (die p fr d w)).drawn := by
  unfold die
  split
  · exact writeOn_W ..
  · split
    · split
      · exact Nat.le_refl _
      · exact endWith_W ..
    · dsimp only
      split
      · exact Nat.le_refl _
      · split
        · rename_i he; exact run_ok he
        · rename_i he; exact run_halt he
      · rw [Sem.runT_eq]
        dsimp only
        rw [gW_after]
        split
        · rename_i he; exact run_ok he
        · rename_i he; exact run_ok he
        · rename_i he; exact run_halt he
        · rename_i he; rw [printing_W]; exact run_halt he
        · exact Nat.le_refl _
      · exact Nat.le_refl _
theorem return_W (p : Program) (main : Bool) (fr : Frame) (cs : List Frame) (d : Option Dying) (v : Value) (w : World) : gW (doReturn p main fr cs d v w) = w := by
  unfold doReturn
  dsimp only
  repeat' (first | rfl | split)
theorem early_W (p : Program) (fr : Frame) (cs : List Frame) (d : Option Dying) (g : Nat) (w : World) : w.drawn ≤ (gW (early p fr cs d g w)).drawn := by
  unfold early
  dsimp only
  have H := run_drawn p (choose (.early g)) w
  repeat' split
  all_goals first | exact Nat.le_refl _ | (simp_all [resW, gW]; done)
theorem ite_W {c : Prop} [Decidable c] {a b : GStep} {w : World} (ha : w.drawn ≤ (gW a).drawn) (hb : w.drawn ≤ (gW b).drawn) : w.drawn ≤ (gW (if c then a else b)).drawn := by
  split
  · exact ha
  · exact hb
theorem deferred_W (p : Program) (fr : Frame) (cs : List Frame) (d : Option Dying) (x : Deferred) (w : World) : w.drawn ≤ (gW (callDeferred p fr cs d x w)).drawn := by
  unfold callDeferred
  rw [Sem.runT_eq]
  dsimp only
  refine ite_W (Nat.le_refl _) ?_
  rw [gW_after]
  have H := run_drawn p (invoke x.target x.args) w
  generalize (invoke x.target x.args).run p w = r at *
  cases r with
  | ok a w1 =>
    simp only [resW] at H
    split <;> first | exact H | (rename_i he; cases he; exact H) | (rename_i he; cases he; done) | (rename_i he; cases he; split <;> exact H)
  | halt a w1 =>
    simp only [resW] at H
    split <;> first | exact H | (rename_i he; cases he; exact H) | (rename_i he; cases he; done) | (rename_i he; cases he; exact Nat.le_trans H (fatal_W ..))
theorem unwind_W (p : Program) (main : Bool) (fr : Frame) (cs : List Frame) (d : Option Dying) (w : World) : w.drawn ≤ (gW (unwind p main fr cs d w)).drawn := by
  unfold unwind
  split
  · rw [Sem.runT_eq]
    dsimp only
    rw [gW_after]
    split
    · rename_i he; exact run_ok he
    · rename_i he; exact run_halt he
  · exact deferred_W ..
  · split
    · exact Nat.le_refl _
    · split
      · exact Nat.le_refl _
      · split
        · exact Nat.le_refl _
        · split
          · split
            · exact Nat.le_refl _
            · split
              · rename_i he; exact run_ok he
              · rename_i he; exact run_halt he
              · rename_i he; exact run_halt he
          · split
            · rw [printing_W]; exact Nat.le_refl _
            · exact Nat.le_refl _
    · split
      · rw [return_W]; exact Nat.le_refl _
      · rw [Sem.runT_eq]
        dsimp only
        rw [gW_after]
        split
        · rename_i he; rw [return_W]; exact run_ok he
        · rename_i he; exact run_halt he
        · rename_i he; exact run_halt he
theorem apply_W (p : Program) (listen : Bool) (fr : Frame) (cs : List Frame) (d : Option Dying) (s : Sem Next) (w : World) : w.drawn ≤ (gW (stepG.apply p listen fr cs d s w)).drawn := by
  unfold stepG.apply
  have H := run_drawn p s w
  have e : (if listen = true then s.runT p w #[] else (s.run p w, #[])).1 = s.run p w := by split <;> simp
  generalize (if listen = true then s.runT p w #[] else (s.run p w, #[])) = q at *
  obtain ⟨r, es⟩ := q
  dsimp only at e
  subst e
  dsimp only
  rw [gW_after]
  generalize s.run p w = r at *
  cases r with
  | ok a w1 =>
    simp only [resW] at H
    split <;> first | exact H | (rename_i he; cases he; exact H) | (rename_i he; cases he; done) | (rename_i he; cases he; split <;> exact H) | (rename_i he; cases he; refine Nat.le_trans H (ite_W ?_ ?_) <;> exact Nat.le_refl _)
  | halt a w1 =>
    simp only [resW] at H
    split <;> first | exact H | (rename_i he; cases he; exact H) | (rename_i he; cases he; done) | (rename_i he; cases he; exact Nat.le_trans H (fatal_W ..)) | (rename_i he; cases he; exact Nat.le_trans H (early_W ..))
theorem oper_W (p : Program) (listen : Bool) (fr : Frame) (cs : List Frame) (d : Option Dying) (w : World) : w.drawn ≤ (gW (stepG.oper p listen fr cs d w)).drawn := by
  unfold stepG.oper
  split
  · exact Nat.le_refl _
  · split <;> exact apply_W ..
theorem leave_W (p : Program) (main : Bool) (fr : Frame) (cs : List Frame) (d : Option Dying) (l : Nat) (j : Option Code) (w : World) :
    w.drawn ≤ (gW (GStep.after (seen p fr.fn ((Instr.endRound l j).events p w #[])) (match (Instr.endRound l j).run p w with
        | .ok v w => doReturn p main fr cs d v w
        | .halt _ w => .ended (.stuck "range over a function: no such loop" (fr.pos p)) w))).drawn := by
  rw [gW_after]
  split
  · rename_i he; rw [return_W]; exact run_ok he
  · rename_i he; exact run_halt he
set_option maxHeartbeats 4000000 in
theorem exec_W (p : Program) (main listen : Bool) (fr : Frame) (cs : List Frame) (d : Option Dying) (w : World) : w.drawn ≤ (gW (stepG.exec p main listen fr cs d w)).drawn := by
  unfold stepG.exec
  simp only [Sem.runT_eq]
  split
  all_goals try simp only [Option.elim]
  all_goals repeat' (first | exact Nat.le_refl _ | exact apply_W .. | exact oper_W .. | rw [gW_after] | (rename_i he; first | exact run_ok he | exact run_halt he | (rw [return_W]; exact run_ok he) | exact Nat.le_trans (run_ok he) (apply_W ..)) | split)
theorem stepG_W (p : Program) (main listen : Bool) (g : Goroutine) (w : World) : w.drawn ≤ (gW (stepG p main g w listen)).drawn := by
  unfold stepG
  dsimp only
  split
  · exact die_W ..
  · exact exec_W ..
  · exact unwind_W ..
def sW (n : Nat) : Stepped → Prop
  | .next m => n ≤ m.world.drawn
  | .ended _ _ => True
theorem sW_mono {a b : Nat} {s : Stepped} (h : sW b s) (hl : a ≤ b) : sW a s := by
  cases s with
  | next m => exact Nat.le_trans hl h
  | ended o w => trivial
theorem look_W (p : Program) (gs : Array Goroutine) (rest : Rest) (w : World) : sW w.drawn (look p gs rest w) := by
  unfold look
  split
  · dsimp only
    split
    · trivial
    · split
      · trivial
      · split
        · rename_i he; have h := run_ok he; exact h
        · trivial
        · trivial
  · trivial
theorem comm_W (p : Program) (rest : Rest) (gs : Array Goroutine) (i : Nat) (g : Goroutine) (cases : Array CommCase) (b : Bool) (sh : CommShape) (w : World) : sW w.drawn (communicate p rest gs i g cases b sh w).1 := by
  unfold communicate
  dsimp only
  split
  · trivial
  · split
    · split
      · split
        · rename_i hw
          unfold waitingAt at hw
          repeat' split at hw
          all_goals first | (cases hw; exact Nat.le_refl _) | cases hw
        · trivial
      · exact Nat.le_refl _
    · split
      · trivial
      · rename_i he
        have h1 := run_ok he
        repeat' (first | exact h1 | trivial | (rename_i he2; have h2 := run_ok he2; exact Nat.le_trans h1 h2) | (rename_i he2; have h2 := run_halt he2; exact Nat.le_trans h1 h2) | split)
theorem timer_W {m : Machine} {op : TimerOp} {r : Value × Machine} (h : timerOp m op = .ok r) : r.2.world.drawn = m.world.drawn := by
  have hr : ∀ (m : Machine) k t a b, (retime m k t a b).2.world.drawn = m.world.drawn := fun m k t a b => by
    unfold retime drain
    dsimp only
    repeat' (first | rfl | split)
  unfold timerOp at h
  split at h
  · split at h
    · cases h; rfl
    · split at h
      · split at h
        · cases h
        · cases h; rfl
      · cases h
  · unfold timerOp.named at h
    split at h
    · cases h; exact hr ..
    · cases h
  · split at h
    · rename_i ho
      unfold timerOp.named at h
      split at h
      · cases h
        rw [hr]
        unfold timerOp.opened at ho
        repeat' split at ho
        all_goals first | (cases ho; rfl) | cases ho
      · cases h
    · cases h
  · cases h; rfl
theorem serve_W (p : Program) (m : Machine) (k : Nat) : sW m.world.drawn (serve p m k) := by
  unfold serve
  dsimp only
  repeat' (first | trivial | exact Nat.le_refl _ | split)
theorem runT_W (p : Program) (m : Machine) (i : Nat) (listen : Bool) : sW m.world.drawn (runT p m i listen).1 := by
  unfold runT
  dsimp only
  generalize hs : stepG p (i == 0) _ m.world listen = s
  have H : m.world.drawn ≤ (gW s).drawn := by rw [← hs]; exact stepG_W ..
  clear hs
  cases s with
  | ended o w es => trivial
  | comm g c b sh w es => exact sW_mono (comm_W ..) H
  | go g w es => exact H
  | spawn g c w es => exact H
  | count g w es => dsimp only; split <;> first | trivial | exact H
  | alone g on w es => exact H
  | collect g w es => exact sW_mono (look_W ..) H
  | watch g w es => exact H
  | newcoro g c d w es => exact H
  | coroswitch g c e w es =>
    dsimp only
    split
    · exact H
    · exact H
    · trivial
  | timer g op w es =>
    dsimp only
    split
    · rename_i ho
      have := timer_W ho
      show m.world.drawn ≤ _
      dsimp only at this ⊢
      rw [this]
      exact H
    · exact H
    · trivial
    · trivial
def mW (n : Nat) : Move → Prop
  | .goroutine m _ => n ≤ m.world.drawn
  | .machine s _ => sW n s
theorem mW_mono {a b : Nat} {s : Move} (h : mW b s) (hl : a ≤ b) : mW a s := by
  cases s with
  | goroutine m i => exact Nat.le_trans hl h
  | machine s o => exact sW_mono h hl
theorem askOn_W (p : Program) (m : Machine) : mW m.world.drawn (askOn p m) := by
  have hp : ∀ (rs : List Nat) (m : Machine), mW m.world.drawn (match (choose (.sched rs.length)).run p m.world with
      | .halt _ w => .machine (.ended (.stuck "sched" "") w)
      | .ok k world =>
        if rs.length ≤ 1 then .goroutine { m with world } (rs.getD k 0) else
        match (choose (.extern "sched.slice" 65536)).run p world with
        | .halt _ w => .machine (.ended (.stuck "sched.slice" "") w)
        | .ok n world => .goroutine { m with world, rest := { m.rest with slice := if n = 0 then none else some (rs.getD k 0, n) } } (rs.getD k 0)) := fun rs m => by
    split
    · trivial
    · rename_i h1
      split
      · exact run_ok h1
      · split
        · trivial
        · rename_i h2
          exact Nat.le_trans (run_ok h1) (run_ok h2)
  unfold askOn
  dsimp only
  split
  · trivial
  · rename_i h0
    have h1 := run_ok h0
    split
    · exact sW_mono (serve_W ..) h1
    · split
      · split
        · exact h1
        · split
          · exact h1
          · split <;> trivial
      · split
        · exact mW_mono (hp _ { m with world := _ }) h1
        · split
          · trivial
          · rename_i h2; have h3 := run_ok h2; exact mW_mono (hp _ { m with world := _ }) (Nat.le_trans h1 h3)
          · rename_i h2; have h3 := run_ok h2; exact Nat.le_trans h1 h3
          · rename_i h2; have h3 := run_ok h2; exact mW_mono (hp _ (({ m with world := _ } : Machine).advanceTo _)) (Nat.le_trans h1 h3)
theorem ask_W (p : Program) (m : Machine) : mW m.world.drawn (ask p m) := by
  unfold ask
  split
  · split
    · trivial
    · rename_i h0
      have h1 := run_ok h0
      have h2 := look_W p m.gs m.rest ‹World›
      split
      · rename_i he
        rw [he] at h2
        exact mW_mono (askOn_W ..) (Nat.le_trans h1 h2)
      · exact sW_mono h2 h1
    · rename_i h0
      have h1 := run_ok h0
      exact mW_mono (askOn_W ..) h1
  · exact askOn_W ..
theorem move_W (p : Program) (m : Machine) : mW m.world.drawn (move p m) := by
  unfold move
  split
  · split
    · exact Nat.le_refl _
    · trivial
  · split
    · split
      · exact Nat.le_refl _
      · exact ask_W p { m with rest := { m.rest with slice := none } }
    · exact ask_W ..
theorem step_W (p : Program) (m : Machine) : sW m.world.drawn (step p m) := by
  unfold step stepT
  have h := move_W p m
  split
  · rename_i he
    rw [he] at h
    exact sW_mono (runT_W ..) h
  · rename_i he
    rw [he] at h
    exact h
theorem steps_W {p : Program} {m m' : Machine} (h : Steps p m m') : m.world.drawn ≤ m'.world.drawn := by
  obtain ⟨n, hn⟩ := h
  induction n generalizing m with
  | zero => simp only [runN] at hn; cases hn; exact Nat.le_refl _
  | succ n ih =>
    simp only [runN] at hn
    have h := step_W p m
    cases hs : step p m with
    | next m1 => rw [hs] at hn h; exact Nat.le_trans h (ih hn)
    | ended o w => rw [hs] at hn; cases hn
/-- Whatever a call answers: the tape was never asked fewer times behind it than ahead of it. -/
theorem calls_drawn {P : Program} {f : FuncId} {args : Array Value} {w : World} {v : Value} {R : World → Prop} (h : Calls P f args w fun e w' => e = .returned v ∧ R w') : Calls P f args w fun e w' => e = .returned v ∧ R w' ∧ w.drawn ≤ w'.drawn := by
  intro cs
  obtain ⟨e, w', fr, ⟨rfl, hr⟩, hc, hf, hl⟩ := h cs
  exact ⟨_, w', fr, ⟨rfl, hr, steps_W hc⟩, hc, hf, hl⟩
#print axioms calls_drawn
end Go.Proofs.YtdbkmcjdkiljaaaDoor
