/- Two disks of the law's own, apart from each other. -/
import Derived.Test.YtbhbiejaneencaaProg
import Derived.Test.YtbhbiejaneencaaRuns
namespace Go.Proofs.Ytbhbiejaneencaa.D
open Go.RowKit
set_option linter.unusedVariables false

theorem Dk.of_kept {own : Nat → Prop} {w w' : World} {d g : Nat} {v : Value} {lie : List (List UInt8)} {ws : List (Nat × List UInt8)} (h : Dk w d g v lie ws) (hk : Kept own w w') (hno : ∀ k, mine d g v k → ¬ own k) : Dk w' d g v lie ws :=
  ⟨h.obj.of_kept hk (hno d (.inl rfl)), h.lying.of_kept hk (hno g (.inr (.inl rfl))), own_of_kept h.wait hk (fun k e => hno k (.inr (.inr e))), h.lie64, h.ws64, h.some_, h.few, h.within⟩
theorem Dk.mine_lt {w : World} {d g : Nat} {v : Value} {lie : List (List UInt8)} {ws : List (Nat × List UInt8)} (h : Dk w d g v lie ws) {k : Nat} (hk : mine d g v k) : k < w.heap.size := by
  rcases hk with rfl | rfl | e
  · exact h.obj.lt
  · exact h.lying.lt
  · exact h.own_lt k e
/-- A disk, and what waits and lies on it. -/
structure One where
  d : Nat
  g : Nat
  lie : List (List UInt8)
  ws : List (Nat × List UInt8)
structure Two (B : Nat) (w wr : World) (a b : One) (v u : Value) : Prop where
  one : Dk wr a.d a.g v a.lie a.ws
  two : Dk wr b.d b.g u b.lie b.ws
  apart : ∀ k, mine a.d a.g v k → ¬ mine b.d b.g u k
  low1 : ∀ k, mine a.d a.g v k → B ≤ k
  low2 : ∀ k, mine b.d b.g u k → B ≤ k
  base : B ≤ wr.heap.size
  bel : Below B w wr
theorem Two.swap {B : Nat} {w wr : World} {a b : One} {v u : Value} (h : Two B w wr a b v u) : Two B w wr b a u v :=
  ⟨h.two, h.one, fun k hk hm => h.apart k hm hk, h.low2, h.low1, h.base, h.bel⟩
theorem Two.below {B : Nat} {w wr w' : World} {a b : One} {v u : Value} (h : Two B w wr a b v u) (hb : Below wr.heap.size wr w') : Two B w w' a b v u :=
  ⟨h.one.below hb, h.two.below hb, h.apart, h.low1, h.low2, Nat.le_trans h.base hb.size, h.bel.trans (hb.mono h.base)⟩
/-- The first one turns. -/
theorem Two.turn {B : Nat} {w wr w' : World} {a b : One} {v u : Value} {lie' : List (List UInt8)} {ws' : List (Nat × List UInt8)} (h : Two B w wr a b v u) (ht : Turned wr a.d a.g v lie' ws' w') : ∃ v', Two B w w' ⟨a.d, a.g, lie', ws'⟩ b v' u := by
  obtain ⟨v', h1, h2, h3⟩ := ht
  have hnew : ∀ k, mine a.d a.g v' k → mine a.d a.g v k ∨ wr.heap.size ≤ k := fun k hk => by
    rcases hk with e | e | e
    · exact .inl (.inl e)
    · exact .inl (.inr (.inl e))
    · exact (h2 k e).imp (fun e => .inr (.inr e)) id
  refine ⟨v', ⟨h1, h.two.of_kept h3 (fun k hk hm => h.apart k hm hk), fun k hk hm => ?_, fun k hk => ?_, h.low2, Nat.le_trans h.base h3.size, h.bel.trans (h3.below h.base h.low1)⟩⟩
  · rcases hnew k hk with e | e
    · exact h.apart k e hm
    · have := h.two.mine_lt hm; omega
  · rcases hnew k hk with e | e
    · exact h.low1 k e
    · have := h.base; omega
/-- A new disk beside another one. -/
theorem Two.new {B : Nat} {w w1 w2 : World} {a : One} {v : Value} {n : Nat} {e : Ending} (hd : Dk w1 a.d a.g v a.lie a.ws) (hl : ∀ k, mine a.d a.g v k → B ≤ k) (hB : B ≤ w1.heap.size) (hb : Below B w w1) (h : NewDisk w1 n e w2) :
    Two B w w2 a ⟨w1.heap.size + 1, w1.heap.size, zeros n, []⟩ v (.slice none 0 0) := by
  obtain ⟨-, h1, h2⟩ := h
  have hlt : ∀ k, mine (w1.heap.size + 1) w1.heap.size (.slice none 0 0) k → w1.heap.size ≤ k := fun k hk => by
    rcases hk with e | e | e
    · omega
    · omega
    · cases e
  refine ⟨hd.below h2, h1, fun k hk hm => ?_, hl, fun k hk => Nat.le_trans hB (hlt k hk), Nat.le_trans hB h2.size, hb.trans (h2.mono hB)⟩
  have := hd.mine_lt hk
  have := hlt k hm
  omega
end Go.Proofs.Ytbhbiejaneencaa.D
