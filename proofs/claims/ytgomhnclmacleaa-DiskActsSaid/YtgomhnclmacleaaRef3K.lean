/- What a disk's calls leave of other rows. -/
import Derived.Test.YtgomhnclmacleaaProg
import Derived.Test.YtgomhnclmacleaaRef3J
namespace Go.Proofs.Ytgomhnclmacleaa.D
open Go.RowKit
open Go.Proofs.Ytgomhnclmacleaa.Z
set_option linter.unusedVariables false

section
variable {w w' : World} {d g : Nat} {vv : Value} {lie0 : List (List UInt8)} {ws0 : List (Nat × List UInt8)}
theorem Dk.notMine {b : Nat} {t : TypeId} (hd : Dk w d g vv lie0 ws0) (h : TypedAt w b t) (h1 : t ≠ 95) (h2 : t ≠ 106) (h3 : t ≠ 108) : ¬ mine d g vv b := by
  rintro (e | e | e)
  · exact h.ne hd.obj h1 e
  · exact h.ne hd.lying h2 e
  · rcases hd.form with ⟨rfl, _⟩ | ⟨k, cap, cur, rfl, hW, _⟩
    · cases e
    · have e2 : k = b := by simpa [Value.ownBlock] using e
      exact h.ne hW h3 e2.symm
theorem Whole.typed {b : Nat} {t : TypeId} {cs : List Value} (h : Whole w b t cs) : TypedAt w b t := ⟨_, _, h⟩
theorem RL.keptD {v : Value} {lie : List (List UInt8)} (h : RL w v lie) (hd : Dk w d g vv lie0 ws0) (hk : Kept (mine d g vv) w w') : RL w' v lie := by
  obtain ⟨a, cap, rfl, h2, h3, h4⟩ := h.form
  have hno : ∀ b, (Value.slice a lie.length cap).ownBlock = some b → lie ≠ [] → ¬ mine d g vv b := fun b e n => hd.notMine (h.typed b e n) (by decide) (by decide) (by decide)
  refine ⟨⟨a, cap, rfl, h2, h3, fun i s hs => ?_⟩, fun b e n => ?_⟩
  · obtain ⟨b, rfl, hc⟩ := h4 i s hs
    exact ⟨b, rfl, (World.cell?_of_block (hk.block b (World.block_lt_of_cell? w _ hc) (hno b rfl (fun e => by rw [e] at hs; simp at hs)))).trans hc⟩
  · have hl := (h.typed b e n).lt
    obtain ⟨cs, fr, e2⟩ := h.typed b e n
    exact ⟨cs, fr, (hk.block b hl (hno b e n)).trans e2⟩
theorem RW.keptD {v : Value} {ws : List (Nat × List UInt8)} (h : RW w v ws) (hd : Dk w d g vv lie0 ws0) (hk : Kept (mine d g vv) w w') : RW w' v ws := by
  obtain ⟨a, cap, rfl, h2, h3, h4⟩ := h.form
  have hno : ∀ b, (Value.slice a ws.length cap).ownBlock = some b → ws ≠ [] → ¬ mine d g vv b := fun b e n => hd.notMine (h.typed b e n) (by decide) (by decide) (by decide)
  refine ⟨⟨a, cap, rfl, h2, h3, fun i s hs => ?_⟩, fun b e n => ?_⟩
  · obtain ⟨b, rfl, hc, hc2⟩ := h4 i s hs
    have hb := hk.block b (World.block_lt_of_cell? w _ hc) (hno b rfl (fun e => by rw [e] at hs; simp at hs))
    exact ⟨b, rfl, (World.cell?_of_block hb).trans hc, (World.cell?_of_block hb).trans hc2⟩
  · have hl := (h.typed b e n).lt
    obtain ⟨cs, fr, e2⟩ := h.typed b e n
    exact ⟨cs, fr, (hk.block b hl (hno b e n)).trans e2⟩
theorem Whole.keptD {b : Nat} {t : TypeId} {cs : List Value} (h : Whole w b t cs) (hd : Dk w d g vv lie0 ws0) (hk : Kept (mine d g vv) w w') (h1 : t ≠ 95) (h2 : t ≠ 106) (h3 : t ≠ 108) : Whole w' b t cs :=
  h.of_kept hk (hd.notMine h.typed h1 h2 h3)
end
theorem Dk.farTb {w w' : World} {d g : Nat} {v : Value} {lie : List (List UInt8)} {ws : List (Nat × List UInt8)} {b : Nat} (h : Dk w d g v lie ws) (hb : ¬ mine d g v b) (k : Kept (fun q => q = b) w w') : Dk w' d g v lie ws :=
  ⟨h.obj.of_kept k (fun e => hb (.inl e.symm)), h.lying.of_kept k (fun e => hb (.inr (.inl e.symm))), own_of_kept h.wait k (fun q hq e => hb (.inr (.inr (by rw [hq, e])))), h.lie64, h.ws64, h.some_, h.few, h.within⟩
theorem RL.nil0 (w : World) : RW w (.slice none 0 0) [] := ⟨⟨none, 0, rfl, Nat.le_refl _, by decide, fun i p hp => by simp at hp⟩, fun b e _ => by cases e⟩
theorem zeros64 (n : Nat) : ∀ s ∈ zeros n, s.length = 64 := fun s hs => by
  have := List.eq_of_mem_replicate hs
  rw [this]; simp
/-- The law's state: the disk that the program made, and the document's, in block tb. -/
structure Both (w0 w : World) (D G tb : Nat) (la : Option Addr) (lc : Nat) (wa : Option Addr) (wc : Nat) (v : Value) (lie : List (List UInt8)) (ws : List (Nat × List UInt8)) : Prop where
  disk : Dk w D G v lie ws
  ours : ∀ k, mine D G v k → w0.heap.size ≤ k
  box : Whole w tb 32 [.slice la lie.length lc, .slice wa ws.length wc]
  doc : RD w (.slice la lie.length lc) (.slice wa ws.length wc) lie ws
  bel : Below w0.heap.size w0 w
theorem Both.below {w0 w w' : World} {D G tb : Nat} {la wa : Option Addr} {lc wc : Nat} {v : Value} {lie : List (List UInt8)} {ws : List (Nat × List UInt8)} (h : Both w0 w D G tb la lc wa wc v lie ws) (hb : Below w.heap.size w w') : Both w0 w' D G tb la lc wa wc v lie ws :=
  ⟨h.disk.below hb, h.ours, h.box.below hb h.box.lt, h.doc.below hb, h.bel.trans (hb.mono h.bel.size)⟩
end Go.Proofs.Ytgomhnclmacleaa.D
