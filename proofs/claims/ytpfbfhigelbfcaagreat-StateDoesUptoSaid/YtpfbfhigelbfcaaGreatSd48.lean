/- Layer 20, the program: what the laws want of package index -/
import Derived.Test.YtpfbfhigelbfcaaGreatSd42
import Derived.Test.YtpfbfhigelbfcaaGreatSd47
set_option linter.unusedSimpArgs false
set_option linter.unusedVariables false
namespace Go.Proofs.YtpfbfhigelbfcaaGreat
open Go.RowKit Go.Lib
/-- an index in memory: its own blocks are its own and its table's; it reads besides the rows of segments of its entries -/
def Ix0 (w : World) (S F : Nat → Prop) (v : Value) (L : List Pe) : Prop := ∃ bI ST vT, v = .pointer (some ⟨bI, 0, none⟩) ∧ S = (fun k => k = bI ∨ ST k) ∧ IxB w bI ST F vT L ∧ insLe L 2097152
theorem op0 {w w' : World} {bI : Nat} {ST F : Nat → Prop} {vT : Value} {L : List Pe} {e : Ending} (h : OpB w bI ST F vT L e w') (hi : insLe L 2097152) : OpQ Ix0 w (fun k => k = bI ∨ ST k) F (.pointer (some ⟨bI, 0, none⟩)) L e w' := by
 obtain ⟨ST', F', h1, h2, h3, h4, h5⟩ := h
 exact ⟨fun k => k = bI ∨ ST' k, F', h1, ⟨bI, ST', vT, rfl, rfl, h2, hi⟩, h3, fun b hb => hb.elim (fun e => Or.inl (Or.inl e)) (fun e => (h4 b e).imp Or.inr id), h5⟩
theorem insLe.up {L : List Pe} {k m : Nat} (h : insLe L k) (hk : k ≤ m) : insLe L m := fun x hx => Nat.le_trans (h x hx) hk
theorem idx_ok : IdxOk Ix0 where
 keep := by
  rintro w w' S F v L ⟨bI, ST, vT, rfl, rfl, ⟨T, sl, h, hp⟩, hi⟩ hk hs
  exact ⟨bI, ST, vT, rfl, rfl, ⟨T, sl, h.keep (fun k hk2 => hk k (hk2.elim (fun e => Or.inl (Or.inl e)) (fun e => e.elim (fun e => Or.inl (Or.inr e)) Or.inr))) hs, hp⟩, hi⟩
 lt := by
  rintro w S F v L ⟨bI, ST, vT, rfl, rfl, ⟨T, sl, h, hp⟩, hi⟩ b hb
  exact h.all_lt b (hb.elim (fun e => e.elim Or.inl (fun e => Or.inr (Or.inl e))) (fun e => Or.inr (Or.inr e)))
 dis := by
  rintro w S F v L ⟨bI, ST, vT, rfl, rfl, ⟨T, sl, h, hp⟩, hi⟩ b hb hf
  exact hb.elim (h.dis b hf).2 (h.dis b hf).1
 ok := by
  rintro w S F v L ⟨bI, ST, vT, rfl, rfl, h, hi⟩
  exact ⟨h.row, h.dok⟩
 new := by
  intro w N p n c Ls h hpc hnc hcm hn hi
  refine (inew_any Tg.grow_any h hn (hi.up (by decide))).mono ?_
  rintro e w' ⟨bI, ST, F, vT, h1, h2⟩
  exact ⟨_, _, F, h1, ⟨bI, ST, vT, rfl, rfl, h2.ix, (newE_ins hi).up (by decide)⟩, fun b hb => hb.elim (fun e => by rw [e]; exact h2.i) (h2.s b), fun b hb => Or.inr (h2.f b hb), h2.le⟩
 apply := by
  rintro w S F v L x ⟨bI, ST, vT, rfl, rfl, h, hi0⟩ hx hL hi
  exact (iapply_any Tg.grow_any x h hx hL hi).mono fun e w' ho => op0 ho (applyE_ins hi)
 keepS := by
  rintro w S F v u L B ⟨bI, ST, vT, rfl, rfl, h, hi0⟩ hu hub hB hL hi
  obtain ⟨p2, c2, rfl, hg, _⟩ := hu
  refine (ikeep_any Tg.grow_any row_ok p2 B.length c2 B h hg (fun hn b off e => ?_) hB hL hi0).mono fun e w' ho => op0 ho (keepR_ins hi0 B)
  have h1 := hub (fun e => hn (by rw [e]; rfl)) b (by rw [e]; rfl)
  exact ⟨fun e => h1 (Or.inr e), fun e => h1 (Or.inl e)⟩
 row := by
  rintro w S F v L ⟨bI, ST, vT, rfl, rfl, h, hi⟩ hL
  exact irow_any row_ok h (hi.up (by decide)) hL
end Go.Proofs.YtpfbfhigelbfcaaGreat

