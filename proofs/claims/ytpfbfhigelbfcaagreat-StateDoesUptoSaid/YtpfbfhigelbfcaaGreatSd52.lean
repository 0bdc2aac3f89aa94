/- Layer 22, the program: what the laws want of package state -/
import Derived.Test.YtpfbfhigelbfcaaGreatSd33
import Derived.Test.YtpfbfhigelbfcaaGreatSd48
import Derived.Test.YtpfbfhigelbfcaaGreatSd51
set_option linter.unusedSimpArgs false
set_option linter.unusedVariables false
namespace Go.Proofs.YtpfbfhigelbfcaaGreat
open Go.RowKit Go.Lib
theorem ix_ptr : ∀ W S F v L, Ix0 W S F v L → ∃ b, v = .pointer (some ⟨b, 0, none⟩) := by
 rintro W S F v L ⟨b, _, _, rfl, _⟩
 exact ⟨b, rfl⟩
theorem tx_ptr : ∀ W S F v L, Tx0 W S F v L → ∃ b, v = .pointer (some ⟨b, 0, none⟩) := by
 rintro W S F v L ⟨b, _, rfl, _⟩
 exact ⟨b, rfl⟩
theorem st_ok : StOk (Sx0 Ix0 Tx0) where
 keep := by
  rintro w w' S F v x ⟨B, M, n, vi, vt, SI, FI, ST, FT, rfl, h, hS, hF⟩ hk hs
  refine ⟨B, M, n, vi, vt, SI, FI, ST, FT, rfl, h.keep idx_ok tags_ok (fun b hb => hk b ?_) hs, hS, hF⟩
  rcases hb with e | e | e | e | e | e
  ·exact Or.inl ((hS b).2 (Or.inl e))
  ·exact Or.inl ((hS b).2 (Or.inr (Or.inl e)))
  ·exact Or.inl ((hS b).2 (Or.inr (Or.inr (Or.inl e))))
  ·exact Or.inr ((hF b).2 (Or.inl e))
  ·exact Or.inl ((hS b).2 (Or.inr (Or.inr (Or.inr e))))
  ·exact Or.inr ((hF b).2 (Or.inr e))
 lt := by
  rintro w S F v x ⟨B, M, n, vi, vt, SI, FI, ST, FT, rfl, h, hS, hF⟩ b hb
  refine h.lt idx_ok tags_ok b ?_
  rcases hb with hb | hb
  ·rcases (hS b).1 hb with e | e | e | e
   ·exact Or.inl e
   ·exact Or.inr (Or.inl e)
   ·exact Or.inr (Or.inr (Or.inl e))
   ·exact Or.inr (Or.inr (Or.inr (Or.inr (Or.inl e))))
  ·rcases (hF b).1 hb with e | e
   ·exact Or.inr (Or.inr (Or.inr (Or.inl e)))
   ·exact Or.inr (Or.inr (Or.inr (Or.inr (Or.inr e))))
 dis := by
  rintro w S F v x ⟨B, M, n, vi, vt, SI, FI, ST, FT, rfl, h, hS, hF⟩ b hb hf
  have hf := (hF b).1 hf
  have hn : b ≠ B ∧ b ≠ M := h.nb b (hf.elim (fun e => Or.inr (Or.inl e)) (fun e => Or.inr (Or.inr (Or.inr e))))
  rcases (hS b).1 hb with e | e | e | e
  ·exact hn.1 e
  ·exact hn.2 e
  ·exact hf.elim (idx_ok.dis h.i b e) (h.si b e).2
  ·exact hf.elim (h.st b e) (tags_ok.dis h.t b e)
 ok := by
  rintro w S F v x ⟨B, M, n, vi, vt, SI, FI, ST, FT, rfl, h, hS, hF⟩
  exact h.ok idx_ok tags_ok
 new := fun h1 h2 h3 s1 s2 s3 hr hn hl hi hj => znew_any idx_ok tags_ok ix_ptr tx_ptr h1 h2 h3 s1 s2 s3 hr hn hl hi hj
 apply := by
  rintro w S F v x y ⟨B, M, n, vi, vt, SI, FI, ST, FT, rfl, h, hS, hF⟩ hd hy hf
  exact zapply_any idx_ok tags_ok y h hS hF hd hy hf
 keepS := by
  rintro w S F v u x b ⟨B, M, n, vi, vt, SI, FI, ST, FT, rfl, h, hS, hF⟩ hu hub hbl hbr hf
  exact zkeep_any idx_ok tags_ok h hS hF hu hub hbl hbr hf
 here := by
  rintro w S F v x s ⟨B, M, n, vi, vt, SI, FI, ST, FT, rfl, h, hS, hF⟩ hf
  exact zhere_any idx_ok tags_ok s h hf
 loads := by
  rintro w S F v x ⟨B, M, n, vi, vt, SI, FI, ST, FT, rfl, h, hS, hF⟩ hf
  exact zloads_any idx_ok tags_ok h hf
 snapshot := by
  rintro w S F v x ⟨B, M, n, vi, vt, SI, FI, ST, FT, rfl, h, hS, hF⟩ hf
  exact zsnap_any idx_ok tags_ok h hF hf
end Go.Proofs.YtpfbfhigelbfcaaGreat

