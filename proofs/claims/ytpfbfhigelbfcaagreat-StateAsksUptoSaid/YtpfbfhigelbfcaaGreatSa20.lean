/- Layer 22, the program: a state in memory; Layer 22, the program: Digest, Tag, List, Names, Count. (gen_stzs.py) -/
import Derived.Test.YtpfbfhigelbfcaaGreatSa8
import Derived.Test.YtpfbfhigelbfcaaGreatSa16
import Derived.Test.YtpfbfhigelbfcaaGreatSa17
import Derived.Test.YtpfbfhigelbfcaaGreatSa19
set_option linter.unusedSimpArgs false
set_option linter.unusedVariables false
namespace Go.Proofs.YtpfbfhigelbfcaaGreat
open Go.RowKit Go.Lib
/-- block B is a state: its index, its names, its map of loads -/
def Hst (W : World) (B : Nat) (vi vt : Value) (M : Nat) : Prop := W.heap[B]? = some (.cells #[vi, vt, .map (some M)] 95 (0, 0))
theorem Hst.cells {W : World} {B M : Nat} {vi vt : Value} (h : Hst W B vi vt M) : W.cell? ⟨B, 0, none⟩ = some vi ∧ W.cell? ⟨B, 1, none⟩ = some vt ∧ W.cell? ⟨B, 2, none⟩ = some (.map (some M)) :=
  ⟨cell_of_row _ _ 0 _ _ _ h, cell_of_row _ _ 1 _ _ _ h, cell_of_row _ _ 2 _ _ _ h⟩
theorem Hst.frozen {W : World} {B M : Nat} {vi vt : Value} (h : Hst W B vi vt M) (j : Nat) : W.frozen? ⟨B, j, none⟩ = false := frozen_of_row W B j _ _ h
theorem Hst.same {W V : World} {B M : Nat} {vi vt : Value} (h : Hst W B vi vt M) (hb : V.heap[B]? = W.heap[B]?) : Hst V B vi vt M := hb.trans h
theorem Hst.lt {W : World} {B M : Nat} {vi vt : Value} (h : Hst W B vi vt M) : B < W.heap.size := (Array.getElem?_eq_some_iff.1 h).1
theorem Hst.put {W : World} {B M : Nat} {vi vt : Value} (h : Hst W B vi vt M) (N : Nat) : Hst (W.setCell ⟨B, 2, none⟩ (.map (some N))) B vi vt N := heap_setCell_same W B 2 _ _ _ h
section
variable (Ix : World → (Nat → Prop) → (Nat → Prop) → Value → List Pe → Prop) (Tx : World → (Nat → Prop) → (Nat → Prop) → Value → List Pt → Prop)
/-- a state, its parts in blocks of their own -/
structure Sz0 (w : World) (B M n : Nat) (vi vt : Value) (SI FI ST FT : Nat → Prop) (x : Ps) : Prop where
  h : Hst w B vi vt M
  i : Ix w SI FI vi x.D
  t : Tx w ST FT vt x.T
  m : Mj w M n (getL x.L)
  nb : ∀ b, SI b ∨ FI b ∨ ST b ∨ FT b → b ≠ B ∧ b ≠ M
  si : ∀ b, SI b → ¬ ST b ∧ ¬ FT b
  st : ∀ b, ST b → ¬ FI b
  r : rowL x.L
  inn : x.In
def Sx0 (w : World) (S F : Nat → Prop) (v : Value) (x : Ps) : Prop := ∃ B M n vi vt SI FI ST FT, v = .pointer (some ⟨B, 0, none⟩) ∧ Sz0 Ix Tx w B M n vi vt SI FI ST FT x ∧ (∀ b, S b ↔ b = B ∨ b = M ∨ SI b ∨ ST b) ∧ (∀ b, F b ↔ FI b ∨ FT b)
end
section
variable {Ix : World → (Nat → Prop) → (Nat → Prop) → Value → List Pe → Prop} {Tx : World → (Nat → Prop) → (Nat → Prop) → Value → List Pt → Prop}
theorem Sz0.bm {w : World} {B M n : Nat} {vi vt : Value} {SI FI ST FT : Nat → Prop} {x : Ps} (h : Sz0 Ix Tx w B M n vi vt SI FI ST FT x) : B ≠ M := fun e => by
  subst e
  exact h.m.noCells h.h
theorem Sz0.keep (hI : IdxOk Ix) (hT : TagOk Tx) {w w' : World} {B M n : Nat} {vi vt : Value} {SI FI ST FT : Nat → Prop} {x : Ps} (h : Sz0 Ix Tx w B M n vi vt SI FI ST FT x) (hk : ∀ b, b = B ∨ b = M ∨ SI b ∨ FI b ∨ ST b ∨ FT b → w'.heap[b]? = w.heap[b]?) (hs : w.heap.size ≤ w'.heap.size) : Sz0 Ix Tx w' B M n vi vt SI FI ST FT x :=
  ⟨h.h.same (hk B (Or.inl rfl)), hI.keep h.i (fun b hb => hk b (hb.elim (fun e => Or.inr (Or.inr (Or.inl e))) (fun e => Or.inr (Or.inr (Or.inr (Or.inl e)))))) hs,
   hT.keep h.t (fun b hb => hk b (hb.elim (fun e => Or.inr (Or.inr (Or.inr (Or.inr (Or.inl e))))) (fun e => Or.inr (Or.inr (Or.inr (Or.inr (Or.inr e))))))) hs,
   h.m.same (hk M (Or.inr (Or.inl rfl))), h.nb, h.si, h.st, h.r, h.inn⟩
theorem Sz0.lt (hI : IdxOk Ix) (hT : TagOk Tx) {w : World} {B M n : Nat} {vi vt : Value} {SI FI ST FT : Nat → Prop} {x : Ps} (h : Sz0 Ix Tx w B M n vi vt SI FI ST FT x) (b : Nat) (hb : b = B ∨ b = M ∨ SI b ∨ FI b ∨ ST b ∨ FT b) : b < w.heap.size := by
  rcases hb with rfl | rfl | hb | hb | hb | hb
  · exact h.h.lt
  · exact h.m.lt
  · exact hI.lt h.i b (Or.inl hb)
  · exact hI.lt h.i b (Or.inr hb)
  · exact hT.lt h.t b (Or.inl hb)
  · exact hT.lt h.t b (Or.inr hb)
theorem Sz0.later (hI : IdxOk Ix) (hT : TagOk Tx) {w w' : World} {B M n : Nat} {vi vt : Value} {SI FI ST FT : Nat → Prop} {x : Ps} (h : Sz0 Ix Tx w B M n vi vt SI FI ST FT x) (hb : Below w.heap.size w w') : Sz0 Ix Tx w' B M n vi vt SI FI ST FT x :=
  h.keep hI hT (fun b hb2 => hb.block b (h.lt hI hT b hb2)) hb.size
theorem Sz0.ok (hI : IdxOk Ix) (hT : TagOk Tx) {w : World} {B M n : Nat} {vi vt : Value} {SI FI ST FT : Nat → Prop} {x : Ps} (h : Sz0 Ix Tx w B M n vi vt SI FI ST FT x) : x.Ok ∧ (∀ y ∈ x.D, dok y.dg) ∧ (∀ y ∈ x.T, dok y.dg) ∧ x.In :=
  ⟨⟨(hI.ok h.i).1, fun y hy => ((hI.ok h.i).2 y hy).1, (hT.ok h.t).1, fun y hy => ((hT.ok h.t).2 y hy).1, h.r⟩, (hI.ok h.i).2, (hT.ok h.t).2, h.inn⟩
end
variable {Ix : World → (Nat → Prop) → (Nat → Prop) → Value → List Pe → Prop} {Tx : World → (Nat → Prop) → (Nat → Prop) → Value → List Pt → Prop}
theorem SlOk.mk3 {p : Option Addr} {n c : Nat} (h1 : p = none → c = 0) (h2 : n ≤ c) (h3 : c ≤ maxLen) : SlOk p n c := ⟨h1, h2, h3⟩
theorem zgetR_len {l : List Pe} (h : ∀ y ∈ l, dok y.dg) (d : List Int) : (getR l d).1.dg.length = 32 := by
  cases hg : getE l d with
  | none => rw [getR_none hg]; rfl
  | some y => rw [getR_some hg]; exact (h y (getE_mem hg).1).1
theorem zgetTR_len {l : List Pt} (h : ∀ y ∈ l, dok y.dg) (d : ByteArray) : (getTR l d).1.dg.length = 32 := by
  cases hg : getT l d with
  | none => rw [getTR_none hg]; rfl
  | some y => rw [getTR_some hg]; exact (h y (getT_mem hg).1).1
set_option maxRecDepth 100000 in
set_option maxHeartbeats 2000000 in
theorem zdigest_any (hI : IdxOk Ix) (hT : TagOk Tx) {w : World} {B M n : Nat} {vi vt : Value} {SI FI ST FT F : Nat → Prop} {x : Ps} (d : List Int) (h : Sz0 Ix Tx w B M n vi vt SI FI ST FT x) (hF : ∀ b, F b ↔ FI b ∨ FT b) (hd : dok d) :
    Calls Tryz.prog 23 #[.pointer (some ⟨B, 0, none⟩), .agg (bcs d)] w fun e w' => DigSQ w F (getR x.D d) e w' := by
  obtain ⟨w0, w2, g1, hw0, hw2, hg1, hX⟩ := box2 w (bcs d) (enC zeroE (.slice none 0 0)) 35 59
  have HLE := Lib.hid hX.le
  have HLT := Lib.hid hX.lt
  have H2 := Lib.hid (h.later hI hT hX.le)
  have HZ := Lib.hid (show Em w2 g1 zeroE (.slice none 0 0) from hX.z)
  have HYD := Lib.hid (show Yw w2 w.heap.size 35 d from hX.a)
  have HBL := Lib.hid (h.h.lt)
  have HG := Lib.hid fun W (hW : Ix W SI FI vi x.D) => hI.get d hW hd
  have HI := Lib.hid hI
  have HF := Lib.hid hF
  have HD := Lib.hid hd
  rw [enZero] at hw2
  obtain ⟨g0, hg0⟩ : ∃ z, w.heap.size = z := ⟨_, rfl⟩
  have HG0 := Lib.hid hg0
  rw [hg0] at HYD
  obtain ⟨DX, hDX⟩ : ∃ z, bcs d = z := ⟨_, rfl⟩
  have HDX := Lib.hid hDX
  rw [hDX] at hw0 HG ⊢
  have HFL := Lib.hid fun b (hb : FI b) => hI.lt h.i b (Or.inr hb)
  have HRD := Lib.hid (zgetR_len (hI.ok h.i).2 d)
  generalize getR x.D d = R at *
  obtain ⟨R, ok⟩ := R
  have HSS : Hid (∀ W, Below w2.heap.size w2 W → (W.cell? ⟨B, 0, none⟩ = some vi ∧ Below w.heap.size w W ∧ Yw W g0 35 d)) := Lib.hid fun W hW => ⟨(H2.out.h.same (hW.block B H2.out.h.lt)).cells.1, below_step HLE.out hW, obj_later HYD.out hW⟩
  clear h hF hd hI hT hX hDX
  go_enter Tryz.func23, Tryz.ntmps23
  go_upto_region 3 with fail
  refine wp_region_held_drew (S := (fun W => W.cell? ⟨B, 0, none⟩ = some vi ∧ Below w.heap.size w W ∧ Yw W g0 35 d)) (by kernel_rfl) (HSS.out _ (Below.refl _ _).drew) (fun hHeld => ?_)
  refine take_at 0 (v := ?vv1) rfl (by kernel_rfl) (by kernel_rfl) (by kernel_rfl) (fun _ _ _ h => h) (Or.inl ⟨by rfl, ?hy1⟩) (by assumption) ?rest1
  case hy1 => intro w hSw; (try dsimp only at hSw); go_simp; (try with_reducible rfl)
  (try simp only [PT])
  refine take_at 1 (v := ?vv2) rfl (by kernel_rfl) (by kernel_rfl) (by kernel_rfl) (fun _ _ _ h => h) (Or.inl ⟨by rfl, ?hy2⟩) (by assumption) ?rest2
  case hy2 => intro w hSw; (try dsimp only at hSw); go_simp; (try with_reducible rfl)
  (try simp only [PT])
  refine take_at 2 (v := ?vv3) rfl (by kernel_rfl) (by kernel_rfl) (by kernel_rfl) (fun _ _ _ h => h) (Or.inl ⟨by rfl, ?hy3⟩) (by assumption) ?rest3
  case hy3 => intro w hSw; (try dsimp only at hSw); go_simp; (try with_reducible rfl)
  (try simp only [PT])
  refine take_at 3 (v := ?vv4) rfl (by kernel_rfl) (by kernel_rfl) (by kernel_rfl) (fun _ _ _ h => h) (Or.inl ⟨by rfl, ?hy4⟩) (by assumption) ?rest4
  case hy4 => intro w hSw; (try dsimp only at hSw); go_simp; (try with_reducible rfl)
  (try simp only [PT])
  refine take_at 4 rfl (by kernel_rfl) (by kernel_rfl) (by kernel_rfl) (fun _ _ _ h => h) (yieldsIf_ld (by rfl) 35 (.tmp 3) rfl (.pointer (some ⟨g0, 0, none⟩)) rfl (.agg DX) (fun W hW => by rw [← HDX.out]; exact Yw.load hW.2.2 HD.out.1)) (by assumption) ?_
  (try simp only [PT])
  refine ready_at 5 rfl (by kernel_rfl) (fun K hK => ?_)
  go_simp
  refine (HG.out _ (HI.out.later H2.out.i (Below.refl _ _).drew)).mono ?_
  rintro ex y3 ⟨u, rfl, hu, ho, hb⟩
  have HU3 := Lib.hid hu
  have HO3 := Lib.hid ho
  dsimp only at hu
  obtain ⟨q3, d3, hu3, _⟩ := hu
  subst hu3
  have HB3 : Hid (Below w2.heap.size w2 y3) := Lib.hid (below_step (Below.refl _ _).drew hb)
  clear ho hb hHeld
  (try dsimp only [enV])
  first
    | refine hK.out _ _ ?hS6 (fun hHeld => ?rest6)
    | (go_wp2_with fail; refine hK.out _ _ ?hS6 (fun hHeld => ?rest6))
  case hS6 => exact HSS.out _ HB3.out
  clear hK K
  (try simp only [PT])
  refine take_at 6 (v := ?vv7) rfl (by kernel_rfl) (by kernel_rfl) (by kernel_rfl) (fun _ _ _ h => h) (Or.inl ⟨by rfl, ?hy7⟩) (by assumption) ?rest7
  case hy7 => intro w hSw; (try dsimp only at hSw); go_simp; (try with_reducible rfl)
  (try simp only [PT])
  refine take_at 7 (v := ?vv8) rfl (by kernel_rfl) (by kernel_rfl) (by kernel_rfl) (fun _ _ _ h => h) (Or.inl ⟨by rfl, ?hy8⟩) (by assumption) ?rest8
  case hy8 => intro w hSw; (try dsimp only at hSw); go_simp; (try with_reducible rfl)
  (try simp only [PT])
  refine ready_at 8 rfl (by kernel_rfl) (fun K hK => ?_)
  rw [if_pos (by rfl)]
  have HZ3 := Lib.hid (HZ.out.later HB3.out)
  refine wp_store_row 59 _ _ rfl g1 (enC R _) rfl rfl 59 _ HZ3.out (enC_sizeOf R _ HRD.out) ((enC_size zeroE _ rfl).trans (enC_size R _ HRD.out).symm) (enC_one _ _ _ _) ?_
  have HM4 : Hid (Em (y3.setRow g1 (enC R (.slice q3 R.ins.length d3))) g1 R (.slice q3 R.ins.length d3)) := Lib.hid (Mx.row HZ3.out)
  generalize hw6 : World.setRow _ _ _ = w6 at HM4 ⊢
  have HB6 : Hid (Below w.heap.size w w6) := Lib.hid (by rw [← hw6]; exact below_setRow8 (below_step HLE.out HB3.out) _ _ (by have := HLT.out; omega))
  have HK6 : Hid (∀ b, b ≠ g1 → w6.heap[b]? = y3.heap[b]?) := Lib.hid fun b hb => by rw [← hw6]; exact setRow_other _ _ _ _ hb
  clear hw6
  refine hK.out _ _ ?hS9 (fun hHeld => ?rest9)
  case hS9 => exact ⟨((H2.out.h.same (HB3.out.block B H2.out.h.lt)).same (HK6.out B (by have := HLT.out; have := HBL.out; omega))).cells.1, HB6.out, (HK6.out g0 (by have := HLT.out; have := HG0.out; omega)).trans (obj_later HYD.out HB3.out)⟩
  clear hK K
  (try simp only [PT])
  refine take_at 9 (v := ?vv10) rfl (by kernel_rfl) (by kernel_rfl) (by kernel_rfl) (fun _ _ _ h => h) (Or.inl ⟨by rfl, ?hy10⟩) (by assumption) ?rest10
  case hy10 => intro w hSw; (try dsimp only at hSw); go_simp; (try with_reducible rfl)
  (try simp only [PT])
  refine wpAnyH_done (by kernel_rfl) ?_ _
  go_wp2
  refine bodyPost_ret (HM4.out.res2 HRD.out rfl _ rfl) rfl ?_
  refine ⟨_, rfl, HU3.out.hold fun hne b hb => HK6.out b (fun e => ?_), fun hne b hb => (HO3.out hne b hb).imp (fun h1 => (HF.out b).2 (Or.inl h1)) (fun h1 => Nat.le_trans HLE.out.size h1), HB6.out⟩
  subst e
  rcases HO3.out hne b hb with h1 | h1
  · have := HFL.out b h1
    have := HLT.out
    omega
  · have := HLT.out
    have h2 : w2.heap.size ≤ b := h1
    omega
set_option maxRecDepth 100000 in
set_option maxHeartbeats 2000000 in
theorem ztag_any (hI : IdxOk Ix) (hT : TagOk Tx) {w : World} {B M n : Nat} {vi vt : Value} {SI FI ST FT F : Nat → Prop} {x : Ps} (s : ByteArray) (h : Sz0 Ix Tx w B M n vi vt SI FI ST FT x) (hF : ∀ b, F b ↔ FI b ∨ FT b) :
    Calls Tryz.prog 25 #[.pointer (some ⟨B, 0, none⟩), .string s] w fun e w' => TagSQ w F (getTR x.T s) e w' := by
  obtain ⟨w2, hw2⟩ : ∃ W, w.alloc (.cells (tnC zeroT (.slice none 0 0)) 64) = W := ⟨_, rfl⟩
  obtain ⟨g1, hg1⟩ : ∃ z, w.heap.size = z := ⟨_, rfl⟩
  have hb2 : Below w.heap.size w w2 := by rw [← hw2]; exact (Below.refl _ _).alloc (Nat.le_refl _) _
  have HLE := Lib.hid hb2
  have HLT : Hid (w.heap.size = g1 ∧ g1 < w2.heap.size) := Lib.hid ⟨hg1, by rw [← hw2, ← hg1]; simp⟩
  have H2 := Lib.hid (h.later hI hT hb2)
  have HZ : Hid (Tn w2 g1 zeroT (.slice none 0 0)) := Lib.hid (by rw [← hw2, ← hg1]; exact heap_alloc_new _ _)
  have HG := Lib.hid (hT.get s (h.later hI hT hb2).t)
  have HF := Lib.hid hF
  have HFL := Lib.hid fun b (hb : FT b) => hT.lt h.t b (Or.inr hb)
  have HRD := Lib.hid (zgetTR_len (hT.ok h.t).2 s)
  obtain ⟨c0, c1, c2⟩ := H2.out.h.cells
  rw [tnZero] at hw2
  generalize getTR x.T s = R at *
  obtain ⟨R, ok⟩ := R
  clear h hF hI hT hb2
  go_enter Tryz.func25, Tryz.ntmps25
  go_wp2_with (first
    | (go_at_call 65; refine HG.out.mono ?_; rintro ex y3 ⟨u, rfl, hu, ho, hb⟩; have HU3 := Lib.hid hu; have HO3 := Lib.hid ho; have HB3 := Lib.hid hb; dsimp only at hu; obtain ⟨q3, d3, hu3, _⟩ := hu; subst hu3; have HZ3 := Lib.hid (Tn.later HZ.out HB3.out); clear ho hb; unfold tnV)
    | (refine wpList_store_row rfl 64 _ _ rfl g1 (tnC R _) rfl rfl 64 _ HZ3.out (tnC_sizeOf R _ HRD.out) ((tnC_size zeroT _ rfl).trans (tnC_size R _ HRD.out).symm) (tnC_one _ _ _ _) ?_; generalize hw6 : World.setRow _ _ _ = w6))
  have HM4 : Tn w6 g1 R (.slice q3 R.ins.length d3) := by rw [← hw6]; exact Mx.row HZ3.out
  have HB6 : Hid (Below w.heap.size w w6) := Lib.hid (by rw [← hw6]; exact below_setRow8 (below_step HLE.out HB3.out) _ _ (by have := HLT.out; omega))
  have HK6 : Hid (∀ b, b ≠ g1 → w6.heap[b]? = y3.heap[b]?) := Lib.hid fun b hb => by rw [← hw6]; exact setRow_other _ _ _ _ hb
  refine bodyPost_ret (HM4.res2 HRD.out rfl _ rfl) rfl ?_
  refine ⟨_, rfl, HU3.out.hold fun hne b hb => HK6.out b (fun e => ?_), fun hne b hb => (HO3.out hne b hb).imp (fun h1 => (HF.out b).2 (Or.inr h1)) (fun h1 => Nat.le_trans HLE.out.size h1), HB6.out⟩
  subst e
  rcases HO3.out hne b hb with h1 | h1
  · have := HFL.out b h1
    have := HLT.out
    omega
  · have := HLT.out
    omega
set_option maxRecDepth 100000 in
theorem zlist_any (hT : TagOk Tx) {w : World} {B M n : Nat} {vi vt : Value} {SI FI ST FT F : Nat → Prop} {x : Ps} (s : ByteArray) (m : Int) (h : Sz0 Ix Tx w B M n vi vt SI FI ST FT x) (hF : ∀ b, F b ↔ FI b ∨ FT b) (hf : x.Few) (h1 : -9223372036854775808 ≤ m) (h2 : m ≤ 9223372036854775807) :
    Calls Tryz.prog 35 #[.pointer (some ⟨B, 0, none⟩), .string s, .int .i64 m] w fun e w' => ListSQ w F (listT x.T s m) e w' := by
  have HG := Lib.hid (hT.list s m h.t (by have := hf.n; omega) h1 h2)
  have HF := Lib.hid hF
  obtain ⟨c0, c1, c2⟩ := h.h.cells
  generalize listT x.T s m = R at *
  clear h hF hT hf
  go_enter Tryz.func35, Tryz.ntmps35
  go_wp2_with (go_at_call 70; refine HG.out.mono ?_; rintro ex y3 ⟨p, k, c, rfl, hg, hi, h3, h4, h5, hb⟩; have HP := Lib.hid (And.intro hg (And.intro hi (And.intro (SlOk.mk3 h3 h4 h5) hb))); clear hg hi h3 h4 h5 hb)
  go_ret
  obtain ⟨hg, hi, hs, hb⟩ := HP.out
  exact ⟨p, k, c, rfl, hg, fun hn b off hp => (hi hn b off hp).imp (fun e => (HF.out b).2 (Or.inr e)) id, hs, hb⟩
set_option maxRecDepth 100000 in
theorem znames_any (hT : TagOk Tx) {w : World} {B M n : Nat} {vi vt : Value} {SI FI ST FT : Nat → Prop} {x : Ps} (h : Sz0 Ix Tx w B M n vi vt SI FI ST FT x) (hf : x.Few) :
    Calls Tryz.prog 33 #[.pointer (some ⟨B, 0, none⟩)] w fun e w' => NamesSQ w (namesT x.T) e w' := by
  have HG := Lib.hid (hT.names h.t (by have := hf.n; omega))
  obtain ⟨c0, c1, c2⟩ := h.h.cells
  generalize namesT x.T = R at *
  clear h hT hf
  go_enter Tryz.func33, Tryz.ntmps33
  go_wp2_with (go_at_call 69; refine HG.out.mono ?_; rintro ex y3 ⟨p, k, c, rfl, hg, hi, hb⟩; have HP := Lib.hid (And.intro hg (And.intro hi hb)); clear hg hi hb)
  go_ret
  exact ⟨p, k, c, rfl, HP.out.1, HP.out.2.1, HP.out.2.2⟩
set_option maxRecDepth 100000 in
theorem zcount_any (hI : IdxOk Ix) (hT : TagOk Tx) {w : World} {B M n : Nat} {vi vt : Value} {SI FI ST FT : Nat → Prop} {x : Ps} (h : Sz0 Ix Tx w B M n vi vt SI FI ST FT x) (hf : x.Few) :
    Calls Tryz.prog 27 #[.pointer (some ⟨B, 0, none⟩)] w fun e w' => e = .returned (.tuple #[.int .i64 (cntE x.D : Int), .int .i64 (IntKind.i64.wrap (sumE x.D)), .int .i64 ((namesT x.T).length : Int)]) ∧ Below w.heap.size w w' := by
  have HG := Lib.hid (hI.count h.i (by have := hf.n; omega))
  have HG2 := Lib.hid fun W (hW : Below w.heap.size w W) => hT.count (h.later hI hT hW).t (by have := hf.n; omega)
  have HC := Lib.hid fun W (hW : Below w.heap.size w W) => (h.later hI hT hW).h.cells
  obtain ⟨c0, c1, c2⟩ := h.h.cells
  generalize (cntE x.D : Int) = R1 at *
  generalize IntKind.i64.wrap (sumE x.D) = R2 at *
  generalize ((namesT x.T).length : Int) = R3 at *
  clear h hT hI hf
  go_enter Tryz.func27, Tryz.ntmps27
  go_wp2_with (first
    | (go_at_call 66; refine HG.out.mono ?_; rintro ex y3 ⟨rfl, hb⟩; have HB3 := Lib.hid hb; clear c0 c1 c2; obtain ⟨c0, c1, c2⟩ := HC.out y3 hb; clear hb)
    | (go_at_call 67; refine (HG2.out _ HB3.out).mono ?_; rintro ex y4 ⟨rfl, hb⟩; have HB4 := Lib.hid (below_step HB3.out hb); clear hb))
  go_ret3
  exact ⟨rfl, HB4.out⟩
end Go.Proofs.YtpfbfhigelbfcaaGreat

