/- Layer 19, the reference: small facts of two blocks, places and digests; Layer 19, the reference: Same; entries that a call answers with a second result; blocks of entries; Layer 19, the reference: Keep, KeepTag, Same, SameTag. (gen_entc.py); Layer 19, the reference: SameTag; names' entries that a call answers with a second result; Layer 19, the reference: KeepTag, SameTag. (gen_entc.py); The refer -/
import Derived.Test.YtpfbfhigelbfcaaGreatSd14
import Derived.Test.YtpfbfhigelbfcaaGreatSd15
set_option linter.unusedSimpArgs false
set_option linter.unusedVariables false
namespace Go.Proofs.YtpfbfhigelbfcaaGreat
open Go.RowKit Go.Lib
/-- a row of the call's own that lies from block B on outlives whatever turns blocks below B -/
theorem Gw.iskeep {W W' : World} {B : Nat} {v : Value} {L : List Int} (h : Gw encI W B v L) (hk : ∀ b, B ≤ b → W'.heap[b]? = W.heap[b]?) : Gw encI W' B v L := by
 obtain ⟨hl, h2⟩ := h
 refine ⟨hl, ?_⟩
 rcases h2 with h2 | ⟨b, cap, cur, hv, hb, hgb, r⟩
 ·exact Or.inl h2
 ·exact Or.inr ⟨b, cap, cur, hv, hb, by rw [hk b hb]; exact hgb, r⟩
structure Bx2 (w w2 : World) (ca cz : Array Value) (ta tz : TypeId) (g1 : Nat) : Prop where
 a : w2.heap[w.heap.size]? = some (.cells ca ta (0, 0))
 z : w2.heap[g1]? = some (.cells cz tz (0, 0))
 le : Below w.heap.size w w2
 lt : w.heap.size < g1 ∧ g1 < w2.heap.size
theorem box2 (w : World) (ca cz : Array Value) (ta tz : TypeId) : ∃ w0 w2 g1, w.alloc (.cells ca ta) = w0 ∧ w0.alloc (.cells cz tz) = w2 ∧ w0.heap.size = g1 ∧ Bx2 w w2 ca cz ta tz g1 := by
 refine ⟨_, _, _, rfl, rfl, rfl, ?_⟩
 have b0 : Below w.heap.size w (w.alloc (.cells ca ta)) := (Below.refl _ _).alloc (Nat.le_refl _) _
 have b1 : Below (w.alloc (.cells ca ta)).heap.size (w.alloc (.cells ca ta)) ((w.alloc (.cells ca ta)).alloc (.cells cz tz)) := (Below.refl _ _).alloc (Nat.le_refl _) _
 have h0 := heap_alloc_new w (.cells ca ta)
 exact ⟨obj_later h0 b1, heap_alloc_new _ _, below_step b0 b1, by simp⟩
theorem len_nil {L : List Int} : L = [] ↔ ¬ (0 : Int) < (L.length : Int) := by
 cases L <;> simp <;> omega
theorem loc_eq (x y u : Int) (W : World) : (Op.equalIn 10000 37 (.agg (lcA x y u)) (.agg (lcA x y u))).run Tryz.prog W = .ok true W := by
 have u3 := Tryz.underlying3
 have a3 := Tryz.isAgg3
 have z3 := Tryz.sizeOf3
 have hS : Tryz.prog.underlying 37 = some (.struct (Tryz.prog.fieldsOf 37)) := by kernel_rfl
 have hp : Tryz.prog.stoodInHeld 37 = false := by kernel_rfl
 unfold lcA
 rw [show (10000 : Nat) = 9999 + 1 from rfl, run_equalIn_agg W 9999 37 _ _ hS hp]
 simp only [Program.fieldsOf, Tryz.underlying37]
 go_simp
theorem dig_refl (l : List Int) (h : dok l) (W : World) : (Op.equalIn 10000 35 (.agg (bcs l)) (.agg (bcs l))).run Tryz.prog W = .ok true W := by
 rw [digest_eq l l h h]; simp
theorem dz32_ok : dok dz32 := ⟨rfl, fun j => by
 unfold dz32
 by_cases hj : j < 32
 ·rw [List.getD_eq_getElem?_getD, List.getElem?_replicate_of_lt hj]; simp
 ·rw [List.getD_eq_getElem?_getD, List.getElem?_eq_none (by simp; omega)]; simp⟩
theorem built_en0 : Tryz.prog.built 59 [] = some (enC zeroE (.slice none 0 0)) := by kernel_rfl
def KeQ (w : World) (s : Value) (r : Pe × Bool) (e : Ending) (w' : World) : Prop := ∃ u, e = .returned (.tuple #[enV r.1 u, .bool r.2]) ∧ Is w' u r.1.ins ∧ Fr w s u ∧ Below w.heap.size w w'
def KeG (w : World) (r : Pe × Bool) (e : Ending) (w' : World) : Prop := ∃ u, e = .returned (.tuple #[enV r.1 u, .bool r.2]) ∧ Gw encI w' w.heap.size u r.1.ins ∧ Below w.heap.size w w'
theorem KeG.q {w w' : World} {x : Pe × Bool} {e : Ending} (h : KeG w x e w') (s : Value) : KeQ w s x e w' := by
 obtain ⟨u, h1, h2, h3⟩ := h
 exact ⟨u, h1, h2.is, h2.fr (Nat.le_refl _), h3⟩
set_option maxRecDepth 100000 in
set_option maxHeartbeats 2000000 in
theorem rsame19_any (e : Pe) (s u : Value) (w : World) (h : Is w s e.ins) (h' : Is w u e.ins) (hd : dok e.dg) (hn : e.ins.length ≤ 2097152) :
 Calls Tryz.prog 29 #[enV e s, enV e u] w fun r w' => r = .returned (.bool true) ∧ Below w.heap.size w w' := by
 obtain ⟨w0, w2, g1, h0, h2, hg1, hB⟩ := box2 w (enC e s) (enC e u) 59 59
 have HE : Hid (Em w2 w.heap.size e s) := Lib.hid hB.a
 have HZ : Hid (Em w2 g1 e u) := Lib.hid hB.z
 have HB := Lib.hid hB.le
 obtain ⟨p, c, rfl, hs, _⟩ := h.later hB.le
 obtain ⟨p2, c2, rfl, hs2, _⟩ := h'.later hB.le
 have HIN := Lib.hid (rints_any p p2 e.ins.length c e.ins.length c2 e.ins w2 hs hs2 (by omega))
 have HD := Lib.hid hd
 obtain ⟨e0, e1, e2, cs⟩ := HE.out.cells hd.1
 obtain ⟨z0, z1, z2, zs⟩ := HZ.out.cells hd.1
 have hde := fun W => dig_refl e.dg hd W
 have hle := fun W => loc_eq e.seg e.off e.len W
 obtain ⟨m, hm⟩ : ∃ m, e.ins.length = m := ⟨_, rfl⟩
 rw [hm] at HIN cs zs
 have HL1 := Lib.hid (HE.out.dig hd.1)
 have HL2 := Lib.hid (HZ.out.dig hd.1)
 have HL3 := Lib.hid (HE.out.loc hd.1)
 have HL4 := Lib.hid (HZ.out.loc hd.1)
 unfold enV
 generalize hMC : enC e (Value.slice p e.ins.length c) = MC at *
 generalize hMZ : enC e (Value.slice p2 e.ins.length c2) = MZ at *
 generalize lcA e.seg e.off e.len = LC at *
 generalize bcs e.dg = DG at *
 rw [hm] at hMC hMZ
 clear hMC hMZ hs hs2 h h' hd hB hm hn
 go_enter Tryz.func29, Tryz.ntmps29
 go_wp2_with (first
  | (refine wpList_ld rfl 35 _ rfl _ rfl _ HL1.out ?_)
  | (refine wpList_ld rfl 35 _ rfl _ rfl _ HL2.out ?_)
  | (refine wpList_wanted (by rfl) fun K hK => wp_ld 35 _ rfl _ rfl _ HL1.out (hK _ _ ?_); clear hK K)
  | (refine wpList_wanted (by rfl) fun K hK => wp_ld 35 _ rfl _ rfl _ HL2.out (hK _ _ ?_); clear hK K)
  | (refine wpList_wanted (by rfl) fun K hK => wp_ld 37 _ rfl _ rfl _ HL3.out (hK _ _ ?_); clear hK K)
  | (refine wpList_wanted (by rfl) fun K hK => wp_ld 37 _ rfl _ rfl _ HL4.out (hK _ _ ?_); clear hK K)
  | (go_at_call 68; refine HIN.out.mono ?_; rintro r w3 ⟨rfl, nq, rfl⟩))
 go_ret
 exact ⟨rfl, below_drewN HB.out nq⟩
theorem enC_lay {w W : World} {x : Pe} {s : Value} {b : Nat} (hb : w.heap.size = b) (h : (w.alloc (.cells (enC zeroE (.slice none 0 0)) 59)).setRow b (enC x s) = W) : Em W b x s ∧ Below w.heap.size w W := by
 subst hb
 rw [← h]
 exact ⟨Mx.row (show Em (w.alloc (.cells (enC zeroE (.slice none 0 0)) 59)) w.heap.size zeroE (.slice none 0 0) from heap_alloc_new _ _), below_setRow8 ((Below.refl _ _).alloc (Nat.le_refl _) _) _ _ (Nat.le_refl _)⟩
/-- an entry in a block, and its slice -/
structure Ed (W : World) (b : Nat) (x : Pe) (s : Value) : Prop where
 m : Em W b x s
 i : Is W s x.ins
 d : dok x.dg
theorem Ed.later {W V : World} {b : Nat} {x : Pe} {s : Value} (h : Ed W b x s) (hb : Below W.heap.size W V) : Ed V b x s := ⟨h.m.later hb, h.i.later hb, h.d⟩
set_option maxRecDepth 100000 in
set_option maxHeartbeats 1000000 in
theorem rkeep19_any (e : Pe) (s : Value) (p2 : Option Addr) (m2 c2 : Nat) (B : List Int) (w : World) (h : Is w s e.ins) (hs2 : Gs encI w p2 m2 B) (hd : dok e.dg) (hn : e.ins.length ≤ 2097152) (hm2 : m2 ≤ 2097152) :
 Calls Tryz.prog 89 #[enV e s, .slice p2 m2 c2] w fun r w' => KeG w (keepE e B) r w' := by
 obtain ⟨w0, w2, g1, h0, h2, hg1, hB⟩ := box2 w (enC e s) (enC zeroE (.slice none 0 0)) 59 59
 have HE : Hid (Em w2 w.heap.size e s) := Lib.hid hB.a
 have HZ : Hid (Em w2 g1 zeroE (.slice none 0 0)) := Lib.hid hB.z
 have HB := Lib.hid hB.le
 have HLT := Lib.hid hB.lt
 obtain ⟨p, c, rfl, hs, _⟩ := h.later hB.le
 have HBO := Lib.hid (rboth19_any p e.ins.length c e.ins p2 m2 c2 B w2 hs (hs2.later hB.le) hn hm2)
 have HIN := Lib.hid fun W (hW : Below w2.heap.size w2 W) => rin19_any p2 m2 c2 B e.seg W ((hs2.later hB.le).later hW) hm2
 have HD := Lib.hid hd
 have HBL := Lib.hid (bothI_length e.ins B)
 obtain ⟨e0, e1, e2, cs⟩ := HE.out.cells hd.1
 obtain ⟨m, hm⟩ : ∃ m, e.ins.length = m := ⟨_, rfl⟩
 rw [hm] at HBO cs HBL
 have HR : Hid (keepE e B = _) := Lib.hid (by unfold keepE; rfl)
 obtain ⟨Y, hY⟩ : ∃ Y, bothI e.ins B = Y := ⟨_, rfl⟩
 rw [hY] at HBO HR HBL
 have HYY := Lib.hid hY
 have hnil := len_nil (L := Y)
 have HNIL := Lib.hid hnil
 have hmm : m ≤ 2097152 := by omega
 rw [enZero] at h2
 unfold enV
 generalize hMC : enC e (Value.slice p e.ins.length c) = MC at *
 rw [hm] at hMC
 clear hMC hs hs2 h hd hB hm hY hnil hn
 go_enter Tryz.func89, Tryz.ntmps89
 go_upto_region 2 with (go_at_call 120; refine HBO.out.mono ?_; rintro r w3 ⟨v, rfl, ho3, hb3⟩)
 have HO3 := Lib.hid ho3
 have HB3 := Lib.hid hb3
 obtain ⟨q, d, hv, _⟩ := ho3.open
 obtain ⟨n, hnn⟩ : ∃ n, Y.length = n := ⟨_, rfl⟩
 rw [hnn] at hv HNIL HBL
 subst hv
 have HE3 := Lib.hid (HE.out.later hb3)
 have HZ3 := Lib.hid (HZ.out.later hb3)
 have hnl : n ≤ 2097152 := by have := HBL.out; omega
 have HIN3 := Lib.hid (HIN.out w3 hb3)
 obtain ⟨f0, f1, f2, fs⟩ := HE3.out.cells HD.out.1
 have hfr := Mx.frozen HE3.out 37
 have HLT3 : Hid (w.heap.size < g1 ∧ g1 < w3.heap.size ∧ w2.heap.size ≤ w3.heap.size ∧ g1 < w2.heap.size) := Lib.hid (by have h1 := HLT.out; have h2 := hb3.size; omega)
 clear ho3 hb3 hnn e0 e1 e2 cs
 by_cases hin : e.seg ∈ B
 ·have hdi : decide (e.seg ∈ B) = true := by simpa using hin
  rw [hdi] at HIN3
  have HINB := Lib.hid hin
  clear hin hdi
  by_cases hk : e.k ≠ 5
  ·have HK := Lib.hid hk
   have hkt : (e.k != 5) = true := by simpa using hk
   have HRA : Hid (keepE e B = ({ e with ins := Y }, true)) := Lib.hid (by rw [HR.out, if_pos ⟨HINB.out, Or.inl HK.out⟩])
   clear hk
   have HE4 : Hid (Em (w3.setCell ⟨w.heap.size, 37, none⟩ (.slice q n d)) w.heap.size { e with ins := Y } (.slice q n d)) := Lib.hid (Mx.setLast HE3.out HD.out.1 5 (.slice q n d))
   have HZ4 : Hid (Em (w3.setCell ⟨w.heap.size, 37, none⟩ (.slice q n d)) g1 zeroE (.slice none 0 0)) := Lib.hid (Mx.other HZ3.out _ _ (by have := HLT3.out; show g1 ≠ w.heap.size; omega))
   have HK4 : Hid (∀ b, b ≠ w.heap.size → (w3.setCell ⟨w.heap.size, 37, none⟩ (.slice q n d)).heap[b]? = w3.heap[b]?) := Lib.hid fun b hb => heap_setCell_other w3 ⟨w.heap.size, 37, none⟩ b _ hb
   have HB4 : Hid (Below w.heap.size w (w3.setCell ⟨w.heap.size, 37, none⟩ (.slice q n d))) := Lib.hid ((below_step HB.out HB3.out).setCell (Nat.le_refl _) _)
   go_upto_region 4 with (go_at_call 121; refine HIN3.out.mono ?_; rintro r w4 ⟨rfl, rfl⟩)
   generalize World.setCell _ _ _ = w5 at *
   go_wp2_with (first
    | (refine wpList_ld rfl 59 _ rfl _ rfl _ (HE4.out.load HD.out.1) ?_)
    | (refine wpList_store_row rfl 59 _ _ rfl g1 (enC { e with ins := Y } (.slice q n d)) rfl rfl 59 _ HZ4.out (enC_sizeOf { e with ins := Y } _ HD.out.1) ((enC_size _ _ rfl).trans (enC_size { e with ins := Y } _ HD.out.1).symm) (enC_one _ _ _ _) ?_; generalize hw6 : World.setRow _ _ _ = w6))
   have HM6 : Em w6 g1 { e with ins := Y } (.slice q n d) := by rw [← hw6]; exact Mx.row HZ4.out
   refine bodyPost_ret (HM6.res2 HD.out.1 rfl _ rfl) rfl ?_
   refine ⟨_, by rw [HRA.out]; rfl, ?_, by rw [← hw6]; exact below_setRow8 HB4.out _ _ (by have := HLT3.out; omega)⟩
   rw [HRA.out]
   exact Gw.mono (B := w2.heap.size) (HO3.out.iskeep fun b hb => by rw [← hw6, setRow_other _ _ _ _ (by have := HLT3.out; omega)]; exact HK4.out b (by have := HLT3.out; omega)) (by have := HLT3.out; omega)
  ·have HK : Hid (¬ e.k ≠ 5) := Lib.hid hk
   have hkt : (e.k != 5) = false := by simpa using hk
   by_cases hy : (0 : Int) < (n : Int)
   ·have HRA : Hid (keepE e B = ({ e with ins := Y }, true)) := Lib.hid (by rw [HR.out, if_pos ⟨HINB.out, Or.inr (fun h => by have := HNIL.out.1 h; omega)⟩])
    clear hk
    have HE4 : Hid (Em (w3.setCell ⟨w.heap.size, 37, none⟩ (.slice q n d)) w.heap.size { e with ins := Y } (.slice q n d)) := Lib.hid (Mx.setLast HE3.out HD.out.1 5 (.slice q n d))
    have HZ4 : Hid (Em (w3.setCell ⟨w.heap.size, 37, none⟩ (.slice q n d)) g1 zeroE (.slice none 0 0)) := Lib.hid (Mx.other HZ3.out _ _ (by have := HLT3.out; show g1 ≠ w.heap.size; omega))
    have HK4 : Hid (∀ b, b ≠ w.heap.size → (w3.setCell ⟨w.heap.size, 37, none⟩ (.slice q n d)).heap[b]? = w3.heap[b]?) := Lib.hid fun b hb => heap_setCell_other w3 ⟨w.heap.size, 37, none⟩ b _ hb
    have HB4 : Hid (Below w.heap.size w (w3.setCell ⟨w.heap.size, 37, none⟩ (.slice q n d))) := Lib.hid ((below_step HB.out HB3.out).setCell (Nat.le_refl _) _)
    go_upto_region 4 with (go_at_call 121; refine HIN3.out.mono ?_; rintro r w4 ⟨rfl, rfl⟩)
    generalize World.setCell _ _ _ = w5 at *
    go_wp2_with (first
     | (refine wpList_ld rfl 59 _ rfl _ rfl _ (HE4.out.load HD.out.1) ?_)
     | (refine wpList_store_row rfl 59 _ _ rfl g1 (enC { e with ins := Y } (.slice q n d)) rfl rfl 59 _ HZ4.out (enC_sizeOf { e with ins := Y } _ HD.out.1) ((enC_size _ _ rfl).trans (enC_size { e with ins := Y } _ HD.out.1).symm) (enC_one _ _ _ _) ?_; generalize hw6 : World.setRow _ _ _ = w6))
    have HM6 : Em w6 g1 { e with ins := Y } (.slice q n d) := by rw [← hw6]; exact Mx.row HZ4.out
    refine bodyPost_ret (HM6.res2 HD.out.1 rfl _ rfl) rfl ?_
    refine ⟨_, by rw [HRA.out]; rfl, ?_, by rw [← hw6]; exact below_setRow8 HB4.out _ _ (by have := HLT3.out; omega)⟩
    rw [HRA.out]
    exact Gw.mono (B := w2.heap.size) (HO3.out.iskeep fun b hb => by rw [← hw6, setRow_other _ _ _ _ (by have := HLT3.out; omega)]; exact HK4.out b (by have := HLT3.out; omega)) (by have := HLT3.out; omega)
   ·have HY0 : Hid (Y = []) := Lib.hid (HNIL.out.2 (by omega))
    have HRC : Hid (keepE e B = (zeroE, false)) := Lib.hid (by rw [HR.out, if_neg (fun h => h.2.elim HK.out (fun h2 => h2 HY0.out)), if_neg (fun h => h HY0.out)])
    clear hk
    have HBU := Lib.hid built_en0
    go_upto_region 7 with (go_at_call 121; refine HIN3.out.mono ?_; rintro r w4 ⟨rfl, rfl⟩)
    go_wp2_with (first
     | (refine wpList_build_is rfl 59 _ rfl (enC zeroE (.slice none 0 0)) ?_ ?_; focus (first | (simp only [List.map_toArray, List.map_nil]; exact HBU.out) | (simp only [Array.map_empty]; exact HBU.out) | (simp; exact HBU.out)))
     | (refine wpList_store_row rfl 59 _ _ rfl g1 (enC zeroE (.slice none 0 0)) rfl rfl 59 _ HZ3.out (enC_sizeOf zeroE _ rfl) rfl (enC_one _ _ _ _) ?_; generalize hw6 : World.setRow _ _ _ = w6))
    have HM6 : Em w6 g1 zeroE (.slice none 0 0) := by rw [← hw6]; exact Mx.row HZ3.out
    refine bodyPost_ret (HM6.res2 rfl rfl _ rfl) rfl ?_
    refine ⟨_, by rw [HRC.out]; rfl, ?_, by rw [← hw6]; exact below_setRow8 (below_step HB.out HB3.out) _ _ (by have := HLT3.out; omega)⟩
    rw [HRC.out]
    exact Gw.nil _ _ _
 ·have hdi : decide (e.seg ∈ B) = false := by simpa using hin
  rw [hdi] at HIN3
  have HINB := Lib.hid hin
  clear hin hdi
  by_cases hy : (0 : Int) < (n : Int)
  ·have HRB : Hid (keepE e B = (⟨e.dg, 5, 0, 0, 0, 0, Y⟩, true)) := Lib.hid (by rw [HR.out, if_neg (fun h => HINB.out h.1), if_pos (fun h => by have := HNIL.out.1 h; omega)])
   have HBU := Lib.hid (built_en3 5 Y q n d e.dg HD.out.1)
   have HLD := Lib.hid (HE3.out.dig HD.out.1)
   go_upto_region 6 with (go_at_call 121; refine HIN3.out.mono ?_; rintro r w4 ⟨rfl, rfl⟩)
   go_wp2_with (first
    | (refine wpList_ld rfl 35 _ rfl _ rfl _ HLD.out ?_)
    | (refine wpList_build_is rfl 59 _ rfl (enC ⟨e.dg, 5, 0, 0, 0, 0, Y⟩ (.slice q n d)) ?_ ?_; focus (first | exact HBU.out | (simp only [List.map_toArray, List.map_cons, List.map_nil]; exact HBU.out)))
    | (refine wpList_store_row rfl 59 _ _ rfl g1 (enC ⟨e.dg, 5, 0, 0, 0, 0, Y⟩ (.slice q n d)) rfl rfl 59 _ HZ3.out (enC_sizeOf ⟨e.dg, 5, 0, 0, 0, 0, Y⟩ _ HD.out.1) ((enC_size _ _ rfl).trans (enC_size ⟨e.dg, 5, 0, 0, 0, 0, Y⟩ _ HD.out.1).symm) (enC_one _ _ _ _) ?_; generalize hw6 : World.setRow _ _ _ = w6))
   have HM6 : Em w6 g1 ⟨e.dg, 5, 0, 0, 0, 0, Y⟩ (.slice q n d) := by rw [← hw6]; exact Mx.row HZ3.out
   refine bodyPost_ret (HM6.res2 HD.out.1 rfl _ rfl) rfl ?_
   refine ⟨_, by rw [HRB.out]; rfl, ?_, by rw [← hw6]; exact below_setRow8 (below_step HB.out HB3.out) _ _ (by have := HLT3.out; omega)⟩
   rw [HRB.out]
   exact Gw.mono (B := w2.heap.size) (HO3.out.iskeep fun b hb => by rw [← hw6, setRow_other _ _ _ _ (by have := HLT3.out; omega)]) (by have := HLT3.out; omega)
  ·have HY0 : Hid (Y = []) := Lib.hid (HNIL.out.2 (by omega))
   have HRC : Hid (keepE e B = (zeroE, false)) := Lib.hid (by rw [HR.out, if_neg (fun h => HINB.out h.1), if_neg (fun h => h HY0.out)])
   have HBU := Lib.hid built_en0
   go_upto_region 7 with (go_at_call 121; refine HIN3.out.mono ?_; rintro r w4 ⟨rfl, rfl⟩)
   go_wp2_with (first
    | (refine wpList_build_is rfl 59 _ rfl (enC zeroE (.slice none 0 0)) ?_ ?_; focus (first | (simp only [List.map_toArray, List.map_nil]; exact HBU.out) | (simp only [Array.map_empty]; exact HBU.out) | (simp; exact HBU.out)))
    | (refine wpList_store_row rfl 59 _ _ rfl g1 (enC zeroE (.slice none 0 0)) rfl rfl 59 _ HZ3.out (enC_sizeOf zeroE _ rfl) rfl (enC_one _ _ _ _) ?_; generalize hw6 : World.setRow _ _ _ = w6))
   have HM6 : Em w6 g1 zeroE (.slice none 0 0) := by rw [← hw6]; exact Mx.row HZ3.out
   refine bodyPost_ret (HM6.res2 rfl rfl _ rfl) rfl ?_
   refine ⟨_, by rw [HRC.out]; rfl, ?_, by rw [← hw6]; exact below_setRow8 (below_step HB.out HB3.out) _ _ (by have := HLT3.out; omega)⟩
   rw [HRC.out]
   exact Gw.nil _ _ _
theorem built_tn0 : Tryz.prog.built 64 [] = some (tnC zeroT (.slice none 0 0)) := by kernel_rfl
def KtQ (w : World) (s : Value) (r : Pt × Bool) (e : Ending) (w' : World) : Prop := ∃ u, e = .returned (.tuple #[tnV r.1 u, .bool r.2]) ∧ Is w' u r.1.ins ∧ Fr w s u ∧ Below w.heap.size w w'
def KtG (w : World) (r : Pt × Bool) (e : Ending) (w' : World) : Prop := ∃ u, e = .returned (.tuple #[tnV r.1 u, .bool r.2]) ∧ Gw encI w' w.heap.size u r.1.ins ∧ Below w.heap.size w w'
theorem KtG.q {w w' : World} {x : Pt × Bool} {e : Ending} (h : KtG w x e w') (s : Value) : KtQ w s x e w' := by
 obtain ⟨u, h1, h2, h3⟩ := h
 exact ⟨u, h1, h2.is, h2.fr (Nat.le_refl _), h3⟩
set_option maxRecDepth 100000 in
set_option maxHeartbeats 2000000 in
theorem rsamet19_any (e : Pt) (s u : Value) (w : World) (h : Is w s e.ins) (h' : Is w u e.ins) (hd : dok e.dg) (hn : e.ins.length ≤ 2097152) :
 Calls Tryz.prog 30 #[tnV e s, tnV e u] w fun r w' => r = .returned (.bool true) ∧ Below w.heap.size w w' := by
 obtain ⟨w0, w2, g1, h0, h2, hg1, hB⟩ := box2 w (tnC e s) (tnC e u) 64 64
 have HE : Hid (Tn w2 w.heap.size e s) := Lib.hid hB.a
 have HZ : Hid (Tn w2 g1 e u) := Lib.hid hB.z
 have HB := Lib.hid hB.le
 obtain ⟨p, c, rfl, hs, _⟩ := h.later hB.le
 obtain ⟨p2, c2, rfl, hs2, _⟩ := h'.later hB.le
 have HIN := Lib.hid (rints_any p p2 e.ins.length c e.ins.length c2 e.ins w2 hs hs2 (by omega))
 have HD := Lib.hid hd
 obtain ⟨e0, e1, e2, cs⟩ := HE.out.cells hd.1
 obtain ⟨z0, z1, z2, zs⟩ := HZ.out.cells hd.1
 have hde := fun W => dig_refl e.dg hd W
 have hle := fun W => loc_eq e.seg e.off e.len W
 obtain ⟨m, hm⟩ : ∃ m, e.ins.length = m := ⟨_, rfl⟩
 rw [hm] at HIN cs zs
 have HL1 := Lib.hid (HE.out.dig hd.1)
 have HL2 := Lib.hid (HZ.out.dig hd.1)
 have HL3 := Lib.hid (HE.out.loc hd.1)
 have HL4 := Lib.hid (HZ.out.loc hd.1)
 unfold tnV
 generalize hMC : tnC e (Value.slice p e.ins.length c) = MC at *
 generalize hMZ : tnC e (Value.slice p2 e.ins.length c2) = MZ at *
 generalize lcA e.seg e.off e.len = LC at *
 generalize bcs e.dg = DG at *
 rw [hm] at hMC hMZ
 clear hMC hMZ hs hs2 h h' hd hB hm hn
 go_enter Tryz.func30, Tryz.ntmps30
 go_wp2_with (first
  | (refine wpList_ld rfl 35 _ rfl _ rfl _ HL1.out ?_)
  | (refine wpList_ld rfl 35 _ rfl _ rfl _ HL2.out ?_)
  | (refine wpList_wanted (by rfl) fun K hK => wp_ld 35 _ rfl _ rfl _ HL1.out (hK _ _ ?_); clear hK K)
  | (refine wpList_wanted (by rfl) fun K hK => wp_ld 35 _ rfl _ rfl _ HL2.out (hK _ _ ?_); clear hK K)
  | (refine wpList_wanted (by rfl) fun K hK => wp_ld 37 _ rfl _ rfl _ HL3.out (hK _ _ ?_); clear hK K)
  | (refine wpList_wanted (by rfl) fun K hK => wp_ld 37 _ rfl _ rfl _ HL4.out (hK _ _ ?_); clear hK K)
  | (go_at_call 68; refine HIN.out.mono ?_; rintro r w3 ⟨rfl, nq, rfl⟩))
 go_ret
 exact ⟨rfl, below_drewN HB.out nq⟩
theorem tnC_lay {w W : World} {x : Pt} {s : Value} {b : Nat} (hb : w.heap.size = b) (h : (w.alloc (.cells (tnC zeroT (.slice none 0 0)) 64)).setRow b (tnC x s) = W) : Tn W b x s ∧ Below w.heap.size w W := by
 subst hb
 rw [← h]
 exact ⟨Mx.row (show Tn (w.alloc (.cells (tnC zeroT (.slice none 0 0)) 64)) w.heap.size zeroT (.slice none 0 0) from heap_alloc_new _ _), below_setRow8 ((Below.refl _ _).alloc (Nat.le_refl _) _) _ _ (Nat.le_refl _)⟩
structure Td (W : World) (b : Nat) (x : Pt) (s : Value) : Prop where
 m : Tn W b x s
 i : Is W s x.ins
 d : dok x.dg
theorem Td.later {W V : World} {b : Nat} {x : Pt} {s : Value} (h : Td W b x s) (hb : Below W.heap.size W V) : Td V b x s := ⟨h.m.later hb, h.i.later hb, h.d⟩
set_option maxRecDepth 100000 in
set_option maxHeartbeats 1000000 in
theorem rkeept19_any (e : Pt) (s : Value) (p2 : Option Addr) (m2 c2 : Nat) (B : List Int) (w : World) (h : Is w s e.ins) (hs2 : Gs encI w p2 m2 B) (hd : dok e.dg) (hn : e.ins.length ≤ 2097152) (hm2 : m2 ≤ 2097152) :
 Calls Tryz.prog 90 #[tnV e s, .slice p2 m2 c2] w fun r w' => KtG w (keepT e B) r w' := by
 obtain ⟨w0, w2, g1, h0, h2, hg1, hB⟩ := box2 w (tnC e s) (tnC zeroT (.slice none 0 0)) 64 64
 have HE : Hid (Tn w2 w.heap.size e s) := Lib.hid hB.a
 have HZ : Hid (Tn w2 g1 zeroT (.slice none 0 0)) := Lib.hid hB.z
 have HB := Lib.hid hB.le
 have HLT := Lib.hid hB.lt
 obtain ⟨p, c, rfl, hs, _⟩ := h.later hB.le
 have HBO := Lib.hid (rboth19_any p e.ins.length c e.ins p2 m2 c2 B w2 hs (hs2.later hB.le) hn hm2)
 have HIN := Lib.hid fun W (hW : Below w2.heap.size w2 W) => rin19_any p2 m2 c2 B e.seg W ((hs2.later hB.le).later hW) hm2
 have HD := Lib.hid hd
 have HBL := Lib.hid (bothI_length e.ins B)
 obtain ⟨e0, e1, e2, cs⟩ := HE.out.cells hd.1
 obtain ⟨m, hm⟩ : ∃ m, e.ins.length = m := ⟨_, rfl⟩
 rw [hm] at HBO cs HBL
 have HR : Hid (keepT e B = _) := Lib.hid (by unfold keepT; rfl)
 obtain ⟨Y, hY⟩ : ∃ Y, bothI e.ins B = Y := ⟨_, rfl⟩
 rw [hY] at HBO HR HBL
 have HYY := Lib.hid hY
 have hnil := len_nil (L := Y)
 have HNIL := Lib.hid hnil
 have hmm : m ≤ 2097152 := by omega
 rw [tnZero] at h2
 unfold tnV
 generalize hMC : tnC e (Value.slice p e.ins.length c) = MC at *
 rw [hm] at hMC
 clear hMC hs hs2 h hd hB hm hY hnil hn
 go_enter Tryz.func90, Tryz.ntmps90
 go_upto_region 2 with (go_at_call 120; refine HBO.out.mono ?_; rintro r w3 ⟨v, rfl, ho3, hb3⟩)
 have HO3 := Lib.hid ho3
 have HB3 := Lib.hid hb3
 obtain ⟨q, d, hv, _⟩ := ho3.open
 obtain ⟨n, hnn⟩ : ∃ n, Y.length = n := ⟨_, rfl⟩
 rw [hnn] at hv HNIL HBL
 subst hv
 have HE3 := Lib.hid (HE.out.later hb3)
 have HZ3 := Lib.hid (HZ.out.later hb3)
 have hnl : n ≤ 2097152 := by have := HBL.out; omega
 have HIN3 := Lib.hid (HIN.out w3 hb3)
 obtain ⟨f0, f1, f2, fs⟩ := HE3.out.cells HD.out.1
 have hfr := Mx.frozen HE3.out 37
 have HLT3 : Hid (w.heap.size < g1 ∧ g1 < w3.heap.size ∧ w2.heap.size ≤ w3.heap.size ∧ g1 < w2.heap.size) := Lib.hid (by have h1 := HLT.out; have h2 := hb3.size; omega)
 clear ho3 hb3 hnn e0 e1 e2 cs
 by_cases hin : e.seg ∈ B
 ·have hdi : decide (e.seg ∈ B) = true := by simpa using hin
  rw [hdi] at HIN3
  have HINB := Lib.hid hin
  clear hin hdi
  by_cases hk : e.gone = false
  ·have HK := Lib.hid hk
   rw [hk] at f1
   have HRA : Hid (keepT e B = ({ e with ins := Y }, true)) := Lib.hid (by rw [HR.out, if_pos ⟨HINB.out, Or.inl HK.out⟩])
   clear hk
   have HE4 : Hid (Tn (w3.setCell ⟨w.heap.size, 37, none⟩ (.slice q n d)) w.heap.size { e with ins := Y } (.slice q n d)) := Lib.hid (Mx.setLast HE3.out HD.out.1 4 (.slice q n d))
   have HZ4 : Hid (Tn (w3.setCell ⟨w.heap.size, 37, none⟩ (.slice q n d)) g1 zeroT (.slice none 0 0)) := Lib.hid (Mx.other HZ3.out _ _ (by have := HLT3.out; show g1 ≠ w.heap.size; omega))
   have HK4 : Hid (∀ b, b ≠ w.heap.size → (w3.setCell ⟨w.heap.size, 37, none⟩ (.slice q n d)).heap[b]? = w3.heap[b]?) := Lib.hid fun b hb => heap_setCell_other w3 ⟨w.heap.size, 37, none⟩ b _ hb
   have HB4 : Hid (Below w.heap.size w (w3.setCell ⟨w.heap.size, 37, none⟩ (.slice q n d))) := Lib.hid ((below_step HB.out HB3.out).setCell (Nat.le_refl _) _)
   go_upto_region 4 with (go_at_call 121; refine HIN3.out.mono ?_; rintro r w4 ⟨rfl, rfl⟩)
   generalize World.setCell _ _ _ = w5 at *
   go_wp2_with (first
    | (refine wpList_ld rfl 64 _ rfl _ rfl _ (HE4.out.load HD.out.1) ?_)
    | (refine wpList_store_row rfl 64 _ _ rfl g1 (tnC { e with ins := Y } (.slice q n d)) rfl rfl 64 _ HZ4.out (tnC_sizeOf { e with ins := Y } _ HD.out.1) ((tnC_size _ _ rfl).trans (tnC_size { e with ins := Y } _ HD.out.1).symm) (tnC_one _ _ _ _) ?_; generalize hw6 : World.setRow _ _ _ = w6))
   have HM6 : Tn w6 g1 { e with ins := Y } (.slice q n d) := by rw [← hw6]; exact Mx.row HZ4.out
   refine bodyPost_ret (HM6.res2 HD.out.1 rfl _ rfl) rfl ?_
   refine ⟨_, by rw [HRA.out]; rfl, ?_, by rw [← hw6]; exact below_setRow8 HB4.out _ _ (by have := HLT3.out; omega)⟩
   rw [HRA.out]
   exact Gw.mono (B := w2.heap.size) (HO3.out.iskeep fun b hb => by rw [← hw6, setRow_other _ _ _ _ (by have := HLT3.out; omega)]; exact HK4.out b (by have := HLT3.out; omega)) (by have := HLT3.out; omega)
  ·have HK : Hid (¬ e.gone = false) := Lib.hid hk
   have hkt : e.gone = true := by simpa using hk
   rw [hkt] at f1
   by_cases hy : (0 : Int) < (n : Int)
   ·have HRA : Hid (keepT e B = ({ e with ins := Y }, true)) := Lib.hid (by rw [HR.out, if_pos ⟨HINB.out, Or.inr (fun h => by have := HNIL.out.1 h; omega)⟩])
    clear hk
    have HE4 : Hid (Tn (w3.setCell ⟨w.heap.size, 37, none⟩ (.slice q n d)) w.heap.size { e with ins := Y } (.slice q n d)) := Lib.hid (Mx.setLast HE3.out HD.out.1 4 (.slice q n d))
    have HZ4 : Hid (Tn (w3.setCell ⟨w.heap.size, 37, none⟩ (.slice q n d)) g1 zeroT (.slice none 0 0)) := Lib.hid (Mx.other HZ3.out _ _ (by have := HLT3.out; show g1 ≠ w.heap.size; omega))
    have HK4 : Hid (∀ b, b ≠ w.heap.size → (w3.setCell ⟨w.heap.size, 37, none⟩ (.slice q n d)).heap[b]? = w3.heap[b]?) := Lib.hid fun b hb => heap_setCell_other w3 ⟨w.heap.size, 37, none⟩ b _ hb
    have HB4 : Hid (Below w.heap.size w (w3.setCell ⟨w.heap.size, 37, none⟩ (.slice q n d))) := Lib.hid ((below_step HB.out HB3.out).setCell (Nat.le_refl _) _)
    go_upto_region 4 with (go_at_call 121; refine HIN3.out.mono ?_; rintro r w4 ⟨rfl, rfl⟩)
    generalize World.setCell _ _ _ = w5 at *
    go_wp2_with (first
     | (refine wpList_ld rfl 64 _ rfl _ rfl _ (HE4.out.load HD.out.1) ?_)
     | (refine wpList_store_row rfl 64 _ _ rfl g1 (tnC { e with ins := Y } (.slice q n d)) rfl rfl 64 _ HZ4.out (tnC_sizeOf { e with ins := Y } _ HD.out.1) ((tnC_size _ _ rfl).trans (tnC_size { e with ins := Y } _ HD.out.1).symm) (tnC_one _ _ _ _) ?_; generalize hw6 : World.setRow _ _ _ = w6))
    have HM6 : Tn w6 g1 { e with ins := Y } (.slice q n d) := by rw [← hw6]; exact Mx.row HZ4.out
    refine bodyPost_ret (HM6.res2 HD.out.1 rfl _ rfl) rfl ?_
    refine ⟨_, by rw [HRA.out]; rfl, ?_, by rw [← hw6]; exact below_setRow8 HB4.out _ _ (by have := HLT3.out; omega)⟩
    rw [HRA.out]
    exact Gw.mono (B := w2.heap.size) (HO3.out.iskeep fun b hb => by rw [← hw6, setRow_other _ _ _ _ (by have := HLT3.out; omega)]; exact HK4.out b (by have := HLT3.out; omega)) (by have := HLT3.out; omega)
   ·have HY0 : Hid (Y = []) := Lib.hid (HNIL.out.2 (by omega))
    have HRC : Hid (keepT e B = (zeroT, false)) := Lib.hid (by rw [HR.out, if_neg (fun h => h.2.elim HK.out (fun h2 => h2 HY0.out)), if_neg (fun h => h HY0.out)])
    clear hk
    have HBU := Lib.hid built_tn0
    go_upto_region 7 with (go_at_call 121; refine HIN3.out.mono ?_; rintro r w4 ⟨rfl, rfl⟩)
    go_wp2_with (first
     | (refine wpList_build_is rfl 64 _ rfl (tnC zeroT (.slice none 0 0)) ?_ ?_; focus (first | (simp only [List.map_toArray, List.map_nil]; exact HBU.out) | (simp only [Array.map_empty]; exact HBU.out) | (simp; exact HBU.out)))
     | (refine wpList_store_row rfl 64 _ _ rfl g1 (tnC zeroT (.slice none 0 0)) rfl rfl 64 _ HZ3.out (tnC_sizeOf zeroT _ rfl) rfl (tnC_one _ _ _ _) ?_; generalize hw6 : World.setRow _ _ _ = w6))
    have HM6 : Tn w6 g1 zeroT (.slice none 0 0) := by rw [← hw6]; exact Mx.row HZ3.out
    refine bodyPost_ret (HM6.res2 rfl rfl _ rfl) rfl ?_
    refine ⟨_, by rw [HRC.out]; rfl, ?_, by rw [← hw6]; exact below_setRow8 (below_step HB.out HB3.out) _ _ (by have := HLT3.out; omega)⟩
    rw [HRC.out]
    exact Gw.nil _ _ _
 ·have hdi : decide (e.seg ∈ B) = false := by simpa using hin
  rw [hdi] at HIN3
  have HINB := Lib.hid hin
  clear hin hdi
  by_cases hy : (0 : Int) < (n : Int)
  ·have HRB : Hid (keepT e B = (⟨e.nm, dz32, true, 0, 0, 0, Y⟩, true)) := Lib.hid (by rw [HR.out, if_neg (fun h => HINB.out h.1), if_pos (fun h => by have := HNIL.out.1 h; omega)])
   have HBU := Lib.hid (built_un3 e.nm Y q n d)
   have HLD := Lib.hid (HE3.out.dig HD.out.1)
   go_upto_region 6 with (go_at_call 121; refine HIN3.out.mono ?_; rintro r w4 ⟨rfl, rfl⟩)
   go_wp2_with (first
    | (refine wpList_ld rfl 35 _ rfl _ rfl _ HLD.out ?_)
    | (refine wpList_build_is rfl 64 _ rfl (tnC ⟨e.nm, dz32, true, 0, 0, 0, Y⟩ (.slice q n d)) ?_ ?_; focus (first | exact HBU.out | (simp only [List.map_toArray, List.map_cons, List.map_nil]; exact HBU.out)))
    | (refine wpList_store_row rfl 64 _ _ rfl g1 (tnC ⟨e.nm, dz32, true, 0, 0, 0, Y⟩ (.slice q n d)) rfl rfl 64 _ HZ3.out (tnC_sizeOf ⟨e.nm, dz32, true, 0, 0, 0, Y⟩ _ rfl) ((tnC_size _ _ rfl).trans (tnC_size ⟨e.nm, dz32, true, 0, 0, 0, Y⟩ _ rfl).symm) (tnC_one _ _ _ _) ?_; generalize hw6 : World.setRow _ _ _ = w6))
   have HM6 : Tn w6 g1 ⟨e.nm, dz32, true, 0, 0, 0, Y⟩ (.slice q n d) := by rw [← hw6]; exact Mx.row HZ3.out
   refine bodyPost_ret (HM6.res2 rfl rfl _ rfl) rfl ?_
   refine ⟨_, by rw [HRB.out]; rfl, ?_, by rw [← hw6]; exact below_setRow8 (below_step HB.out HB3.out) _ _ (by have := HLT3.out; omega)⟩
   rw [HRB.out]
   exact Gw.mono (B := w2.heap.size) (HO3.out.iskeep fun b hb => by rw [← hw6, setRow_other _ _ _ _ (by have := HLT3.out; omega)]) (by have := HLT3.out; omega)
  ·have HY0 : Hid (Y = []) := Lib.hid (HNIL.out.2 (by omega))
   have HRC : Hid (keepT e B = (zeroT, false)) := Lib.hid (by rw [HR.out, if_neg (fun h => HINB.out h.1), if_neg (fun h => h HY0.out)])
   have HBU := Lib.hid built_tn0
   go_upto_region 7 with (go_at_call 121; refine HIN3.out.mono ?_; rintro r w4 ⟨rfl, rfl⟩)
   go_wp2_with (first
    | (refine wpList_build_is rfl 64 _ rfl (tnC zeroT (.slice none 0 0)) ?_ ?_; focus (first | (simp only [List.map_toArray, List.map_nil]; exact HBU.out) | (simp only [Array.map_empty]; exact HBU.out) | (simp; exact HBU.out)))
    | (refine wpList_store_row rfl 64 _ _ rfl g1 (tnC zeroT (.slice none 0 0)) rfl rfl 64 _ HZ3.out (tnC_sizeOf zeroT _ rfl) rfl (tnC_one _ _ _ _) ?_; generalize hw6 : World.setRow _ _ _ = w6))
   have HM6 : Tn w6 g1 zeroT (.slice none 0 0) := by rw [← hw6]; exact Mx.row HZ3.out
   refine bodyPost_ret (HM6.res2 rfl rfl _ rfl) rfl ?_
   refine ⟨_, by rw [HRC.out]; rfl, ?_, by rw [← hw6]; exact below_setRow8 (below_step HB.out HB3.out) _ _ (by have := HLT3.out; omega)⟩
   rw [HRC.out]
   exact Gw.nil _ _ _
set_option maxRecDepth 100000 in
theorem built_wdE32 (k z seg off len : Int) (a0 a1 a2 a3 a4 a5 a6 a7 a8 a9 a10 a11 a12 a13 a14 a15 a16 a17 a18 a19 a20 a21 a22 a23 a24 a25 a26 a27 a28 a29 a30 a31 : Int) : Tryz.prog.built 39 [(0, .int .i64 k), (2, .agg (bcs [a0, a1, a2, a3, a4, a5, a6, a7, a8, a9, a10, a11, a12, a13, a14, a15, a16, a17, a18, a19, a20, a21, a22, a23, a24, a25, a26, a27, a28, a29, a30, a31])), (4, .int .i64 z), (5, .agg (lcA seg off len))] = some (mixC [.int .i64 k, .int .u64 0] [a0, a1, a2, a3, a4, a5, a6, a7, a8, a9, a10, a11, a12, a13, a14, a15, a16, a17, a18, a19, a20, a21, a22, a23, a24, a25, a26, a27, a28, a29, a30, a31] [.string ⟨#[]⟩, .int .i64 z, .int .i64 seg, .int .i64 off, .int .i64 len]) := by kernel_rfl
theorem built_wdE (e : Pe) (h : e.dg.length = 32) : Tryz.prog.built 39 [(0, .int .i64 e.k), (2, .agg (bcs e.dg)), (4, .int .i64 e.z), (5, .agg (lcA e.seg e.off e.len))] = some (mixC (wordE e).a (wordE e).dg (wordE e).t) := by
 have he := list32S h
 obtain ⟨l, hl⟩ : ∃ l, e.dg = l := ⟨_, rfl⟩
 unfold wordE Wq.a Wq.t
 rw [hl] at he ⊢
 rw [he]
 exact built_wdE32 _ _ _ _ _ (l.getD 0 0) (l.getD 1 0) (l.getD 2 0) (l.getD 3 0) (l.getD 4 0) (l.getD 5 0) (l.getD 6 0) (l.getD 7 0) (l.getD 8 0) (l.getD 9 0) (l.getD 10 0) (l.getD 11 0) (l.getD 12 0) (l.getD 13 0) (l.getD 14 0) (l.getD 15 0) (l.getD 16 0) (l.getD 17 0) (l.getD 18 0) (l.getD 19 0) (l.getD 20 0) (l.getD 21 0) (l.getD 22 0) (l.getD 23 0) (l.getD 24 0) (l.getD 25 0) (l.getD 26 0) (l.getD 27 0) (l.getD 28 0) (l.getD 29 0) (l.getD 30 0) (l.getD 31 0)
set_option maxRecDepth 100000 in
theorem built_wdN32 (k seg off len : Int) (nm : ByteArray) (a0 a1 a2 a3 a4 a5 a6 a7 a8 a9 a10 a11 a12 a13 a14 a15 a16 a17 a18 a19 a20 a21 a22 a23 a24 a25 a26 a27 a28 a29 a30 a31 : Int) : Tryz.prog.built 39 [(0, .int .i64 k), (2, .agg (bcs [a0, a1, a2, a3, a4, a5, a6, a7, a8, a9, a10, a11, a12, a13, a14, a15, a16, a17, a18, a19, a20, a21, a22, a23, a24, a25, a26, a27, a28, a29, a30, a31])), (3, .string nm), (5, .agg (lcA seg off len))] = some (mixC [.int .i64 k, .int .u64 0] [a0, a1, a2, a3, a4, a5, a6, a7, a8, a9, a10, a11, a12, a13, a14, a15, a16, a17, a18, a19, a20, a21, a22, a23, a24, a25, a26, a27, a28, a29, a30, a31] [.string nm, .int .i64 0, .int .i64 seg, .int .i64 off, .int .i64 len]) := by kernel_rfl
theorem built_wdN (e : Pt) (h : e.dg.length = 32) : Tryz.prog.built 39 [(0, .int .i64 (if e.gone then 4 else 3)), (2, .agg (bcs e.dg)), (3, .string e.nm), (5, .agg (lcA e.seg e.off e.len))] = some (mixC (wordT e).a (wordT e).dg (wordT e).t) := by
 have he := list32S h
 obtain ⟨l, hl⟩ : ∃ l, e.dg = l := ⟨_, rfl⟩
 unfold wordT Wq.a Wq.t
 rw [hl] at he ⊢
 rw [he]
 exact built_wdN32 _ _ _ _ _ (l.getD 0 0) (l.getD 1 0) (l.getD 2 0) (l.getD 3 0) (l.getD 4 0) (l.getD 5 0) (l.getD 6 0) (l.getD 7 0) (l.getD 8 0) (l.getD 9 0) (l.getD 10 0) (l.getD 11 0) (l.getD 12 0) (l.getD 13 0) (l.getD 14 0) (l.getD 15 0) (l.getD 16 0) (l.getD 17 0) (l.getD 18 0) (l.getD 19 0) (l.getD 20 0) (l.getD 21 0) (l.getD 22 0) (l.getD 23 0) (l.getD 24 0) (l.getD 25 0) (l.getD 26 0) (l.getD 27 0) (l.getD 28 0) (l.getD 29 0) (l.getD 30 0) (l.getD 31 0)
/-- what lives among the first k entries -/
def hE (L : List Pe) (s : Int) (k : Nat) : List Wq := (((L.take k).filter (hereE s)).map wordE).foldl putW []
def hT (o : List Wq) (M : List Pt) (s : Int) (k : Nat) : List Wq := (((M.take k).filter (hereT s)).map wordT).foldl putW o
theorem hE_step {L : List Pe} {k : Nat} {x : Pe} (h : L[k]? = some x) (s : Int) : hE L s (k + 1) = if hereE s x = true then putW (hE L s k) (wordE x) else hE L s k := by
 obtain ⟨h2, h3⟩ := List.getElem?_eq_some_iff.1 h
 unfold hE
 rw [List.take_succ_eq_append_getElem h2, h3, List.filter_append, List.map_append, List.foldl_append]
 by_cases hh : hereE s x = true
 ·rw [if_pos hh, List.filter_cons_of_pos hh]; rfl
 ·rw [if_neg hh, List.filter_cons_of_neg hh]; rfl
theorem hT_step {M : List Pt} {k : Nat} {x : Pt} (h : M[k]? = some x) (o : List Wq) (s : Int) : hT o M s (k + 1) = if hereT s x = true then putW (hT o M s k) (wordT x) else hT o M s k := by
 obtain ⟨h2, h3⟩ := List.getElem?_eq_some_iff.1 h
 unfold hT
 rw [List.take_succ_eq_append_getElem h2, h3, List.filter_append, List.map_append, List.foldl_append]
 by_cases hh : hereT s x = true
 ·rw [if_pos hh, List.filter_cons_of_pos hh]; rfl
 ·rw [if_neg hh, List.filter_cons_of_neg hh]; rfl
theorem hE_len (L : List Pe) (s : Int) (k : Nat) : (hE L s k).length ≤ L.length := by
 unfold hE
 rw [foldW_length, List.length_map]
 have h1 := List.length_filter_le (hereE s) (L.take k)
 rw [List.length_take] at h1
 simp only [List.length_nil]
 omega
theorem hT_len (o : List Wq) (M : List Pt) (s : Int) (k : Nat) : (hT o M s k).length ≤ o.length + M.length := by
 unfold hT
 rw [foldW_length, List.length_map]
 have h1 := List.length_filter_le (hereT s) (M.take k)
 rw [List.length_take] at h1
 omega
theorem hereP_is (D : List Pe) (T : List Pt) (l : List (Int × Int)) (s : Int) : hereP ⟨D, T, l⟩ s = hT (hE D s D.length) T s T.length := by
 unfold hereP hT hE
 rw [List.take_length, List.take_length, List.foldl_append]
/-- amid Here's loops -/
structure HeI (w W : World) (ws : List Wq) (v : Value) (o : List Wx) : Prop where
 gw : Gw encWd W w.heap.size v o
 eq : wxL o = ws
 le : Below w.heap.size w W
theorem HeI.len {w W : World} {ws : List Wq} {v : Value} {o : List Wx} (h : HeI w W ws v o) : o.length = ws.length := by rw [← h.eq, wxL_length]
/-- the words of the row stay those with digests such as they were -/
def StV (p q r : Option Addr) (n m l c d e : Nat) : Value := .agg #[.slice p n c, .slice q m d, .slice r l e]
def HereQ (w : World) (D : List Pe) (T : List Pt) (s : Int) (e : Ending) (w' : World) : Prop := ∃ v o, e = .returned v ∧ wxL o = hT (hE D s D.length) T s T.length ∧ Gw encWd w' w.heap.size v o ∧ Below w.heap.size w w'
set_option maxRecDepth 100000 in
set_option maxHeartbeats 8000000 in
theorem rhere22_any (p q r : Option Addr) (n m l c d cr : Nat) (D : List Ex) (T : List Tx) (s : Int) (w : World) (h : Gs encEn w p n D) (h' : Gs encTn w q m T) (hi : ∀ x ∈ D, Is w x.s x.e.ins) (hi' : ∀ x ∈ T, Is w x.s x.e.ins) (hb : ∀ x ∈ D, x.e.ins.length ≤ 2097152) (hb' : ∀ x ∈ T, x.e.ins.length ≤ 2097152) (hn : n + m ≤ 2097152) :
 Calls Tryz.prog 18 #[StV p q r n m l c d cr, .int .i64 s] w fun e w' => HereQ w (peL D) (ptL T) s e w' := by
 obtain ⟨wB, hwB⟩ : ∃ W, w.alloc (.cells #[.slice p n c, .slice q m d, .slice r l cr] 32) = W := ⟨_, rfl⟩
 have hbB : Below w.heap.size w wB := by rw [← hwB]; exact (Below.refl _ _).alloc (Nat.le_refl _) _
 have hgB : wB.heap[w.heap.size]? = some (.cells #[.slice p n c, .slice q m d, .slice r l cr] 32 (0, 0)) := by rw [← hwB]; exact heap_alloc_new _ _
 have hsB : w.heap.size < wB.heap.size := (Array.getElem?_eq_some_iff.1 hgB).1
 have HBB := Lib.hid hbB
 have HST : Hid (∀ W, Below wB.heap.size wB W → W.cell? ⟨w.heap.size, 0, none⟩ = some (.slice p n c) ∧ W.cell? ⟨w.heap.size, 1, none⟩ = some (.slice q m d)) := Lib.hid fun W hW => by
  have h1 := (hW.block _ hsB).trans hgB
  exact ⟨cell_of_row _ _ 0 _ _ _ h1, cell_of_row _ _ 1 _ _ _ h1⟩
 have H := Lib.hid (h.later hbB)
 have H' := Lib.hid (h'.later hbB)
 have HI0 := Lib.hid fun x hx => (hi x hx).later hbB
 have HI1 := Lib.hid fun x hx => (hi' x hx).later hbB
 have HBD := Lib.hid hb
 have HBT := Lib.hid hb'
 have HN := Lib.hid hn
 have HLD : Hid ((peL D).length = n) := Lib.hid (by rw [peL_length, h.len])
 have HLT : Hid ((ptL T).length = m) := Lib.hid (by rw [ptL_length, h'.len])
 have HS0 : Hid (HeI wB wB (hE (peL D) s 0) (.slice none 0 0) []) := Lib.hid ⟨Gw.nil _ _ _, rfl, Below.refl _ _⟩
 have hnn : n ≤ 2097152 := by omega
 have hmm : m ≤ 2097152 := by omega
 unfold StV
 clear h h' hi hi' hb hb' hbB hgB hsB hn
 go_enter Tryz.func18, Tryz.ntmps18
 go_wp2
 clear hwB
 go_loopw [5, 6] (fun v j wr => ∃ (k : Nat) (t : Option Addr) (a c' : Nat) (o : List Wx), k ≤ n ∧ j = .int .i64 (k : Int) ∧ v = .slice t a c' ∧ Hid (HeI wB wr (hE (peL D) s k) (.slice t a c') o)) (fun _ j _ => n - (intOf j).toNat)
 case atStart => exact ⟨0, none, 0, 0, [], by omega, rfl, rfl, HS0⟩
 case round =>
  clear HS0
  obtain ⟨k, t, a, c', o, hkn, rfl, rfl, HI⟩ := hrel
  obtain ⟨s0, s1⟩ := HST.out wr HI.out.le
  by_cases hlt : k < n
  ·obtain ⟨b1, off, y, rfl, hy1, hy3, hr⟩ := (H.out.later HI.out.le).en k hlt
   have HLY := Lib.hid (en_load hr)
   have HT := Lib.hid (hE_step (peL_get hy1) s)
   have HYI := Lib.hid ((HI0.out y hy3).later HI.out.le)
   have HYB := Lib.hid (HBD.out y hy3)
   have HOL : Hid (o.length ≤ 2097152) := Lib.hid (by have h1 := hE_len (peL D) s k; rw [HI.out.len]; rw [HLD.out] at h1; omega)
   have hki : (k : Int) < (n : Int) := by omega
   have hk0 : (0 : Int) ≤ (k : Int) := by omega
   clear hr hy1 hy3
   obtain ⟨MY, hMY⟩ : ∃ M, enC y.e y.s = M := ⟨_, rfl⟩
   rw [hMY] at HLY
   go_upto_region 6 with (first
    | (refine wpList_ld rfl 59 _ rfl _ rfl _ HLY.out ?_)
    | (rw [← hMY]; refine wpList_store_row rfl 59 _ _ rfl wr.heap.size (enC y.e y.s) rfl rfl 59 _ (heap_alloc_new _ _) (enC_sizeOf y.e y.s y.hd) ((enC_size zeroE _ rfl).trans (enC_size y.e y.s y.hd).symm) (enC_one _ _ _ _) ?_; generalize hv3 : World.setRow _ _ _ = w3))
   obtain ⟨he3, hb3⟩ := enC_lay rfl hv3
   obtain ⟨g3, hg3⟩ : ∃ g, wr.heap.size = g := ⟨_, rfl⟩
   rw [hg3] at he3
   rw [hg3]
   have HG3 := Lib.hid (HI.out.gw.later hb3)
   have HB3 := Lib.hid (below_step HI.out.le hb3)
   have HE3 := Lib.hid he3
   have HEQ := Lib.hid HI.out.eq
   have HY3 := Lib.hid (HYI.out.later hb3)
   obtain ⟨y0, y1, y2, y3⟩ := he3.cells y.hd
   clear he3 hb3 hv3 hg3 s0 s1 hMY
   obtain ⟨py, cy, hsy, hgy, _⟩ := HY3.out
   rw [hsy] at y3
   have HAL := Lib.hid (fun g => ralive19_any g py y.e.ins.length cy y.e.ins s w3 hgy HYB.out)
   have HBU := Lib.hid (built_wdE y.e y.hd)
   have HLD3 := Lib.hid (HE3.out.dig y.hd)
   have HLC3 := Lib.hid (HE3.out.loc y.hd)
   have HPU := Lib.hid (rput22_any t a c' o ⟨wordE y.e, y.hd⟩ w3 HG3.out.gs (by rw [← HG3.out.len]; exact HOL.out))
   have HHE : Hid (hereE s y.e = ((y.e.seg == s) && aliveB (y.e.k == 5) y.e.ins s)) := Lib.hid (by unfold hereE; congr 1)
   obtain ⟨hS, hhS⟩ : ∃ b, (y.e.seg == s) = b := ⟨_, rfl⟩
   obtain ⟨hK, hhK⟩ : ∃ b, (y.e.k == 5) = b := ⟨_, rfl⟩
   obtain ⟨hA, hhA⟩ : ∃ b, aliveB hK y.e.ins s = b := ⟨_, rfl⟩
   have HAL2 := Lib.hid (HAL.out hK)
   rw [hhS, hhK, hhA] at HHE
   rw [hhA] at HAL2
   obtain ⟨il, hil⟩ : ∃ x, y.e.ins.length = x := ⟨_, rfl⟩
   rw [hil] at HAL2 y3
   have HM1 : Hid (HeI wB w3 (hE (peL D) s k) (.slice t a c') o) := Lib.hid ⟨HG3.out, HEQ.out, HB3.out⟩
   unfold Wq.v at HPU
   dsimp only at HPU
   obtain ⟨MW, hMW⟩ : ∃ M, mixC (wordE y.e).a (wordE y.e).dg (wordE y.e).t = M := ⟨_, rfl⟩
   rw [hMW] at HPU HBU
   clear hhA hil hMW hsy hgy
   cases hS with
   | false =>
     have HN2 : Hid (HeI wB w3 (hE (peL D) s (k + 1)) (.slice t a c') o) := Lib.hid (by rw [HT.out, HHE.out, if_neg (by simp)]; exact HM1.out)
     go_wp2
     exact ⟨⟨k + 1, _, _, _, _, by omega, by go_num, rfl, HN2⟩, by simp [intOf] <;> omega⟩
   | true =>
     cases hA with
     | false =>
       have HN2 : Hid (HeI wB w3 (hE (peL D) s (k + 1)) (.slice t a c') o) := Lib.hid (by rw [HT.out, HHE.out, if_neg (by simp)]; exact HM1.out)
       go_wp2_with (go_at_call 60; refine HAL2.out.mono ?_; rintro e w4 ⟨rfl, rfl⟩)
       exact ⟨⟨k + 1, _, _, _, _, by omega, by go_num, rfl, HN2⟩, by simp [intOf] <;> omega⟩
     | true =>
       have HN1 : Hid (hE (peL D) s (k + 1) = putW (hE (peL D) s k) (wordE y.e)) := Lib.hid (by rw [HT.out, HHE.out]; simp)
       go_upto_region 7 with (go_at_call 60; refine HAL2.out.mono ?_; rintro e w4 ⟨rfl, rfl⟩)
       go_wp2_with (first
        | (refine wpList_ld rfl 35 _ rfl _ rfl _ HLD3.out ?_)
        | (refine wpList_ld rfl 37 _ rfl _ rfl _ HLC3.out ?_)
        | (refine wpList_build_is rfl 39 _ rfl MW ?_ ?_; focus (first | exact HBU.out | (simp; exact HBU.out)))
        | (go_at_call 61; refine HPU.out.mono ?_; rintro e w5 ⟨v5, o5, rfl, he5, hg5, _, hb5⟩; have HG5 := Lib.hid hg5; have HE5 := Lib.hid he5; have HB5 := Lib.hid hb5; obtain ⟨q5, c5, hv5, _⟩ := hg5.open; obtain ⟨m5, hm5⟩ : ∃ x, o5.length = x := ⟨_, rfl⟩; rw [hm5] at hv5; subst hv5; clear he5 hg5 hb5 hm5))
       have HN2 : Hid (HeI wB w5 (hE (peL D) s (k + 1)) _ o5) := Lib.hid ⟨HG5.out.mono HB3.out.size, by rw [HE5.out, HN1.out, HEQ.out], below_step HB3.out HB5.out⟩
       exact ⟨⟨k + 1, _, _, _, _, by omega, by go_num, rfl, HN2⟩, by simp [intOf] <;> omega⟩
  ·obtain rfl : k = n := by omega
   have HW : Hid (Below wB.heap.size wB wr) := Lib.hid HI.out.le
   have HF : Hid (HeI wB wr (hT (hE (peL D) s (peL D).length) (ptL T) s 0) (.slice t a c') o) := Lib.hid (by rw [HLD.out]; exact HI.out)
   have HEL : Hid ((hE (peL D) s (peL D).length).length ≤ k) := Lib.hid (by have h1 := hE_len (peL D) s (peL D).length; rwa [HLD.out] at h1 ⊢)
   obtain ⟨HD, hHD⟩ : ∃ x, hE (peL D) s (peL D).length = x := ⟨_, rfl⟩
   have HHD := Lib.hid hHD
   rw [hHD] at HF HEL
   clear hHD
   go_wp2
   go_loopw [5, 8] (fun v j wr => ∃ (i : Nat) (t : Option Addr) (a c' : Nat) (o : List Wx), i ≤ m ∧ j = .int .i64 (i : Int) ∧ v = .slice t a c' ∧ Hid (HeI wB wr (hT HD (ptL T) s i) (.slice t a c') o)) (fun _ j _ => m - (intOf j).toNat)
   case atStart => exact ⟨0, t, a, c', o, by omega, rfl, rfl, HF⟩
   case round =>
    clear HF HI HW s0 s1
    obtain ⟨i, t, a, c', o, him, rfl, rfl, HI⟩ := hrel
    obtain ⟨s0, s1⟩ := HST.out _ HI.out.le
    by_cases hlt2 : i < m
    ·obtain ⟨b2, off2, y, rfl, hy1, hy3, hr⟩ := (H'.out.later HI.out.le).tn i hlt2
     have HLY := Lib.hid (tn_load hr)
     have HT := Lib.hid (hT_step (ptL_get hy1) HD s)
     have HYI := Lib.hid ((HI1.out y hy3).later HI.out.le)
     have HYB := Lib.hid (HBT.out y hy3)
     have HOL : Hid (o.length ≤ 2097152) := Lib.hid (by have h1 := hT_len HD (ptL T) s i; have h2 := HEL.out; have h3 := HN.out; rw [HI.out.len]; rw [HLT.out] at h1; omega)
     have hki : (i : Int) < (m : Int) := by omega
     have hk0 : (0 : Int) ≤ (i : Int) := by omega
     clear hr hy1 hy3
     obtain ⟨MY, hMY⟩ : ∃ M, tnC y.e y.s = M := ⟨_, rfl⟩
     rw [hMY] at HLY
     go_upto_region 12 with (first
      | (refine wpList_ld rfl 64 _ rfl _ rfl _ HLY.out ?_)
      | (rw [← hMY]; refine wpList_store_row rfl 64 _ _ rfl wr.heap.size (tnC y.e y.s) rfl rfl 64 _ (heap_alloc_new _ _) (tnC_sizeOf y.e y.s y.hd) ((tnC_size zeroT _ rfl).trans (tnC_size y.e y.s y.hd).symm) (tnC_one _ _ _ _) ?_; generalize hv3 : World.setRow _ _ _ = w3))
     obtain ⟨he3, hb3⟩ := tnC_lay rfl hv3
     obtain ⟨g3, hg3⟩ : ∃ g, wr.heap.size = g := ⟨_, rfl⟩
     rw [hg3] at he3
     rw [hg3]
     have HG3 := Lib.hid (HI.out.gw.later hb3)
     have HB3 := Lib.hid (below_step HI.out.le hb3)
     have HE3 := Lib.hid he3
     have HEQ := Lib.hid HI.out.eq
     have HY3 := Lib.hid (HYI.out.later hb3)
     obtain ⟨y0, y1, y2, y3⟩ := he3.cells y.hd
     clear he3 hb3 hv3 hg3 s0 s1 hMY
     obtain ⟨py, cy, hsy, hgy, _⟩ := HY3.out
     rw [hsy] at y3
     have HAL := Lib.hid (ralive19_any y.e.gone py y.e.ins.length cy y.e.ins s w3 hgy HYB.out)
     have HBU := Lib.hid (built_wdN y.e y.hd)
     have HLD3 := Lib.hid (HE3.out.dig y.hd)
     have HLC3 := Lib.hid (HE3.out.loc y.hd)
     have HPU := Lib.hid (rput22_any t a c' o ⟨wordT y.e, y.hd⟩ w3 HG3.out.gs (by rw [← HG3.out.len]; exact HOL.out))
     have HHE : Hid (hereT s y.e = ((y.e.seg == s) && aliveB y.e.gone y.e.ins s)) := Lib.hid (by unfold hereT; congr 1)
     obtain ⟨hS, hhS⟩ : ∃ b, (y.e.seg == s) = b := ⟨_, rfl⟩
     obtain ⟨hA, hhA⟩ : ∃ b, aliveB y.e.gone y.e.ins s = b := ⟨_, rfl⟩
     have HAL2 := Lib.hid HAL.out
     rw [hhS, hhA] at HHE
     rw [hhA] at HAL2
     obtain ⟨il, hil⟩ : ∃ x, y.e.ins.length = x := ⟨_, rfl⟩
     rw [hil] at HAL2 y3
     have HM1 : Hid (HeI wB w3 (hT HD (ptL T) s i) (.slice t a c') o) := Lib.hid ⟨HG3.out, HEQ.out, HB3.out⟩
     unfold Wq.v at HPU
     dsimp only at HPU
     obtain ⟨MW, hMW⟩ : ∃ M, mixC (wordT y.e).a (wordT y.e).dg (wordT y.e).t = M := ⟨_, rfl⟩
     rw [hMW] at HPU HBU
     obtain ⟨gn, hgn⟩ : ∃ b, y.e.gone = b := ⟨_, rfl⟩
     rw [hgn] at HAL2 HBU y1
     clear hhA hil hMW hsy hgy hgn HAL
     cases hS with
     | false =>
       have HN2 : Hid (HeI wB w3 (hT HD (ptL T) s (i + 1)) (.slice t a c') o) := Lib.hid (by rw [HT.out, HHE.out, if_neg (by simp)]; exact HM1.out)
       go_wp2
       exact ⟨⟨i + 1, _, _, _, _, by omega, by go_num, rfl, HN2⟩, by simp [intOf] <;> omega⟩
     | true =>
       cases hA with
       | false =>
         have HN2 : Hid (HeI wB w3 (hT HD (ptL T) s (i + 1)) (.slice t a c') o) := Lib.hid (by rw [HT.out, HHE.out, if_neg (by simp)]; exact HM1.out)
         go_wp2_with (go_at_call 60; refine HAL2.out.mono ?_; rintro e w4 ⟨rfl, rfl⟩)
         exact ⟨⟨i + 1, _, _, _, _, by omega, by go_num, rfl, HN2⟩, by simp [intOf] <;> omega⟩
       | true =>
         have HN1 : Hid (hT HD (ptL T) s (i + 1) = putW (hT HD (ptL T) s i) (wordT y.e)) := Lib.hid (by rw [HT.out, HHE.out]; simp)
         go_upto_region 13 with (go_at_call 60; refine HAL2.out.mono ?_; rintro e w4 ⟨rfl, rfl⟩)
         cases gn with
         | false =>
           have HBU2 := Lib.hid HBU.out
           rw [if_neg (by simp)] at HBU2
           go_wp2_with (first
            | (refine wpList_ld rfl 35 _ rfl _ rfl _ HLD3.out ?_)
            | (refine wpList_ld rfl 37 _ rfl _ rfl _ HLC3.out ?_)
            | (refine wpList_build_is rfl 39 _ rfl MW ?_ ?_; focus (first | exact HBU2.out | (simp; exact HBU2.out)))
            | (go_at_call 61; refine HPU.out.mono ?_; rintro e w5 ⟨v5, o5, rfl, he5, hg5, _, hb5⟩; have HG5 := Lib.hid hg5; have HE5 := Lib.hid he5; have HB5 := Lib.hid hb5; obtain ⟨q5, c5, hv5, _⟩ := hg5.open; obtain ⟨m5, hm5⟩ : ∃ x, o5.length = x := ⟨_, rfl⟩; rw [hm5] at hv5; subst hv5; clear he5 hg5 hb5 hm5))
           have HN2 : Hid (HeI wB w5 (hT HD (ptL T) s (i + 1)) _ o5) := Lib.hid ⟨HG5.out.mono HB3.out.size, by rw [HE5.out, HN1.out, HEQ.out], below_step HB3.out HB5.out⟩
           exact ⟨⟨i + 1, _, _, _, _, by omega, by go_num, rfl, HN2⟩, by simp [intOf] <;> omega⟩
         | true =>
           have HBU2 := Lib.hid HBU.out
           rw [if_pos rfl] at HBU2
           go_wp2_with (first
            | (refine wpList_ld rfl 35 _ rfl _ rfl _ HLD3.out ?_)
            | (refine wpList_ld rfl 37 _ rfl _ rfl _ HLC3.out ?_)
            | (refine wpList_build_is rfl 39 _ rfl MW ?_ ?_; focus (first | exact HBU2.out | (simp; exact HBU2.out)))
            | (go_at_call 61; refine HPU.out.mono ?_; rintro e w5 ⟨v5, o5, rfl, he5, hg5, _, hb5⟩; have HG5 := Lib.hid hg5; have HE5 := Lib.hid he5; have HB5 := Lib.hid hb5; obtain ⟨q5, c5, hv5, _⟩ := hg5.open; obtain ⟨m5, hm5⟩ : ∃ x, o5.length = x := ⟨_, rfl⟩; rw [hm5] at hv5; subst hv5; clear he5 hg5 hb5 hm5))
           have HN2 : Hid (HeI wB w5 (hT HD (ptL T) s (i + 1)) _ o5) := Lib.hid ⟨HG5.out.mono HB3.out.size, by rw [HE5.out, HN1.out, HEQ.out], below_step HB3.out HB5.out⟩
           exact ⟨⟨i + 1, _, _, _, _, by omega, by go_num, rfl, HN2⟩, by simp [intOf] <;> omega⟩
    ·obtain rfl : i = m := by omega
     have HF2 : Hid (wxL o = hT HD (ptL T) s (ptL T).length) := Lib.hid (by rw [HLT.out]; exact HI.out.eq)
     go_wp2
     go_ret
     exact ⟨_, o, rfl, by rw [HHD.out]; exact HF2.out, HI.out.gw.mono HBB.out.size, below_step HBB.out HI.out.le⟩
def LoadsQ (w : World) (x : Ps) (e : Ending) (w' : World) : Prop := ∃ v, e = .returned v ∧ Gw encLo w' w.heap.size v (loadsP x) ∧ Below w.heap.size w w'
/-- the loads of the first k segments -/
def lsK (x : Ps) (k : Nat) : List (Int × Int × Int) := (x.L.take k).map fun y => (y.1, y.2, sumW (hereP x y.1))
theorem lsK_step (x : Ps) {k : Nat} (h : k < x.L.length) : lsK x (k + 1) = lsK x k ++ [((x.L.getD k (0, 0)).1, (x.L.getD k (0, 0)).2, sumW (hereP x (x.L.getD k (0, 0)).1))] := by
 unfold lsK
 rw [List.take_succ_eq_append_getElem h, List.map_append, List.getD_eq_getElem?_getD, List.getElem?_eq_getElem h]
 rfl
theorem lsK_all (x : Ps) {k : Nat} (h : k = x.L.length) : lsK x k = loadsP x := by
 unfold lsK loadsP
 rw [h, List.take_length]
theorem lsK_len (x : Ps) (k : Nat) : (lsK x k).length ≤ x.L.length := by
 unfold lsK
 rw [List.length_map, List.length_take]
 omega
/-- the sum of the first k lengths -/
def smK (l : List Wq) (k : Nat) : Int := IntKind.i64.wrap ((l.take k).map (·.len)).sum
theorem smK_step {l : List Wq} {k : Nat} {x : Wq} (h : l[k]? = some x) : smK l (k + 1) = IntKind.i64.wrap (smK l k + x.len) := by
 obtain ⟨h2, h3⟩ := List.getElem?_eq_some_iff.1 h
 unfold smK
 rw [List.take_succ_eq_append_getElem h2, h3, List.map_append, List.sum_append]
 simp only [List.map_cons, List.map_nil, List.sum_cons, List.sum_nil, IntKind.wrap_i64]
 omega
theorem smK_all {l : List Wq} {k : Nat} (h : k = l.length) : smK l k = sumW l := by
 unfold smK sumW
 rw [h, List.take_length]
/-- amid the sum of a segment -/
structure LdI (w W : World) (G : Nat) (x y z : Int) (B : Nat) (v u : Value) (o : List Wx) (ls : List (Int × Int × Int)) : Prop where
 m : Lm W G x y z
 o : Gw encWd W B v o
 g : Gw encLo W w.heap.size u ls
 le : Below w.heap.size w W
theorem LdI.drew {w W : World} {G : Nat} {x y z : Int} {B : Nat} {v u : Value} {o : List Wx} {ls : List (Int × Int × Int)} (h : LdI w W G x y z B v u o ls) : LdI w W.drew G x y z B v u o ls :=
 ⟨h.m.later (Below.refl _ _).drew, h.o.later (Below.refl _ _).drew, h.g.later (Below.refl _ _).drew, h.le.drew⟩
theorem LdI.set {w W : World} {G : Nat} {x y z : Int} {B : Nat} {v u : Value} {o : List Wx} {ls : List (Int × Int × Int)} (h : LdI w W G x y z B v u o ls) (hG : w.heap.size ≤ G) (hB : G < B) (hu : ∀ b, u.ownBlock = some b → b ≠ G) (t : Int) : LdI w (W.setCell ⟨G, 2, none⟩ (.int .i64 t)) G x y t B v u o ls :=
 ⟨h.m.set2 t, h.o.setOther (fun b hb => by have := (Gw.own_lt h.o hb).1; omega), h.g.setOther hu, h.le.setCell hG _⟩
theorem wx_len {W : World} {p : Option Addr} {n : Nat} {L : List Wx} (h : Gs encWd W p n L) (j : Nat) (hj : j < n) : ∃ b off x, p = some ⟨b, off, none⟩ ∧ (wxL L)[j]? = some x ∧ W.cell? ⟨b, off + j * 39 + 38, none⟩ = some (.int .i64 x.len) := by
 obtain ⟨b, off, x, hp, hx, _, hr⟩ := h.wx j hj
 exact ⟨b, off, x.1, hp, wxL_get hx, (wx_cells hr).2.2⟩
set_option maxRecDepth 100000 in
set_option maxHeartbeats 8000000 in
theorem rloads22_any (p q r : Option Addr) (n m l c d cr : Nat) (D : List Ex) (T : List Tx) (L : List (Int × Int)) (w : World) (h : Gs encEn w p n D) (h' : Gs encTn w q m T) (hl : Gs encLo w r l (ldL L)) (hi : ∀ x ∈ D, Is w x.s x.e.ins) (hi' : ∀ x ∈ T, Is w x.s x.e.ins) (hb : ∀ x ∈ D, x.e.ins.length ≤ 2097152) (hb' : ∀ x ∈ T, x.e.ins.length ≤ 2097152) (hn : n + m ≤ 2097152) (hll : l ≤ 2097152) :
 Calls Tryz.prog 21 #[StV p q r n m l c d cr] w fun e w' => LoadsQ w ⟨peL D, ptL T, L⟩ e w' := by
 obtain ⟨wB, hwB⟩ : ∃ W, w.alloc (.cells #[.slice p n c, .slice q m d, .slice r l cr] 32) = W := ⟨_, rfl⟩
 have hbB : Below w.heap.size w wB := by rw [← hwB]; exact (Below.refl _ _).alloc (Nat.le_refl _) _
 have hgB : wB.heap[w.heap.size]? = some (.cells #[.slice p n c, .slice q m d, .slice r l cr] 32 (0, 0)) := by rw [← hwB]; exact heap_alloc_new _ _
 have hsB : w.heap.size < wB.heap.size := (Array.getElem?_eq_some_iff.1 hgB).1
 have HBB := Lib.hid hbB
 have HSB := Lib.hid hsB
 have HST : Hid (∀ W, Below wB.heap.size wB W → W.cell? ⟨w.heap.size, 0, none⟩ = some (.slice p n c) ∧ W.cell? ⟨w.heap.size, 1, none⟩ = some (.slice q m d) ∧ W.cell? ⟨w.heap.size, 2, none⟩ = some (.slice r l cr)) := Lib.hid fun W hW => by
  have h1 := (hW.block _ hsB).trans hgB
  exact ⟨cell_of_row _ _ 0 _ _ _ h1, cell_of_row _ _ 1 _ _ _ h1, cell_of_row _ _ 2 _ _ _ h1⟩
 have HL := Lib.hid (hl.later hbB)
 have HLL : Hid (L.length = l) := Lib.hid (by rw [← ldL_length]; exact hl.len)
 have HLE := Lib.hid hll
 have HLEN : Hid (∀ s, (hT (hE (peL D) s (peL D).length) (ptL T) s (ptL T).length).length ≤ 2097152) := Lib.hid fun s => by
  have h1 := hT_len (hE (peL D) s (peL D).length) (ptL T) s (ptL T).length
  have h2 := hE_len (peL D) s (peL D).length
  rw [ptL_length, h'.len, peL_length, h.len] at h1
  rw [peL_length, h.len] at h2
  rw [ptL_length, h'.len, peL_length, h.len]
  omega
 have HHE : Hid (∀ s W, Below wB.heap.size wB W → Calls Tryz.prog 18 #[.agg #[.slice p n c, .slice q m d, .slice r l cr], .int .i64 s] W fun e w' => HereQ W (peL D) (ptL T) s e w') := Lib.hid fun s W hW => rhere22_any p q r n m l c d cr D T s W (h.later (below_step hbB hW)) (h'.later (below_step hbB hW)) (fun x hx => (hi x hx).later (below_step hbB hW)) (fun x hx => (hi' x hx).later (below_step hbB hW)) hb hb' hn
 have HS0 : Hid (Gw encLo wB wB.heap.size (.slice none 0 0) (lsK ⟨peL D, ptL T, L⟩ 0)) := Lib.hid (Gw.nil _ _ _)
 have HB0 : Hid (Below wB.heap.size wB wB) := Lib.hid (Below.refl _ _)
 unfold StV
 clear h h' hl hi hi' hb hb' hbB hgB hsB hn
 go_enter Tryz.func21, Tryz.ntmps21
 go_wp2
 clear hwB
 go_loopw [3, 4] (fun v j wr => ∃ (k : Nat) (t : Option Addr) (a c' : Nat), k ≤ l ∧ j = .int .i64 (k : Int) ∧ v = .slice t a c' ∧ Hid (Gw encLo wr wB.heap.size (.slice t a c') (lsK ⟨peL D, ptL T, L⟩ k)) ∧ Hid (Below wB.heap.size wB wr)) (fun _ j _ => l - (intOf j).toNat)
 case atStart => exact ⟨0, none, 0, 0, by omega, rfl, rfl, HS0, HB0⟩
 case round =>
  clear HS0 HB0
  obtain ⟨k, t, a, c', hkl, rfl, rfl, HG, HB⟩ := hrel
  obtain ⟨s0, s1, s2⟩ := HST.out wr HB.out
  by_cases hlt : k < l
  ·obtain ⟨b, off, rfl, c0, c1, c2⟩ := (HL.out.later HB.out).lo k hlt
   rw [ldL_getD L k (by rw [HLL.out]; exact hlt)] at c0 c1
   have HST2 := Lib.hid (lsK_step ⟨peL D, ptL T, L⟩ (show k < L.length by rw [HLL.out]; exact hlt))
   have hkn : (k : Int) < (l : Int) := by omega
   have hk0 : (0 : Int) ≤ (k : Int) := by omega
   dsimp only at c0 c1 HST2
   generalize L.getD k (0, 0) = y at *
   obtain ⟨ys, ya⟩ := y
   dsimp only at c0 c1 HST2
   clear c2
   have hz0 : w.heap.size < wr.heap.size := Nat.lt_of_lt_of_le HSB.out HB.out.size
   have hzb : b < wr.heap.size := Gs.block_lt (HL.out.later HB.out) (by omega)
   go_upto_region 5 with fail
   go_region
   obtain ⟨GX, hGX⟩ : ∃ g, wr.heap.size = g := ⟨_, rfl⟩
   obtain ⟨wX, hwX⟩ : ∃ V, (wr.alloc (.cells #[.int .i64 ys, .int .i64 ya, .int .i64 0] 97)).drew = V := ⟨_, rfl⟩
   have HMX : Hid (Lm wX GX ys ya 0) := Lib.hid (by rw [← hwX, ← hGX]; exact heap_alloc_new _ _)
   have HBX : Hid (Below wB.heap.size wB wX) := Lib.hid (by rw [← hwX]; exact (HB.out.alloc HB.out.size _).drew)
   have HGX : Hid (Gw encLo wX wB.heap.size (.slice t a c') (lsK ⟨peL D, ptL T, L⟩ k)) := Lib.hid (by rw [← hwX]; exact HG.out.later ((Below.refl _ _).alloc (Nat.le_refl _) _).drew)
   have HGL : Hid (wB.heap.size ≤ GX) := Lib.hid (by rw [← hGX]; exact HB.out.size)
   have HOX : Hid (∀ b, (Value.slice t a c').ownBlock = some b → b ≠ GX) := Lib.hid (fun b hb => by have := (Gw.own_lt HG.out hb).2; omega)
   have HGB : Hid (GX < wX.heap.size) := Lib.hid HMX.out.lt
   rw [hwX, hGX]
   clear hwX hGX hz0 hzb s0 s1 s2 c0 c1
   have HHX := Lib.hid (HHE.out ys wX HBX.out)
   obtain ⟨x0, x1, x2⟩ := HMX.out.cells
   obtain ⟨s0, s1, s2⟩ := HST.out wX HBX.out
   have HGS := Lib.hid HGB.out
   obtain ⟨B6, hB6⟩ : ∃ g, wX.heap.size = g := ⟨_, rfl⟩
   have HB6 := Lib.hid hB6
   rw [hB6] at HGB
   clear hB6
   go_upto_region 7 with (go_at_call 18; refine HHX.out.mono ?_; rintro e w6 ⟨v6, o6, rfl, he6, hg6, hb6⟩; have HLI : Hid (LdI wB w6 GX ys ya (smK (wxL o6) 0) B6 v6 (.slice t a c') o6 (lsK ⟨peL D, ptL T, L⟩ k)) := Lib.hid ⟨HMX.out.later hb6, by rw [← HB6.out]; exact hg6, HGX.out.later hb6, below_step HBX.out hb6⟩; have HE6 := Lib.hid he6; obtain ⟨q6, c6, hv6, _⟩ := hg6.open; obtain ⟨m6, hm6⟩ : ∃ x, o6.length = x := ⟨_, rfl⟩; have HM6 := Lib.hid hm6; rw [hm6] at hv6; subst hv6; clear he6 hg6 hb6 hm6)
   clear x0 x1 x2 s0 s1 s2
   have hm62 : m6 ≤ 2097152 := by rw [← HM6.out, ← wxL_length, HE6.out]; exact HLEN.out ys
   go_wp2
   go_loopw [7] (fun j wi => ∃ i : Nat, i ≤ m6 ∧ j = .int .i64 (i : Int) ∧ Hid (LdI wB wi GX ys ya (smK (wxL o6) i) B6 (.slice q6 m6 c6) (.slice t a c') o6 (lsK ⟨peL D, ptL T, L⟩ k))) (fun j _ => m6 - (intOf j).toNat)
   case atStart => exact ⟨0, by omega, rfl, HLI⟩
   case round =>
    clear HLI
    obtain ⟨i, him, rfl, HI⟩ := hrel
    obtain ⟨x0, x1, x2⟩ := HI.out.m.cells
    by_cases hlt2 : i < m6
    ·obtain ⟨b6, off6, y, rfl, hy1, y1⟩ := wx_len HI.out.o.gs i hlt2
     have xf := HI.out.m.frozen 2
     have HSM := Lib.hid (smK_step hy1)
     have hki : (i : Int) < (m6 : Int) := by omega
     have hk02 : (0 : Int) ≤ (i : Int) := by omega
     obtain ⟨yl, hyl⟩ : ∃ x, y.len = x := ⟨_, rfl⟩
     obtain ⟨zz, hzz⟩ : ∃ x, smK (wxL o6) i = x := ⟨_, rfl⟩
     rw [hyl] at y1 HSM
     rw [hzz] at x2 HSM
     clear hy1 hyl hzz
     go_upto_region 10 with fail
     go_region
     have e64 : IntKind.i64.wrap (zz + yl) = RowKit.wrap64 (zz + yl) := by unfold RowKit.wrap64; exact IntKind.wrap_i64 _
     rw [e64] at HSM
     generalize RowKit.wrap64 (zz + yl) = z2 at *
     generalize hwz : World.drew _ = wz
     have HNZ : Hid (LdI wB wz GX ys ya (smK (wxL o6) (i + 1)) B6 (.slice (some ⟨b6, off6, none⟩) m6 c6) (.slice t a c') o6 (lsK ⟨peL D, ptL T, L⟩ k)) := Lib.hid (by rw [← hwz, HSM.out]; exact (HI.out.set HGL.out HGB.out HOX.out z2).drew)
     clear hwz x0 x1 x2 y1 xf e64
     go_wp2
     exact ⟨⟨i + 1, by omega, by go_num, HNZ⟩, by simp [intOf] <;> omega⟩
    ·obtain rfl : i = m6 := by omega
     have HEQ : Hid (smK (wxL o6) i = sumW (hereP ⟨peL D, ptL T, L⟩ ys)) := Lib.hid (by rw [smK_all (show i = (wxL o6).length by rw [wxL_length]; exact HM6.out.symm), hereP_is, HE6.out])
     have HLK : Hid (lsK ⟨peL D, ptL T, L⟩ (k + 1) = lsK ⟨peL D, ptL T, L⟩ k ++ [(ys, ya, sumW (hereP ⟨peL D, ptL T, L⟩ ys))]) := Lib.hid HST2.out
     have HI2 := HI
     rw [HEQ.out] at HI2
     obtain ⟨zz, hzz⟩ : ∃ z, sumW (hereP ⟨peL D, ptL T, L⟩ ys) = z := ⟨_, rfl⟩
     rw [hzz] at HI2 HLK
     clear hzz HI HEQ x0 x1 x2
     obtain ⟨x0, x1, x2⟩ := HI2.out.m.cells
     have HGY := Lib.hid (HI2.out.g.alloc (.cells #[.int .i64 ys, .int .i64 ya, .int .i64 zz] 97))
     have HBY := Lib.hid (HI2.out.le.alloc HI2.out.le.size (.cells #[.int .i64 ys, .int .i64 ya, .int .i64 zz] 97))
     have HNY := Lib.hid (fun W => Gs.oneLo W ys ya zz)
     have HZY : Hid ((lsK ⟨peL D, ptL T, L⟩ k).length + 1 ≤ 2097216) := Lib.hid (by have h1 := lsK_len ⟨peL D, ptL T, L⟩ k; have h2 := HLE.out; dsimp only at h1; rw [HLL.out] at h1; omega)
     obtain ⟨ls, hls⟩ : ∃ x, lsK ⟨peL D, ptL T, L⟩ k = x := ⟨_, rfl⟩
     rw [hls] at HGY HZY HLK
     go_wp2_with (refine wpList_append_gen encLo rfl _ _ 25 rfl Tryz.underlying25 lozero 24 infoLo lozero_size (by decide) wB.heap.size _ _ rfl HGY.out _ 1 1 [(ys, ya, zz)] rfl (HNY.out _) (fun h => by cases h) HZY.out HBY.out.size ?_; intro v8 w8 ho8 hg8; have HG8 : Hid (Gw encLo w8 wB.heap.size v8 (ls ++ [(ys, ya, zz)])) := Lib.hid ho8; have HB8 := Lib.hid (below_new_gw HBY.out HGY.out hg8 HBY.out.size); obtain ⟨p8, c8, hv8, _⟩ := ho8.open; obtain ⟨m8, hm8⟩ : ∃ z, List.length (ls ++ [(ys, ya, zz)]) = z := ⟨_, rfl⟩; rw [hm8] at hv8; subst hv8; clear ho8 hg8 hm8)
     have HIN : Hid (Gw encLo w8 wB.heap.size _ (lsK ⟨peL D, ptL T, L⟩ (k + 1))) := Lib.hid (by rw [HLK.out]; exact HG8.out)
     exact ⟨⟨k + 1, _, _, _, by omega, by go_num, rfl, HIN, HB8⟩, by simp [intOf] <;> omega⟩
  ·obtain rfl : k = l := by omega
   have HF : Hid (lsK ⟨peL D, ptL T, L⟩ k = loadsP ⟨peL D, ptL T, L⟩) := Lib.hid (lsK_all _ HLL.out.symm)
   go_wp2
   go_ret
   exact ⟨_, rfl, by rw [← HF.out]; exact HG.out.mono HBB.out.size, below_step HBB.out HB.out⟩
set_option maxRecDepth 100000 in
set_option maxHeartbeats 2000000 in
theorem rsame20_any (p q : Option Addr) (n c m c' : Nat) (L M : List Ex) (w : World) (h : Gs encEn w p n L) (h' : Gs encEn w q m M) (he : peL L = peL M) (hi : ∀ x ∈ L, Is w x.s x.e.ins) (hi' : ∀ x ∈ M, Is w x.s x.e.ins) (hk : ∀ x ∈ L, dok x.e.dg) (hb : ∀ x ∈ L, x.e.ins.length ≤ 2097152) (hn : n ≤ 2097152) :
 Calls Tryz.prog 37 #[.slice p n c, .slice q m c'] w fun e w' => e = .returned (.bool true) ∧ Below w.heap.size w w' := by
 obtain rfl : n = m := by rw [← h.len, ← h'.len, ← peL_length, ← peL_length, he]
 have H := Lib.hid h
 have H' := Lib.hid h'
 have HE := Lib.hid he
 have HI := Lib.hid hi
 have HI' := Lib.hid hi'
 have HK := Lib.hid hk
 have HBD := Lib.hid hb
 have e1 : (((n : Nat) : Int) != (n : Int)) = false := by simp
 clear h h' he hi hi' hk hb
 go_enter Tryz.func37, Tryz.ntmps37
 go_wp2
 go_loopw [5] (fun j wr => ∃ k : Nat, k ≤ n ∧ j = .int .i64 (k : Int) ∧ Hid (Below w.heap.size w wr)) (fun j _ => n - (intOf j).toNat)
 case atStart => exact ⟨0, by omega, rfl, Lib.hid (Below.refl _ _)⟩
 case round =>
  obtain ⟨k, hkn, rfl, HB⟩ := hrel
  by_cases hlt : k < n
  ·obtain ⟨b1, off, y, rfl, hy1, hy3, hr⟩ := (H.out.later HB.out).en k hlt
   obtain ⟨b2, off2, z, rfl, hz1, hz3, hr2⟩ := (H'.out.later HB.out).en k hlt
   have hyz : z.e = y.e := by
    have h1 := peL_get hy1
    have h2 := peL_get hz1
    rw [← HE.out, h1] at h2
    exact (Option.some.inj h2).symm
   have HL1 : Hid (∀ W, Below wr.heap.size wr W → (Instr.loadAt 59 (.pointer (some ⟨b1, off + k * 38, none⟩))).run Tryz.prog W = .ok (.agg (enC y.e y.s)) W) := Lib.hid fun W hW => en_load (en_range hr hW)
   have HL2 : Hid (∀ W, Below wr.heap.size wr W → (Instr.loadAt 59 (.pointer (some ⟨b2, off2 + k * 38, none⟩))).run Tryz.prog W = .ok (.agg (enC z.e z.s)) W) := Lib.hid fun W hW => en_load (en_range hr2 hW)
   have HSM := Lib.hid fun W (hW : Below wr.heap.size wr W) => rsame19_any y.e y.s z.s W ((HI.out y hy3).later (below_step HB.out hW)) (by have h1 := (HI'.out z hz3).later (below_step HB.out hW); rw [hyz] at h1; exact h1) (HK.out y hy3) (HBD.out y hy3)
   rw [hyz] at HL2
   have hki : (k : Int) < (n : Int) := by omega
   have hk0 : (0 : Int) ≤ (k : Int) := by omega
   have hbe : Below wr.heap.size wr wr := Below.refl _ _
   unfold enV at HSM
   generalize enC y.e y.s = ME at *
   generalize enC y.e z.s = MZ at *
   clear hr hr2 hy1 hy3 hz1 hz3 hyz
   go_upto_region 6 with fail
   refine wp_region_held_drew (S := (fun W : World => Below wr.heap.size wr W)) (by kernel_rfl) (show Below _ _ (World.drew wr) from hbe.drew) (fun hHeld => ?_)
   refine tk 0 rfl ?_;(try simp only [PT]);refine tk 1 rfl ?_;(try simp only [PT]);refine tk 2 rfl ?_;(try simp only [PT])
   refine tkL 3 rfl (yieldsIf_ld (by rfl) 59 (.tmp 19) rfl (.pointer (some ⟨b1, off + k * 38, none⟩)) rfl (.agg ME) (fun W hW => HL1.out W hW)) ?_
   (try simp only [PT])
   refine tk 4 rfl ?_;(try simp only [PT]);refine tk 5 rfl ?_;(try simp only [PT]);refine tk 6 rfl ?_;(try simp only [PT])
   refine tkL 7 rfl (yieldsIf_ld (by rfl) 59 (.tmp 23) rfl (.pointer (some ⟨b2, off2 + k * 38, none⟩)) rfl (.agg MZ) (fun W hW => HL2.out W hW)) ?_
   (try simp only [PT])
   refine ready_at 8 rfl (by kernel_rfl) (fun K hK => ?_)
   go_simp
   refine (HSM.out _ hHeld).mono ?_
   rintro r w3 ⟨rfl, hb3⟩
   have hB3 := below_step hHeld hb3
   clear hHeld
   first
    | refine hK.out _ _ ?hS9 (fun hHeld => ?rest9)
    | (go_wp2_with fail; refine hK.out _ _ ?hS9 (fun hHeld => ?rest9))
   case hS9 => exact hB3
   clear hK K
   (try simp only [PT])
   refine tk 9 rfl ?_;(try simp only [PT])
   refine wpAnyH_done (by kernel_rfl) ?_ _
   have HB3 := Lib.hid (below_step HB.out hHeld)
   clear hHeld
   go_wp2
   exact ⟨⟨k + 1, by omega, by go_num, HB3⟩, by simp [intOf] <;> omega⟩
  ·obtain rfl : k = n := by omega
   go_wp2
   go_ret
   exact ⟨rfl, HB.out⟩
theorem getE_cons (x : Pe) (M : List Pe) (d : List Int) : getE (x :: M) d = if x.dg = d then some x else getE M d := rfl
theorem getE_append (l m : List Pe) (d : List Int) : getE (l ++ m) d = match getE l d with | some x => some x | none => getE m d := by
 induction l with
 | nil => rfl
 | cons y l ih =>
   rw [List.cons_append, getE_cons, getE_cons]
   by_cases h : y.dg = d
   ·rw [if_pos h, if_pos h]
   ·rw [if_neg h, if_neg h]; exact ih
theorem getE_take {L : List Pe} {k : Nat} {x : Pe} (h : L[k]? = some x) (d : List Int) : getE (L.take (k + 1)) d = match getE (L.take k) d with | some y => some y | none => if x.dg = d then some x else none := by
 obtain ⟨h2, h3⟩ := List.getElem?_eq_some_iff.1 h
 rw [List.take_succ_eq_append_getElem h2, getE_append, h3]
 rfl
theorem getE_upto {L : List Pe} {k : Nat} {d : List Int} {x : Pe} (h : getE (L.take k) d = some x) : getE L d = some x := by
 conv => lhs; rw [← List.take_append_drop k L, getE_append, h]
/-- what Get answers -/
def GetQ (w : World) (L : List Ex) (r : Pe × Bool) (e : Ending) (w' : World) : Prop :=
 ∃ u, e = .returned (.tuple #[enV r.1 u, .bool r.2]) ∧ ((∃ x ∈ L, x.e = r.1 ∧ u = x.s) ∨ u = .slice none 0 0 ∧ r.1 = zeroE) ∧ Below w.heap.size w w'
set_option maxRecDepth 100000 in
set_option maxHeartbeats 2000000 in
theorem rget20_any (p : Option Addr) (n c : Nat) (L : List Ex) (d : List Int) (w : World) (h : Gs encEn w p n L) (hk : ∀ x ∈ L, dok x.e.dg) (hd : dok d) (hn : n ≤ 2097152) :
 Calls Tryz.prog 24 #[.slice p n c, .agg (bcs d)] w fun e w' => GetQ w L (getR (peL L) d) e w' := by
 obtain ⟨w0, wB, g1, hw0, hwB, hg1, hX⟩ := box2 w (bcs d) (enC zeroE (.slice none 0 0)) 35 59
 have HB := Lib.hid hX.le
 have HLT := Lib.hid hX.lt
 have HLD : Hid (∀ W, Below wB.heap.size wB W → (Instr.loadAt 35 (.pointer (some ⟨w.heap.size, 0, none⟩))).run Tryz.prog W = .ok (.agg (bcs d)) W) := Lib.hid fun W hW => Yw.load (show Yw W w.heap.size 35 d from obj_later hX.a hW) hd.1
 have HZ := Lib.hid fun W (hW : Below wB.heap.size wB W) => (obj_later hX.z hW : Em W g1 zeroE (.slice none 0 0))
 have H := Lib.hid (h.later hX.le)
 have HK := Lib.hid hk
 have HD := Lib.hid hd
 have HLL : Hid ((peL L).length = n) := Lib.hid (by rw [peL_length, h.len])
 rw [enZero] at hwB
 generalize hM : bcs d = M at *
 have HM := Lib.hid hM
 clear h hk hd hX hM
 go_enter Tryz.func24, Tryz.ntmps24
 go_wp2
 clear hw0 hwB hg1
 go_loopw [6] (fun j wr => ∃ k : Nat, k ≤ n ∧ j = .int .i64 (k : Int) ∧ Hid (getE ((peL L).take k) d = none) ∧ Hid (Below wB.heap.size wB wr)) (fun j _ => n - (intOf j).toNat)
 case atStart => exact ⟨0, by omega, rfl, Lib.hid rfl, Lib.hid (Below.refl _ _)⟩
 case round =>
  obtain ⟨k, hkn, rfl, hm, hb⟩ := hrel
  by_cases hlt : k < n
  ·obtain ⟨b1, off, y, rfl, hy1, hy3, hr⟩ := (H.out.later hb.out).en k hlt
   have HL1 : Hid (∀ W, (∃ m, W = wr.drewN m) → (Instr.loadAt 35 (.pointer (some ⟨b1, off + k * 38, none⟩))).run Tryz.prog W = .ok (.agg (bcs y.e.dg)) W) := Lib.hid (by rintro W ⟨m, rfl⟩; exact en_dig (en_range hr (below_drewN (Below.refl _ _) _)))
   have HL2 : Hid (∀ W, (∃ m, W = wr.drewN m) → (Instr.loadAt 35 (.pointer (some ⟨w.heap.size, 0, none⟩))).run Tryz.prog W = .ok (.agg M) W) := Lib.hid (by rintro W ⟨m, rfl⟩; exact HLD.out _ (hb.out.trans (below_drewN ((Below.refl _ _)) _)))
   have HLW : Hid (∀ W, Below wr.heap.size wr W → (Instr.loadAt 59 (.pointer (some ⟨b1, off + k * 38, none⟩))).run Tryz.prog W = .ok (.agg (enC y.e y.s)) W) := Lib.hid fun W hW => en_load (en_range hr hW)
   have heq := fun W => digest_eq y.e.dg d (HK.out y hy3) HD.out W
   have HT := Lib.hid (getE_take (peL_get hy1) d)
   have HY := Lib.hid hy3
   have hki : (k : Int) < (n : Int) := by omega
   have hk0 : (0 : Int) ≤ (k : Int) := by omega
   obtain ⟨d1, hd1⟩ : ∃ d, y.e.dg = d := ⟨_, rfl⟩
   rw [hd1] at HL1 heq HT
   rw [HM.out] at heq
   clear hr hy1 hy3 hd1
   go_wp2
   refine wp_region_quiet_lit (by kernel_rfl) (by kernel_rfl) ?_
   repeat (first | (refine quiet_want rfl fun K hK => quiet_load 35 _ rfl _ rfl _ (HL1).out (hK _ ?_); clear hK K) | (refine quiet_want rfl fun K hK => quiet_load 35 _ rfl _ rfl _ (HL2).out (hK _ ?_); clear hK K) | (quiet_step (fail)))
   refine wpQuiet_nil ?_
   intro wd hw'
   obtain ⟨nq, hwd⟩ := hw'
   have hbd : Below wr.heap.size wr wd := by rw [hwd]; exact below_drewN (Below.refl _ _) _
   have HB2 : Hid (Below wB.heap.size wB wd) := Lib.hid (below_step hb.out hbd)
   have HLY := Lib.hid (HLW.out wd hbd)
   have HZD := Lib.hid (HZ.out wd HB2.out)
   clear hwd hbd heq
   by_cases hxd : d1 = d
   ·have hT : decide (d1 = d) = true := by simpa using hxd
    have HF : Hid (getR (peL L) d = (y.e, true)) := Lib.hid (by
     have h1 : getE ((peL L).take (k + 1)) d = some y.e := by rw [HT.out, hm.out]; dsimp only; rw [if_pos hxd]
     unfold getR
     rw [getE_upto h1])
    go_wp2_with (first
     | (refine wpList_ld rfl 59 _ rfl _ rfl _ HLY.out ?_)
     | (refine wpList_store_row rfl 59 _ _ rfl g1 (enC y.e y.s) rfl rfl 59 _ HZD.out (enC_sizeOf y.e _ y.hd) ((enC_size _ _ rfl).trans (enC_size y.e _ y.hd).symm) (enC_one _ _ _ _) ?_; generalize hw6 : World.setRow _ _ _ = w6))
    have HM6 : Em w6 g1 y.e y.s := by rw [← hw6]; exact Mx.row HZD.out
    refine bodyPost_ret (HM6.res2 y.hd rfl _ rfl) rfl ?_
    rw [HF.out]
    exact ⟨_, rfl, Or.inl ⟨y, HY.out, rfl, rfl⟩, by rw [← hw6]; exact below_setRow8 (below_step HB.out HB2.out) _ _ (by have := HLT.out; omega)⟩
   ·have hT : decide (d1 = d) = false := by simpa using hxd
    have HN2 : Hid (getE ((peL L).take (k + 1)) d = none) := Lib.hid (by rw [HT.out, hm.out]; dsimp only; rw [if_neg hxd])
    go_wp2
    exact ⟨⟨k + 1, by omega, by go_num, HN2, HB2⟩, by simp [intOf] <;> omega⟩
  ·obtain rfl : k = n := by omega
   have HF : Hid (getR (peL L) d = (zeroE, false)) := Lib.hid (by
    have h1 := hm.out
    rw [List.take_of_length_le (by rw [HLL.out]; exact Nat.le_refl _)] at h1
    unfold getR
    rw [h1])
   have HZD := Lib.hid (HZ.out wr hb.out)
   have HBU := Lib.hid built_en0
   go_wp2_with (first
    | (refine wpList_build_is rfl 59 _ rfl (enC zeroE (.slice none 0 0)) ?_ ?_; focus (first | (simp only [List.map_toArray, List.map_nil]; exact HBU.out) | (simp only [Array.map_empty]; exact HBU.out) | (simp; exact HBU.out)))
    | (refine wpList_store_row rfl 59 _ _ rfl g1 (enC zeroE (.slice none 0 0)) rfl rfl 59 _ HZD.out (enC_sizeOf zeroE _ rfl) rfl (enC_one _ _ _ _) ?_; generalize hw6 : World.setRow _ _ _ = w6))
   have HM6 : Em w6 g1 zeroE (.slice none 0 0) := by rw [← hw6]; exact Mx.row HZD.out
   refine bodyPost_ret (HM6.res2 rfl rfl _ rfl) rfl ?_
   rw [HF.out]
   exact ⟨_, rfl, Or.inr ⟨rfl, rfl⟩, by rw [← hw6]; exact below_setRow8 (below_step HB.out hb.out) _ _ (by have := HLT.out; omega)⟩
theorem setB_drop {L : List Pe} {k : Nat} {x : Pe} (h : L[k]? = some x) (e : Pe) (t : Bool) : setB e (L.drop k) t = (if t = false ∧ dlt x.dg e.dg = false then [e] else []) ++ ((if x.dg = e.dg then [] else [x]) ++ setB e (L.drop (k + 1)) (t || !dlt x.dg e.dg)) := by
 obtain ⟨h2, h3⟩ := List.getElem?_eq_some_iff.1 h
 rw [List.drop_eq_getElem_cons h2, h3]
 rfl
def SetQ (w : World) (L : List Ex) (X : Ex) (e : Ending) (w' : World) : Prop := ∃ v o, e = .returned v ∧ peL o = setE (peL L) X.e ∧ Gw encEn w' w.heap.size v o ∧ (∀ x ∈ o, x ∈ L ∨ x = X) ∧ Below w.heap.size w w'
def NewQ (w : World) (L : List Ex) (e : Ending) (w' : World) : Prop := ∃ v o, e = .returned v ∧ peL o = newE (peL L) ∧ Gw encEn w' w.heap.size v o ∧ (∀ x ∈ o, x ∈ L) ∧ Below w.heap.size w w'
/-- amid Set's loop -/
structure SeI (w W : World) (L : List Ex) (X : Ex) (B k : Nat) (tb : Bool) (v : Value) (o : List Ex) : Prop where
 gw : Gw encEn W B v o
 eq : peL o ++ setB X.e ((peL L).drop k) tb = setE (peL L) X.e
 me : ∀ x ∈ o, x ∈ L ∨ x = X
 le : Below w.heap.size w W
theorem SeI.len {w W : World} {L : List Ex} {X : Ex} {B k : Nat} {tb : Bool} {v : Value} {o : List Ex} (h : SeI w W L X B k tb v o) : o.length ≤ L.length + 1 := by
 have h1 := setE_length (peL L) X.e
 rw [← h.eq, List.length_append, peL_length, peL_length] at h1
 omega
set_option maxRecDepth 100000 in
set_option maxHeartbeats 4000000 in
theorem rset20_any (p : Option Addr) (n c : Nat) (L : List Ex) (X : Ex) (w : World) (h : Gs encEn w p n L) (hk : ∀ x ∈ L, dok x.e.dg) (hX : dok X.e.dg) (hn : n ≤ 2097152) :
 Calls Tryz.prog 75 #[.slice p n c, enV X.e X.s] w fun e w' => SetQ w L X e w' := by
 obtain ⟨wB, hwB⟩ : ∃ W, w.alloc (.cells (enC X.e X.s) 59) = W := ⟨_, rfl⟩
 have hbB : Below w.heap.size w wB := by rw [← hwB]; exact (Below.refl _ _).alloc (Nat.le_refl _) _
 have hmE : Em wB w.heap.size X.e X.s := by rw [← hwB]; exact heap_alloc_new _ _
 have HB := Lib.hid hbB
 have HLX := Lib.hid fun W (hW : Below wB.heap.size wB W) => (hmE.later hW).load X.hd
 have HDX := Lib.hid fun W (hW : Below wB.heap.size wB W) => (hmE.later hW).dig X.hd
 have H := Lib.hid (h.later hbB)
 have HK := Lib.hid hk
 have HXD := Lib.hid hX
 have HLL : Hid ((peL L).length = n) := Lib.hid (by rw [peL_length, h.len])
 have HL0 : Hid (L.length = n) := Lib.hid h.len
 have HSI : Hid (SeI wB wB L X wB.heap.size 0 false (.slice none 0 0) []) := Lib.hid ⟨Gw.nil _ _ _, by simp [peL, setE], (fun x hx => by cases hx), Below.refl _ _⟩
 unfold enV
 generalize hME : enC X.e X.s = ME at *
 have HME := Lib.hid hME
 clear h hk hX hbB hmE hME
 go_enter Tryz.func75, Tryz.ntmps75
 go_wp2
 clear hwB
 go_loopw [5, 6, 7] (fun v t j wr => ∃ (k : Nat) (tb : Bool) (q : Option Addr) (m c' : Nat) (o : List Ex), k ≤ n ∧ j = .int .i64 (k : Int) ∧ t = .bool tb ∧ v = .slice q m c' ∧ Hid (SeI wB wr L X wB.heap.size k tb (.slice q m c') o)) (fun _ _ j _ => n - (intOf j).toNat)
 case atStart => exact ⟨0, false, none, 0, 0, [], by omega, rfl, rfl, rfl, HSI⟩
 case round =>
  obtain ⟨k, tb, q, m, c', o, hkn, rfl, rfl, rfl, HI⟩ := hrel
  by_cases hlt : k < n
  ·obtain ⟨b1, off, y, rfl, hy1, hy3, hr⟩ := (H.out.later HI.out.le).en k hlt
   have HY := Lib.hid hy3
   have HYD := Lib.hid (HK.out y hy3)
   have HSB := Lib.hid (setB_drop (peL_get hy1) X.e tb)
   have HRW : Hid (∀ W, Below wB.heap.size wB W → W.rangeAt b1 (off + k * 38) (mixL [] y.e.dg (y.e.t y.s))) := Lib.hid fun W hW => by
    obtain ⟨b2, off2, z, hp2, hz1, _, hr2⟩ := (H.out.later hW).en k hlt
    simp only [Option.some.injEq, Addr.mk.injEq, and_true] at hp2
    obtain ⟨rfl, rfl⟩ := hp2
    rw [hy1] at hz1
    obtain rfl := Option.some.inj hz1
    exact hr2
   have HLY := Lib.hid fun W (hW : Below wB.heap.size wB W) => en_load (HRW.out W hW)
   have HDY := Lib.hid fun W (hW : Below wB.heap.size wB W) => en_dig (HRW.out W hW)
   have HLS := Lib.hid fun W => rless_any y.e.dg X.e.dg W HYD.out HXD.out
   have heq := fun W => digest_eq y.e.dg X.e.dg HYD.out HXD.out W
   have hki : (k : Int) < (n : Int) := by omega
   have hk0 : (0 : Int) ≤ (k : Int) := by omega
   obtain ⟨dy, hdy⟩ : ∃ d, bcs y.e.dg = d := ⟨_, rfl⟩
   obtain ⟨dx, hdx⟩ : ∃ d, bcs X.e.dg = d := ⟨_, rfl⟩
   rw [hdy] at HDY HLS heq
   rw [hdx] at HDX HLS heq
   obtain ⟨MY, hMY⟩ : ∃ M, enC y.e y.s = M := ⟨_, rfl⟩
   have HMY := Lib.hid hMY
   rw [hMY] at HLY
   have HBL : Hid (Below wB.heap.size wB wr) := Lib.hid HI.out.le
   clear hr hy1 hy3 hdy hdx hMY
   obtain ⟨lt, hlt2⟩ : ∃ b, dlt y.e.dg X.e.dg = b := ⟨_, rfl⟩
   rw [hlt2] at HLS HSB
   clear hlt2
   -- the first test
   cases tb with
   | true =>
     go_upto_region 6 with fail
     go_quiet (fail)
     have hbq : Below wr.heap.size wr (wr.drewN nq) := below_drewN (Below.refl _ _) nq
     have HGQ := Lib.hid (HI.out.gw.later hbq)
     have HBQ := Lib.hid (below_step HBL.out hbq)
     have HEQ0 : Hid (peL o ++ ((if y.e.dg = X.e.dg then [] else [y.e]) ++ setB X.e ((peL L).drop (k + 1)) true) = setE (peL L) X.e) := Lib.hid (by
      have h1 := HI.out.eq
      rw [HSB.out, if_neg (fun h => by cases h.1), List.nil_append] at h1
      exact h1)
     clear hbq
     generalize wr.drewN nq = wq at *
     have HL1 : Hid (∀ V, (∃ m, V = wq.drewN m) → (Instr.loadAt 35 (.pointer (some ⟨b1, off + k * 38, none⟩))).run Tryz.prog V = .ok (.agg dy) V) := Lib.hid (by rintro V ⟨m, rfl⟩; exact HDY.out _ (below_drewN HBQ.out _))
     have HL2 : Hid (∀ V, (∃ m, V = wq.drewN m) → (Instr.loadAt 35 (.pointer (some ⟨w.heap.size, 0, none⟩))).run Tryz.prog V = .ok (.agg dx) V) := Lib.hid (by rintro V ⟨m, rfl⟩; exact HDX.out _ (below_drewN HBQ.out _))
     go_upto_region 9 with fail
     refine wp_region_quiet_lit (by kernel_rfl) (by kernel_rfl) ?_
     repeat (first | (refine quiet_want rfl fun K hK => quiet_load 35 _ rfl _ rfl _ (HL1).out (hK _ ?_); clear hK K) | (refine quiet_want rfl fun K hK => quiet_load 35 _ rfl _ rfl _ (HL2).out (hK _ ?_); clear hK K) | (quiet_step (fail)))
     refine wpQuiet_nil ?_
     intro wd hw'
     obtain ⟨nq, hwd⟩ := hw'
     have hbd : Below wq.heap.size wq wd := by rw [hwd]; exact below_drewN (Below.refl _ _) _
     have HGD := Lib.hid (HGQ.out.later hbd)
     have HBD := Lib.hid (below_step HBQ.out hbd)
     clear hwd hbd heq
     obtain ⟨bx, hbx⟩ : ∃ b, decide (y.e.dg = X.e.dg) = b := ⟨_, rfl⟩
     rw [hbx]
     cases bx
     rotate_left
     ·have hne : y.e.dg = X.e.dg := of_decide_eq_true hbx
      have HIN : Hid (SeI wB wd L X wB.heap.size (k + 1) true _ o) := Lib.hid ⟨HGD.out, by have h1 := HEQ0.out; rw [if_pos hne, List.nil_append] at h1; exact h1, HI.out.me, HBD.out⟩
      clear hne hbx
      go_wp2
      exact ⟨⟨k + 1, _, _, _, _, _, by omega, by go_num, rfl, rfl, HIN⟩, by simp [intOf] <;> omega⟩
     ·have hne : ¬ y.e.dg = X.e.dg := of_decide_eq_false hbx
      have HLYD := Lib.hid (HLY.out wd HBD.out)
      have HEQ : Hid (peL (o ++ [y]) ++ setB X.e ((peL L).drop (k + 1)) true = setE (peL L) X.e) := Lib.hid (by have h1 := HEQ0.out; rw [if_neg hne] at h1; rw [peL_append, List.append_assoc]; exact h1)
      have HOL2 : Hid ((o).length + 1 ≤ 2097216) := Lib.hid (by
       have h1 := setE_length (peL L) X.e
       rw [← HEQ.out, List.length_append, peL_length, peL_length, List.length_append, List.length_singleton, HL0.out] at h1
       omega)
      clear hne hbx
      go_wp2_with (first
       | (refine wpList_ld rfl 59 _ rfl _ rfl _ HLYD.out ?_)
       | (refine wpList_build_en rfl 23 43 rfl Tryz.underlying23 y (by rw [HMY.out]; rfl) ?_)
       | (refine wpList_append_gen encEn rfl _ _ 23 rfl Tryz.underlying23 ezero 96 infoEn ezero_size (by decide) wB.heap.size _ o rfl (HGD.out.alloc _) _ 1 1 [y] rfl (Gs.oneEn _ y) (fun h => by cases h) HOL2.out (by have h1 := HBD.out.size; rw [World.size_alloc]; omega) ?_; intro v9 w9 ho9 hg9; obtain ⟨p9, c9, hv9, _⟩ := ho9.open; obtain ⟨m9, hm9⟩ : ∃ x, (o ++ [y]).length = x := ⟨_, rfl⟩; rw [hm9] at hv9; subst hv9; have HO9 := Lib.hid ho9; have HB9 := Lib.hid (below_app (HBD.out.alloc HBD.out.size (.cells (enC y.e y.s) 59)) (HGD.out.alloc _) (Nat.le_refl _) hg9); clear ho9 hg9 hm9))
      have HIN : Hid (SeI wB w9 L X wB.heap.size (k + 1) true _ (o ++ [y])) := Lib.hid ⟨HO9.out, HEQ.out, fun x hx => by
       rcases List.mem_append.1 hx with h1 | h1
       ·exact HI.out.me x h1
       ·rw [List.mem_singleton] at h1
        rw [h1]; exact Or.inl HY.out, HB9.out⟩
      exact ⟨⟨k + 1, _, _, _, _, _, by omega, by go_num, rfl, rfl, HIN⟩, by simp [intOf] <;> omega⟩
   | false =>
     go_upto_region 6 with fail
     refine wp_region_held_drew (S := (fun W : World => Below wr.heap.size wr W)) (by kernel_rfl) (show Below _ _ (World.drew wr) from (Below.refl _ _).drew) (fun hHeld => ?_)
     refine tk 0 rfl ?_;(try simp only [PT]);refine tk 1 rfl ?_;(try simp only [PT]);refine tk 2 rfl ?_;(try simp only [PT]);refine tk 3 rfl ?_;(try simp only [PT]);refine tk 4 rfl ?_;(try simp only [PT]);refine tk 5 rfl ?_;(try simp only [PT]);refine tk 6 rfl ?_;(try simp only [PT])
     refine tkL 7 rfl (yieldsIf_ld (by rfl) 35 (.tmp 20) rfl (.pointer (some ⟨b1, off + k * 38, none⟩)) rfl (.agg dy) (fun W hW => HDY.out W (below_step HBL.out hW))) ?_
     (try simp only [PT])
     refine tk 8 rfl ?_;(try simp only [PT])
     refine tkL 9 rfl (yieldsIf_ld (by rfl) 35 (.tmp 22) rfl (.pointer (some ⟨w.heap.size, 0, none⟩)) rfl (.agg dx) (fun W hW => HDX.out W (below_step HBL.out hW))) ?_
     (try simp only [PT])
     refine ready_at 10 rfl (by kernel_rfl) (fun K hK => ?_)
     go_simp
     refine (HLS.out _).mono ?_
     rintro r w3 ⟨rfl, hb3⟩
     have hB3 := below_step hHeld hb3
     clear hHeld
     first
      | refine hK.out _ _ ?hS21 (fun hHeld => ?rest21)
      | (go_wp2_with fail; refine hK.out _ _ ?hS21 (fun hHeld => ?rest21))
     case hS21 => exact hB3
     clear hK K
     (try simp only [PT])
     refine tk 11 rfl ?_;(try simp only [PT]);refine tk 12 rfl ?_;(try simp only [PT])
     refine wpAnyH_done (by kernel_rfl) ?_ _
     have HGQ := Lib.hid (HI.out.gw.later hHeld)
     have HBQ := Lib.hid (below_step HBL.out hHeld)
     clear hHeld
     cases lt with
     | true =>
       have HEQ0 : Hid (peL o ++ ((if y.e.dg = X.e.dg then [] else [y.e]) ++ setB X.e ((peL L).drop (k + 1)) false) = setE (peL L) X.e) := Lib.hid (by
        have h1 := HI.out.eq
        rw [HSB.out, if_neg (fun h => by cases h.2), List.nil_append] at h1
        exact h1)
       have HL1 : Hid (∀ V, (∃ m, V = w3.drewN m) → (Instr.loadAt 35 (.pointer (some ⟨b1, off + k * 38, none⟩))).run Tryz.prog V = .ok (.agg dy) V) := Lib.hid (by rintro V ⟨m, rfl⟩; exact HDY.out _ (below_drewN HBQ.out _))
       have HL2 : Hid (∀ V, (∃ m, V = w3.drewN m) → (Instr.loadAt 35 (.pointer (some ⟨w.heap.size, 0, none⟩))).run Tryz.prog V = .ok (.agg dx) V) := Lib.hid (by rintro V ⟨m, rfl⟩; exact HDX.out _ (below_drewN HBQ.out _))
       go_upto_region 9 with fail
       refine wp_region_quiet_lit (by kernel_rfl) (by kernel_rfl) ?_
       repeat (first | (refine quiet_want rfl fun K hK => quiet_load 35 _ rfl _ rfl _ (HL1).out (hK _ ?_); clear hK K) | (refine quiet_want rfl fun K hK => quiet_load 35 _ rfl _ rfl _ (HL2).out (hK _ ?_); clear hK K) | (quiet_step (fail)))
       refine wpQuiet_nil ?_
       intro wd hw'
       obtain ⟨nq, hwd⟩ := hw'
       have hbd : Below w3.heap.size w3 wd := by rw [hwd]; exact below_drewN (Below.refl _ _) _
       have HGD := Lib.hid (HGQ.out.later hbd)
       have HBD := Lib.hid (below_step HBQ.out hbd)
       clear hwd hbd heq
       obtain ⟨bx, hbx⟩ : ∃ b, decide (y.e.dg = X.e.dg) = b := ⟨_, rfl⟩
       rw [hbx]
       cases bx
       rotate_left
       ·have hne : y.e.dg = X.e.dg := of_decide_eq_true hbx
        have HIN : Hid (SeI wB wd L X wB.heap.size (k + 1) false _ o) := Lib.hid ⟨HGD.out, by have h1 := HEQ0.out; rw [if_pos hne, List.nil_append] at h1; exact h1, HI.out.me, HBD.out⟩
        clear hne hbx
        go_wp2
        exact ⟨⟨k + 1, _, _, _, _, _, by omega, by go_num, rfl, rfl, HIN⟩, by simp [intOf] <;> omega⟩
       ·have hne : ¬ y.e.dg = X.e.dg := of_decide_eq_false hbx
        have HLYD := Lib.hid (HLY.out wd HBD.out)
        have HEQ : Hid (peL (o ++ [y]) ++ setB X.e ((peL L).drop (k + 1)) false = setE (peL L) X.e) := Lib.hid (by have h1 := HEQ0.out; rw [if_neg hne] at h1; rw [peL_append, List.append_assoc]; exact h1)
        have HOL2 : Hid ((o).length + 1 ≤ 2097216) := Lib.hid (by
         have h1 := setE_length (peL L) X.e
         rw [← HEQ.out, List.length_append, peL_length, peL_length, List.length_append, List.length_singleton, HL0.out] at h1
         omega)
        clear hne hbx
        go_wp2_with (first
         | (refine wpList_ld rfl 59 _ rfl _ rfl _ HLYD.out ?_)
         | (refine wpList_build_en rfl 23 43 rfl Tryz.underlying23 y (by rw [HMY.out]; rfl) ?_)
         | (refine wpList_append_gen encEn rfl _ _ 23 rfl Tryz.underlying23 ezero 96 infoEn ezero_size (by decide) wB.heap.size _ o rfl (HGD.out.alloc _) _ 1 1 [y] rfl (Gs.oneEn _ y) (fun h => by cases h) HOL2.out (by have h1 := HBD.out.size; rw [World.size_alloc]; omega) ?_; intro v9 w9 ho9 hg9; obtain ⟨p9, c9, hv9, _⟩ := ho9.open; obtain ⟨m9, hm9⟩ : ∃ x, (o ++ [y]).length = x := ⟨_, rfl⟩; rw [hm9] at hv9; subst hv9; have HO9 := Lib.hid ho9; have HB9 := Lib.hid (below_app (HBD.out.alloc HBD.out.size (.cells (enC y.e y.s) 59)) (HGD.out.alloc _) (Nat.le_refl _) hg9); clear ho9 hg9 hm9))
        have HIN : Hid (SeI wB w9 L X wB.heap.size (k + 1) false _ (o ++ [y])) := Lib.hid ⟨HO9.out, HEQ.out, fun x hx => by
         rcases List.mem_append.1 hx with h1 | h1
         ·exact HI.out.me x h1
         ·rw [List.mem_singleton] at h1
          rw [h1]; exact Or.inl HY.out, HB9.out⟩
        exact ⟨⟨k + 1, _, _, _, _, _, by omega, by go_num, rfl, rfl, HIN⟩, by simp [intOf] <;> omega⟩
     | false =>
       have HEQ0 : Hid (peL (o ++ [X]) ++ ((if y.e.dg = X.e.dg then [] else [y.e]) ++ setB X.e ((peL L).drop (k + 1)) true) = setE (peL L) X.e) := Lib.hid (by
        have h1 := HI.out.eq
        rw [HSB.out, if_pos ⟨rfl, rfl⟩] at h1
        rw [peL_append, List.append_assoc]
        exact h1)
       have HOL1 : Hid (o.length + 1 ≤ 2097216) := Lib.hid (by have := HI.out.len; rw [HL0.out] at this; omega)
       have HLXW := Lib.hid (HLX.out w3 HBQ.out)
       have HME1 : Hid (∀ x ∈ o ++ [X], x ∈ L ∨ x = X) := Lib.hid (fun x hx => by
        rcases List.mem_append.1 hx with h1 | h1
        ·exact HI.out.me x h1
        ·rw [List.mem_singleton] at h1
         exact Or.inr h1)
       go_upto_region 9 with (first
       | (refine wpList_ld rfl 59 _ rfl _ rfl _ HLXW.out ?_)
       | (refine wpList_build_en rfl 23 28 rfl Tryz.underlying23 X (by rw [HME.out]; rfl) ?_)
       | (refine wpList_append_gen encEn rfl _ _ 23 rfl Tryz.underlying23 ezero 96 infoEn ezero_size (by decide) wB.heap.size _ o rfl (HGQ.out.alloc _) _ 1 1 [X] rfl (Gs.oneEn _ X) (fun h => by cases h) HOL1.out (by have h1 := HBQ.out.size; rw [World.size_alloc]; omega) ?_; intro v8 w8 ho8 hg8; obtain ⟨p8, c8, hv8, _⟩ := ho8.open; obtain ⟨m8, hm8⟩ : ∃ x, (o ++ [X]).length = x := ⟨_, rfl⟩; rw [hm8] at hv8; subst hv8; have HO8 := Lib.hid ho8; have HB8 := Lib.hid (below_app (HBQ.out.alloc HBQ.out.size (.cells (enC X.e X.s) 59)) (HGQ.out.alloc _) (Nat.le_refl _) hg8); clear ho8 hg8 hm8))
       have HL1 : Hid (∀ V, (∃ m, V = w8.drewN m) → (Instr.loadAt 35 (.pointer (some ⟨b1, off + k * 38, none⟩))).run Tryz.prog V = .ok (.agg dy) V) := Lib.hid (by rintro V ⟨m, rfl⟩; exact HDY.out _ (below_drewN HB8.out _))
       have HL2 : Hid (∀ V, (∃ m, V = w8.drewN m) → (Instr.loadAt 35 (.pointer (some ⟨w.heap.size, 0, none⟩))).run Tryz.prog V = .ok (.agg dx) V) := Lib.hid (by rintro V ⟨m, rfl⟩; exact HDX.out _ (below_drewN HB8.out _))
       go_upto_region 9 with fail
       refine wp_region_quiet_lit (by kernel_rfl) (by kernel_rfl) ?_
       repeat (first | (refine quiet_want rfl fun K hK => quiet_load 35 _ rfl _ rfl _ (HL1).out (hK _ ?_); clear hK K) | (refine quiet_want rfl fun K hK => quiet_load 35 _ rfl _ rfl _ (HL2).out (hK _ ?_); clear hK K) | (quiet_step (fail)))
       refine wpQuiet_nil ?_
       intro wd hw'
       obtain ⟨nq, hwd⟩ := hw'
       have hbd : Below w8.heap.size w8 wd := by rw [hwd]; exact below_drewN (Below.refl _ _) _
       have HGD := Lib.hid (HO8.out.later hbd)
       have HBD := Lib.hid (below_step HB8.out hbd)
       clear hwd hbd heq
       obtain ⟨bx, hbx⟩ : ∃ b, decide (y.e.dg = X.e.dg) = b := ⟨_, rfl⟩
       rw [hbx]
       cases bx
       rotate_left
       ·have hne : y.e.dg = X.e.dg := of_decide_eq_true hbx
        have HIN : Hid (SeI wB wd L X wB.heap.size (k + 1) true _ (o ++ [X])) := Lib.hid ⟨HGD.out, by have h1 := HEQ0.out; rw [if_pos hne, List.nil_append] at h1; exact h1, HME1.out, HBD.out⟩
        clear hne hbx
        go_wp2
        exact ⟨⟨k + 1, _, _, _, _, _, by omega, by go_num, rfl, rfl, HIN⟩, by simp [intOf] <;> omega⟩
       ·have hne : ¬ y.e.dg = X.e.dg := of_decide_eq_false hbx
        have HLYD := Lib.hid (HLY.out wd HBD.out)
        have HEQ : Hid (peL ((o ++ [X]) ++ [y]) ++ setB X.e ((peL L).drop (k + 1)) true = setE (peL L) X.e) := Lib.hid (by have h1 := HEQ0.out; rw [if_neg hne] at h1; rw [peL_append, List.append_assoc]; exact h1)
        have HOL2 : Hid (((o ++ [X])).length + 1 ≤ 2097216) := Lib.hid (by
         have h1 := setE_length (peL L) X.e
         rw [← HEQ.out, List.length_append, peL_length, peL_length, List.length_append, List.length_singleton, HL0.out] at h1
         omega)
        clear hne hbx
        go_wp2_with (first
         | (refine wpList_ld rfl 59 _ rfl _ rfl _ HLYD.out ?_)
         | (refine wpList_build_en rfl 23 43 rfl Tryz.underlying23 y (by rw [HMY.out]; rfl) ?_)
         | (refine wpList_append_gen encEn rfl _ _ 23 rfl Tryz.underlying23 ezero 96 infoEn ezero_size (by decide) wB.heap.size _ (o ++ [X]) rfl (HGD.out.alloc _) _ 1 1 [y] rfl (Gs.oneEn _ y) (fun h => by cases h) HOL2.out (by have h1 := HBD.out.size; rw [World.size_alloc]; omega) ?_; intro v9 w9 ho9 hg9; obtain ⟨p9, c9, hv9, _⟩ := ho9.open; obtain ⟨m9, hm9⟩ : ∃ x, ((o ++ [X]) ++ [y]).length = x := ⟨_, rfl⟩; rw [hm9] at hv9; subst hv9; have HO9 := Lib.hid ho9; have HB9 := Lib.hid (below_app (HBD.out.alloc HBD.out.size (.cells (enC y.e y.s) 59)) (HGD.out.alloc _) (Nat.le_refl _) hg9); clear ho9 hg9 hm9))
        have HIN : Hid (SeI wB w9 L X wB.heap.size (k + 1) true _ ((o ++ [X]) ++ [y])) := Lib.hid ⟨HO9.out, HEQ.out, fun x hx => by
         rcases List.mem_append.1 hx with h1 | h1
         ·exact HME1.out x h1
         ·rw [List.mem_singleton] at h1
          rw [h1]; exact Or.inl HY.out, HB9.out⟩
        exact ⟨⟨k + 1, _, _, _, _, _, by omega, by go_num, rfl, rfl, HIN⟩, by simp [intOf] <;> omega⟩
  ·obtain rfl : k = n := by omega
   have HO : Hid (peL o ++ (if tb then [] else [X.e]) = setE (peL L) X.e) := Lib.hid (by
    have h1 := HI.out.eq
    rw [List.drop_of_length_le (by rw [HLL.out]; exact Nat.le_refl _)] at h1
    exact h1)
   have HOL : Hid (o.length + 1 ≤ 2097216) := Lib.hid (by have := HI.out.len; rw [HL0.out] at this; omega)
   have HLXW := Lib.hid (HLX.out wr HI.out.le)
   cases tb with
   | true =>
     go_wp2
     go_ret
     refine ⟨_, o, rfl, by simpa using HO.out, HI.out.gw.mono HB.out.size, HI.out.me, below_step HB.out HI.out.le⟩
   | false =>
     go_wp2_with (first
      | (refine wpList_ld rfl 59 _ rfl _ rfl _ HLXW.out ?_)
      | (refine wpList_build_en rfl 23 49 rfl Tryz.underlying23 X (by rw [HME.out]; rfl) ?_)
      | (refine wpList_append_gen encEn rfl _ _ 23 rfl Tryz.underlying23 ezero 96 infoEn ezero_size (by decide) wB.heap.size _ o rfl (HI.out.gw.alloc _) _ 1 1 [X] rfl (Gs.oneEn _ X) (fun h => by cases h) HOL.out (by have h1 := HI.out.le.size; rw [World.size_alloc]; omega) ?_; intro v8 w8 ho8 hg8; have HO8 := Lib.hid ho8; have HB8 := Lib.hid (below_app (HI.out.le.alloc HI.out.le.size (.cells (enC X.e X.s) 59)) (HI.out.gw.alloc _) (Nat.le_refl _) hg8); clear ho8 hg8))
     go_ret
     refine ⟨_, o ++ [X], rfl, ?_, HO8.out.mono HB.out.size, fun x hx => ?_, below_step HB.out HB8.out⟩
     ·rw [peL_append, show peL [X] = [X.e] from rfl]
      simpa using HO.out
     ·rcases List.mem_append.1 hx with h1 | h1
      ·exact HI.out.me x h1
      ·rw [List.mem_singleton] at h1
       exact Or.inr h1
set_option maxRecDepth 100000 in
set_option maxHeartbeats 1000000 in
theorem rnew20_any (p : Option Addr) (n c : Nat) (L : List Ex) (w : World) (h : Gs encEn w p n L) (hk : ∀ x ∈ L, dok x.e.dg) (hn : n ≤ 2097152) :
 Calls Tryz.prog 42 #[.slice p n c] w fun e w' => NewQ w L e w' := by
 have H := Lib.hid h
 have HK := Lib.hid hk
 have HLL : Hid ((peL L).length = n) := Lib.hid (by rw [peL_length, h.len])
 have HS := Lib.hid fun (q : Option Addr) (m d : Nat) (M : List Ex) (X : Ex) W (hW : Gs encEn W q m M) (hM : ∀ x ∈ M, dok x.e.dg) (hX : dok X.e.dg) (hm : m ≤ 2097152) => rset20_any q m d M X W hW hM hX hm
 clear h hk
 go_enter Tryz.func42, Tryz.ntmps42
 go_wp2
 go_loopw [3, 4] (fun v j wr => ∃ (k : Nat) (q : Option Addr) (m d : Nat) (o : List Ex), k ≤ n ∧ j = .int .i64 (k : Int) ∧ v = .slice q m d ∧ Hid (peL o = newE ((peL L).take k)) ∧ Hid (Gw encEn wr w.heap.size (.slice q m d) o) ∧ Hid (∀ x ∈ o, x ∈ L) ∧ Hid (Below w.heap.size w wr)) (fun _ j _ => n - (intOf j).toNat)
 case atStart => exact ⟨0, none, 0, 0, [], by omega, rfl, rfl, Lib.hid rfl, Lib.hid (Gw.nil _ _ _), Lib.hid (fun x hx => by cases hx), Lib.hid (Below.refl _ _)⟩
 case round =>
  obtain ⟨k, q, m, d, o, hkn, rfl, rfl, HE, HO, HM, HB⟩ := hrel
  by_cases hlt : k < n
  ·obtain ⟨b1, off, y, rfl, hy1, hy3, hr⟩ := (H.out.later HB.out).en k hlt
   have HY := Lib.hid hy3
   have hmm : m ≤ 2097152 := by
    have h1 := newE_length ((peL L).take k)
    rw [← HE.out, peL_length, HO.out.len, List.length_take, HLL.out] at h1
    omega
   have HSC := Lib.hid (HS.out q m d o y wr HO.out.gs (fun x hx => HK.out x (HM.out x hx)) (HK.out y hy3) hmm)
   have HLY := Lib.hid (en_load hr)
   have HT : Hid (setE (peL o) y.e = newE ((peL L).take (k + 1))) := Lib.hid (by
    obtain ⟨h2, h3⟩ := List.getElem?_eq_some_iff.1 (peL_get hy1)
    rw [List.take_succ_eq_append_getElem h2, h3, newE_snoc, HE.out])
   have hki : (k : Int) < (n : Int) := by omega
   have hk0 : (0 : Int) ≤ (k : Int) := by omega
   unfold enV at HSC
   generalize enC y.e y.s = MY at *
   clear hr hy1 hy3 hmm
   go_wp2_with (first
    | (refine wpList_ld rfl 59 _ rfl _ rfl _ HLY.out ?_)
    | (go_at_call 75; refine HSC.out.mono ?_; rintro e w2 ⟨v2, o2, rfl, he2, ho2, hm2, hb2⟩; obtain ⟨q2, d2, hv2, _⟩ := ho2.open; obtain ⟨n2, hn2⟩ : ∃ x, o2.length = x := ⟨_, rfl⟩; rw [hn2] at hv2; subst hv2; have HE2 := Lib.hid (he2.trans HT.out); have HO2 := Lib.hid (ho2.mono HB.out.size); have HM2 : Hid (∀ x ∈ o2, x ∈ L) := (Lib.hid (fun x hx => (hm2 x hx).elim (HM.out x) (fun h => by rw [h]; exact HY.out))); have HB2 := Lib.hid (below_step HB.out hb2); clear he2 ho2 hm2 hb2 hn2))
   exact ⟨⟨k + 1, q2, n2, d2, o2, by omega, by go_num, rfl, HE2, HO2, HM2, HB2⟩, by simp [intOf] <;> omega⟩
  ·obtain rfl : k = n := by omega
   have HF : Hid (peL o = newE (peL L)) := Lib.hid (by have h1 := HE.out; rwa [List.take_of_length_le (by rw [HLL.out]; exact Nat.le_refl _)] at h1)
   go_wp2
   go_ret
   exact ⟨_, o, rfl, HF.out, HO.out, HM.out, HB.out⟩
/-- a row of numbers of the call's own outlives an append to a row of entries of its own -/
theorem Gw.besideEn {W W' : World} {B B' : Nat} {s v : Value} {I : List Int} {o : List Ex} (h : Gw encI W B s I) (hv : Gw encEn W B' v o) (hg : W.grownBy W' v.ownBlock) : Gw encI W' B s I := by
 refine h.kept hg fun b hb e => ?_
 obtain ⟨_, h2⟩ := h
 obtain ⟨_, h3⟩ := hv
 rcases h2 with ⟨h4, _⟩ | ⟨g, cap, cur, h4, _, h5, _⟩
 ·rw [h4] at hb; cases hb
 ·rcases h3 with ⟨h6, _⟩ | ⟨g', cap', cur', h6, _, h7, _⟩
  ·rw [h6] at e; cases e
  ·rw [h4] at hb
   rw [h6] at e
   simp only [Value.ownBlock, Option.some.injEq] at hb e
   subst hb
   subst e
   rw [h5] at h7
   simp only [Option.some.injEq, Obj.cells.injEq] at h7
   exact absurd h7.2.1 (by decide)
theorem keepR_take {L : List Pe} {k : Nat} {x : Pe} (h : L[k]? = some x) (b : List Int) : keepR (L.take (k + 1)) b = keepR (L.take k) b ++ if (keepE x b).2 then [(keepE x b).1] else [] := by
 obtain ⟨h2, h3⟩ := List.getElem?_eq_some_iff.1 h
 rw [List.take_succ_eq_append_getElem h2, h3]
 unfold keepR
 rw [List.flatMap_append]
 simp
theorem keepE_dok20 {e : Pe} (h : dok e.dg) (B : List Int) : dok (keepE e B).1.dg := by
 unfold keepE
 split
 ·exact h
 ·split
  ·exact h
  ·exact dz32_ok
theorem gwEn_open {W : World} {B : Nat} {v : Value} {o : List Ex} (h : Gw encEn W B v o) : ∃ q d, v = .slice q o.length d ∧ o.length ≤ d ∧ d ≤ maxLen ∧ (q = none → d = 0) ∧ ∀ b off, q = some ⟨b, off, none⟩ → B ≤ b := by
 obtain ⟨_, h2⟩ := h
 rcases h2 with ⟨h4, h0⟩ | ⟨g, cap, cur, h4, hB, _, hn, hm, _⟩
 ·exact ⟨none, 0, by rw [h4, h0], by omega, by unfold maxLen; decide, fun _ => rfl, (fun b off e => by cases e)⟩
 ·refine ⟨_, cap, h4, hn, hm, (fun e => by cases e), fun b off e => ?_⟩
  simp only [Option.some.injEq, Addr.mk.injEq] at e
  omega
def KepQ (w : World) (L : List Ex) (B : List Int) (e : Ending) (w' : World) : Prop := ∃ v o, e = .returned v ∧ peL o = keepR (peL L) B ∧ Gw encEn w' w.heap.size v o ∧ (∀ x ∈ o, dok x.e.dg ∧ Gw encI w' w.heap.size x.s x.e.ins) ∧ Below w.heap.size w w'
set_option maxRecDepth 100000 in
set_option maxHeartbeats 2000000 in
theorem rkeep20_any (p : Option Addr) (n c : Nat) (L : List Ex) (p2 : Option Addr) (m2 c2 : Nat) (B : List Int) (w : World) (h : Gs encEn w p n L) (hi : ∀ x ∈ L, Is w x.s x.e.ins) (hk : ∀ x ∈ L, dok x.e.dg) (hb : ∀ x ∈ L, x.e.ins.length ≤ 2097152) (hs2 : Gs encI w p2 m2 B) (hm2 : m2 ≤ 2097152) (hn : n ≤ 2097152) :
 Calls Tryz.prog 51 #[.slice p n c, .slice p2 m2 c2] w fun e w' => KepQ w L B e w' := by
 have H := Lib.hid h
 have HK := Lib.hid hk
 have HLL : Hid ((peL L).length = n) := Lib.hid (by rw [peL_length, h.len])
 have HKC := Lib.hid fun (x : Ex) (hx : x ∈ L) W (hW : Below w.heap.size w W) => rkeep19_any x.e x.s p2 m2 c2 B W ((hi x hx).later hW) (hs2.later hW) (hk x hx) (hb x hx) hm2
 clear h hk hi hb hs2
 go_enter Tryz.func51, Tryz.ntmps51
 go_wp2
 go_loopw [5, 6] (fun v j wr => ∃ (k : Nat) (q : Option Addr) (m d : Nat) (o : List Ex), k ≤ n ∧ j = .int .i64 (k : Int) ∧ v = .slice q m d ∧ Hid (peL o = keepR ((peL L).take k) B) ∧ Hid (Gw encEn wr w.heap.size (.slice q m d) o) ∧ Hid (∀ x ∈ o, dok x.e.dg ∧ Gw encI wr w.heap.size x.s x.e.ins) ∧ Hid (Below w.heap.size w wr)) (fun _ j _ => n - (intOf j).toNat)
 case atStart => exact ⟨0, none, 0, 0, [], by omega, rfl, rfl, Lib.hid rfl, Lib.hid (Gw.nil _ _ _), Lib.hid (fun x hx => by cases hx), Lib.hid (Below.refl _ _)⟩
 case round =>
  obtain ⟨k, q, m, d, o, hkn, rfl, rfl, HE, HO, HM, HB⟩ := hrel
  by_cases hlt : k < n
  ·obtain ⟨b1, off, y, rfl, hy1, hy3, hr⟩ := (H.out.later HB.out).en k hlt
   have HC := Lib.hid (HKC.out y hy3 wr HB.out)
   have HLY := Lib.hid (en_load hr)
   have HT := Lib.hid (keepR_take (peL_get hy1) B)
   have HYD := Lib.hid (keepE_dok20 (HK.out y hy3) B)
   have HOL : Hid (o.length + 1 ≤ 2097216) := Lib.hid (by
    have h1 := keepR_length ((peL L).take k) B
    rw [← HE.out, peL_length, List.length_take, HLL.out] at h1
    omega)
   have hki : (k : Int) < (n : Int) := by omega
   have hk0 : (0 : Int) ≤ (k : Int) := by omega
   obtain ⟨R, hR⟩ : ∃ R, keepE y.e B = R := ⟨_, rfl⟩
   rw [hR] at HC HT HYD
   obtain ⟨R, ok⟩ := R
   dsimp only at HC HT HYD
   unfold enV at HC
   generalize enC y.e y.s = MY at *
   clear hr hy1 hy3 hR
   go_upto_region 6 with (first
    | (refine wpList_ld rfl 59 _ rfl _ rfl _ HLY.out ?_)
    | (go_at_call 89; refine HC.out.mono ?_; rintro e w2 ⟨u2, rfl, hg2, hb2⟩; have HG2 := Lib.hid hg2; have HB2 := Lib.hid hb2; obtain ⟨q2, d2, hv2, _⟩ := hg2.open; subst hv2; clear hg2 hb2)
    | (refine wpList_store_row rfl 59 _ _ rfl w2.heap.size (enC R _) rfl rfl 59 _ (heap_alloc_new _ _) (enC_sizeOf R _ HYD.out.1) ((enC_size zeroE _ rfl).trans (enC_size R _ HYD.out.1).symm) (enC_one _ _ _ _) ?_; generalize hv3 : World.setRow _ _ _ = w3))
   obtain ⟨he3, hb3⟩ := enC_lay rfl hv3
   obtain ⟨g3, hg3⟩ : ∃ g, w2.heap.size = g := ⟨_, rfl⟩
   rw [hg3] at he3
   rw [hg3]
   obtain ⟨X, hX⟩ : ∃ X : Ex, X = ⟨R, q2, d2, HYD.out.1⟩ := ⟨_, rfl⟩
   have HXG : Hid (Gw encI w3 w.heap.size X.s X.e.ins) := Lib.hid (by rw [hX]; exact (HG2.out.later hb3).mono HB.out.size)
   have HXE : Hid (X.e = R) := Lib.hid (by rw [hX])
   have HXC : Hid (enC R (.slice q2 R.ins.length d2) = enC X.e X.s) := Lib.hid (by rw [hX]; rfl)
   have HO3 := Lib.hid (HO.out.later (below_step HB2.out hb3))
   have HM3 : Hid (∀ x ∈ o, dok x.e.dg ∧ Gw encI w3 w.heap.size x.s x.e.ins) := Lib.hid fun x hx => ⟨(HM.out x hx).1, (HM.out x hx).2.later (below_step HB2.out hb3)⟩
   have HB3 := Lib.hid (below_step HB.out (below_step HB2.out hb3))
   have HLV := Lib.hid (he3.load HYD.out.1)
   rw [HXC.out] at HLV
   clear he3 hb3 hv3 hg3 hX
   cases ok with
   | true =>
     have HE2 : Hid (peL (o ++ [X]) = keepR ((peL L).take (k + 1)) B) := Lib.hid (by rw [HT.out, if_pos rfl, peL_append, HE.out, ← HXE.out]; rfl)
     go_wp2_with (first
      | (refine wpList_ld rfl 59 _ rfl _ rfl _ HLV.out ?_)
      | (refine wpList_build_en rfl 23 26 rfl Tryz.underlying23 X rfl ?_)
      | (refine wpList_append_gen encEn rfl _ _ 23 rfl Tryz.underlying23 ezero 96 infoEn ezero_size (by decide) w.heap.size _ o rfl (HO3.out.alloc _) _ 1 1 [X] rfl (Gs.oneEn _ X) (fun h => by cases h) HOL.out (by have h1 := HB3.out.size; rw [World.size_alloc]; omega) ?_; intro v8 w8 ho8 hg8; obtain ⟨p8, c8, hv8, _⟩ := ho8.open; obtain ⟨m8, hm8⟩ : ∃ x, (o ++ [X]).length = x := ⟨_, rfl⟩; rw [hm8] at hv8; subst hv8; have HO8 := Lib.hid ho8; have HB8 := Lib.hid (below_app (HB3.out.alloc HB3.out.size (.cells (enC X.e X.s) 59)) (HO3.out.alloc _) (Nat.le_refl _) hg8); have HM8 : Hid (∀ x ∈ o ++ [X], dok x.e.dg ∧ Gw encI w8 w.heap.size x.s x.e.ins) := (Lib.hid (fun x hx => (List.mem_append.1 hx).elim (fun h => ⟨(HM3.out x h).1, ((HM3.out x h).2.alloc _).besideEn (HO3.out.alloc _) hg8⟩) (fun h => (List.mem_singleton.1 h) ▸ ⟨(by rw [HXE.out]; exact HYD.out), (HXG.out.alloc _).besideEn (HO3.out.alloc _) hg8⟩))); clear ho8 hg8 hm8))
     exact ⟨⟨k + 1, p8, m8, c8, o ++ [X], by omega, by go_num, rfl, HE2, HO8, HM8, HB8⟩, by simp [intOf] <;> omega⟩
   | false =>
     have HE2 : Hid (peL o = keepR ((peL L).take (k + 1)) B) := Lib.hid (by rw [HT.out, HE.out]; simp)
     go_wp2
     exact ⟨⟨k + 1, q, m, d, o, by omega, by go_num, rfl, HE2, HO3, HM3, HB3⟩, by simp [intOf] <;> omega⟩
  ·obtain rfl : k = n := by omega
   have HF : Hid (peL o = keepR (peL L) B) := Lib.hid (by have h1 := HE.out; rwa [List.take_of_length_le (by rw [HLL.out]; exact Nat.le_refl _)] at h1)
   go_wp2
   go_ret
   exact ⟨_, o, rfl, HF.out, HO.out, HM.out, HB.out⟩
/-- what Apply answers: the same row, or one of its own -/
def AppQ (w : World) (p : Option Addr) (n c : Nat) (L : List Ex) (x : Wq) (e : Ending) (w' : World) : Prop :=
 ∃ q m d o, e = .returned (.slice q m d) ∧ peL o = applyE (peL L) x ∧ Gs encEn w' q m o ∧ ((q = p ∧ m = n) ∨ ∀ b off, q = some ⟨b, off, none⟩ → w.heap.size ≤ b) ∧ (∀ y ∈ o, y ∈ L ∨ dok y.e.dg ∧ Gw encI w' w.heap.size y.s y.e.ins) ∧ (q = none → d = 0 ∨ q = p ∧ d = c) ∧ Below w.heap.size w w'
set_option maxRecDepth 100000 in
set_option maxHeartbeats 2000000 in
theorem rapply20_any (p : Option Addr) (n c : Nat) (L : List Ex) (x : Wq) (w : World) (h : Gs encEn w p n L) (hi : ∀ y ∈ L, Is w y.s y.e.ins) (hk : ∀ y ∈ L, dok y.e.dg) (hb : ∀ y ∈ L, y.e.ins.length ≤ 2097151) (hx : dok x.dg) (hn : n ≤ 2097152) :
 Calls Tryz.prog 47 #[.slice p n c, x.v] w fun e w' => AppQ w p n c L x e w' := by
 obtain ⟨wB, hwB⟩ : ∃ W, w.alloc (.cells (mixC x.a x.dg x.t) 39) = W := ⟨_, rfl⟩
 have hbB : Below w.heap.size w wB := by rw [← hwB]; exact (Below.refl _ _).alloc (Nat.le_refl _) _
 have hmW : Wm wB w.heap.size x := by rw [← hwB]; exact heap_alloc_new _ _
 have HB := Lib.hid hbB
 have HLW := Lib.hid fun W (hW : Below wB.heap.size wB W) => (hmW.later hW).load hx.1
 have HDW := Lib.hid fun W (hW : Below wB.heap.size wB W) => (hmW.later hW).dig hx.1
 have HCW := Lib.hid fun W (hW : Below wB.heap.size wB W) => (hmW.later hW).cells5 hx.1
 have H := Lib.hid fun W (hW : Below wB.heap.size wB W) => (h.later hbB).later hW
 have HI := Lib.hid fun W (hW : Below wB.heap.size wB W) y (hy : y ∈ L) => ((hi y hy).later hbB).later hW
 have HK := Lib.hid hk
 have HBD := Lib.hid hb
 have HXD := Lib.hid hx
 have HG := Lib.hid (rget20_any p n c L x.dg wB (h.later hbB) hk hx hn)
 have HA : Hid (applyE (peL L) x = _) := Lib.hid (by unfold applyE; rfl)
 have HDR : Hid (dok (getR (peL L) x.dg).1.dg) := Lib.hid (by
  unfold getR
  cases hge : getE (peL L) x.dg with
  | none => exact dz32_ok
  | some z =>
    obtain ⟨y, hy, e⟩ := List.mem_map.1 (getE_mem hge).1
    show dok z.dg
    rw [← e]
    exact hk y hy)
 have HIR : Hid ((getR (peL L) x.dg).1.ins.length ≤ 2097151) := Lib.hid (getR_ins (k := 2097151) (fun z hz => by
  obtain ⟨y, hy, e⟩ := List.mem_map.1 hz
  rw [← e]
  exact hb y hy) x.dg)
 obtain ⟨R, hR⟩ : ∃ R, getR (peL L) x.dg = R := ⟨_, rfl⟩
 rw [hR] at HG HA HDR HIR
 obtain ⟨R, ok⟩ := R
 dsimp only at HA HDR HIR
 have HDB := Lib.hid (HDW.out wB (Below.refl _ _))
 unfold Wq.v
 generalize hMX : mixC x.a x.dg x.t = MX at *
 have HMX := Lib.hid hMX
 obtain ⟨dx, hdx⟩ : ∃ d, bcs x.dg = d := ⟨_, rfl⟩
 rw [hdx] at HG HDB
 clear h hi hk hb hx hbB hmW hR hMX hdx
 go_enter Tryz.func47, Tryz.ntmps47
 go_upto_region 2 with (first
  | (refine wpList_ld rfl 35 _ rfl _ rfl _ HDB.out ?_)
  | (go_at_call 24; refine HG.out.mono ?_; rintro e w2 ⟨u2, rfl, ho2, hb2⟩; have HO2 := Lib.hid ho2; have u2is : ∃ (q : Option Addr) (n d : Nat), u2 = .slice q n d := ho2.elim (fun ⟨y, _, _, h⟩ => ⟨_, _, _, h⟩) (fun h => ⟨_, _, _, h.1⟩); obtain ⟨uq, un, ud, hu2⟩ := u2is; subst hu2; have HB2 := Lib.hid hb2; clear ho2 hb2)
  | (refine wpList_store_row rfl 59 _ _ rfl w2.heap.size (enC R (.slice uq un ud)) rfl rfl 59 _ (heap_alloc_new _ _) (enC_sizeOf R _ HDR.out.1) ((enC_size zeroE _ rfl).trans (enC_size R _ HDR.out.1).symm) (enC_one _ _ _ _) ?_; generalize hv3 : World.setRow _ _ _ = w3))
 obtain ⟨he3, hb3⟩ := enC_lay rfl hv3
 obtain ⟨g3, hg3⟩ : ∃ g, w2.heap.size = g := ⟨_, rfl⟩
 rw [hg3] at he3
 rw [hg3]
 have HI2 : Hid (Is w3 (.slice uq un ud) R.ins) := Lib.hid (by
  rcases HO2.out with ⟨y, hy, h1, h2⟩ | ⟨h1, h2⟩
  ·have h3 := HI.out w3 (below_step HB2.out hb3) y hy
   rw [h1, ← h2] at h3
   exact h3
  ·have h3 := Is.nil w3
   have h4 : R = zeroE := h2
   rw [h1, h4]
   exact h3)
 have HB3 := Lib.hid (below_step HB2.out hb3)
 have HLV := Lib.hid fun W (hW : Below w3.heap.size w3 W) => (he3.later hW).load HDR.out.1
 have HLX := Lib.hid (HLW.out w3 HB3.out)
 obtain ⟨x0, _, _, _⟩ := HCW.out w3 HB3.out
 have HPU := Lib.hid (rput19_any R (.slice uq un ud) x w3 HI2.out HDR.out HXD.out (by have := HIR.out; omega))
 have HDE := Lib.hid (rdel19_any R (.slice uq un ud) x w3 HI2.out HDR.out HXD.out (by have := HIR.out; omega))
 have HST := Lib.hid fun (X : Ex) W (hW : Below w3.heap.size w3 W) (hX : dok X.e.dg) => rset20_any p n c L X W (H.out W (below_step HB3.out hW)) HK.out hX hn
 have HLV3 := Lib.hid (HLV.out w3 (Below.refl _ _))
 unfold enV Wq.v at HPU HDE
 rw [HMX.out] at HPU HDE
 generalize enC R (.slice uq un ud) = MR at *
 clear he3 hb3 hv3 hg3
 by_cases h12 : x.k = 1 ∨ x.k = 2
 ·have HAP : Hid (applyE (peL L) x = setE (peL L) (putE R x)) := Lib.hid (by rw [HA.out, if_pos h12])
  rcases h12 with h1 | h2
  ·have ht1 : (x.k == 1) = true := by simpa using h1
   clear h1
   go_wp2_with (first
    | (refine wpList_ld rfl 59 _ rfl _ rfl _ HLV3.out ?_)
    | (refine wpList_ld rfl 39 _ rfl _ rfl _ HLX.out ?_)
    | (go_at_call 81; refine HPU.out.mono ?_; rintro e w4 ⟨u4, rfl, hg4, hb4⟩; obtain ⟨X, hX1, hX2, _⟩ := hg4.is.ex (e := putE R x) (HXD.out).1; have HG4 := Lib.hid hg4; have HB4 := Lib.hid hb4; have HX1 := Lib.hid hX1; have HX2 := Lib.hid hX2; have HSC := (Lib.hid (HST.out X w4 hb4 (by rw [hX1]; exact HXD.out))); rw [show enV X.e X.s = enV (putE R x) u4 by rw [hX1, hX2]] at HSC; unfold enV at HSC; clear hg4 hb4 hX1 hX2)
    | (go_at_call 75; refine HSC.out.mono ?_; rintro e w5 ⟨v5, o5, rfl, he5, ho5, hm5, hb5⟩; have HO5 := Lib.hid ho5; have HE5 := Lib.hid he5; have HM5 := Lib.hid hm5; have HB5 := Lib.hid hb5; clear he5 ho5 hm5 hb5))
   go_ret
   have hB05 : Below w.heap.size w w4 := below_step HB.out (below_step HB3.out HB4.out)
   obtain ⟨q5, d5, hv5, _, _, hp5, hbl5⟩ := gwEn_open HO5.out
   subst hv5
   exact ⟨q5, o5.length, d5, o5, rfl, by rw [HE5.out, HX1.out, HAP.out], HO5.out.gs, Or.inr (fun b off e => Nat.le_trans hB05.size (hbl5 b off e)), fun y hy => (HM5.out y hy).elim Or.inl (fun h => Or.inr (by rw [h, HX1.out, HX2.out]; exact ⟨HXD.out, (HG4.out.later HB5.out).mono (Nat.le_trans HB.out.size (below_step HB3.out (Below.refl _ _)).size)⟩)), fun h => Or.inl (hp5 h), below_step hB05 HB5.out⟩
  ·have ht1 : (x.k == 1) = false := by simp [h2]
   have ht2 : (x.k == 2) = true := by simpa using h2
   clear h2
   go_wp2_with (first
    | (refine wpList_ld rfl 59 _ rfl _ rfl _ HLV3.out ?_)
    | (refine wpList_ld rfl 39 _ rfl _ rfl _ HLX.out ?_)
    | (go_at_call 81; refine HPU.out.mono ?_; rintro e w4 ⟨u4, rfl, hg4, hb4⟩; obtain ⟨X, hX1, hX2, _⟩ := hg4.is.ex (e := putE R x) (HXD.out).1; have HG4 := Lib.hid hg4; have HB4 := Lib.hid hb4; have HX1 := Lib.hid hX1; have HX2 := Lib.hid hX2; have HSC := (Lib.hid (HST.out X w4 hb4 (by rw [hX1]; exact HXD.out))); rw [show enV X.e X.s = enV (putE R x) u4 by rw [hX1, hX2]] at HSC; unfold enV at HSC; clear hg4 hb4 hX1 hX2)
    | (go_at_call 75; refine HSC.out.mono ?_; rintro e w5 ⟨v5, o5, rfl, he5, ho5, hm5, hb5⟩; have HO5 := Lib.hid ho5; have HE5 := Lib.hid he5; have HM5 := Lib.hid hm5; have HB5 := Lib.hid hb5; clear he5 ho5 hm5 hb5))
   go_ret
   have hB05 : Below w.heap.size w w4 := below_step HB.out (below_step HB3.out HB4.out)
   obtain ⟨q5, d5, hv5, _, _, hp5, hbl5⟩ := gwEn_open HO5.out
   subst hv5
   exact ⟨q5, o5.length, d5, o5, rfl, by rw [HE5.out, HX1.out, HAP.out], HO5.out.gs, Or.inr (fun b off e => Nat.le_trans hB05.size (hbl5 b off e)), fun y hy => (HM5.out y hy).elim Or.inl (fun h => Or.inr (by rw [h, HX1.out, HX2.out]; exact ⟨HXD.out, (HG4.out.later HB5.out).mono (Nat.le_trans HB.out.size (below_step HB3.out (Below.refl _ _)).size)⟩)), fun h => Or.inl (hp5 h), below_step hB05 HB5.out⟩
 ·have h1 : ¬ x.k = 1 := fun h => h12 (Or.inl h)
  have h2 : ¬ x.k = 2 := fun h => h12 (Or.inr h)
  have ht1 : (x.k == 1) = false := by simpa using h1
  have ht2 : (x.k == 2) = false := by simpa using h2
  rw [if_neg h12] at HA
  clear h12 h1 h2
  have hend : ¬ (x.k = 5 ∧ ok = true) → Hid (AppQ w p n c L x (.returned (.slice p n c)) w3) := fun hno => Lib.hid ⟨p, n, c, L, rfl, by rw [HA.out, if_neg hno], H.out w3 HB3.out, Or.inl ⟨rfl, rfl⟩, fun y hy => Or.inl hy, fun _ => Or.inr ⟨rfl, rfl⟩, below_step HB.out HB3.out⟩
  by_cases h5 : x.k = 5
  ·have ht5 : (x.k == 5) = true := by simpa using h5
   cases ok with
   | true =>
     have HAP : Hid (applyE (peL L) x = setE (peL L) (delE R x)) := Lib.hid (by rw [HA.out, if_pos ⟨h5, rfl⟩])
     clear h5 hend
     go_wp2_with (first
      | (refine wpList_ld rfl 59 _ rfl _ rfl _ HLV3.out ?_)
      | (refine wpList_ld rfl 39 _ rfl _ rfl _ HLX.out ?_)
      | (go_at_call 82; refine HDE.out.mono ?_; rintro e w4 ⟨u4, rfl, hg4, hb4⟩; obtain ⟨X, hX1, hX2, _⟩ := hg4.is.ex (e := delE R x) (HDR.out).1; have HG4 := Lib.hid hg4; have HB4 := Lib.hid hb4; have HX1 := Lib.hid hX1; have HX2 := Lib.hid hX2; have HSC := (Lib.hid (HST.out X w4 hb4 (by rw [hX1]; exact HDR.out))); rw [show enV X.e X.s = enV (delE R x) u4 by rw [hX1, hX2]] at HSC; unfold enV at HSC; clear hg4 hb4 hX1 hX2)
      | (go_at_call 75; refine HSC.out.mono ?_; rintro e w5 ⟨v5, o5, rfl, he5, ho5, hm5, hb5⟩; have HO5 := Lib.hid ho5; have HE5 := Lib.hid he5; have HM5 := Lib.hid hm5; have HB5 := Lib.hid hb5; clear he5 ho5 hm5 hb5))
     go_ret
     have hB05 : Below w.heap.size w w4 := below_step HB.out (below_step HB3.out HB4.out)
     obtain ⟨q5, d5, hv5, _, _, hp5, hbl5⟩ := gwEn_open HO5.out
     subst hv5
     exact ⟨q5, o5.length, d5, o5, rfl, by rw [HE5.out, HX1.out, HAP.out], HO5.out.gs, Or.inr (fun b off e => Nat.le_trans hB05.size (hbl5 b off e)), fun y hy => (HM5.out y hy).elim Or.inl (fun h => Or.inr (by rw [h, HX1.out, HX2.out]; exact ⟨HDR.out, (HG4.out.later HB5.out).mono (Nat.le_trans HB.out.size (below_step HB3.out (Below.refl _ _)).size)⟩)), fun h => Or.inl (hp5 h), below_step hB05 HB5.out⟩
   | false =>
     have HEND := hend (fun h => by cases h.2)
     clear h5 hend
     go_wp2
     go_ret
     exact HEND.out
  ·have ht5 : (x.k == 5) = false := by simpa using h5
   have HEND := hend (fun h => h5 h.1)
   clear h5 hend
   go_wp2
   go_ret
   exact HEND.out
theorem getT_cons (x : Pt) (M : List Pt) (d : ByteArray) : getT (x :: M) d = if x.nm = d then some x else getT M d := rfl
theorem getT_append (l m : List Pt) (d : ByteArray) : getT (l ++ m) d = match getT l d with | some x => some x | none => getT m d := by
 induction l with
 | nil => rfl
 | cons y l ih =>
   rw [List.cons_append, getT_cons, getT_cons]
   by_cases h : y.nm = d
   ·rw [if_pos h, if_pos h]
   ·rw [if_neg h, if_neg h]; exact ih
theorem getT_take {L : List Pt} {k : Nat} {x : Pt} (h : L[k]? = some x) (d : ByteArray) : getT (L.take (k + 1)) d = match getT (L.take k) d with | some y => some y | none => if x.nm = d then some x else none := by
 obtain ⟨h2, h3⟩ := List.getElem?_eq_some_iff.1 h
 rw [List.take_succ_eq_append_getElem h2, getT_append, h3]
 rfl
theorem getT_upto {L : List Pt} {k : Nat} {d : ByteArray} {x : Pt} (h : getT (L.take k) d = some x) : getT L d = some x := by
 conv => lhs; rw [← List.take_append_drop k L, getT_append, h]
/-- what Get answers -/
def GetTQ (w : World) (L : List Tx) (r : Pt × Bool) (e : Ending) (w' : World) : Prop :=
 ∃ u, e = .returned (.tuple #[tnV r.1 u, .bool r.2]) ∧ ((∃ x ∈ L, x.e = r.1 ∧ u = x.s) ∨ u = .slice none 0 0 ∧ r.1 = zeroT) ∧ Below w.heap.size w w'
set_option maxRecDepth 100000 in
set_option maxHeartbeats 2000000 in
theorem rget21_any (p : Option Addr) (n c : Nat) (L : List Tx) (d : ByteArray) (w : World) (h : Gs encTn w p n L) (hn : n ≤ 2097152) :
 Calls Tryz.prog 26 #[.slice p n c, .string d] w fun e w' => GetTQ w L (getTR (ptL L) d) e w' := by
 obtain ⟨wB, hwB⟩ : ∃ W, w.alloc (.cells (tnC zeroT (.slice none 0 0)) 64) = W := ⟨_, rfl⟩
 have hbB : Below w.heap.size w wB := by rw [← hwB]; exact (Below.refl _ _).alloc (Nat.le_refl _) _
 have hz : Tn wB w.heap.size zeroT (.slice none 0 0) := by rw [← hwB]; exact heap_alloc_new _ _
 have HB := Lib.hid hbB
 have HZ := Lib.hid hz
 have H := Lib.hid (h.later hbB)
 have HLL : Hid ((ptL L).length = n) := Lib.hid (by rw [ptL_length, h.len])
 rw [tnZero] at hwB
 clear h hbB hz
 go_enter Tryz.func26, Tryz.ntmps26
 go_wp2
 clear hwB
 go_loopw [6] (fun j wr => ∃ k : Nat, k ≤ n ∧ j = .int .i64 (k : Int) ∧ Hid (getT ((ptL L).take k) d = none) ∧ wr = wB) (fun j _ => n - (intOf j).toNat)
 case atStart => exact ⟨0, by omega, rfl, Lib.hid rfl, rfl⟩
 case round =>
  obtain ⟨k, hkn, rfl, hm, hwr⟩ := hrel
  subst hwr
  by_cases hlt : k < n
  ·obtain ⟨b1, off, y, rfl, hy1, hy3, hr⟩ := H.out.tn k hlt
   have c0 := (tn_cells hr).1
   have HLY := Lib.hid (tn_load hr)
   have HT := Lib.hid (getT_take (ptL_get hy1) d)
   have HY := Lib.hid hy3
   have hki : (k : Int) < (n : Int) := by omega
   have hk0 : (0 : Int) ≤ (k : Int) := by omega
   obtain ⟨ny, hny⟩ : ∃ s, y.e.nm = s := ⟨_, rfl⟩
   rw [hny] at c0 HT
   clear hr hy1 hy3 hny
   by_cases hxd : ny = d
   ·have hq := sq_true hxd
    have HF : Hid (getTR (ptL L) d = (y.e, true)) := Lib.hid (by
     have h1 : getT ((ptL L).take (k + 1)) d = some y.e := by rw [HT.out, hm.out]; dsimp only; rw [if_pos hxd]
     unfold getTR
     rw [getT_upto h1])
    clear hxd
    go_wp2_with (first
     | (refine wpList_ld rfl 64 _ rfl _ rfl _ HLY.out ?_)
     | (refine wpList_store_row rfl 64 _ _ rfl w.heap.size (tnC y.e y.s) rfl rfl 64 _ HZ.out (tnC_sizeOf y.e _ y.hd) ((tnC_size _ _ rfl).trans (tnC_size y.e _ y.hd).symm) (tnC_one _ _ _ _) ?_; generalize hw6 : World.setRow _ _ _ = w6))
    have HM6 : Tn w6 w.heap.size y.e y.s := by rw [← hw6]; exact Mx.row HZ.out
    refine bodyPost_ret (HM6.res2 y.hd rfl _ rfl) rfl ?_
    rw [HF.out]
    exact ⟨_, rfl, Or.inl ⟨y, HY.out, rfl, rfl⟩, by rw [← hw6]; exact below_setRow8 HB.out _ _ (Nat.le_refl _)⟩
   ·have hq := sq_false hxd
    have HN2 : Hid (getT ((ptL L).take (k + 1)) d = none) := Lib.hid (by rw [HT.out, hm.out]; dsimp only; rw [if_neg hxd])
    clear hxd
    go_wp2
    exact ⟨⟨k + 1, by omega, by go_num, HN2, by first | rfl | trivial⟩, by simp [intOf] <;> omega⟩
  ·obtain rfl : k = n := by omega
   have HF : Hid (getTR (ptL L) d = (zeroT, false)) := Lib.hid (by
    have h1 := hm.out
    rw [List.take_of_length_le (by rw [HLL.out]; exact Nat.le_refl _)] at h1
    unfold getTR
    rw [h1])
   have HBU := Lib.hid built_tn0
   go_wp2_with (first
    | (refine wpList_build_is rfl 64 _ rfl (tnC zeroT (.slice none 0 0)) ?_ ?_; focus (first | (simp only [List.map_toArray, List.map_nil]; exact HBU.out) | (simp only [Array.map_empty]; exact HBU.out) | (simp; exact HBU.out)))
    | (refine wpList_store_row rfl 64 _ _ rfl w.heap.size (tnC zeroT (.slice none 0 0)) rfl rfl 64 _ HZ.out (tnC_sizeOf zeroT _ rfl) rfl (tnC_one _ _ _ _) ?_; generalize hw6 : World.setRow _ _ _ = w6))
   have HM6 : Tn w6 w.heap.size zeroT (.slice none 0 0) := by rw [← hw6]; exact Mx.row HZ.out
   refine bodyPost_ret (HM6.res2 rfl rfl _ rfl) rfl ?_
   rw [HF.out]
   exact ⟨_, rfl, Or.inr ⟨rfl, rfl⟩, by rw [← hw6]; exact below_setRow8 HB.out _ _ (Nat.le_refl _)⟩
set_option maxRecDepth 100000 in
set_option maxHeartbeats 2000000 in
theorem rsame21_any (p q : Option Addr) (n c m c' : Nat) (L M : List Tx) (w : World) (h : Gs encTn w p n L) (h' : Gs encTn w q m M) (he : ptL L = ptL M) (hi : ∀ x ∈ L, Is w x.s x.e.ins) (hi' : ∀ x ∈ M, Is w x.s x.e.ins) (hk : ∀ x ∈ L, dok x.e.dg) (hb : ∀ x ∈ L, x.e.ins.length ≤ 2097152) (hn : n ≤ 2097152) :
 Calls Tryz.prog 38 #[.slice p n c, .slice q m c'] w fun e w' => e = .returned (.bool true) ∧ Below w.heap.size w w' := by
 obtain rfl : n = m := by rw [← h.len, ← h'.len, ← ptL_length, ← ptL_length, he]
 have H := Lib.hid h
 have H' := Lib.hid h'
 have HE := Lib.hid he
 have HI := Lib.hid hi
 have HI' := Lib.hid hi'
 have HK := Lib.hid hk
 have HBD := Lib.hid hb
 have e1 : (((n : Nat) : Int) != (n : Int)) = false := by simp
 clear h h' he hi hi' hk hb
 go_enter Tryz.func38, Tryz.ntmps38
 go_wp2
 go_loopw [5] (fun j wr => ∃ k : Nat, k ≤ n ∧ j = .int .i64 (k : Int) ∧ Hid (Below w.heap.size w wr)) (fun j _ => n - (intOf j).toNat)
 case atStart => exact ⟨0, by omega, rfl, Lib.hid (Below.refl _ _)⟩
 case round =>
  obtain ⟨k, hkn, rfl, HB⟩ := hrel
  by_cases hlt : k < n
  ·obtain ⟨b1, off, y, rfl, hy1, hy3, hr⟩ := (H.out.later HB.out).tn k hlt
   obtain ⟨b2, off2, z, rfl, hz1, hz3, hr2⟩ := (H'.out.later HB.out).tn k hlt
   have hyz : z.e = y.e := by
    have h1 := ptL_get hy1
    have h2 := ptL_get hz1
    rw [← HE.out, h1] at h2
    exact (Option.some.inj h2).symm
   have HL1 : Hid (∀ W, Below wr.heap.size wr W → (Instr.loadAt 64 (.pointer (some ⟨b1, off + k * 38, none⟩))).run Tryz.prog W = .ok (.agg (tnC y.e y.s)) W) := Lib.hid fun W hW => tn_load (en_range hr hW)
   have HL2 : Hid (∀ W, Below wr.heap.size wr W → (Instr.loadAt 64 (.pointer (some ⟨b2, off2 + k * 38, none⟩))).run Tryz.prog W = .ok (.agg (tnC z.e z.s)) W) := Lib.hid fun W hW => tn_load (en_range hr2 hW)
   have HSM := Lib.hid fun W (hW : Below wr.heap.size wr W) => rsamet19_any y.e y.s z.s W ((HI.out y hy3).later (below_step HB.out hW)) (by have h1 := (HI'.out z hz3).later (below_step HB.out hW); rw [hyz] at h1; exact h1) (HK.out y hy3) (HBD.out y hy3)
   rw [hyz] at HL2
   have hki : (k : Int) < (n : Int) := by omega
   have hk0 : (0 : Int) ≤ (k : Int) := by omega
   have hbe : Below wr.heap.size wr wr := Below.refl _ _
   unfold tnV at HSM
   generalize tnC y.e y.s = ME at *
   generalize tnC y.e z.s = MZ at *
   clear hr hr2 hy1 hy3 hz1 hz3 hyz
   go_upto_region 6 with fail
   refine wp_region_held_drew (S := (fun W : World => Below wr.heap.size wr W)) (by kernel_rfl) (show Below _ _ (World.drew wr) from hbe.drew) (fun hHeld => ?_)
   refine tk 0 rfl ?_;(try simp only [PT]);refine tk 1 rfl ?_;(try simp only [PT]);refine tk 2 rfl ?_;(try simp only [PT])
   refine tkL 3 rfl (yieldsIf_ld (by rfl) 64 (.tmp 19) rfl (.pointer (some ⟨b1, off + k * 38, none⟩)) rfl (.agg ME) (fun W hW => HL1.out W hW)) ?_
   (try simp only [PT])
   refine tk 4 rfl ?_;(try simp only [PT]);refine tk 5 rfl ?_;(try simp only [PT]);refine tk 6 rfl ?_;(try simp only [PT])
   refine tkL 7 rfl (yieldsIf_ld (by rfl) 64 (.tmp 23) rfl (.pointer (some ⟨b2, off2 + k * 38, none⟩)) rfl (.agg MZ) (fun W hW => HL2.out W hW)) ?_
   (try simp only [PT])
   refine ready_at 8 rfl (by kernel_rfl) (fun K hK => ?_)
   go_simp
   refine (HSM.out _ hHeld).mono ?_
   rintro r w3 ⟨rfl, hb3⟩
   have hB3 := below_step hHeld hb3
   clear hHeld
   first
    | refine hK.out _ _ ?hS9 (fun hHeld => ?rest9)
    | (go_wp2_with fail; refine hK.out _ _ ?hS9 (fun hHeld => ?rest9))
   case hS9 => exact hB3
   clear hK K
   (try simp only [PT])
   refine tk 9 rfl ?_;(try simp only [PT])
   refine wpAnyH_done (by kernel_rfl) ?_ _
   have HB3 := Lib.hid (below_step HB.out hHeld)
   clear hHeld
   go_wp2
   exact ⟨⟨k + 1, by omega, by go_num, HB3⟩, by simp [intOf] <;> omega⟩
  ·obtain rfl : k = n := by omega
   go_wp2
   go_ret
   exact ⟨rfl, HB.out⟩
/-- '[]TagEntry{x}', at one operation -/
theorem wp_build_tn {o : Oper} {a : Act} {w : World} {K : Act → World → Prop} {Q : Exit → Act → World → Prop} (t : TypeId) (x : Nat) (ho : o.op = .buildSlice t 1 #[(0, .tmp x)])
 (hu : Tryz.prog.underlying t = some (.slice 64)) (q : Tx) (hx : a.eval (.tmp x) = .agg (tnC q.e q.s))
 (h : K (a.put o.dst (.slice (some ⟨w.heap.size, 0, none⟩) 1 1)) (w.alloc (.cells (tnC q.e q.s) 64))) : o.wp Tryz.prog a w K Q := by
 obtain ⟨i, hi, hzz⟩ := Option.map_eq_some_iff.1 infoTn
 simp only [Prod.mk.injEq] at hzz
 obtain ⟨hz, hsz, _⟩ := hzz
 have hsz' : i.size = 38 := hsz
 refine wp_buildSlice t 64 1 _ ho (tnC q.e q.s) i _ hu hi hz (by rw [hsz']; decide) (by rw [hsz']; decide) ?_ h
 rw [hsz']
 have hf := Great.fill_whole (s := 38) (by decide) [.agg (tnC q.e q.s)] ((Array.range (1 * 38)).map (tzero.cells[· % tzero.cells.size]!)) (by
  intro v hv
  rw [List.mem_singleton] at hv
  subst hv
  exact tnC_size q.e q.s q.hd) (by simp)
 have e : (#[(0, Operand.tmp x)].map fun (p : Nat × Operand) => (p.1, a.eval p.2)).toList = [((0 : Nat), Value.agg (tnC q.e q.s))] := by
  simp [hx]
 rw [e]
 refine (Eq.trans ?_ hf).trans ?_
 ·rfl
 ·simp [Value.cells]
theorem wpList_build_tn {ops : Array Oper} {rest : List Oper} {o : Oper} {a : Act} {w : World} {Q : Exit → Act → World → Prop} (hg : o.guard = none) (t : TypeId) (x : Nat) (ho : o.op = .buildSlice t 1 #[(0, .tmp x)])
 (hu : Tryz.prog.underlying t = some (.slice 64)) (q : Tx) (hx : a.eval (.tmp x) = .agg (tnC q.e q.s))
 (h : wpList Tryz.prog ops Q rest (a.put o.dst (.slice (some ⟨w.heap.size, 0, none⟩) 1 1)) (w.alloc (.cells (tnC q.e q.s) 64))) : wpList Tryz.prog ops Q (o :: rest) a w :=
 wpList_plain hg fun _ hK => wp_build_tn t x ho hu q hx (hK _ _ h)
theorem Gs.oneTn (w : World) (q : Tx) : Gs encTn (w.alloc (.cells (tnC q.e q.s) 64)) (some ⟨w.heap.size, 0, none⟩) 1 [q] := Gs.one encTn w q _ (by rw [q.fC]) _ _
theorem setTB_drop {L : List Pt} {k : Nat} {x : Pt} (h : L[k]? = some x) (e : Pt) (t : Bool) : setTB e (L.drop k) t = (if t = false ∧ nlt x.nm e.nm = false then [e] else []) ++ ((if x.nm = e.nm then [] else [x]) ++ setTB e (L.drop (k + 1)) (t || !nlt x.nm e.nm)) := by
 obtain ⟨h2, h3⟩ := List.getElem?_eq_some_iff.1 h
 rw [List.drop_eq_getElem_cons h2, h3]
 rfl
def SetTQ (w : World) (L : List Tx) (X : Tx) (e : Ending) (w' : World) : Prop := ∃ v o, e = .returned v ∧ ptL o = setT (ptL L) X.e ∧ Gw encTn w' w.heap.size v o ∧ (∀ x ∈ o, x ∈ L ∨ x = X) ∧ Below w.heap.size w w'
def NewTQ (w : World) (L : List Tx) (e : Ending) (w' : World) : Prop := ∃ v o, e = .returned v ∧ ptL o = newT (ptL L) ∧ Gw encTn w' w.heap.size v o ∧ (∀ x ∈ o, x ∈ L) ∧ Below w.heap.size w w'
/-- amid Set's loop -/
structure SeT (w W : World) (L : List Tx) (X : Tx) (B k : Nat) (tb : Bool) (v : Value) (o : List Tx) : Prop where
 gw : Gw encTn W B v o
 eq : ptL o ++ setTB X.e ((ptL L).drop k) tb = setT (ptL L) X.e
 me : ∀ x ∈ o, x ∈ L ∨ x = X
 le : Below w.heap.size w W
theorem SeT.len {w W : World} {L : List Tx} {X : Tx} {B k : Nat} {tb : Bool} {v : Value} {o : List Tx} (h : SeT w W L X B k tb v o) : o.length ≤ L.length + 1 := by
 have h1 := setT_length (ptL L) X.e
 rw [← h.eq, List.length_append, ptL_length, ptL_length] at h1
 omega
theorem below_appT {w W V : World} {B : Nat} {v : Value} {o : List Tx} (hb : Below w.heap.size w W) (hg : Gw encTn W B v o) (hB : w.heap.size ≤ B) (h : W.grownBy V v.ownBlock) : Below w.heap.size w V :=
 below_new_gw hb (hg.mono hB) h hb.size
set_option maxRecDepth 100000 in
set_option maxHeartbeats 4000000 in
theorem rset21_any (p : Option Addr) (n c : Nat) (L : List Tx) (X : Tx) (w : World) (h : Gs encTn w p n L) (hn : n ≤ 2097152) :
 Calls Tryz.prog 76 #[.slice p n c, tnV X.e X.s] w fun e w' => SetTQ w L X e w' := by
 obtain ⟨wB, hwB⟩ : ∃ W, w.alloc (.cells (tnC X.e X.s) 64) = W := ⟨_, rfl⟩
 have hbB : Below w.heap.size w wB := by rw [← hwB]; exact (Below.refl _ _).alloc (Nat.le_refl _) _
 have hmE : Tn wB w.heap.size X.e X.s := by rw [← hwB]; exact heap_alloc_new _ _
 have HB := Lib.hid hbB
 have HLX := Lib.hid fun W (hW : Below wB.heap.size wB W) => (hmE.later hW).load X.hd
 have HNX := Lib.hid fun W (hW : Below wB.heap.size wB W) => ((hmE.later hW).cells X.hd).1
 have H := Lib.hid (h.later hbB)
 have HLL : Hid ((ptL L).length = n) := Lib.hid (by rw [ptL_length, h.len])
 have HL0 : Hid (L.length = n) := Lib.hid h.len
 have HSI : Hid (SeT wB wB L X wB.heap.size 0 false (.slice none 0 0) []) := Lib.hid ⟨Gw.nil _ _ _, by simp [ptL, setT], (fun x hx => by cases hx), Below.refl _ _⟩
 unfold tnV
 generalize hME : tnC X.e X.s = ME at *
 have HME := Lib.hid hME
 clear h hbB hmE hME
 go_enter Tryz.func76, Tryz.ntmps76
 go_wp2
 clear hwB
 go_loopw [5, 6, 7] (fun v t j wr => ∃ (k : Nat) (tb : Bool) (q : Option Addr) (m c' : Nat) (o : List Tx), k ≤ n ∧ j = .int .i64 (k : Int) ∧ t = .bool tb ∧ v = .slice q m c' ∧ Hid (SeT wB wr L X wB.heap.size k tb (.slice q m c') o)) (fun _ _ j _ => n - (intOf j).toNat)
 case atStart => exact ⟨0, false, none, 0, 0, [], by omega, rfl, rfl, rfl, HSI⟩
 case round =>
  obtain ⟨k, tb, q, m, c', o, hkn, rfl, rfl, rfl, HI⟩ := hrel
  by_cases hlt : k < n
  ·obtain ⟨b1, off, y, rfl, hy1, hy3, hr⟩ := (H.out.later HI.out.le).tn k hlt
   have HY := Lib.hid hy3
   have HSB := Lib.hid (setTB_drop (ptL_get hy1) X.e tb)
   have HRW : Hid (∀ W, Below wB.heap.size wB W → W.rangeAt b1 (off + k * 38) (mixL y.e.a y.e.dg (y.e.t y.s))) := Lib.hid fun W hW => by
    obtain ⟨b2, off2, z, hp2, hz1, _, hr2⟩ := (H.out.later hW).tn k hlt
    simp only [Option.some.injEq, Addr.mk.injEq, and_true] at hp2
    obtain ⟨rfl, rfl⟩ := hp2
    rw [hy1] at hz1
    obtain rfl := Option.some.inj hz1
    exact hr2
   have HLY := Lib.hid fun W (hW : Below wB.heap.size wB W) => tn_load (HRW.out W hW)
   have HC := Lib.hid fun W (hW : Below wB.heap.size wB W) => And.intro (tn_cells (HRW.out W hW)).1 (HNX.out W hW)
   have hki : (k : Int) < (n : Int) := by omega
   have hk0 : (0 : Int) ≤ (k : Int) := by omega
   obtain ⟨ny, hny⟩ : ∃ s, y.e.nm = s := ⟨_, rfl⟩
   obtain ⟨nX, hnX⟩ : ∃ s, X.e.nm = s := ⟨_, rfl⟩
   rw [hny] at HSB
   rw [hnX] at HSB
   simp only [hny, hnX] at HC
   obtain ⟨MY, hMY⟩ : ∃ M, tnC y.e y.s = M := ⟨_, rfl⟩
   have HMY := Lib.hid hMY
   rw [hMY] at HLY
   have HBL : Hid (Below wB.heap.size wB wr) := Lib.hid HI.out.le
   have HGW := Lib.hid HI.out.gw
   obtain ⟨c0, cX⟩ := HC.out wr HBL.out
   clear hr hy1 hy3 hny hnX hMY
   unfold nlt at HSB
   obtain ⟨lt, hlt2⟩ : ∃ b, Op.bytesLess ny.toList nX.toList = b := ⟨_, rfl⟩
   rw [hlt2] at HSB
   cases tb with
   | true =>
     clear hlt2
     have HEQ0 : Hid (ptL o ++ ((if ny = nX then [] else [y.e]) ++ setTB X.e ((ptL L).drop (k + 1)) true) = setT (ptL L) X.e) := Lib.hid (by
      have h1 := HI.out.eq
      rw [HSB.out, if_neg (fun h => by cases h.1), List.nil_append] at h1
      exact h1)
     have HME0 := Lib.hid HI.out.me
     go_upto_region 6 with fail
     go_quiet (fail)
     have HGQ := Lib.hid (HGW.out.later (below_drewN (Below.refl _ _) nq))
     have HBQ := Lib.hid (below_step HBL.out (below_drewN (Below.refl _ _) nq))
     clear c0 cX
     generalize World.drewN wr nq = wq at *
     obtain ⟨d0, dX⟩ := HC.out _ HBQ.out
     by_cases hne : ny = nX
     ·have hq := sq_true hne
      have HE2 : Hid (ptL o ++ setTB X.e ((ptL L).drop (k + 1)) true = setT (ptL L) X.e) := Lib.hid (by have h1 := HEQ0.out; rw [if_pos hne, List.nil_append] at h1; exact h1)
      clear hne
      go_upto_region 9 with fail
      go_quiet (fail)
      have HIN : Hid (SeT wB (World.drewN wq nq) L X wB.heap.size (k + 1) true _ o) := Lib.hid ⟨HGQ.out.later (below_drewN (Below.refl _ _) nq), HE2.out, HME0.out, below_step HBQ.out (below_drewN (Below.refl _ _) nq)⟩
      generalize World.drewN wq nq = wd at *
      go_wp2
      exact ⟨⟨k + 1, _, _, _, _, _, by omega, by go_num, rfl, rfl, HIN⟩, by simp [intOf] <;> omega⟩
     ·have hq := sq_false hne
      have HE2 : Hid (ptL (o ++ [y]) ++ setTB X.e ((ptL L).drop (k + 1)) true = setT (ptL L) X.e) := Lib.hid (by have h1 := HEQ0.out; rw [if_neg hne] at h1; rw [ptL_append, List.append_assoc]; exact h1)
      have HOL2 : Hid ((o).length + 1 ≤ 2097216) := Lib.hid (by
       have h1 := setT_length (ptL L) X.e
       rw [← HE2.out, List.length_append, ptL_length, ptL_length, List.length_append, List.length_singleton, HL0.out] at h1
       omega)
      clear hne
      go_upto_region 9 with fail
      go_quiet (fail)
      have HGD := Lib.hid (HGQ.out.later (below_drewN (Below.refl _ _) nq))
      have HBD := Lib.hid (below_step HBQ.out (below_drewN (Below.refl _ _) nq))
      have HLYD := Lib.hid (HLY.out _ HBD.out)
      generalize World.drewN wq nq = wd at *
      go_wp2_with (first
       | (refine wpList_ld rfl 64 _ rfl _ rfl _ HLYD.out ?_)
       | (refine wpList_build_tn rfl 24 42 rfl Tryz.underlying24 y (by rw [HMY.out]; rfl) ?_)
       | (refine wpList_append_gen encTn rfl _ _ 24 rfl Tryz.underlying24 tzero 104 infoTn tzero_size (by decide) wB.heap.size _ o rfl (HGD.out.alloc _) _ 1 1 [y] rfl (Gs.oneTn _ y) (fun h => by cases h) HOL2.out (by have h1 := HBD.out.size; rw [World.size_alloc]; omega) ?_; intro v9 w9 ho9 hg9; have HO9 := Lib.hid ho9; have HB9 := Lib.hid (below_appT (HBD.out.alloc HBD.out.size _) (HGD.out.alloc _) (Nat.le_refl _) hg9); obtain ⟨p9, c9, hv9, _⟩ := ho9.open; obtain ⟨m9, hm9⟩ : ∃ x, List.length (o ++ [y]) = x := ⟨_, rfl⟩; rw [hm9] at hv9; subst hv9; clear ho9 hg9 hm9))
      have HIN : Hid (SeT wB w9 L X wB.heap.size (k + 1) true _ (o ++ [y])) := Lib.hid ⟨HO9.out, HE2.out, fun x hx => by
       rcases List.mem_append.1 hx with h1 | h1
       ·exact HME0.out x h1
       ·rw [List.mem_singleton] at h1
        rw [h1]; exact Or.inl HY.out, HB9.out⟩
      exact ⟨⟨k + 1, _, _, _, _, _, by omega, by go_num, rfl, rfl, HIN⟩, by simp [intOf] <;> omega⟩
   | false =>
     cases lt with
     | true =>
       have HEQ0 : Hid (ptL o ++ ((if ny = nX then [] else [y.e]) ++ setTB X.e ((ptL L).drop (k + 1)) false) = setT (ptL L) X.e) := Lib.hid (by
        have h1 := HI.out.eq
        rw [HSB.out, if_neg (fun h => by cases h.2), List.nil_append] at h1
        exact h1)
       have HME0 := Lib.hid HI.out.me
       go_upto_region 6 with fail
       go_quiet (fail)
       have HGQ := Lib.hid (HGW.out.later (below_drewN (Below.refl _ _) nq))
       have HBQ := Lib.hid (below_step HBL.out (below_drewN (Below.refl _ _) nq))
       clear c0 cX hlt2
       generalize World.drewN wr nq = wq at *
       obtain ⟨d0, dX⟩ := HC.out _ HBQ.out
       by_cases hne : ny = nX
       ·have hq := sq_true hne
        have HE2 : Hid (ptL o ++ setTB X.e ((ptL L).drop (k + 1)) false = setT (ptL L) X.e) := Lib.hid (by have h1 := HEQ0.out; rw [if_pos hne, List.nil_append] at h1; exact h1)
        clear hne
        go_upto_region 9 with fail
        go_quiet (fail)
        have HIN : Hid (SeT wB (World.drewN wq nq) L X wB.heap.size (k + 1) false _ o) := Lib.hid ⟨HGQ.out.later (below_drewN (Below.refl _ _) nq), HE2.out, HME0.out, below_step HBQ.out (below_drewN (Below.refl _ _) nq)⟩
        generalize World.drewN wq nq = wd at *
        go_wp2
        exact ⟨⟨k + 1, _, _, _, _, _, by omega, by go_num, rfl, rfl, HIN⟩, by simp [intOf] <;> omega⟩
       ·have hq := sq_false hne
        have HE2 : Hid (ptL (o ++ [y]) ++ setTB X.e ((ptL L).drop (k + 1)) false = setT (ptL L) X.e) := Lib.hid (by have h1 := HEQ0.out; rw [if_neg hne] at h1; rw [ptL_append, List.append_assoc]; exact h1)
        have HOL2 : Hid ((o).length + 1 ≤ 2097216) := Lib.hid (by
         have h1 := setT_length (ptL L) X.e
         rw [← HE2.out, List.length_append, ptL_length, ptL_length, List.length_append, List.length_singleton, HL0.out] at h1
         omega)
        clear hne
        go_upto_region 9 with fail
        go_quiet (fail)
        have HGD := Lib.hid (HGQ.out.later (below_drewN (Below.refl _ _) nq))
        have HBD := Lib.hid (below_step HBQ.out (below_drewN (Below.refl _ _) nq))
        have HLYD := Lib.hid (HLY.out _ HBD.out)
        generalize World.drewN wq nq = wd at *
        go_wp2_with (first
         | (refine wpList_ld rfl 64 _ rfl _ rfl _ HLYD.out ?_)
         | (refine wpList_build_tn rfl 24 42 rfl Tryz.underlying24 y (by rw [HMY.out]; rfl) ?_)
         | (refine wpList_append_gen encTn rfl _ _ 24 rfl Tryz.underlying24 tzero 104 infoTn tzero_size (by decide) wB.heap.size _ o rfl (HGD.out.alloc _) _ 1 1 [y] rfl (Gs.oneTn _ y) (fun h => by cases h) HOL2.out (by have h1 := HBD.out.size; rw [World.size_alloc]; omega) ?_; intro v9 w9 ho9 hg9; have HO9 := Lib.hid ho9; have HB9 := Lib.hid (below_appT (HBD.out.alloc HBD.out.size _) (HGD.out.alloc _) (Nat.le_refl _) hg9); obtain ⟨p9, c9, hv9, _⟩ := ho9.open; obtain ⟨m9, hm9⟩ : ∃ x, List.length (o ++ [y]) = x := ⟨_, rfl⟩; rw [hm9] at hv9; subst hv9; clear ho9 hg9 hm9))
        have HIN : Hid (SeT wB w9 L X wB.heap.size (k + 1) false _ (o ++ [y])) := Lib.hid ⟨HO9.out, HE2.out, fun x hx => by
         rcases List.mem_append.1 hx with h1 | h1
         ·exact HME0.out x h1
         ·rw [List.mem_singleton] at h1
          rw [h1]; exact Or.inl HY.out, HB9.out⟩
        exact ⟨⟨k + 1, _, _, _, _, _, by omega, by go_num, rfl, rfl, HIN⟩, by simp [intOf] <;> omega⟩
     | false =>
       have HEQ0 : Hid (ptL (o ++ [X]) ++ ((if ny = nX then [] else [y.e]) ++ setTB X.e ((ptL L).drop (k + 1)) true) = setT (ptL L) X.e) := Lib.hid (by
        have h1 := HI.out.eq
        rw [HSB.out, if_pos ⟨rfl, rfl⟩] at h1
        rw [ptL_append, List.append_assoc]
        exact h1)
       have HOL1 : Hid (o.length + 1 ≤ 2097216) := Lib.hid (by have := HI.out.len; rw [HL0.out] at this; omega)
       have HME1 : Hid (∀ x ∈ o ++ [X], x ∈ L ∨ x = X) := Lib.hid (fun x hx => by
        rcases List.mem_append.1 hx with h1 | h1
        ·exact HI.out.me x h1
        ·rw [List.mem_singleton] at h1
         exact Or.inr h1)
       go_upto_region 6 with fail
       go_quiet (fail)
       have HGQ := Lib.hid (HGW.out.later (below_drewN (Below.refl _ _) nq))
       have HBQ := Lib.hid (below_step HBL.out (below_drewN (Below.refl _ _) nq))
       have HLXW := Lib.hid (HLX.out _ HBQ.out)
       clear c0 cX hlt2
       generalize World.drewN wr nq = wq at *
       go_upto_region 9 with (first
       | (refine wpList_ld rfl 64 _ rfl _ rfl _ HLXW.out ?_)
       | (refine wpList_build_tn rfl 24 27 rfl Tryz.underlying24 X (by rw [HME.out]; rfl) ?_)
       | (refine wpList_append_gen encTn rfl _ _ 24 rfl Tryz.underlying24 tzero 104 infoTn tzero_size (by decide) wB.heap.size _ o rfl (HGQ.out.alloc _) _ 1 1 [X] rfl (Gs.oneTn _ X) (fun h => by cases h) HOL1.out (by have h1 := HBQ.out.size; rw [World.size_alloc]; omega) ?_; intro v8 w8 ho8 hg8; have HO8 := Lib.hid ho8; have HB8 := Lib.hid (below_appT (HBQ.out.alloc HBQ.out.size _) (HGQ.out.alloc _) (Nat.le_refl _) hg8); obtain ⟨p8, c8, hv8, _⟩ := ho8.open; obtain ⟨m8, hm8⟩ : ∃ x, List.length (o ++ [X]) = x := ⟨_, rfl⟩; rw [hm8] at hv8; subst hv8; clear ho8 hg8 hm8))
       obtain ⟨d0, dX⟩ := HC.out _ HB8.out
       by_cases hne : ny = nX
       ·have hq := sq_true hne
        have HE2 : Hid (ptL (o ++ [X]) ++ setTB X.e ((ptL L).drop (k + 1)) true = setT (ptL L) X.e) := Lib.hid (by have h1 := HEQ0.out; rw [if_pos hne, List.nil_append] at h1; exact h1)
        clear hne
        go_quiet (fail)
        have HIN : Hid (SeT wB (World.drewN w8 nq) L X wB.heap.size (k + 1) true _ (o ++ [X])) := Lib.hid ⟨HO8.out.later (below_drewN (Below.refl _ _) nq), HE2.out, HME1.out, below_step HB8.out (below_drewN (Below.refl _ _) nq)⟩
        generalize World.drewN w8 nq = wd at *
        go_wp2
        exact ⟨⟨k + 1, _, _, _, _, _, by omega, by go_num, rfl, rfl, HIN⟩, by simp [intOf] <;> omega⟩
       ·have hq := sq_false hne
        have HE2 : Hid (ptL ((o ++ [X]) ++ [y]) ++ setTB X.e ((ptL L).drop (k + 1)) true = setT (ptL L) X.e) := Lib.hid (by have h1 := HEQ0.out; rw [if_neg hne] at h1; rw [ptL_append, List.append_assoc]; exact h1)
        have HOL2 : Hid (((o ++ [X])).length + 1 ≤ 2097216) := Lib.hid (by
         have h1 := setT_length (ptL L) X.e
         rw [← HE2.out, List.length_append, ptL_length, ptL_length, List.length_append, List.length_singleton, HL0.out] at h1
         omega)
        clear hne
        go_quiet (fail)
        have HGD := Lib.hid (HO8.out.later (below_drewN (Below.refl _ _) nq))
        have HBD := Lib.hid (below_step HB8.out (below_drewN (Below.refl _ _) nq))
        have HLYD := Lib.hid (HLY.out _ HBD.out)
        generalize World.drewN w8 nq = wd at *
        go_wp2_with (first
         | (refine wpList_ld rfl 64 _ rfl _ rfl _ HLYD.out ?_)
         | (refine wpList_build_tn rfl 24 42 rfl Tryz.underlying24 y (by rw [HMY.out]; rfl) ?_)
         | (refine wpList_append_gen encTn rfl _ _ 24 rfl Tryz.underlying24 tzero 104 infoTn tzero_size (by decide) wB.heap.size _ (o ++ [X]) rfl (HGD.out.alloc _) _ 1 1 [y] rfl (Gs.oneTn _ y) (fun h => by cases h) HOL2.out (by have h1 := HBD.out.size; rw [World.size_alloc]; omega) ?_; intro v9 w9 ho9 hg9; have HO9 := Lib.hid ho9; have HB9 := Lib.hid (below_appT (HBD.out.alloc HBD.out.size _) (HGD.out.alloc _) (Nat.le_refl _) hg9); obtain ⟨p9, c9, hv9, _⟩ := ho9.open; obtain ⟨m9, hm9⟩ : ∃ x, List.length ((o ++ [X]) ++ [y]) = x := ⟨_, rfl⟩; rw [hm9] at hv9; subst hv9; clear ho9 hg9 hm9))
        have HIN : Hid (SeT wB w9 L X wB.heap.size (k + 1) true _ ((o ++ [X]) ++ [y])) := Lib.hid ⟨HO9.out, HE2.out, fun x hx => by
         rcases List.mem_append.1 hx with h1 | h1
         ·exact HME1.out x h1
         ·rw [List.mem_singleton] at h1
          rw [h1]; exact Or.inl HY.out, HB9.out⟩
        exact ⟨⟨k + 1, _, _, _, _, _, by omega, by go_num, rfl, rfl, HIN⟩, by simp [intOf] <;> omega⟩
  ·obtain rfl : k = n := by omega
   have HO : Hid (ptL o ++ (if tb then [] else [X.e]) = setT (ptL L) X.e) := Lib.hid (by
    have h1 := HI.out.eq
    rw [List.drop_of_length_le (by rw [HLL.out]; exact Nat.le_refl _)] at h1
    exact h1)
   have HOL : Hid (o.length + 1 ≤ 2097216) := Lib.hid (by have := HI.out.len; rw [HL0.out] at this; omega)
   have HLXW := Lib.hid (HLX.out wr HI.out.le)
   cases tb with
   | true =>
     go_wp2
     go_ret
     refine ⟨_, o, rfl, by simpa using HO.out, HI.out.gw.mono HB.out.size, HI.out.me, below_step HB.out HI.out.le⟩
   | false =>
     go_wp2_with (first
      | (refine wpList_ld rfl 64 _ rfl _ rfl _ HLXW.out ?_)
      | (refine wpList_build_tn rfl 24 48 rfl Tryz.underlying24 X (by rw [HME.out]; rfl) ?_)
      | (refine wpList_append_gen encTn rfl _ _ 24 rfl Tryz.underlying24 tzero 104 infoTn tzero_size (by decide) wB.heap.size _ o rfl (HI.out.gw.alloc _) _ 1 1 [X] rfl (Gs.oneTn _ X) (fun h => by cases h) HOL.out (by have h1 := HI.out.le.size; rw [World.size_alloc]; omega) ?_; intro v8 w8 ho8 hg8; have HO8 := Lib.hid ho8; have HB8 := Lib.hid (below_appT (HI.out.le.alloc HI.out.le.size (.cells (tnC X.e X.s) 64)) (HI.out.gw.alloc _) (Nat.le_refl _) hg8); clear ho8 hg8))
     go_ret
     refine ⟨_, o ++ [X], rfl, ?_, HO8.out.mono HB.out.size, fun x hx => ?_, below_step HB.out HB8.out⟩
     ·rw [ptL_append, show ptL [X] = [X.e] from rfl]
      simpa using HO.out
     ·rcases List.mem_append.1 hx with h1 | h1
      ·exact HI.out.me x h1
      ·rw [List.mem_singleton] at h1
       exact Or.inr h1
set_option maxRecDepth 100000 in
set_option maxHeartbeats 1000000 in
theorem rnew21_any (p : Option Addr) (n c : Nat) (L : List Tx) (w : World) (h : Gs encTn w p n L) (hn : n ≤ 2097152) :
 Calls Tryz.prog 43 #[.slice p n c] w fun e w' => NewTQ w L e w' := by
 have H := Lib.hid h
 have HLL : Hid ((ptL L).length = n) := Lib.hid (by rw [ptL_length, h.len])
 have HS := Lib.hid fun (q : Option Addr) (m d : Nat) (M : List Tx) (X : Tx) W (hW : Gs encTn W q m M) (hm : m ≤ 2097152) => rset21_any q m d M X W hW hm
 clear h
 go_enter Tryz.func43, Tryz.ntmps43
 go_wp2
 go_loopw [3, 4] (fun v j wr => ∃ (k : Nat) (q : Option Addr) (m d : Nat) (o : List Tx), k ≤ n ∧ j = .int .i64 (k : Int) ∧ v = .slice q m d ∧ Hid (ptL o = newT ((ptL L).take k)) ∧ Hid (Gw encTn wr w.heap.size (.slice q m d) o) ∧ Hid (∀ x ∈ o, x ∈ L) ∧ Hid (Below w.heap.size w wr)) (fun _ j _ => n - (intOf j).toNat)
 case atStart => exact ⟨0, none, 0, 0, [], by omega, rfl, rfl, Lib.hid rfl, Lib.hid (Gw.nil _ _ _), Lib.hid (fun x hx => by cases hx), Lib.hid (Below.refl _ _)⟩
 case round =>
  obtain ⟨k, q, m, d, o, hkn, rfl, rfl, HE, HO, HM, HB⟩ := hrel
  by_cases hlt : k < n
  ·obtain ⟨b1, off, y, rfl, hy1, hy3, hr⟩ := (H.out.later HB.out).tn k hlt
   have HY := Lib.hid hy3
   have hmm : m ≤ 2097152 := by
    have h1 := newT_length ((ptL L).take k)
    rw [← HE.out, ptL_length, HO.out.len, List.length_take, HLL.out] at h1
    omega
   have HSC := Lib.hid (HS.out q m d o y wr HO.out.gs hmm)
   have HLY := Lib.hid (tn_load hr)
   have HT : Hid (setT (ptL o) y.e = newT ((ptL L).take (k + 1))) := Lib.hid (by
    obtain ⟨h2, h3⟩ := List.getElem?_eq_some_iff.1 (ptL_get hy1)
    rw [List.take_succ_eq_append_getElem h2, h3, newT_snoc, HE.out])
   have hki : (k : Int) < (n : Int) := by omega
   have hk0 : (0 : Int) ≤ (k : Int) := by omega
   unfold tnV at HSC
   generalize tnC y.e y.s = MY at *
   clear hr hy1 hy3 hmm
   go_wp2_with (first
    | (refine wpList_ld rfl 64 _ rfl _ rfl _ HLY.out ?_)
    | (go_at_call 76; refine HSC.out.mono ?_; rintro e w2 ⟨v2, o2, rfl, he2, ho2, hm2, hb2⟩; obtain ⟨q2, d2, hv2, _⟩ := ho2.open; obtain ⟨n2, hn2⟩ : ∃ x, o2.length = x := ⟨_, rfl⟩; rw [hn2] at hv2; subst hv2; have HE2 := Lib.hid (he2.trans HT.out); have HO2 := Lib.hid (ho2.mono HB.out.size); have HM2 : Hid (∀ x ∈ o2, x ∈ L) := (Lib.hid (fun x hx => (hm2 x hx).elim (HM.out x) (fun h => by rw [h]; exact HY.out))); have HB2 := Lib.hid (below_step HB.out hb2); clear he2 ho2 hm2 hb2 hn2))
   exact ⟨⟨k + 1, q2, n2, d2, o2, by omega, by go_num, rfl, HE2, HO2, HM2, HB2⟩, by simp [intOf] <;> omega⟩
  ·obtain rfl : k = n := by omega
   have HF : Hid (ptL o = newT (ptL L)) := Lib.hid (by have h1 := HE.out; rwa [List.take_of_length_le (by rw [HLL.out]; exact Nat.le_refl _)] at h1)
   go_wp2
   go_ret
   exact ⟨_, o, rfl, HF.out, HO.out, HM.out, HB.out⟩
/-- a row of numbers of the call's own outlives an append to a row of names' entries of its own -/
theorem Gw.besideTn {W W' : World} {B B' : Nat} {s v : Value} {I : List Int} {o : List Tx} (h : Gw encI W B s I) (hv : Gw encTn W B' v o) (hg : W.grownBy W' v.ownBlock) : Gw encI W' B s I := by
 refine h.kept hg fun b hb e => ?_
 obtain ⟨_, h2⟩ := h
 obtain ⟨_, h3⟩ := hv
 rcases h2 with ⟨h4, _⟩ | ⟨g, cap, cur, h4, _, h5, _⟩
 ·rw [h4] at hb; cases hb
 ·rcases h3 with ⟨h6, _⟩ | ⟨g', cap', cur', h6, _, h7, _⟩
  ·rw [h6] at e; cases e
  ·rw [h4] at hb
   rw [h6] at e
   simp only [Value.ownBlock, Option.some.injEq] at hb e
   subst hb
   subst e
   rw [h5] at h7
   simp only [Option.some.injEq, Obj.cells.injEq] at h7
   exact absurd h7.2.1 (by decide)
theorem keepTs_take {L : List Pt} {k : Nat} {x : Pt} (h : L[k]? = some x) (b : List Int) : keepTs (L.take (k + 1)) b = keepTs (L.take k) b ++ if (keepT x b).2 then [(keepT x b).1] else [] := by
 obtain ⟨h2, h3⟩ := List.getElem?_eq_some_iff.1 h
 rw [List.take_succ_eq_append_getElem h2, h3]
 unfold keepTs
 rw [List.flatMap_append]
 simp
theorem keepT_dok21 {e : Pt} (h : dok e.dg) (B : List Int) : dok (keepT e B).1.dg := by
 unfold keepT
 split
 ·exact h
 ·split
  ·exact dz32_ok
  ·exact dz32_ok
theorem gwTn_open {W : World} {B : Nat} {v : Value} {o : List Tx} (h : Gw encTn W B v o) : ∃ q d, v = .slice q o.length d ∧ o.length ≤ d ∧ d ≤ maxLen ∧ (q = none → d = 0) ∧ ∀ b off, q = some ⟨b, off, none⟩ → B ≤ b := by
 obtain ⟨_, h2⟩ := h
 rcases h2 with ⟨h4, h0⟩ | ⟨g, cap, cur, h4, hB, _, hn, hm, _⟩
 ·exact ⟨none, 0, by rw [h4, h0], by omega, by unfold maxLen; decide, fun _ => rfl, (fun b off e => by cases e)⟩
 ·refine ⟨_, cap, h4, hn, hm, (fun e => by cases e), fun b off e => ?_⟩
  simp only [Option.some.injEq, Addr.mk.injEq] at e
  omega
def KepTQ (w : World) (L : List Tx) (B : List Int) (e : Ending) (w' : World) : Prop := ∃ v o, e = .returned v ∧ ptL o = keepTs (ptL L) B ∧ Gw encTn w' w.heap.size v o ∧ (∀ x ∈ o, dok x.e.dg ∧ Gw encI w' w.heap.size x.s x.e.ins) ∧ Below w.heap.size w w'
set_option maxRecDepth 100000 in
set_option maxHeartbeats 2000000 in
theorem rkeep21_any (p : Option Addr) (n c : Nat) (L : List Tx) (p2 : Option Addr) (m2 c2 : Nat) (B : List Int) (w : World) (h : Gs encTn w p n L) (hi : ∀ x ∈ L, Is w x.s x.e.ins) (hk : ∀ x ∈ L, dok x.e.dg) (hb : ∀ x ∈ L, x.e.ins.length ≤ 2097152) (hs2 : Gs encI w p2 m2 B) (hm2 : m2 ≤ 2097152) (hn : n ≤ 2097152) :
 Calls Tryz.prog 52 #[.slice p n c, .slice p2 m2 c2] w fun e w' => KepTQ w L B e w' := by
 have H := Lib.hid h
 have HK := Lib.hid hk
 have HLL : Hid ((ptL L).length = n) := Lib.hid (by rw [ptL_length, h.len])
 have HKC := Lib.hid fun (x : Tx) (hx : x ∈ L) W (hW : Below w.heap.size w W) => rkeept19_any x.e x.s p2 m2 c2 B W ((hi x hx).later hW) (hs2.later hW) (hk x hx) (hb x hx) hm2
 clear h hk hi hb hs2
 go_enter Tryz.func52, Tryz.ntmps52
 go_wp2
 go_loopw [5, 6] (fun v j wr => ∃ (k : Nat) (q : Option Addr) (m d : Nat) (o : List Tx), k ≤ n ∧ j = .int .i64 (k : Int) ∧ v = .slice q m d ∧ Hid (ptL o = keepTs ((ptL L).take k) B) ∧ Hid (Gw encTn wr w.heap.size (.slice q m d) o) ∧ Hid (∀ x ∈ o, dok x.e.dg ∧ Gw encI wr w.heap.size x.s x.e.ins) ∧ Hid (Below w.heap.size w wr)) (fun _ j _ => n - (intOf j).toNat)
 case atStart => exact ⟨0, none, 0, 0, [], by omega, rfl, rfl, Lib.hid rfl, Lib.hid (Gw.nil _ _ _), Lib.hid (fun x hx => by cases hx), Lib.hid (Below.refl _ _)⟩
 case round =>
  obtain ⟨k, q, m, d, o, hkn, rfl, rfl, HE, HO, HM, HB⟩ := hrel
  by_cases hlt : k < n
  ·obtain ⟨b1, off, y, rfl, hy1, hy3, hr⟩ := (H.out.later HB.out).tn k hlt
   have HC := Lib.hid (HKC.out y hy3 wr HB.out)
   have HLY := Lib.hid (tn_load hr)
   have HT := Lib.hid (keepTs_take (ptL_get hy1) B)
   have HYD := Lib.hid (keepT_dok21 (HK.out y hy3) B)
   have HOL : Hid (o.length + 1 ≤ 2097216) := Lib.hid (by
    have h1 := keepTs_length ((ptL L).take k) B
    rw [← HE.out, ptL_length, List.length_take, HLL.out] at h1
    omega)
   have hki : (k : Int) < (n : Int) := by omega
   have hk0 : (0 : Int) ≤ (k : Int) := by omega
   obtain ⟨R, hR⟩ : ∃ R, keepT y.e B = R := ⟨_, rfl⟩
   rw [hR] at HC HT HYD
   obtain ⟨R, ok⟩ := R
   dsimp only at HC HT HYD
   unfold tnV at HC
   generalize tnC y.e y.s = MY at *
   clear hr hy1 hy3 hR
   go_upto_region 6 with (first
    | (refine wpList_ld rfl 64 _ rfl _ rfl _ HLY.out ?_)
    | (go_at_call 90; refine HC.out.mono ?_; rintro e w2 ⟨u2, rfl, hg2, hb2⟩; have HG2 := Lib.hid hg2; have HB2 := Lib.hid hb2; obtain ⟨q2, d2, hv2, _⟩ := hg2.open; subst hv2; clear hg2 hb2)
    | (refine wpList_store_row rfl 64 _ _ rfl w2.heap.size (tnC R _) rfl rfl 64 _ (heap_alloc_new _ _) (tnC_sizeOf R _ HYD.out.1) ((tnC_size zeroT _ rfl).trans (tnC_size R _ HYD.out.1).symm) (tnC_one _ _ _ _) ?_; generalize hv3 : World.setRow _ _ _ = w3))
   obtain ⟨he3, hb3⟩ := tnC_lay rfl hv3
   obtain ⟨g3, hg3⟩ : ∃ g, w2.heap.size = g := ⟨_, rfl⟩
   rw [hg3] at he3
   rw [hg3]
   obtain ⟨X, hX⟩ : ∃ X : Tx, X = ⟨R, q2, d2, HYD.out.1⟩ := ⟨_, rfl⟩
   have HXG : Hid (Gw encI w3 w.heap.size X.s X.e.ins) := Lib.hid (by rw [hX]; exact (HG2.out.later hb3).mono HB.out.size)
   have HXE : Hid (X.e = R) := Lib.hid (by rw [hX])
   have HXC : Hid (tnC R (.slice q2 R.ins.length d2) = tnC X.e X.s) := Lib.hid (by rw [hX]; rfl)
   have HO3 := Lib.hid (HO.out.later (below_step HB2.out hb3))
   have HM3 : Hid (∀ x ∈ o, dok x.e.dg ∧ Gw encI w3 w.heap.size x.s x.e.ins) := Lib.hid fun x hx => ⟨(HM.out x hx).1, (HM.out x hx).2.later (below_step HB2.out hb3)⟩
   have HB3 := Lib.hid (below_step HB.out (below_step HB2.out hb3))
   have HLV := Lib.hid (he3.load HYD.out.1)
   rw [HXC.out] at HLV
   clear he3 hb3 hv3 hg3 hX
   cases ok with
   | true =>
     have HE2 : Hid (ptL (o ++ [X]) = keepTs ((ptL L).take (k + 1)) B) := Lib.hid (by rw [HT.out, if_pos rfl, ptL_append, HE.out, ← HXE.out]; rfl)
     go_wp2_with (first
      | (refine wpList_ld rfl 64 _ rfl _ rfl _ HLV.out ?_)
      | (refine wpList_build_tn rfl 24 26 rfl Tryz.underlying24 X rfl ?_)
      | (refine wpList_append_gen encTn rfl _ _ 24 rfl Tryz.underlying24 tzero 104 infoTn tzero_size (by decide) w.heap.size _ o rfl (HO3.out.alloc _) _ 1 1 [X] rfl (Gs.oneTn _ X) (fun h => by cases h) HOL.out (by have h1 := HB3.out.size; rw [World.size_alloc]; omega) ?_; intro v8 w8 ho8 hg8; obtain ⟨p8, c8, hv8, _⟩ := ho8.open; obtain ⟨m8, hm8⟩ : ∃ x, (o ++ [X]).length = x := ⟨_, rfl⟩; rw [hm8] at hv8; subst hv8; have HO8 := Lib.hid ho8; have HB8 := Lib.hid (below_appT (HB3.out.alloc HB3.out.size (.cells (tnC X.e X.s) 64)) (HO3.out.alloc _) (Nat.le_refl _) hg8); have HM8 : Hid (∀ x ∈ o ++ [X], dok x.e.dg ∧ Gw encI w8 w.heap.size x.s x.e.ins) := (Lib.hid (fun x hx => (List.mem_append.1 hx).elim (fun h => ⟨(HM3.out x h).1, ((HM3.out x h).2.alloc _).besideTn (HO3.out.alloc _) hg8⟩) (fun h => (List.mem_singleton.1 h) ▸ ⟨(by rw [HXE.out]; exact HYD.out), (HXG.out.alloc _).besideTn (HO3.out.alloc _) hg8⟩))); clear ho8 hg8 hm8))
     exact ⟨⟨k + 1, p8, m8, c8, o ++ [X], by omega, by go_num, rfl, HE2, HO8, HM8, HB8⟩, by simp [intOf] <;> omega⟩
   | false =>
     have HE2 : Hid (ptL o = keepTs ((ptL L).take (k + 1)) B) := Lib.hid (by rw [HT.out, HE.out]; simp)
     go_wp2
     exact ⟨⟨k + 1, q, m, d, o, by omega, by go_num, rfl, HE2, HO3, HM3, HB3⟩, by simp [intOf] <;> omega⟩
  ·obtain rfl : k = n := by omega
   have HF : Hid (ptL o = keepTs (ptL L) B) := Lib.hid (by have h1 := HE.out; rwa [List.take_of_length_le (by rw [HLL.out]; exact Nat.le_refl _)] at h1)
   go_wp2
   go_ret
   exact ⟨_, o, rfl, HF.out, HO.out, HM.out, HB.out⟩
/-- what Apply answers: the same row, or one of its own -/
def AppTQ (w : World) (p : Option Addr) (n c : Nat) (L : List Tx) (x : Wq) (e : Ending) (w' : World) : Prop :=
 ∃ q m d o, e = .returned (.slice q m d) ∧ ptL o = applyT (ptL L) x ∧ Gs encTn w' q m o ∧ ((q = p ∧ m = n) ∨ ∀ b off, q = some ⟨b, off, none⟩ → w.heap.size ≤ b) ∧ (∀ y ∈ o, y ∈ L ∨ dok y.e.dg ∧ Gw encI w' w.heap.size y.s y.e.ins) ∧ (q = none → d = 0 ∨ q = p ∧ d = c) ∧ Below w.heap.size w w'
set_option maxRecDepth 100000 in
set_option maxHeartbeats 2000000 in
theorem rapply21_any (p : Option Addr) (n c : Nat) (L : List Tx) (x : Wq) (w : World) (h : Gs encTn w p n L) (hi : ∀ y ∈ L, Is w y.s y.e.ins) (hk : ∀ y ∈ L, dok y.e.dg) (hb : ∀ y ∈ L, y.e.ins.length ≤ 2097151) (hx : dok x.dg) (hn : n ≤ 2097152) :
 Calls Tryz.prog 48 #[.slice p n c, x.v] w fun e w' => AppTQ w p n c L x e w' := by
 obtain ⟨wB, hwB⟩ : ∃ W, w.alloc (.cells (mixC x.a x.dg x.t) 39) = W := ⟨_, rfl⟩
 have hbB : Below w.heap.size w wB := by rw [← hwB]; exact (Below.refl _ _).alloc (Nat.le_refl _) _
 have hmW : Wm wB w.heap.size x := by rw [← hwB]; exact heap_alloc_new _ _
 have HB := Lib.hid hbB
 have HLW := Lib.hid fun W (hW : Below wB.heap.size wB W) => (hmW.later hW).load hx.1
 have HCW := Lib.hid fun W (hW : Below wB.heap.size wB W) => (hmW.later hW).cells5 hx.1
 have H := Lib.hid fun W (hW : Below wB.heap.size wB W) => (h.later hbB).later hW
 have HI := Lib.hid fun W (hW : Below wB.heap.size wB W) y (hy : y ∈ L) => ((hi y hy).later hbB).later hW
 have HK := Lib.hid hk
 have HBD := Lib.hid hb
 have HXD := Lib.hid hx
 have HG := Lib.hid (rget21_any p n c L x.nm wB (h.later hbB) hn)
 have HA : Hid (applyT (ptL L) x = _) := Lib.hid (by unfold applyT; rfl)
 have HDR : Hid (dok (getTR (ptL L) x.nm).1.dg) := Lib.hid (by
  unfold getTR
  cases hge : getT (ptL L) x.nm with
  | none => exact dz32_ok
  | some z =>
    obtain ⟨y, hy, e⟩ := List.mem_map.1 (getT_mem hge).1
    show dok z.dg
    rw [← e]
    exact hk y hy)
 have HIR : Hid ((getTR (ptL L) x.nm).1.ins.length ≤ 2097151) := Lib.hid (getTR_ins (k := 2097151) (fun z hz => by
  obtain ⟨y, hy, e⟩ := List.mem_map.1 hz
  rw [← e]
  exact hb y hy) x.nm)
 obtain ⟨R, hR⟩ : ∃ R, getTR (ptL L) x.nm = R := ⟨_, rfl⟩
 rw [hR] at HG HA HDR HIR
 obtain ⟨R, ok⟩ := R
 dsimp only at HA HDR HIR
 unfold Wq.v
 generalize hMX : mixC x.a x.dg x.t = MX at *
 have HMX := Lib.hid hMX
 clear h hi hk hb hx hbB hmW hR hMX
 obtain ⟨_, xn, _, _⟩ := HCW.out wB (Below.refl _ _)
 go_enter Tryz.func48, Tryz.ntmps48
 go_upto_region 2 with (first
  | (go_at_call 26; refine HG.out.mono ?_; rintro e w2 ⟨u2, rfl, ho2, hb2⟩; have HO2 := Lib.hid ho2; have u2is : ∃ (q : Option Addr) (n d : Nat), u2 = .slice q n d := ho2.elim (fun ⟨y, _, _, h⟩ => ⟨_, _, _, h⟩) (fun h => ⟨_, _, _, h.1⟩); obtain ⟨uq, un, ud, hu2⟩ := u2is; subst hu2; have HB2 := Lib.hid hb2; clear ho2 hb2)
  | (refine wpList_store_row rfl 64 _ _ rfl w2.heap.size (tnC R (.slice uq un ud)) rfl rfl 64 _ (heap_alloc_new _ _) (tnC_sizeOf R _ HDR.out.1) ((tnC_size zeroT _ rfl).trans (tnC_size R _ HDR.out.1).symm) (tnC_one _ _ _ _) ?_; generalize hv3 : World.setRow _ _ _ = w3))
 obtain ⟨he3, hb3⟩ := tnC_lay rfl hv3
 obtain ⟨g3, hg3⟩ : ∃ g, w2.heap.size = g := ⟨_, rfl⟩
 rw [hg3] at he3
 rw [hg3]
 have HI2 : Hid (Is w3 (.slice uq un ud) R.ins) := Lib.hid (by
  rcases HO2.out with ⟨y, hy, h1, h2⟩ | ⟨h1, h2⟩
  ·have h3 := HI.out w3 (below_step HB2.out hb3) y hy
   rw [h1, ← h2] at h3
   exact h3
  ·have h3 := Is.nil w3
   have h4 : R = zeroT := h2
   rw [h1, h4]
   exact h3)
 have HB3 := Lib.hid (below_step HB2.out hb3)
 have HLV := Lib.hid fun W (hW : Below w3.heap.size w3 W) => (he3.later hW).load HDR.out.1
 have HLX := Lib.hid (HLW.out w3 HB3.out)
 obtain ⟨x0, _, _, _⟩ := HCW.out w3 HB3.out
 have HPU := Lib.hid (rtag19_any R (.slice uq un ud) x w3 HI2.out HDR.out HXD.out (by have := HIR.out; omega))
 have HDE := Lib.hid (runt19_any R (.slice uq un ud) x w3 HI2.out HDR.out HXD.out (by have := HIR.out; omega))
 have HST := Lib.hid fun (X : Tx) W (hW : Below w3.heap.size w3 W) (hX : dok X.e.dg) => rset21_any p n c L X W (H.out W (below_step HB3.out hW)) hn
 have HLV3 := Lib.hid (HLV.out w3 (Below.refl _ _))
 unfold tnV Wq.v at HPU HDE
 rw [HMX.out] at HPU HDE
 generalize tnC R (.slice uq un ud) = MR at *
 clear he3 hb3 hv3 hg3 xn
 by_cases h3 : x.k = 3
 ·have HAP : Hid (applyT (ptL L) x = setT (ptL L) (tagT R x)) := Lib.hid (by rw [HA.out, if_pos h3])
  have ht1 : (x.k == 3) = true := by simpa using h3
  clear h3
  go_wp2_with (first
   | (refine wpList_ld rfl 64 _ rfl _ rfl _ HLV3.out ?_)
   | (refine wpList_ld rfl 39 _ rfl _ rfl _ HLX.out ?_)
   | (go_at_call 83; refine HPU.out.mono ?_; rintro e w4 ⟨u4, rfl, hg4, hb4⟩; obtain ⟨X, hX1, hX2, _⟩ := hg4.is.tx (e := tagT R x) (HXD.out).1; have HG4 := Lib.hid hg4; have HB4 := Lib.hid hb4; have HX1 := Lib.hid hX1; have HX2 := Lib.hid hX2; have HSC := (Lib.hid (HST.out X w4 hb4 (by rw [hX1]; exact HXD.out))); rw [show tnV X.e X.s = tnV (tagT R x) u4 by rw [hX1, hX2]] at HSC; unfold tnV at HSC; clear hg4 hb4 hX1 hX2)
   | (go_at_call 76; refine HSC.out.mono ?_; rintro e w5 ⟨v5, o5, rfl, he5, ho5, hm5, hb5⟩; have HO5 := Lib.hid ho5; have HE5 := Lib.hid he5; have HM5 := Lib.hid hm5; have HB5 := Lib.hid hb5; clear he5 ho5 hm5 hb5))
  go_ret
  have hB05 : Below w.heap.size w w4 := below_step HB.out (below_step HB3.out HB4.out)
  obtain ⟨q5, d5, hv5, _, _, hp5, hbl5⟩ := gwTn_open HO5.out
  subst hv5
  exact ⟨q5, o5.length, d5, o5, rfl, by rw [HE5.out, HX1.out, HAP.out], HO5.out.gs, Or.inr (fun b off e => Nat.le_trans hB05.size (hbl5 b off e)), fun y hy => (HM5.out y hy).elim Or.inl (fun h => Or.inr (by rw [h, HX1.out, HX2.out]; exact ⟨HXD.out, (HG4.out.later HB5.out).mono (Nat.le_trans HB.out.size (below_step HB3.out (Below.refl _ _)).size)⟩)), fun h => Or.inl (hp5 h), below_step hB05 HB5.out⟩
 ·have ht1 : (x.k == 3) = false := by simpa using h3
  rw [if_neg h3] at HA
  clear h3
  have hend : ¬ (x.k = 4 ∧ ok = true) → Hid (AppTQ w p n c L x (.returned (.slice p n c)) w3) := fun hno => Lib.hid ⟨p, n, c, L, rfl, by rw [HA.out, if_neg hno], H.out w3 HB3.out, Or.inl ⟨rfl, rfl⟩, fun y hy => Or.inl hy, fun _ => Or.inr ⟨rfl, rfl⟩, below_step HB.out HB3.out⟩
  by_cases h5 : x.k = 4
  ·have ht5 : (x.k == 4) = true := by simpa using h5
   cases ok with
   | true =>
     have HAP : Hid (applyT (ptL L) x = setT (ptL L) (untT R x)) := Lib.hid (by rw [HA.out, if_pos ⟨h5, rfl⟩])
     clear h5 hend
     go_wp2_with (first
      | (refine wpList_ld rfl 64 _ rfl _ rfl _ HLV3.out ?_)
      | (refine wpList_ld rfl 39 _ rfl _ rfl _ HLX.out ?_)
      | (go_at_call 84; refine HDE.out.mono ?_; rintro e w4 ⟨u4, rfl, hg4, hb4⟩; obtain ⟨X, hX1, hX2, _⟩ := hg4.is.tx (e := untT R x) (dz32_ok).1; have HG4 := Lib.hid hg4; have HB4 := Lib.hid hb4; have HX1 := Lib.hid hX1; have HX2 := Lib.hid hX2; have HSC := (Lib.hid (HST.out X w4 hb4 (by rw [hX1]; exact dz32_ok))); rw [show tnV X.e X.s = tnV (untT R x) u4 by rw [hX1, hX2]] at HSC; unfold tnV at HSC; clear hg4 hb4 hX1 hX2)
      | (go_at_call 76; refine HSC.out.mono ?_; rintro e w5 ⟨v5, o5, rfl, he5, ho5, hm5, hb5⟩; have HO5 := Lib.hid ho5; have HE5 := Lib.hid he5; have HM5 := Lib.hid hm5; have HB5 := Lib.hid hb5; clear he5 ho5 hm5 hb5))
     go_ret
     have hB05 : Below w.heap.size w w4 := below_step HB.out (below_step HB3.out HB4.out)
     obtain ⟨q5, d5, hv5, _, _, hp5, hbl5⟩ := gwTn_open HO5.out
     subst hv5
     exact ⟨q5, o5.length, d5, o5, rfl, by rw [HE5.out, HX1.out, HAP.out], HO5.out.gs, Or.inr (fun b off e => Nat.le_trans hB05.size (hbl5 b off e)), fun y hy => (HM5.out y hy).elim Or.inl (fun h => Or.inr (by rw [h, HX1.out, HX2.out]; exact ⟨dz32_ok, (HG4.out.later HB5.out).mono (Nat.le_trans HB.out.size (below_step HB3.out (Below.refl _ _)).size)⟩)), fun h => Or.inl (hp5 h), below_step hB05 HB5.out⟩
   | false =>
     have HEND := hend (fun h => by cases h.2)
     clear h5 hend
     go_wp2
     go_ret
     exact HEND.out
  ·have ht5 : (x.k == 4) = false := by simpa using h5
   have HEND := hend (fun h => h5 h.1)
   clear h5 hend
   go_wp2
   go_ret
   exact HEND.out
section
variable (Ix : World → (Nat → Prop) → (Nat → Prop) → Value → List Pe → Prop)
/-- an index that is made -/
def NewIQ (w : World) (N : Nat → Prop) (L : List Pe) (e : Ending) (w' : World) : Prop := ∃ v S F, e = .returned v ∧ Ix w' S F v (newE L) ∧ (∀ b, S b → w.heap.size ≤ b) ∧ (∀ b, F b → N b ∨ w.heap.size ≤ b) ∧ Below w.heap.size w w'
/-- an index that is turned -/
def OpQ (w : World) (S F : Nat → Prop) (v : Value) (L : List Pe) (e : Ending) (w' : World) : Prop := ∃ S' F', e = .returned (.tuple #[]) ∧ Ix w' S' F' v L ∧ Chg S w w' ∧ (∀ b, S' b → S b ∨ w.heap.size ≤ b) ∧ (∀ b, F' b → F b ∨ w.heap.size ≤ b)
end
def RowIQ (w : World) (F : Nat → Prop) (L : List Pe) (e : Ending) (w' : World) : Prop := ∃ p n c Ls N, e = .returned (.slice p n c) ∧ peL Ls = L ∧ ReN w' N p n Ls ∧ (∀ b, N b → F b ∨ w.heap.size ≤ b) ∧ (p = none → c = 0) ∧ n ≤ c ∧ c ≤ maxLen ∧ Below w.heap.size w w'
/-- Ix w S F v L: in w, v is an index that holds L; its own blocks are those of S, what it reads besides lies in those of F -/
structure IdxOk (Ix : World → (Nat → Prop) → (Nat → Prop) → Value → List Pe → Prop) : Prop where
 keep : ∀ {w w' : World} {S F : Nat → Prop} {v : Value} {L : List Pe}, Ix w S F v L → (∀ b, S b ∨ F b → w'.heap[b]? = w.heap[b]?) → w.heap.size ≤ w'.heap.size → Ix w' S F v L
 lt : ∀ {w : World} {S F : Nat → Prop} {v : Value} {L : List Pe}, Ix w S F v L → ∀ b, S b ∨ F b → b < w.heap.size
 dis : ∀ {w : World} {S F : Nat → Prop} {v : Value} {L : List Pe}, Ix w S F v L → ∀ b, S b → ¬ F b
 ok : ∀ {w : World} {S F : Nat → Prop} {v : Value} {L : List Pe}, Ix w S F v L → rowE L ∧ ∀ x ∈ L, dok x.dg
 new : ∀ {w : World} {N : Nat → Prop} {p : Option Addr} {n c : Nat} {Ls : List Ex}, ReN w N p n Ls → (p = none → c = 0) → n ≤ c → c ≤ maxLen → n ≤ 1048576 → insLe (peL Ls) 2097151 → Calls Tryz.prog 40 #[.slice p n c] w fun e w' => NewIQ Ix w N (peL Ls) e w'
 apply : ∀ {w : World} {S F : Nat → Prop} {v : Value} {L : List Pe} (x : Wq), Ix w S F v L → dok x.dg → L.length ≤ 1048576 → insLe L 2097151 → Calls Tryz.prog 45 #[v, x.v] w fun e w' => OpQ Ix w S F v (applyE L x) e w'
 keepS : ∀ {w : World} {S F : Nat → Prop} {v u : Value} {L : List Pe} {B : List Int}, Ix w S F v L → Is w u B → (B ≠ [] → ∀ b, u.ownBlock = some b → ¬ S b) → B.length ≤ 2097152 → L.length ≤ 1048576 → insLe L 2097151 → Calls Tryz.prog 49 #[v, u] w fun e w' => OpQ Ix w S F v (keepR L B) e w'
 row : ∀ {w : World} {S F : Nat → Prop} {v : Value} {L : List Pe}, Ix w S F v L → L.length ≤ 1048576 → Calls Tryz.prog 54 #[v] w fun e w' => RowIQ w F L e w'
theorem IdxOk.later {Ix : World → (Nat → Prop) → (Nat → Prop) → Value → List Pe → Prop} (hT : IdxOk Ix) {w w' : World} {S F : Nat → Prop} {v : Value} {L : List Pe} (h : Ix w S F v L) (hb : Below w.heap.size w w') : Ix w' S F v L :=
 hT.keep h (fun b hb2 => hb.block b (hT.lt h b hb2)) hb.size
theorem ReN.none (w : World) : ReN w (fun _ => False) none 0 [] := ⟨Gs.empty _ _ _, fun h => absurd rfl h, (fun x h => by cases h), (fun x h => by cases h), (fun x h => by cases h), fun b h => h.elim⟩
theorem wd_lay {w W : World} {x : Wq} {b : Nat} (hb : w.heap.size = b) (h : (w.alloc (.cells (mixC wq0.a wq0.dg wq0.t) 39)).setRow b (mixC x.a x.dg x.t) = W) : Wm W b x ∧ Below w.heap.size w W := by
 subst hb
 rw [← h]
 exact ⟨Mx.row (show Wm (w.alloc (.cells (mixC wq0.a wq0.dg wq0.t) 39)) w.heap.size wq0 from heap_alloc_new _ _), below_setRow8 ((Below.refl _ _).alloc (Nat.le_refl _) _) _ _ (Nat.le_refl _)⟩
end Go.Proofs.YtpfbfhigelbfcaaGreat

