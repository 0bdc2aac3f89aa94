/- Layer 19, the reference: Keep, KeepTag, Same, SameTag. (gen_entc.py); Layer 19, the reference: KeepTag, SameTag. (gen_entc.py); Layer 19: what the laws want of package entry; Layer 19, the laws: lives, under what is said of package entry; Layer 19, the law: EntryBehind, under what is said of package entry. (gen_entm.py); Layer 19, the law: EntryKeeps, under what is said of package entry. (gen_entn -/
import Derived.Test.YthibllnpjjoehaaEn3
import Derived.Test.YthibllnpjjoehaaEn6
import Derived.Test.YthibllnpjjoehaaEn10
import Derived.Test.YthibllnpjjoehaaEn11
import Derived.Test.YthibllnpjjoehaaEn12
import Derived.Test.YthibllnpjjoehaaEn13
set_option linter.unusedSimpArgs false
set_option linter.unusedVariables false
namespace Go.Proofs.Ythibllnpjjoehaa
set_option linter.unusedVariables false
open Go.RowKit Go.Lib

/-- a row of the call's own that lies from block B on outlives whatever turns blocks below B -/
theorem Gw.iskeep {W W' : World} {B : Nat} {v : Value} {L : List Int} (h : Gw encI W B v L) (hk : ∀ b, B ≤ b → W'.heap[b]? = W.heap[b]?) : Gw encI W' B v L := by
  obtain ⟨hl, h2⟩ := h
  refine ⟨hl, ?_⟩
  rcases h2 with h2 | ⟨b, cap, cur, hv, hb, hgb, r⟩
  · exact Or.inl h2
  · exact Or.inr ⟨b, cap, cur, hv, hb, by rw [hk b hb]; exact hgb, r⟩
structure Bx2 (w w2 : World) (ca cz : Array Value) (ta tz : TypeId) (g1 : Nat) : Prop where
  a : w2.heap[w.heap.size]? = some (.cells ca ta (0, 0))
  z : w2.heap[g1]? = some (.cells cz tz (0, 0))
  le : Below w.heap.size w w2
  lt : w.heap.size < g1 ∧ g1 < w2.heap.size
theorem box2 (w : World) (ca cz : Array Value) (ta tz : TypeId) : ∃ w0 w2 g1, w.alloc (.cells ca ta) = w0 ∧ w0.alloc (.cells cz tz) = w2 ∧ w0.heap.size = g1 ∧ Bx2 w w2 ca cz ta tz g1 := by
  refine ⟨_, _, _, rfl, rfl, rfl, ?_⟩
  have b0 : Below w.heap.size w (w.alloc (.cells ca ta)) := (Below.refl _ _).alloc (Nat.le_refl _) _
  have b1 : Below (w.alloc (.cells ca ta)).heap.size (w.alloc (.cells ca ta)) ((w.alloc (.cells ca ta)).alloc (.cells cz tz)) := (Below.refl _ _).alloc (Nat.le_refl _) _
  have h0 := heap_alloc_new w (.cells ca ta)
  exact ⟨obj_later h0 b1, heap_alloc_new _ _, below_step b0 b1, by simp⟩
theorem built_en0 : Try.prog.built 28 [] = some (enC zeroE (.slice none 0 0)) := by kernel_rfl
def KeQ (w : World) (s : Value) (r : Pe × Bool) (e : Ending) (w' : World) : Prop := ∃ u, e = .returned (.tuple #[enV r.1 u, .bool r.2]) ∧ Is w' u r.1.ins ∧ Fr w s u ∧ Below w.heap.size w w'
def KeG (w : World) (r : Pe × Bool) (e : Ending) (w' : World) : Prop := ∃ u, e = .returned (.tuple #[enV r.1 u, .bool r.2]) ∧ Gw encI w' w.heap.size u r.1.ins ∧ Below w.heap.size w w'
theorem KeG.q {w w' : World} {x : Pe × Bool} {e : Ending} (h : KeG w x e w') (s : Value) : KeQ w s x e w' := by
  obtain ⟨u, h1, h2, h3⟩ := h
  exact ⟨u, h1, h2.is, h2.fr (Nat.le_refl _), h3⟩
theorem len_nil {L : List Int} : L = [] ↔ ¬ (0 : Int) < (L.length : Int) := by
  cases L <;> simp <;> omega
set_option maxRecDepth 100000 in
set_option maxHeartbeats 1000000 in
theorem rkeep19_any (e : Pe) (s : Value) (p2 : Option Addr) (m2 c2 : Nat) (B : List Int) (w : World) (h : Is w s e.ins) (hs2 : Gs encI w p2 m2 B) (hd : dok e.dg) (hn : e.ins.length ≤ 2097152) (hm2 : m2 ≤ 2097152) :
    Calls Try.prog 18 #[enV e s, .slice p2 m2 c2] w fun r w' => KeG w (keepE e B) r w' := by
  obtain ⟨w0, w2, g1, h0, h2, hg1, hB⟩ := box2 w (enC e s) (enC zeroE (.slice none 0 0)) 28 28
  have HE : Hid (Em w2 w.heap.size e s) := Lib.hid hB.a
  have HZ : Hid (Em w2 g1 zeroE (.slice none 0 0)) := Lib.hid hB.z
  have HB := Lib.hid hB.le
  have HLT := Lib.hid hB.lt
  obtain ⟨p, c, rfl, hs, _⟩ := h.later hB.le
  have HBO := Lib.hid (rboth19_any p e.ins.length c e.ins p2 m2 c2 B w2 hs (hs2.later hB.le) hn hm2)
  have HIN := Lib.hid fun W (hW : Below w2.heap.size w2 W) => rin19_any p2 m2 c2 B e.seg W ((hs2.later hB.le).later hW) hm2
  have HD := Lib.hid hd
  have HBL := Lib.hid (bothI_length e.ins B)
  obtain ⟨e0, e1, e2, cs⟩ := HE.out.cells hd.1
  obtain ⟨m, hm⟩ : ∃ m, e.ins.length = m := ⟨_, rfl⟩
  rw [hm] at HBO cs HBL
  have HR : Hid (keepE e B = _) := Lib.hid (by unfold keepE; rfl)
  obtain ⟨Y, hY⟩ : ∃ Y, bothI e.ins B = Y := ⟨_, rfl⟩
  rw [hY] at HBO HR HBL
  have HYY := Lib.hid hY
  have hnil := len_nil (L := Y)
  have HNIL := Lib.hid hnil
  have hmm : m ≤ 2097152 := by omega
  rw [enZero] at h2
  unfold enV
  generalize hMC : enC e (Value.slice p e.ins.length c) = MC at *
  rw [hm] at hMC
  clear hMC hs hs2 h hd hB hm hY hnil hn
  go_enter Try.func18, Try.ntmps18
  go_upto_region 2 with (go_at_call 31; refine HBO.out.mono ?_; rintro r w3 ⟨v, rfl, ho3, hb3⟩)
  have HO3 := Lib.hid ho3
  have HB3 := Lib.hid hb3
  obtain ⟨q, d, hv, _⟩ := ho3.open
  obtain ⟨n, hnn⟩ : ∃ n, Y.length = n := ⟨_, rfl⟩
  rw [hnn] at hv HNIL HBL
  subst hv
  have HE3 := Lib.hid (HE.out.later hb3)
  have HZ3 := Lib.hid (HZ.out.later hb3)
  have hnl : n ≤ 2097152 := by have := HBL.out; omega
  have HIN3 := Lib.hid (HIN.out w3 hb3)
  obtain ⟨f0, f1, f2, fs⟩ := HE3.out.cells HD.out.1
  have hfr := Mx.frozen HE3.out 37
  have HLT3 : Hid (w.heap.size < g1 ∧ g1 < w3.heap.size ∧ w2.heap.size ≤ w3.heap.size ∧ g1 < w2.heap.size) := Lib.hid (by have h1 := HLT.out; have h2 := hb3.size; omega)
  clear ho3 hb3 hnn e0 e1 e2 cs
  by_cases hin : e.seg ∈ B
  · have hdi : decide (e.seg ∈ B) = true := by simpa using hin
    rw [hdi] at HIN3
    have HINB := Lib.hid hin
    clear hin hdi
    by_cases hk : e.k ≠ 5
    · have HK := Lib.hid hk
      have hkt : (e.k != 5) = true := by simpa using hk
      have HRA : Hid (keepE e B = ({ e with ins := Y }, true)) := Lib.hid (by rw [HR.out, if_pos ⟨HINB.out, Or.inl HK.out⟩])
      clear hk
      have HE4 : Hid (Em (w3.setCell ⟨w.heap.size, 37, none⟩ (.slice q n d)) w.heap.size { e with ins := Y } (.slice q n d)) := Lib.hid (Mx.setLast HE3.out HD.out.1 5 (.slice q n d))
      have HZ4 : Hid (Em (w3.setCell ⟨w.heap.size, 37, none⟩ (.slice q n d)) g1 zeroE (.slice none 0 0)) := Lib.hid (Mx.other HZ3.out _ _ (by have := HLT3.out; show g1 ≠ w.heap.size; omega))
      have HK4 : Hid (∀ b, b ≠ w.heap.size → (w3.setCell ⟨w.heap.size, 37, none⟩ (.slice q n d)).heap[b]? = w3.heap[b]?) := Lib.hid fun b hb => heap_setCell_other w3 ⟨w.heap.size, 37, none⟩ b _ hb
      have HB4 : Hid (Below w.heap.size w (w3.setCell ⟨w.heap.size, 37, none⟩ (.slice q n d))) := Lib.hid ((below_step HB.out HB3.out).setCell (Nat.le_refl _) _)
      go_upto_region 4 with (go_at_call 32; refine HIN3.out.mono ?_; rintro r w4 ⟨rfl, rfl⟩)
      generalize World.setCell _ _ _ = w5 at *
      go_wp2_with (first
        | (refine wpList_ld rfl 28 _ rfl _ rfl _ (HE4.out.load HD.out.1) ?_)
        | (refine wpList_store_row rfl 28 _ _ rfl g1 (enC { e with ins := Y } (.slice q n d)) rfl rfl 28 _ HZ4.out (enC_sizeOf { e with ins := Y } _ HD.out.1) ((enC_size _ _ rfl).trans (enC_size { e with ins := Y } _ HD.out.1).symm) (enC_one _ _ _ _) ?_; generalize hw6 : World.setRow _ _ _ = w6))
      have HM6 : Em w6 g1 { e with ins := Y } (.slice q n d) := by rw [← hw6]; exact Mx.row HZ4.out
      refine bodyPost_ret (HM6.res2 HD.out.1 rfl _ rfl) rfl ?_
      refine ⟨_, by rw [HRA.out]; rfl, ?_, by rw [← hw6]; exact below_setRow8 HB4.out _ _ (by have := HLT3.out; omega)⟩
      rw [HRA.out]
      exact Gw.mono (B := w2.heap.size) (HO3.out.iskeep fun b hb => by rw [← hw6, setRow_other _ _ _ _ (by have := HLT3.out; omega)]; exact HK4.out b (by have := HLT3.out; omega)) (by have := HLT3.out; omega)
    · have HK : Hid (¬ e.k ≠ 5) := Lib.hid hk
      have hkt : (e.k != 5) = false := by simpa using hk
      by_cases hy : (0 : Int) < (n : Int)
      · have HRA : Hid (keepE e B = ({ e with ins := Y }, true)) := Lib.hid (by rw [HR.out, if_pos ⟨HINB.out, Or.inr (fun h => by have := HNIL.out.1 h; omega)⟩])
        clear hk
        have HE4 : Hid (Em (w3.setCell ⟨w.heap.size, 37, none⟩ (.slice q n d)) w.heap.size { e with ins := Y } (.slice q n d)) := Lib.hid (Mx.setLast HE3.out HD.out.1 5 (.slice q n d))
        have HZ4 : Hid (Em (w3.setCell ⟨w.heap.size, 37, none⟩ (.slice q n d)) g1 zeroE (.slice none 0 0)) := Lib.hid (Mx.other HZ3.out _ _ (by have := HLT3.out; show g1 ≠ w.heap.size; omega))
        have HK4 : Hid (∀ b, b ≠ w.heap.size → (w3.setCell ⟨w.heap.size, 37, none⟩ (.slice q n d)).heap[b]? = w3.heap[b]?) := Lib.hid fun b hb => heap_setCell_other w3 ⟨w.heap.size, 37, none⟩ b _ hb
        have HB4 : Hid (Below w.heap.size w (w3.setCell ⟨w.heap.size, 37, none⟩ (.slice q n d))) := Lib.hid ((below_step HB.out HB3.out).setCell (Nat.le_refl _) _)
        go_upto_region 4 with (go_at_call 32; refine HIN3.out.mono ?_; rintro r w4 ⟨rfl, rfl⟩)
        generalize World.setCell _ _ _ = w5 at *
        go_wp2_with (first
          | (refine wpList_ld rfl 28 _ rfl _ rfl _ (HE4.out.load HD.out.1) ?_)
          | (refine wpList_store_row rfl 28 _ _ rfl g1 (enC { e with ins := Y } (.slice q n d)) rfl rfl 28 _ HZ4.out (enC_sizeOf { e with ins := Y } _ HD.out.1) ((enC_size _ _ rfl).trans (enC_size { e with ins := Y } _ HD.out.1).symm) (enC_one _ _ _ _) ?_; generalize hw6 : World.setRow _ _ _ = w6))
        have HM6 : Em w6 g1 { e with ins := Y } (.slice q n d) := by rw [← hw6]; exact Mx.row HZ4.out
        refine bodyPost_ret (HM6.res2 HD.out.1 rfl _ rfl) rfl ?_
        refine ⟨_, by rw [HRA.out]; rfl, ?_, by rw [← hw6]; exact below_setRow8 HB4.out _ _ (by have := HLT3.out; omega)⟩
        rw [HRA.out]
        exact Gw.mono (B := w2.heap.size) (HO3.out.iskeep fun b hb => by rw [← hw6, setRow_other _ _ _ _ (by have := HLT3.out; omega)]; exact HK4.out b (by have := HLT3.out; omega)) (by have := HLT3.out; omega)
      · have HY0 : Hid (Y = []) := Lib.hid (HNIL.out.2 (by omega))
        have HRC : Hid (keepE e B = (zeroE, false)) := Lib.hid (by rw [HR.out, if_neg (fun h => h.2.elim HK.out (fun h2 => h2 HY0.out)), if_neg (fun h => h HY0.out)])
        clear hk
        have HBU := Lib.hid built_en0
        go_upto_region 7 with (go_at_call 32; refine HIN3.out.mono ?_; rintro r w4 ⟨rfl, rfl⟩)
        go_wp2_with (first
          | (refine wpList_build_is rfl 28 _ rfl (enC zeroE (.slice none 0 0)) ?_ ?_; focus (first | (simp only [List.map_toArray, List.map_nil]; exact HBU.out) | (simp only [Array.map_empty]; exact HBU.out) | (simp; exact HBU.out)))
          | (refine wpList_store_row rfl 28 _ _ rfl g1 (enC zeroE (.slice none 0 0)) rfl rfl 28 _ HZ3.out (enC_sizeOf zeroE _ rfl) rfl (enC_one _ _ _ _) ?_; generalize hw6 : World.setRow _ _ _ = w6))
        have HM6 : Em w6 g1 zeroE (.slice none 0 0) := by rw [← hw6]; exact Mx.row HZ3.out
        refine bodyPost_ret (HM6.res2 rfl rfl _ rfl) rfl ?_
        refine ⟨_, by rw [HRC.out]; rfl, ?_, by rw [← hw6]; exact below_setRow8 (below_step HB.out HB3.out) _ _ (by have := HLT3.out; omega)⟩
        rw [HRC.out]
        exact Gw.nil _ _ _
  · have hdi : decide (e.seg ∈ B) = false := by simpa using hin
    rw [hdi] at HIN3
    have HINB := Lib.hid hin
    clear hin hdi
    by_cases hy : (0 : Int) < (n : Int)
    · have HRB : Hid (keepE e B = (⟨e.dg, 5, 0, 0, 0, 0, Y⟩, true)) := Lib.hid (by rw [HR.out, if_neg (fun h => HINB.out h.1), if_pos (fun h => by have := HNIL.out.1 h; omega)])
      have HBU := Lib.hid (built_en3 5 Y q n d e.dg HD.out.1)
      have HLD := Lib.hid (HE3.out.dig HD.out.1)
      go_upto_region 6 with (go_at_call 32; refine HIN3.out.mono ?_; rintro r w4 ⟨rfl, rfl⟩)
      go_wp2_with (first
        | (refine wpList_ld rfl 23 _ rfl _ rfl _ HLD.out ?_)
        | (refine wpList_build_is rfl 28 _ rfl (enC ⟨e.dg, 5, 0, 0, 0, 0, Y⟩ (.slice q n d)) ?_ ?_; focus (first | exact HBU.out | (simp only [List.map_toArray, List.map_cons, List.map_nil]; exact HBU.out)))
        | (refine wpList_store_row rfl 28 _ _ rfl g1 (enC ⟨e.dg, 5, 0, 0, 0, 0, Y⟩ (.slice q n d)) rfl rfl 28 _ HZ3.out (enC_sizeOf ⟨e.dg, 5, 0, 0, 0, 0, Y⟩ _ HD.out.1) ((enC_size _ _ rfl).trans (enC_size ⟨e.dg, 5, 0, 0, 0, 0, Y⟩ _ HD.out.1).symm) (enC_one _ _ _ _) ?_; generalize hw6 : World.setRow _ _ _ = w6))
      have HM6 : Em w6 g1 ⟨e.dg, 5, 0, 0, 0, 0, Y⟩ (.slice q n d) := by rw [← hw6]; exact Mx.row HZ3.out
      refine bodyPost_ret (HM6.res2 HD.out.1 rfl _ rfl) rfl ?_
      refine ⟨_, by rw [HRB.out]; rfl, ?_, by rw [← hw6]; exact below_setRow8 (below_step HB.out HB3.out) _ _ (by have := HLT3.out; omega)⟩
      rw [HRB.out]
      exact Gw.mono (B := w2.heap.size) (HO3.out.iskeep fun b hb => by rw [← hw6, setRow_other _ _ _ _ (by have := HLT3.out; omega)]) (by have := HLT3.out; omega)
    · have HY0 : Hid (Y = []) := Lib.hid (HNIL.out.2 (by omega))
      have HRC : Hid (keepE e B = (zeroE, false)) := Lib.hid (by rw [HR.out, if_neg (fun h => HINB.out h.1), if_neg (fun h => h HY0.out)])
      have HBU := Lib.hid built_en0
      go_upto_region 7 with (go_at_call 32; refine HIN3.out.mono ?_; rintro r w4 ⟨rfl, rfl⟩)
      go_wp2_with (first
        | (refine wpList_build_is rfl 28 _ rfl (enC zeroE (.slice none 0 0)) ?_ ?_; focus (first | (simp only [List.map_toArray, List.map_nil]; exact HBU.out) | (simp only [Array.map_empty]; exact HBU.out) | (simp; exact HBU.out)))
        | (refine wpList_store_row rfl 28 _ _ rfl g1 (enC zeroE (.slice none 0 0)) rfl rfl 28 _ HZ3.out (enC_sizeOf zeroE _ rfl) rfl (enC_one _ _ _ _) ?_; generalize hw6 : World.setRow _ _ _ = w6))
      have HM6 : Em w6 g1 zeroE (.slice none 0 0) := by rw [← hw6]; exact Mx.row HZ3.out
      refine bodyPost_ret (HM6.res2 rfl rfl _ rfl) rfl ?_
      refine ⟨_, by rw [HRC.out]; rfl, ?_, by rw [← hw6]; exact below_setRow8 (below_step HB.out HB3.out) _ _ (by have := HLT3.out; omega)⟩
      rw [HRC.out]
      exact Gw.nil _ _ _
theorem loc_eq (x y u : Int) (W : World) : (Op.equalIn 10000 25 (.agg (lcA x y u)) (.agg (lcA x y u))).run Try.prog W = .ok true W := by
  have u3 := Try.underlying3
  have a3 := Try.isAgg3
  have z3 := Try.sizeOf3
  have hS : Try.prog.underlying 25 = some (.struct (Try.prog.fieldsOf 25)) := by kernel_rfl
  have hp : Try.prog.stoodInHeld 25 = false := by kernel_rfl
  unfold lcA
  rw [show (10000 : Nat) = 9999 + 1 from rfl, run_equalIn_agg W 9999 25 _ _ hS hp]
  simp only [Program.fieldsOf, Try.underlying25]
  go_simp
theorem dig_refl (l : List Int) (h : dok l) (W : World) : (Op.equalIn 10000 23 (.agg (bcs l)) (.agg (bcs l))).run Try.prog W = .ok true W := by
  rw [digest_eq l l h h]; simp
set_option maxRecDepth 100000 in
set_option maxHeartbeats 2000000 in
theorem rsame19_any (e : Pe) (s u : Value) (w : World) (h : Is w s e.ins) (h' : Is w u e.ins) (hd : dok e.dg) (hn : e.ins.length ≤ 2097152) :
    Calls Try.prog 6 #[enV e s, enV e u] w fun r w' => r = .returned (.bool true) ∧ Below w.heap.size w w' := by
  obtain ⟨w0, w2, g1, h0, h2, hg1, hB⟩ := box2 w (enC e s) (enC e u) 28 28
  have HE : Hid (Em w2 w.heap.size e s) := Lib.hid hB.a
  have HZ : Hid (Em w2 g1 e u) := Lib.hid hB.z
  have HB := Lib.hid hB.le
  obtain ⟨p, c, rfl, hs, _⟩ := h.later hB.le
  obtain ⟨p2, c2, rfl, hs2, _⟩ := h'.later hB.le
  have HIN := Lib.hid (rints_any p p2 e.ins.length c e.ins.length c2 e.ins w2 hs hs2 (by omega))
  have HD := Lib.hid hd
  obtain ⟨e0, e1, e2, cs⟩ := HE.out.cells hd.1
  obtain ⟨z0, z1, z2, zs⟩ := HZ.out.cells hd.1
  have hde := fun W => dig_refl e.dg hd W
  have hle := fun W => loc_eq e.seg e.off e.len W
  obtain ⟨m, hm⟩ : ∃ m, e.ins.length = m := ⟨_, rfl⟩
  rw [hm] at HIN cs zs
  have HL1 := Lib.hid (HE.out.dig hd.1)
  have HL2 := Lib.hid (HZ.out.dig hd.1)
  have HL3 := Lib.hid (HE.out.loc hd.1)
  have HL4 := Lib.hid (HZ.out.loc hd.1)
  unfold enV
  generalize hMC : enC e (Value.slice p e.ins.length c) = MC at *
  generalize hMZ : enC e (Value.slice p2 e.ins.length c2) = MZ at *
  generalize lcA e.seg e.off e.len = LC at *
  generalize bcs e.dg = DG at *
  rw [hm] at hMC hMZ
  clear hMC hMZ hs hs2 h h' hd hB hm hn
  go_enter Try.func6, Try.ntmps6
  go_wp2_with (first
    | (refine wpList_ld rfl 23 _ rfl _ rfl _ HL1.out ?_)
    | (refine wpList_ld rfl 23 _ rfl _ rfl _ HL2.out ?_)
    | (refine wpList_wanted (by rfl) fun K hK => wp_ld 23 _ rfl _ rfl _ HL1.out (hK _ _ ?_); clear hK K)
    | (refine wpList_wanted (by rfl) fun K hK => wp_ld 23 _ rfl _ rfl _ HL2.out (hK _ _ ?_); clear hK K)
    | (refine wpList_wanted (by rfl) fun K hK => wp_ld 25 _ rfl _ rfl _ HL3.out (hK _ _ ?_); clear hK K)
    | (refine wpList_wanted (by rfl) fun K hK => wp_ld 25 _ rfl _ rfl _ HL4.out (hK _ _ ?_); clear hK K)
    | (go_at_call 24; refine HIN.out.mono ?_; rintro r w3 ⟨rfl, nq, rfl⟩))
  go_ret
  exact ⟨rfl, below_drewN HB.out nq⟩
theorem dz32_ok : dok dz32 := ⟨rfl, fun j => by
  unfold dz32
  by_cases hj : j < 32
  · rw [List.getD_eq_getElem?_getD, List.getElem?_replicate_of_lt hj]; simp
  · rw [List.getD_eq_getElem?_getD, List.getElem?_eq_none (by simp; omega)]; simp⟩
theorem enC_lay {w W : World} {x : Pe} {s : Value} {b : Nat} (hb : w.heap.size = b) (h : (w.alloc (.cells (enC zeroE (.slice none 0 0)) 28)).setRow b (enC x s) = W) : Em W b x s ∧ Below w.heap.size w W := by
  subst hb
  rw [← h]
  exact ⟨Mx.row (show Em (w.alloc (.cells (enC zeroE (.slice none 0 0)) 28)) w.heap.size zeroE (.slice none 0 0) from heap_alloc_new _ _), below_setRow8 ((Below.refl _ _).alloc (Nat.le_refl _) _) _ _ (Nat.le_refl _)⟩
/-- an entry in a block, and its slice -/
structure Ed (W : World) (b : Nat) (x : Pe) (s : Value) : Prop where
  m : Em W b x s
  i : Is W s x.ins
  d : dok x.dg
theorem Ed.later {W V : World} {b : Nat} {x : Pe} {s : Value} (h : Ed W b x s) (hb : Below W.heap.size W V) : Ed V b x s := ⟨h.m.later hb, h.i.later hb, h.d⟩
end Go.Proofs.Ythibllnpjjoehaa

namespace Go.Proofs.Ythibllnpjjoehaa
set_option linter.unusedVariables false
open Go.RowKit Go.Lib

theorem built_tn0 : Try.prog.built 30 [] = some (tnC zeroT (.slice none 0 0)) := by kernel_rfl
def KtQ (w : World) (s : Value) (r : Pt × Bool) (e : Ending) (w' : World) : Prop := ∃ u, e = .returned (.tuple #[tnV r.1 u, .bool r.2]) ∧ Is w' u r.1.ins ∧ Fr w s u ∧ Below w.heap.size w w'
def KtG (w : World) (r : Pt × Bool) (e : Ending) (w' : World) : Prop := ∃ u, e = .returned (.tuple #[tnV r.1 u, .bool r.2]) ∧ Gw encI w' w.heap.size u r.1.ins ∧ Below w.heap.size w w'
theorem KtG.q {w w' : World} {x : Pt × Bool} {e : Ending} (h : KtG w x e w') (s : Value) : KtQ w s x e w' := by
  obtain ⟨u, h1, h2, h3⟩ := h
  exact ⟨u, h1, h2.is, h2.fr (Nat.le_refl _), h3⟩
set_option maxRecDepth 100000 in
set_option maxHeartbeats 1000000 in
theorem rkeept19_any (e : Pt) (s : Value) (p2 : Option Addr) (m2 c2 : Nat) (B : List Int) (w : World) (h : Is w s e.ins) (hs2 : Gs encI w p2 m2 B) (hd : dok e.dg) (hn : e.ins.length ≤ 2097152) (hm2 : m2 ≤ 2097152) :
    Calls Try.prog 20 #[tnV e s, .slice p2 m2 c2] w fun r w' => KtG w (keepT e B) r w' := by
  obtain ⟨w0, w2, g1, h0, h2, hg1, hB⟩ := box2 w (tnC e s) (tnC zeroT (.slice none 0 0)) 30 30
  have HE : Hid (Tn w2 w.heap.size e s) := Lib.hid hB.a
  have HZ : Hid (Tn w2 g1 zeroT (.slice none 0 0)) := Lib.hid hB.z
  have HB := Lib.hid hB.le
  have HLT := Lib.hid hB.lt
  obtain ⟨p, c, rfl, hs, _⟩ := h.later hB.le
  have HBO := Lib.hid (rboth19_any p e.ins.length c e.ins p2 m2 c2 B w2 hs (hs2.later hB.le) hn hm2)
  have HIN := Lib.hid fun W (hW : Below w2.heap.size w2 W) => rin19_any p2 m2 c2 B e.seg W ((hs2.later hB.le).later hW) hm2
  have HD := Lib.hid hd
  have HBL := Lib.hid (bothI_length e.ins B)
  obtain ⟨e0, e1, e2, cs⟩ := HE.out.cells hd.1
  obtain ⟨m, hm⟩ : ∃ m, e.ins.length = m := ⟨_, rfl⟩
  rw [hm] at HBO cs HBL
  have HR : Hid (keepT e B = _) := Lib.hid (by unfold keepT; rfl)
  obtain ⟨Y, hY⟩ : ∃ Y, bothI e.ins B = Y := ⟨_, rfl⟩
  rw [hY] at HBO HR HBL
  have HYY := Lib.hid hY
  have hnil := len_nil (L := Y)
  have HNIL := Lib.hid hnil
  have hmm : m ≤ 2097152 := by omega
  rw [tnZero] at h2
  unfold tnV
  generalize hMC : tnC e (Value.slice p e.ins.length c) = MC at *
  rw [hm] at hMC
  clear hMC hs hs2 h hd hB hm hY hnil hn
  go_enter Try.func20, Try.ntmps20
  go_upto_region 2 with (go_at_call 31; refine HBO.out.mono ?_; rintro r w3 ⟨v, rfl, ho3, hb3⟩)
  have HO3 := Lib.hid ho3
  have HB3 := Lib.hid hb3
  obtain ⟨q, d, hv, _⟩ := ho3.open
  obtain ⟨n, hnn⟩ : ∃ n, Y.length = n := ⟨_, rfl⟩
  rw [hnn] at hv HNIL HBL
  subst hv
  have HE3 := Lib.hid (HE.out.later hb3)
  have HZ3 := Lib.hid (HZ.out.later hb3)
  have hnl : n ≤ 2097152 := by have := HBL.out; omega
  have HIN3 := Lib.hid (HIN.out w3 hb3)
  obtain ⟨f0, f1, f2, fs⟩ := HE3.out.cells HD.out.1
  have hfr := Mx.frozen HE3.out 37
  have HLT3 : Hid (w.heap.size < g1 ∧ g1 < w3.heap.size ∧ w2.heap.size ≤ w3.heap.size ∧ g1 < w2.heap.size) := Lib.hid (by have h1 := HLT.out; have h2 := hb3.size; omega)
  clear ho3 hb3 hnn e0 e1 e2 cs
  by_cases hin : e.seg ∈ B
  · have hdi : decide (e.seg ∈ B) = true := by simpa using hin
    rw [hdi] at HIN3
    have HINB := Lib.hid hin
    clear hin hdi
    by_cases hk : e.gone = false
    · have HK := Lib.hid hk
      rw [hk] at f1
      have HRA : Hid (keepT e B = ({ e with ins := Y }, true)) := Lib.hid (by rw [HR.out, if_pos ⟨HINB.out, Or.inl HK.out⟩])
      clear hk
      have HE4 : Hid (Tn (w3.setCell ⟨w.heap.size, 37, none⟩ (.slice q n d)) w.heap.size { e with ins := Y } (.slice q n d)) := Lib.hid (Mx.setLast HE3.out HD.out.1 4 (.slice q n d))
      have HZ4 : Hid (Tn (w3.setCell ⟨w.heap.size, 37, none⟩ (.slice q n d)) g1 zeroT (.slice none 0 0)) := Lib.hid (Mx.other HZ3.out _ _ (by have := HLT3.out; show g1 ≠ w.heap.size; omega))
      have HK4 : Hid (∀ b, b ≠ w.heap.size → (w3.setCell ⟨w.heap.size, 37, none⟩ (.slice q n d)).heap[b]? = w3.heap[b]?) := Lib.hid fun b hb => heap_setCell_other w3 ⟨w.heap.size, 37, none⟩ b _ hb
      have HB4 : Hid (Below w.heap.size w (w3.setCell ⟨w.heap.size, 37, none⟩ (.slice q n d))) := Lib.hid ((below_step HB.out HB3.out).setCell (Nat.le_refl _) _)
      go_upto_region 4 with (go_at_call 32; refine HIN3.out.mono ?_; rintro r w4 ⟨rfl, rfl⟩)
      generalize World.setCell _ _ _ = w5 at *
      go_wp2_with (first
        | (refine wpList_ld rfl 30 _ rfl _ rfl _ (HE4.out.load HD.out.1) ?_)
        | (refine wpList_store_row rfl 30 _ _ rfl g1 (tnC { e with ins := Y } (.slice q n d)) rfl rfl 30 _ HZ4.out (tnC_sizeOf { e with ins := Y } _ HD.out.1) ((tnC_size _ _ rfl).trans (tnC_size { e with ins := Y } _ HD.out.1).symm) (tnC_one _ _ _ _) ?_; generalize hw6 : World.setRow _ _ _ = w6))
      have HM6 : Tn w6 g1 { e with ins := Y } (.slice q n d) := by rw [← hw6]; exact Mx.row HZ4.out
      refine bodyPost_ret (HM6.res2 HD.out.1 rfl _ rfl) rfl ?_
      refine ⟨_, by rw [HRA.out]; rfl, ?_, by rw [← hw6]; exact below_setRow8 HB4.out _ _ (by have := HLT3.out; omega)⟩
      rw [HRA.out]
      exact Gw.mono (B := w2.heap.size) (HO3.out.iskeep fun b hb => by rw [← hw6, setRow_other _ _ _ _ (by have := HLT3.out; omega)]; exact HK4.out b (by have := HLT3.out; omega)) (by have := HLT3.out; omega)
    · have HK : Hid (¬ e.gone = false) := Lib.hid hk
      have hkt : e.gone = true := by simpa using hk
      rw [hkt] at f1
      by_cases hy : (0 : Int) < (n : Int)
      · have HRA : Hid (keepT e B = ({ e with ins := Y }, true)) := Lib.hid (by rw [HR.out, if_pos ⟨HINB.out, Or.inr (fun h => by have := HNIL.out.1 h; omega)⟩])
        clear hk
        have HE4 : Hid (Tn (w3.setCell ⟨w.heap.size, 37, none⟩ (.slice q n d)) w.heap.size { e with ins := Y } (.slice q n d)) := Lib.hid (Mx.setLast HE3.out HD.out.1 4 (.slice q n d))
        have HZ4 : Hid (Tn (w3.setCell ⟨w.heap.size, 37, none⟩ (.slice q n d)) g1 zeroT (.slice none 0 0)) := Lib.hid (Mx.other HZ3.out _ _ (by have := HLT3.out; show g1 ≠ w.heap.size; omega))
        have HK4 : Hid (∀ b, b ≠ w.heap.size → (w3.setCell ⟨w.heap.size, 37, none⟩ (.slice q n d)).heap[b]? = w3.heap[b]?) := Lib.hid fun b hb => heap_setCell_other w3 ⟨w.heap.size, 37, none⟩ b _ hb
        have HB4 : Hid (Below w.heap.size w (w3.setCell ⟨w.heap.size, 37, none⟩ (.slice q n d))) := Lib.hid ((below_step HB.out HB3.out).setCell (Nat.le_refl _) _)
        go_upto_region 4 with (go_at_call 32; refine HIN3.out.mono ?_; rintro r w4 ⟨rfl, rfl⟩)
        generalize World.setCell _ _ _ = w5 at *
        go_wp2_with (first
          | (refine wpList_ld rfl 30 _ rfl _ rfl _ (HE4.out.load HD.out.1) ?_)
          | (refine wpList_store_row rfl 30 _ _ rfl g1 (tnC { e with ins := Y } (.slice q n d)) rfl rfl 30 _ HZ4.out (tnC_sizeOf { e with ins := Y } _ HD.out.1) ((tnC_size _ _ rfl).trans (tnC_size { e with ins := Y } _ HD.out.1).symm) (tnC_one _ _ _ _) ?_; generalize hw6 : World.setRow _ _ _ = w6))
        have HM6 : Tn w6 g1 { e with ins := Y } (.slice q n d) := by rw [← hw6]; exact Mx.row HZ4.out
        refine bodyPost_ret (HM6.res2 HD.out.1 rfl _ rfl) rfl ?_
        refine ⟨_, by rw [HRA.out]; rfl, ?_, by rw [← hw6]; exact below_setRow8 HB4.out _ _ (by have := HLT3.out; omega)⟩
        rw [HRA.out]
        exact Gw.mono (B := w2.heap.size) (HO3.out.iskeep fun b hb => by rw [← hw6, setRow_other _ _ _ _ (by have := HLT3.out; omega)]; exact HK4.out b (by have := HLT3.out; omega)) (by have := HLT3.out; omega)
      · have HY0 : Hid (Y = []) := Lib.hid (HNIL.out.2 (by omega))
        have HRC : Hid (keepT e B = (zeroT, false)) := Lib.hid (by rw [HR.out, if_neg (fun h => h.2.elim HK.out (fun h2 => h2 HY0.out)), if_neg (fun h => h HY0.out)])
        clear hk
        have HBU := Lib.hid built_tn0
        go_upto_region 7 with (go_at_call 32; refine HIN3.out.mono ?_; rintro r w4 ⟨rfl, rfl⟩)
        go_wp2_with (first
          | (refine wpList_build_is rfl 30 _ rfl (tnC zeroT (.slice none 0 0)) ?_ ?_; focus (first | (simp only [List.map_toArray, List.map_nil]; exact HBU.out) | (simp only [Array.map_empty]; exact HBU.out) | (simp; exact HBU.out)))
          | (refine wpList_store_row rfl 30 _ _ rfl g1 (tnC zeroT (.slice none 0 0)) rfl rfl 30 _ HZ3.out (tnC_sizeOf zeroT _ rfl) rfl (tnC_one _ _ _ _) ?_; generalize hw6 : World.setRow _ _ _ = w6))
        have HM6 : Tn w6 g1 zeroT (.slice none 0 0) := by rw [← hw6]; exact Mx.row HZ3.out
        refine bodyPost_ret (HM6.res2 rfl rfl _ rfl) rfl ?_
        refine ⟨_, by rw [HRC.out]; rfl, ?_, by rw [← hw6]; exact below_setRow8 (below_step HB.out HB3.out) _ _ (by have := HLT3.out; omega)⟩
        rw [HRC.out]
        exact Gw.nil _ _ _
  · have hdi : decide (e.seg ∈ B) = false := by simpa using hin
    rw [hdi] at HIN3
    have HINB := Lib.hid hin
    clear hin hdi
    by_cases hy : (0 : Int) < (n : Int)
    · have HRB : Hid (keepT e B = (⟨e.nm, dz32, true, 0, 0, 0, Y⟩, true)) := Lib.hid (by rw [HR.out, if_neg (fun h => HINB.out h.1), if_pos (fun h => by have := HNIL.out.1 h; omega)])
      have HBU := Lib.hid (built_un3 e.nm Y q n d)
      have HLD := Lib.hid (HE3.out.dig HD.out.1)
      go_upto_region 6 with (go_at_call 32; refine HIN3.out.mono ?_; rintro r w4 ⟨rfl, rfl⟩)
      go_wp2_with (first
        | (refine wpList_ld rfl 23 _ rfl _ rfl _ HLD.out ?_)
        | (refine wpList_build_is rfl 30 _ rfl (tnC ⟨e.nm, dz32, true, 0, 0, 0, Y⟩ (.slice q n d)) ?_ ?_; focus (first | exact HBU.out | (simp only [List.map_toArray, List.map_cons, List.map_nil]; exact HBU.out)))
        | (refine wpList_store_row rfl 30 _ _ rfl g1 (tnC ⟨e.nm, dz32, true, 0, 0, 0, Y⟩ (.slice q n d)) rfl rfl 30 _ HZ3.out (tnC_sizeOf ⟨e.nm, dz32, true, 0, 0, 0, Y⟩ _ rfl) ((tnC_size _ _ rfl).trans (tnC_size ⟨e.nm, dz32, true, 0, 0, 0, Y⟩ _ rfl).symm) (tnC_one _ _ _ _) ?_; generalize hw6 : World.setRow _ _ _ = w6))
      have HM6 : Tn w6 g1 ⟨e.nm, dz32, true, 0, 0, 0, Y⟩ (.slice q n d) := by rw [← hw6]; exact Mx.row HZ3.out
      refine bodyPost_ret (HM6.res2 rfl rfl _ rfl) rfl ?_
      refine ⟨_, by rw [HRB.out]; rfl, ?_, by rw [← hw6]; exact below_setRow8 (below_step HB.out HB3.out) _ _ (by have := HLT3.out; omega)⟩
      rw [HRB.out]
      exact Gw.mono (B := w2.heap.size) (HO3.out.iskeep fun b hb => by rw [← hw6, setRow_other _ _ _ _ (by have := HLT3.out; omega)]) (by have := HLT3.out; omega)
    · have HY0 : Hid (Y = []) := Lib.hid (HNIL.out.2 (by omega))
      have HRC : Hid (keepT e B = (zeroT, false)) := Lib.hid (by rw [HR.out, if_neg (fun h => HINB.out h.1), if_neg (fun h => h HY0.out)])
      have HBU := Lib.hid built_tn0
      go_upto_region 7 with (go_at_call 32; refine HIN3.out.mono ?_; rintro r w4 ⟨rfl, rfl⟩)
      go_wp2_with (first
        | (refine wpList_build_is rfl 30 _ rfl (tnC zeroT (.slice none 0 0)) ?_ ?_; focus (first | (simp only [List.map_toArray, List.map_nil]; exact HBU.out) | (simp only [Array.map_empty]; exact HBU.out) | (simp; exact HBU.out)))
        | (refine wpList_store_row rfl 30 _ _ rfl g1 (tnC zeroT (.slice none 0 0)) rfl rfl 30 _ HZ3.out (tnC_sizeOf zeroT _ rfl) rfl (tnC_one _ _ _ _) ?_; generalize hw6 : World.setRow _ _ _ = w6))
      have HM6 : Tn w6 g1 zeroT (.slice none 0 0) := by rw [← hw6]; exact Mx.row HZ3.out
      refine bodyPost_ret (HM6.res2 rfl rfl _ rfl) rfl ?_
      refine ⟨_, by rw [HRC.out]; rfl, ?_, by rw [← hw6]; exact below_setRow8 (below_step HB.out HB3.out) _ _ (by have := HLT3.out; omega)⟩
      rw [HRC.out]
      exact Gw.nil _ _ _
set_option maxRecDepth 100000 in
set_option maxHeartbeats 2000000 in
theorem rsamet19_any (e : Pt) (s u : Value) (w : World) (h : Is w s e.ins) (h' : Is w u e.ins) (hd : dok e.dg) (hn : e.ins.length ≤ 2097152) :
    Calls Try.prog 11 #[tnV e s, tnV e u] w fun r w' => r = .returned (.bool true) ∧ Below w.heap.size w w' := by
  obtain ⟨w0, w2, g1, h0, h2, hg1, hB⟩ := box2 w (tnC e s) (tnC e u) 30 30
  have HE : Hid (Tn w2 w.heap.size e s) := Lib.hid hB.a
  have HZ : Hid (Tn w2 g1 e u) := Lib.hid hB.z
  have HB := Lib.hid hB.le
  obtain ⟨p, c, rfl, hs, _⟩ := h.later hB.le
  obtain ⟨p2, c2, rfl, hs2, _⟩ := h'.later hB.le
  have HIN := Lib.hid (rints_any p p2 e.ins.length c e.ins.length c2 e.ins w2 hs hs2 (by omega))
  have HD := Lib.hid hd
  obtain ⟨e0, e1, e2, cs⟩ := HE.out.cells hd.1
  obtain ⟨z0, z1, z2, zs⟩ := HZ.out.cells hd.1
  have hde := fun W => dig_refl e.dg hd W
  have hle := fun W => loc_eq e.seg e.off e.len W
  obtain ⟨m, hm⟩ : ∃ m, e.ins.length = m := ⟨_, rfl⟩
  rw [hm] at HIN cs zs
  have HL1 := Lib.hid (HE.out.dig hd.1)
  have HL2 := Lib.hid (HZ.out.dig hd.1)
  have HL3 := Lib.hid (HE.out.loc hd.1)
  have HL4 := Lib.hid (HZ.out.loc hd.1)
  unfold tnV
  generalize hMC : tnC e (Value.slice p e.ins.length c) = MC at *
  generalize hMZ : tnC e (Value.slice p2 e.ins.length c2) = MZ at *
  generalize lcA e.seg e.off e.len = LC at *
  generalize bcs e.dg = DG at *
  rw [hm] at hMC hMZ
  clear hMC hMZ hs hs2 h h' hd hB hm hn
  go_enter Try.func11, Try.ntmps11
  go_wp2_with (first
    | (refine wpList_ld rfl 23 _ rfl _ rfl _ HL1.out ?_)
    | (refine wpList_ld rfl 23 _ rfl _ rfl _ HL2.out ?_)
    | (refine wpList_wanted (by rfl) fun K hK => wp_ld 23 _ rfl _ rfl _ HL1.out (hK _ _ ?_); clear hK K)
    | (refine wpList_wanted (by rfl) fun K hK => wp_ld 23 _ rfl _ rfl _ HL2.out (hK _ _ ?_); clear hK K)
    | (refine wpList_wanted (by rfl) fun K hK => wp_ld 25 _ rfl _ rfl _ HL3.out (hK _ _ ?_); clear hK K)
    | (refine wpList_wanted (by rfl) fun K hK => wp_ld 25 _ rfl _ rfl _ HL4.out (hK _ _ ?_); clear hK K)
    | (go_at_call 24; refine HIN.out.mono ?_; rintro r w3 ⟨rfl, nq, rfl⟩))
  go_ret
  exact ⟨rfl, below_drewN HB.out nq⟩
theorem tnC_lay {w W : World} {x : Pt} {s : Value} {b : Nat} (hb : w.heap.size = b) (h : (w.alloc (.cells (tnC zeroT (.slice none 0 0)) 30)).setRow b (tnC x s) = W) : Tn W b x s ∧ Below w.heap.size w W := by
  subst hb
  rw [← h]
  exact ⟨Mx.row (show Tn (w.alloc (.cells (tnC zeroT (.slice none 0 0)) 30)) w.heap.size zeroT (.slice none 0 0) from heap_alloc_new _ _), below_setRow8 ((Below.refl _ _).alloc (Nat.le_refl _) _) _ _ (Nat.le_refl _)⟩
structure Td (W : World) (b : Nat) (x : Pt) (s : Value) : Prop where
  m : Tn W b x s
  i : Is W s x.ins
  d : dok x.dg
theorem Td.later {W V : World} {b : Nat} {x : Pt} {s : Value} (h : Td W b x s) (hb : Below W.heap.size W V) : Td V b x s := ⟨h.m.later hb, h.i.later hb, h.d⟩
end Go.Proofs.Ythibllnpjjoehaa

namespace Go.Proofs.Ythibllnpjjoehaa
set_option linter.unusedVariables false
open Go.RowKit Go.Lib

def cPutOk : Prop := ∀ (e : Pe) (s : Value) (x : Wq) (w : World), Is w s e.ins → dok e.dg → dok x.dg → e.ins.length ≤ 2097152 → Calls Try.prog 7 #[enV e s, x.v] w fun r w' => EnQ w s (putE e x) r w'
def cDelOk : Prop := ∀ (e : Pe) (s : Value) (x : Wq) (w : World), Is w s e.ins → dok e.dg → dok x.dg → e.ins.length ≤ 2097152 → Calls Try.prog 9 #[enV e s, x.v] w fun r w' => EnQ w s (delE e x) r w'
def cTagOk : Prop := ∀ (e : Pt) (s : Value) (x : Wq) (w : World), Is w s e.ins → dok e.dg → dok x.dg → e.ins.length ≤ 2097152 → Calls Try.prog 12 #[tnV e s, x.v] w fun r w' => TnQ w s (tagT e x) r w'
def cUntOk : Prop := ∀ (e : Pt) (s : Value) (x : Wq) (w : World), Is w s e.ins → dok e.dg → dok x.dg → e.ins.length ≤ 2097152 → Calls Try.prog 14 #[tnV e s, x.v] w fun r w' => TnQ w s (untT e x) r w'
def cAliveOk : Prop := ∀ (e : Pe) (s : Value) (w : World), Is w s e.ins → dok e.dg → e.ins.length ≤ 2097152 → Calls Try.prog 21 #[enV e s] w fun r w' => r = .returned (.bool (aliveB (decide (e.k = 5)) e.ins e.seg)) ∧ Below w.heap.size w w'
def cAliveTOk : Prop := ∀ (e : Pt) (s : Value) (w : World), Is w s e.ins → dok e.dg → e.ins.length ≤ 2097152 → Calls Try.prog 23 #[tnV e s] w fun r w' => r = .returned (.bool (aliveB e.gone e.ins e.seg)) ∧ Below w.heap.size w w'
def cKeepOk : Prop := ∀ (e : Pe) (s u : Value) (B : List Int) (w : World), Is w s e.ins → Is w u B → dok e.dg → e.ins.length ≤ 2097152 → B.length ≤ 2097152 → Calls Try.prog 17 #[enV e s, u] w fun r w' => KeQ w s (keepE e B) r w'
def cKeepTOk : Prop := ∀ (e : Pt) (s u : Value) (B : List Int) (w : World), Is w s e.ins → Is w u B → dok e.dg → e.ins.length ≤ 2097152 → B.length ≤ 2097152 → Calls Try.prog 19 #[tnV e s, u] w fun r w' => KtQ w s (keepT e B) r w'
theorem lvE : putE zeroE wdA = ⟨lvS, 1, 9, 1, 0, 0, [1]⟩ := rfl
theorem lvD : delE ⟨lvS, 1, 9, 1, 0, 0, [1]⟩ wdB = ⟨lvS, 5, 0, 2, 0, 0, [1]⟩ := rfl
theorem lvK : keepE ⟨lvS, 5, 0, 2, 0, 0, [1]⟩ [1, 2] = (⟨lvS, 5, 0, 2, 0, 0, [1]⟩, true) := rfl
theorem lvN : keepE ⟨lvS, 5, 0, 2, 0, 0, [1]⟩ [2] = (zeroE, false) := rfl
end Go.Proofs.Ythibllnpjjoehaa

namespace Go.Proofs.Ythibllnpjjoehaa
set_option linter.unusedVariables false
open Go.RowKit Go.Lib

set_option maxRecDepth 100000 in
set_option maxHeartbeats 2000000 in
theorem lives19_any (hP : cPutOk) (hD : cDelOk) (hA : cAliveOk) (hK : cKeepOk) (w : World) : Calls Try.prog 16 #[] w fun e w' => e = .returned (.bool true) ∧ Below w.heap.size w w' := by
  have HP := Lib.hid fun W => hP zeroE (.slice none 0 0) wdA W (Is.nil W) dz32_ok lvS_ok (Nat.zero_le _)
  rw [lvE] at HP
  have HD := Lib.hid fun W s (h : Is W s [1]) => hD ⟨lvS, 1, 9, 1, 0, 0, [1]⟩ s wdB W h lvS_ok lvS_ok (by decide)
  rw [lvD] at HD
  have HK := Lib.hid fun W s u (h : Is W s [1]) (h2 : Is W u [1, 2]) => hK ⟨lvS, 5, 0, 2, 0, 0, [1]⟩ s u [1, 2] W h h2 lvS_ok (by decide) (by decide)
  have HN := Lib.hid fun W s u (h : Is W s [1]) (h2 : Is W u [2]) => hK ⟨lvS, 5, 0, 2, 0, 0, [1]⟩ s u [2] W h h2 lvS_ok (by decide) (by decide)
  rw [lvK] at HK
  rw [lvN] at HN
  have HA1 := Lib.hid fun W s (h : Is W s [1]) => hA ⟨lvS, 1, 9, 1, 0, 0, [1]⟩ s W h lvS_ok (by decide)
  have HA2 := Lib.hid fun W s (h : Is W s [1]) => hA ⟨lvS, 5, 0, 2, 0, 0, [1]⟩ s W h lvS_ok (by decide)
  clear hP hD hA hK
  go_enter Try.func16, Try.ntmps16
  go_upto_region 2 with (first
    | (refine wpList_build_is rfl 28 _ rfl (enC zeroE (.slice none 0 0)) ?_ ?_; focus (first | (simp only [List.map_toArray, List.map_nil]; exact built_en0) | (simp only [Array.map_empty]; exact built_en0) | (simp; exact built_en0)))
    | (refine wpList_build_is rfl 23 _ rfl (bcs lvS) ?_ ?_; focus (first | exact built_dg1 | kernel_rfl))
    | (refine wpList_build_is rfl 25 _ rfl (lcA 1 0 0) ?_ ?_; focus (first | exact built_lc 1 | kernel_rfl))
    | (refine wpList_build_is rfl 33 _ rfl (mixC wdA.a wdA.dg wdA.t) ?_ ?_; focus (first | exact built_wdA | kernel_rfl))
    | (go_at_call 7; refine (HP.out _).mono ?_; rintro r w1 ⟨u1, rfl, hi1, -, hb1⟩; have HI1 := Lib.hid hi1; have HB1 := Lib.hid hb1; obtain ⟨p1, c1, rfl, _⟩ := hi1; clear hb1)
    | (refine wpList_store_row rfl 28 _ _ rfl w1.heap.size (enC ⟨lvS, 1, 9, 1, 0, 0, [1]⟩ _) rfl rfl 28 _ (heap_alloc_new _ _) (enC_sizeOf ⟨lvS, 1, 9, 1, 0, 0, [1]⟩ _ rfl) rfl (enC_one _ _ _ _) ?_; generalize hwE : World.setRow _ _ _ = wE))
  obtain ⟨he, hbe⟩ := enC_lay rfl hwE
  obtain ⟨gE, hgE⟩ : ∃ g, w1.heap.size = g := ⟨_, rfl⟩
  rw [hgE] at he
  rw [hgE]
  have HE : Hid (Ed wE gE ⟨lvS, 1, 9, 1, 0, 0, [1]⟩ _) := Lib.hid ⟨he, HI1.out.later hbe, lvS_ok⟩
  have HBE := Lib.hid (below_step HB1.out hbe)
  have HLE := Lib.hid (HE.out.m.load rfl)
  clear he hbe hwE hgE
  go_upto_region 3 with (first
    | (refine wpList_ld rfl 28 _ rfl _ rfl _ HLE.out ?_)
    | (refine wpList_build_is rfl 23 _ rfl (bcs lvS) ?_ ?_; focus (first | exact built_dg1 | kernel_rfl))
    | (refine wpList_build_is rfl 25 _ rfl (lcA 2 0 0) ?_ ?_; focus (first | exact built_lc 2 | kernel_rfl))
    | (refine wpList_build_is rfl 33 _ rfl (mixC wdB.a wdB.dg wdB.t) ?_ ?_; focus (first | exact built_wdB | kernel_rfl))
    | (go_at_call 9; refine (HD.out _ _ HE.out.i).mono ?_; rintro r w2 ⟨u2, rfl, hi2, -, hb2⟩; have HI2 := Lib.hid hi2; have HB2 := Lib.hid hb2; obtain ⟨p2, c2, rfl, _⟩ := hi2; clear hb2)
    | (refine wpList_store_row rfl 28 _ _ rfl w2.heap.size (enC ⟨lvS, 5, 0, 2, 0, 0, [1]⟩ _) rfl rfl 28 _ (heap_alloc_new _ _) (enC_sizeOf ⟨lvS, 5, 0, 2, 0, 0, [1]⟩ _ rfl) rfl (enC_one _ _ _ _) ?_; generalize hwD : World.setRow _ _ _ = wD))
  obtain ⟨he, hbe⟩ := enC_lay rfl hwD
  obtain ⟨gD, hgD⟩ : ∃ g, w2.heap.size = g := ⟨_, rfl⟩
  rw [hgD] at he
  rw [hgD]
  have HDD : Hid (Ed wD gD ⟨lvS, 5, 0, 2, 0, 0, [1]⟩ _) := Lib.hid ⟨he, HI2.out.later hbe, lvS_ok⟩
  have HED := Lib.hid (HE.out.later (below_step HB2.out hbe))
  have HBD := Lib.hid (below_step HBE.out (below_step HB2.out hbe))
  have HLD := Lib.hid (HDD.out.m.load rfl)
  have HX1 : Hid (∀ W, Below wD.heap.size wD W → Is (W.alloc (.cells #[.int .i64 1, .int .i64 2] 3)) (.slice (some ⟨W.heap.size, 0, none⟩) 2 2) [1, 2]) := Lib.hid fun W _ => Is.lit2 W 1 2
  have HX2 : Hid (∀ W, Below wD.heap.size wD W → Is (W.alloc (.cells #[.int .i64 2] 3)) (.slice (some ⟨W.heap.size, 0, none⟩) 1 1) [2]) := Lib.hid fun W _ => Is.lit1 W 2
  have HBR := Lib.hid (Below.refl wD.heap.size wD)
  clear he hbe hwD hgD
  go_upto_region 4 with (first
    | (refine wpList_ld rfl 28 _ rfl _ rfl _ HLD.out ?_)
    | (go_at_call 17; refine (HK.out _ _ _ (HDD.out.i.later ((Below.refl _ _).alloc (Nat.le_refl _) _)) (HX1.out _ HBR.out)).mono ?_; rintro r w3 ⟨u3, rfl, hi3, -, hb3⟩; have HI3 := Lib.hid hi3; have HB3 := Lib.hid (((Below.refl _ _).alloc (Nat.le_refl _) _).trans (hb3.mono (by simp)) : Below wD.heap.size wD w3); obtain ⟨p3, c3, rfl, _⟩ := hi3; clear hb3)
    | (refine wpList_store_row rfl 28 _ _ rfl w3.heap.size (enC ⟨lvS, 5, 0, 2, 0, 0, [1]⟩ _) rfl rfl 28 _ (heap_alloc_new _ _) (enC_sizeOf ⟨lvS, 5, 0, 2, 0, 0, [1]⟩ _ rfl) rfl (enC_one _ _ _ _) ?_; generalize hwK : World.setRow _ _ _ = wK))
  obtain ⟨he, hbe⟩ := enC_lay rfl hwK
  obtain ⟨gK, hgK⟩ : ∃ g, w3.heap.size = g := ⟨_, rfl⟩
  rw [hgK] at he
  rw [hgK]
  have HKK : Hid (Ed wK gK ⟨lvS, 5, 0, 2, 0, 0, [1]⟩ _) := Lib.hid ⟨he, HI3.out.later hbe, lvS_ok⟩
  have HS := Lib.hid (below_step HB3.out hbe)
  have HDK := Lib.hid (HDD.out.later HS.out)
  have HEK := Lib.hid (HED.out.later HS.out)
  have HBK := Lib.hid (below_step HBD.out HS.out)
  have HLK := Lib.hid (HDK.out.m.load rfl)
  have HX3 : Hid (Is (wK.alloc (.cells #[.int .i64 2] 3)) (.slice (some ⟨wK.heap.size, 0, none⟩) 1 1) [2]) := Lib.hid (Is.lit1 wK 2)
  clear he hbe hwK hgK
  go_upto_region 5 with (first
    | (refine wpList_ld rfl 28 _ rfl _ rfl _ HLK.out ?_)
    | (go_at_call 17; refine (HN.out _ _ _ (HDK.out.i.later ((Below.refl _ _).alloc (Nat.le_refl _) _)) HX3.out).mono ?_; rintro r w4 ⟨u4, rfl, hi4, -, hb4⟩; have HB4 := Lib.hid (((Below.refl _ _).alloc (Nat.le_refl _) _).trans (hb4.mono (by simp)) : Below wK.heap.size wK w4); obtain ⟨p4, c4, rfl, _⟩ := hi4; clear hb4)
    | (refine wpList_store_row rfl 28 _ _ rfl w4.heap.size (enC zeroE _) rfl rfl 28 _ (heap_alloc_new _ _) (enC_sizeOf zeroE _ rfl) rfl (enC_one _ _ _ _) ?_; generalize hwN : World.setRow _ _ _ = wN))
  obtain ⟨he, hbe⟩ := enC_lay rfl hwN
  have HS5 := Lib.hid (below_step HB4.out hbe)
  have HKN := Lib.hid (HKK.out.later HS5.out)
  have HDN := Lib.hid (HDK.out.later HS5.out)
  have HEN := Lib.hid (HEK.out.later HS5.out)
  have HBN := Lib.hid (below_step HBK.out HS5.out)
  have HLE5 := Lib.hid (HEN.out.m.load rfl)
  have HLD5 := Lib.hid fun W (hW : Below wN.heap.size wN W) => (HDN.out.m.later hW).load rfl
  have HCK := Lib.hid fun W (hW : Below wN.heap.size wN W) => ((HKN.out.m.later hW).cells rfl).2.2.2
  obtain ⟨k0, _, _, k3⟩ := HEN.out.m.cells rfl
  obtain ⟨_, _, _, y3⟩ := HKN.out.m.cells rfl
  clear he hbe hwN
  go_wp2_with (first
    | (refine wpList_wanted (by rfl) fun K hK => wp_ld 28 _ rfl _ rfl _ HLE5.out (hK _ _ ?_); clear hK K)
    | (go_at_call 21; (fail_if_success (have hh := HA8.out)); refine (HA1.out _ _ HEN.out.i).mono ?_; rintro r w5 ⟨rfl, hb5⟩; have HA8 := Lib.hid hb5; have HLD6 := Lib.hid (HLD5.out _ hb5); have y3 := HCK.out _ hb5; clear hb5)
    | (refine wpList_wanted (by rfl) fun K hK => wp_ld 28 _ rfl _ rfl _ HLD6.out (hK _ _ ?_); clear hK K)
    | (go_at_call 21; refine (HA2.out _ _ (HDN.out.i.later HA8.out)).mono ?_; rintro r w6 ⟨rfl, hb6⟩; have HA9 := Lib.hid (below_step HA8.out hb6); have y3 := HCK.out _ HA9.out; clear hb6))
  go_ret
  exact ⟨rfl, below_step HBN.out HA9.out⟩
end Go.Proofs.Ythibllnpjjoehaa

namespace Go.Proofs.Ythibllnpjjoehaa
set_option linter.unusedVariables false
open Go.RowKit Go.Lib

set_option maxRecDepth 100000 in
set_option maxHeartbeats 4000000 in
theorem entrybehind_any (hP : cPutOk) (hD : cDelOk) (hT : cTagOk) (hU : cUntOk) (hA : cAliveOk) (hK : cKeepOk) (e : Pe) (s : Value) (t : Pt) (u : Value) (x : Wq) (w : World) (h1 : Is w s e.ins) (h2 : Is w u t.ins) (hd1 : dok e.dg) (hd2 : dok t.dg) (hdx : dok x.dg) (hn1 : e.ins.length ≤ 1048576) (hn2 : t.ins.length ≤ 1048576) :
    Calls Try.prog 3 #[enV e s, tnV t u, x.v] w fun r w' => r = .returned (.bool true) ∧ Below w.heap.size w w' := by
  obtain ⟨wa, wb, wB, g1, g2, ha, hb, hc, hg1, hg2, hB⟩ := box3 w (enC e s) (tnC t u) (mixC x.a x.dg x.t) 28 30 33
  have HE : Hid (Em wB w.heap.size e s) := Lib.hid hB.a
  have HT : Hid (Tn wB g1 t u) := Lib.hid hB.b
  have HX : Hid (Wm wB g2 x) := Lib.hid hB.z
  have HB := Lib.hid hB.le
  have H1 := Lib.hid fun W (hW : Below wB.heap.size wB W) => (h1.later hB.le).later hW
  have H2 := Lib.hid fun W (hW : Below wB.heap.size wB W) => (h2.later hB.le).later hW
  have HLE := Lib.hid fun W (hW : Below wB.heap.size wB W) => (HE.out.later hW).load hd1.1
  have HLT := Lib.hid fun W (hW : Below wB.heap.size wB W) => (HT.out.later hW).load hd2.1
  have HLX := Lib.hid fun W (hW : Below wB.heap.size wB W) => (HX.out.later hW).load hdx.1
  have HP := Lib.hid fun W (hW : Below wB.heap.size wB W) => hP e s x W (H1.out W hW) hd1 hdx (by omega)
  have HPR := Lib.hid fun W (hW : Below wB.heap.size wB W) => (rput19_any e s x W (H1.out W hW) hd1 hdx (by omega)).mono fun _ _ h => h.q s
  have HD := Lib.hid fun W (hW : Below wB.heap.size wB W) => hD e s x W (H1.out W hW) hd1 hdx (by omega)
  have HDR := Lib.hid fun W (hW : Below wB.heap.size wB W) => (rdel19_any e s x W (H1.out W hW) hd1 hdx (by omega)).mono fun _ _ h => h.q s
  have HG := Lib.hid fun W (hW : Below wB.heap.size wB W) => hT t u x W (H2.out W hW) hd2 hdx (by omega)
  have HGR := Lib.hid fun W (hW : Below wB.heap.size wB W) => (rtag19_any t u x W (H2.out W hW) hd2 hdx (by omega)).mono fun _ _ h => h.q u
  have HU := Lib.hid fun W (hW : Below wB.heap.size wB W) => hU t u x W (H2.out W hW) hd2 hdx (by omega)
  have HUR := Lib.hid fun W (hW : Below wB.heap.size wB W) => (runt19_any t u x W (H2.out W hW) hd2 hdx (by omega)).mono fun _ _ h => h.q u
  have HSP := Lib.hid fun W a b (ha : Is W a (putE e x).ins) (hb : Is W b (putE e x).ins) => rsame19_any (putE e x) a b W ha hb hdx (Nat.le_trans (putrow_length _ _) (by omega))
  have HSD := Lib.hid fun W a b (ha : Is W a (delE e x).ins) (hb : Is W b (delE e x).ins) => rsame19_any (delE e x) a b W ha hb hd1 (Nat.le_trans (rowI_length _) (by omega))
  have HSG := Lib.hid fun W a b (ha : Is W a (tagT t x).ins) (hb : Is W b (tagT t x).ins) => rsamet19_any (tagT t x) a b W ha hb hdx (Nat.le_trans (putrow_length _ _) (by omega))
  have HSU := Lib.hid fun W a b (ha : Is W a (untT t x).ins) (hb : Is W b (untT t x).ins) => rsamet19_any (untT t x) a b W ha hb dz32_ok (Nat.le_trans (rowI_length _) (by omega))
  have HLV := Lib.hid fun W => lives19_any hP hD hA hK W
  have hBE : Below wB.heap.size wB wB := Below.refl _ _
  generalize putE e x = e1 at *
  generalize delE e x = e2 at *
  generalize tagT t x = t1 at *
  generalize untT t x = t2 at *
  unfold enV tnV Wq.v at *
  generalize enC e s = ME at *
  generalize tnC t u = MT at *
  generalize mixC x.a x.dg x.t = MX at *
  clear hP hD hT hU hA hK h1 h2 hd1 hd2 hdx hn1 hn2 hB
  go_enter Try.func3, Try.ntmps3
  go_upto_region 1 with fail
  refine wp_region_held_drew (S := (fun W : World => Below wB.heap.size wB W)) (by kernel_rfl) (show Below _ _ (World.drew wB) from hBE.drew) (fun hHeld => ?_)
  refine take_at 0 rfl (by kernel_rfl) (by kernel_rfl) (by kernel_rfl) (fun _ _ _ h => h) (yieldsIf_ld (by rfl) 28 (.tmp 3) rfl (.pointer (some ⟨w.heap.size, 0, none⟩)) rfl (.agg ME) (fun W hW => HLE.out W hW)) (by assumption) ?_
  (try simp only [Act.put, List.setIfInBounds_toArray, List.set_cons_zero, List.set_cons_succ])
  refine take_at 1 rfl (by kernel_rfl) (by kernel_rfl) (by kernel_rfl) (fun _ _ _ h => h) (yieldsIf_ld (by rfl) 33 (.tmp 5) rfl (.pointer (some ⟨g2, 0, none⟩)) rfl (.agg MX) (fun W hW => HLX.out W hW)) (by assumption) ?_
  (try simp only [Act.put, List.setIfInBounds_toArray, List.set_cons_zero, List.set_cons_succ])
  refine take_at 3 rfl (by kernel_rfl) (by kernel_rfl) (by kernel_rfl) (fun _ _ _ h => h) (yieldsIf_ld (by rfl) 28 (.tmp 3) rfl (.pointer (some ⟨w.heap.size, 0, none⟩)) rfl (.agg ME) (fun W hW => HLE.out W hW)) (by assumption) ?_
  (try simp only [Act.put, List.setIfInBounds_toArray, List.set_cons_zero, List.set_cons_succ])
  refine take_at 4 rfl (by kernel_rfl) (by kernel_rfl) (by kernel_rfl) (fun _ _ _ h => h) (yieldsIf_ld (by rfl) 33 (.tmp 5) rfl (.pointer (some ⟨g2, 0, none⟩)) rfl (.agg MX) (fun W hW => HLX.out W hW)) (by assumption) ?_
  (try simp only [Act.put, List.setIfInBounds_toArray, List.set_cons_zero, List.set_cons_succ])
  refine ready_at 2 rfl (by kernel_rfl) (fun K hK => ?_)
  go_simp
  refine (HP.out _ hHeld).mono ?_
  rintro r v1 ⟨u1, rfl, hi1, -, hb1⟩
  have hB1 := below_step hHeld hb1
  try clear hHeld
  first
    | refine hK.out _ _ ?hS5 (fun hHeld => ?rest5)
    | (go_wp2_with fail; refine hK.out _ _ ?hS5 (fun hHeld => ?rest5))
  case hS5 => exact hB1
  clear hK K
  (try simp only [Act.put, List.setIfInBounds_toArray, List.set_cons_zero, List.set_cons_succ])
  refine ready_at 5 rfl (by kernel_rfl) (fun K hK => ?_)
  go_simp
  refine (HPR.out _ hHeld).mono ?_
  rintro r v2 ⟨u2, rfl, hi2, -, hb2⟩
  have hB2 := below_step hHeld hb2
  have hi1 := hi1.later hb2
  try clear hHeld
  first
    | refine hK.out _ _ ?hS6 (fun hHeld => ?rest6)
    | (go_wp2_with fail; refine hK.out _ _ ?hS6 (fun hHeld => ?rest6))
  case hS6 => exact hB2
  clear hK K
  (try simp only [Act.put, List.setIfInBounds_toArray, List.set_cons_zero, List.set_cons_succ])
  refine ready_at 6 rfl (by kernel_rfl) (fun K hK => ?_)
  go_simp
  refine (HSP.out _ _ _ hi1 hi2).mono ?_
  rintro r x2 ⟨rfl, hc2⟩
  have hC2 := below_step hB2 hc2
  clear hi1 hi2
  first
    | refine hK.out _ _ ?hS7 (fun hHeld => ?rest7)
    | (go_wp2_with fail; refine hK.out _ _ ?hS7 (fun hHeld => ?rest7))
  case hS7 => exact hC2
  clear hK K
  (try simp only [Act.put, List.setIfInBounds_toArray, List.set_cons_zero, List.set_cons_succ])
  refine take_at 7 (v := ?vv8) rfl (by kernel_rfl) (by kernel_rfl) (by kernel_rfl) (fun _ _ _ h => h) (Or.inl ⟨by rfl, ?hy8⟩) (by assumption) ?rest8
  case hy8 => intro w hSw; (try dsimp only at hSw); go_simp; (try with_reducible rfl)
  (try simp only [Act.put, List.setIfInBounds_toArray, List.set_cons_zero, List.set_cons_succ])
  refine take_at 8 rfl (by kernel_rfl) (by kernel_rfl) (by kernel_rfl) (fun _ _ _ h => h) (yieldsIf_ld (by rfl) 28 (.tmp 3) rfl (.pointer (some ⟨w.heap.size, 0, none⟩)) rfl (.agg ME) (fun W hW => HLE.out W hW)) (by assumption) ?_
  (try simp only [Act.put, List.setIfInBounds_toArray, List.set_cons_zero, List.set_cons_succ])
  refine take_at 9 rfl (by kernel_rfl) (by kernel_rfl) (by kernel_rfl) (fun _ _ _ h => h) (yieldsIf_ld (by rfl) 33 (.tmp 5) rfl (.pointer (some ⟨g2, 0, none⟩)) rfl (.agg MX) (fun W hW => HLX.out W hW)) (by assumption) ?_
  (try simp only [Act.put, List.setIfInBounds_toArray, List.set_cons_zero, List.set_cons_succ])
  refine take_at 11 rfl (by kernel_rfl) (by kernel_rfl) (by kernel_rfl) (fun _ _ _ h => h) (yieldsIf_ld (by rfl) 28 (.tmp 3) rfl (.pointer (some ⟨w.heap.size, 0, none⟩)) rfl (.agg ME) (fun W hW => HLE.out W hW)) (by assumption) ?_
  (try simp only [Act.put, List.setIfInBounds_toArray, List.set_cons_zero, List.set_cons_succ])
  refine take_at 12 rfl (by kernel_rfl) (by kernel_rfl) (by kernel_rfl) (fun _ _ _ h => h) (yieldsIf_ld (by rfl) 33 (.tmp 5) rfl (.pointer (some ⟨g2, 0, none⟩)) rfl (.agg MX) (fun W hW => HLX.out W hW)) (by assumption) ?_
  (try simp only [Act.put, List.setIfInBounds_toArray, List.set_cons_zero, List.set_cons_succ])
  refine ready_at 10 rfl (by kernel_rfl) (fun K hK => ?_)
  go_simp
  refine (HD.out _ hHeld).mono ?_
  rintro r v3 ⟨u3, rfl, hi3, -, hb3⟩
  have hB3 := below_step hHeld hb3
  try clear hHeld
  first
    | refine hK.out _ _ ?hS13 (fun hHeld => ?rest13)
    | (go_wp2_with fail; refine hK.out _ _ ?hS13 (fun hHeld => ?rest13))
  case hS13 => exact hB3
  clear hK K
  (try simp only [Act.put, List.setIfInBounds_toArray, List.set_cons_zero, List.set_cons_succ])
  refine ready_at 13 rfl (by kernel_rfl) (fun K hK => ?_)
  go_simp
  refine (HDR.out _ hHeld).mono ?_
  rintro r v4 ⟨u4, rfl, hi4, -, hb4⟩
  have hB4 := below_step hHeld hb4
  have hi3 := hi3.later hb4
  try clear hHeld
  first
    | refine hK.out _ _ ?hS14 (fun hHeld => ?rest14)
    | (go_wp2_with fail; refine hK.out _ _ ?hS14 (fun hHeld => ?rest14))
  case hS14 => exact hB4
  clear hK K
  (try simp only [Act.put, List.setIfInBounds_toArray, List.set_cons_zero, List.set_cons_succ])
  refine ready_at 14 rfl (by kernel_rfl) (fun K hK => ?_)
  go_simp
  refine (HSD.out _ _ _ hi3 hi4).mono ?_
  rintro r x4 ⟨rfl, hc4⟩
  have hC4 := below_step hB4 hc4
  clear hi3 hi4
  first
    | refine hK.out _ _ ?hS15 (fun hHeld => ?rest15)
    | (go_wp2_with fail; refine hK.out _ _ ?hS15 (fun hHeld => ?rest15))
  case hS15 => exact hC4
  clear hK K
  (try simp only [Act.put, List.setIfInBounds_toArray, List.set_cons_zero, List.set_cons_succ])
  refine take_at 15 (v := ?vv16) rfl (by kernel_rfl) (by kernel_rfl) (by kernel_rfl) (fun _ _ _ h => h) (Or.inl ⟨by rfl, ?hy16⟩) (by assumption) ?rest16
  case hy16 => intro w hSw; (try dsimp only at hSw); go_simp; (try with_reducible rfl)
  (try simp only [Act.put, List.setIfInBounds_toArray, List.set_cons_zero, List.set_cons_succ])
  refine take_at 16 (v := ?vv17) rfl (by kernel_rfl) (by kernel_rfl) (by kernel_rfl) (fun _ _ _ h => h) (Or.inl ⟨by rfl, ?hy17⟩) (by assumption) ?rest17
  case hy17 => intro w hSw; (try dsimp only at hSw); go_simp; (try with_reducible rfl)
  (try simp only [Act.put, List.setIfInBounds_toArray, List.set_cons_zero, List.set_cons_succ])
  refine take_at 17 rfl (by kernel_rfl) (by kernel_rfl) (by kernel_rfl) (fun _ _ _ h => h) (yieldsIf_ld (by rfl) 30 (.tmp 4) rfl (.pointer (some ⟨g1, 0, none⟩)) rfl (.agg MT) (fun W hW => HLT.out W hW)) (by assumption) ?_
  (try simp only [Act.put, List.setIfInBounds_toArray, List.set_cons_zero, List.set_cons_succ])
  refine take_at 18 rfl (by kernel_rfl) (by kernel_rfl) (by kernel_rfl) (fun _ _ _ h => h) (yieldsIf_ld (by rfl) 33 (.tmp 5) rfl (.pointer (some ⟨g2, 0, none⟩)) rfl (.agg MX) (fun W hW => HLX.out W hW)) (by assumption) ?_
  (try simp only [Act.put, List.setIfInBounds_toArray, List.set_cons_zero, List.set_cons_succ])
  refine take_at 20 rfl (by kernel_rfl) (by kernel_rfl) (by kernel_rfl) (fun _ _ _ h => h) (yieldsIf_ld (by rfl) 30 (.tmp 4) rfl (.pointer (some ⟨g1, 0, none⟩)) rfl (.agg MT) (fun W hW => HLT.out W hW)) (by assumption) ?_
  (try simp only [Act.put, List.setIfInBounds_toArray, List.set_cons_zero, List.set_cons_succ])
  refine take_at 21 rfl (by kernel_rfl) (by kernel_rfl) (by kernel_rfl) (fun _ _ _ h => h) (yieldsIf_ld (by rfl) 33 (.tmp 5) rfl (.pointer (some ⟨g2, 0, none⟩)) rfl (.agg MX) (fun W hW => HLX.out W hW)) (by assumption) ?_
  (try simp only [Act.put, List.setIfInBounds_toArray, List.set_cons_zero, List.set_cons_succ])
  refine ready_at 19 rfl (by kernel_rfl) (fun K hK => ?_)
  go_simp
  refine (HG.out _ hHeld).mono ?_
  rintro r v5 ⟨u5, rfl, hi5, -, hb5⟩
  have hB5 := below_step hHeld hb5
  try clear hHeld
  first
    | refine hK.out _ _ ?hS22 (fun hHeld => ?rest22)
    | (go_wp2_with fail; refine hK.out _ _ ?hS22 (fun hHeld => ?rest22))
  case hS22 => exact hB5
  clear hK K
  (try simp only [Act.put, List.setIfInBounds_toArray, List.set_cons_zero, List.set_cons_succ])
  refine ready_at 22 rfl (by kernel_rfl) (fun K hK => ?_)
  go_simp
  refine (HGR.out _ hHeld).mono ?_
  rintro r v6 ⟨u6, rfl, hi6, -, hb6⟩
  have hB6 := below_step hHeld hb6
  have hi5 := hi5.later hb6
  try clear hHeld
  first
    | refine hK.out _ _ ?hS23 (fun hHeld => ?rest23)
    | (go_wp2_with fail; refine hK.out _ _ ?hS23 (fun hHeld => ?rest23))
  case hS23 => exact hB6
  clear hK K
  (try simp only [Act.put, List.setIfInBounds_toArray, List.set_cons_zero, List.set_cons_succ])
  refine ready_at 23 rfl (by kernel_rfl) (fun K hK => ?_)
  go_simp
  refine (HSG.out _ _ _ hi5 hi6).mono ?_
  rintro r x6 ⟨rfl, hc6⟩
  have hC6 := below_step hB6 hc6
  clear hi5 hi6
  first
    | refine hK.out _ _ ?hS24 (fun hHeld => ?rest24)
    | (go_wp2_with fail; refine hK.out _ _ ?hS24 (fun hHeld => ?rest24))
  case hS24 => exact hC6
  clear hK K
  (try simp only [Act.put, List.setIfInBounds_toArray, List.set_cons_zero, List.set_cons_succ])
  refine take_at 24 (v := ?vv25) rfl (by kernel_rfl) (by kernel_rfl) (by kernel_rfl) (fun _ _ _ h => h) (Or.inl ⟨by rfl, ?hy25⟩) (by assumption) ?rest25
  case hy25 => intro w hSw; (try dsimp only at hSw); go_simp; (try with_reducible rfl)
  (try simp only [Act.put, List.setIfInBounds_toArray, List.set_cons_zero, List.set_cons_succ])
  refine take_at 25 (v := ?vv26) rfl (by kernel_rfl) (by kernel_rfl) (by kernel_rfl) (fun _ _ _ h => h) (Or.inl ⟨by rfl, ?hy26⟩) (by assumption) ?rest26
  case hy26 => intro w hSw; (try dsimp only at hSw); go_simp; (try with_reducible rfl)
  (try simp only [Act.put, List.setIfInBounds_toArray, List.set_cons_zero, List.set_cons_succ])
  refine take_at 26 rfl (by kernel_rfl) (by kernel_rfl) (by kernel_rfl) (fun _ _ _ h => h) (yieldsIf_ld (by rfl) 30 (.tmp 4) rfl (.pointer (some ⟨g1, 0, none⟩)) rfl (.agg MT) (fun W hW => HLT.out W hW)) (by assumption) ?_
  (try simp only [Act.put, List.setIfInBounds_toArray, List.set_cons_zero, List.set_cons_succ])
  refine take_at 27 rfl (by kernel_rfl) (by kernel_rfl) (by kernel_rfl) (fun _ _ _ h => h) (yieldsIf_ld (by rfl) 33 (.tmp 5) rfl (.pointer (some ⟨g2, 0, none⟩)) rfl (.agg MX) (fun W hW => HLX.out W hW)) (by assumption) ?_
  (try simp only [Act.put, List.setIfInBounds_toArray, List.set_cons_zero, List.set_cons_succ])
  refine take_at 29 rfl (by kernel_rfl) (by kernel_rfl) (by kernel_rfl) (fun _ _ _ h => h) (yieldsIf_ld (by rfl) 30 (.tmp 4) rfl (.pointer (some ⟨g1, 0, none⟩)) rfl (.agg MT) (fun W hW => HLT.out W hW)) (by assumption) ?_
  (try simp only [Act.put, List.setIfInBounds_toArray, List.set_cons_zero, List.set_cons_succ])
  refine take_at 30 rfl (by kernel_rfl) (by kernel_rfl) (by kernel_rfl) (fun _ _ _ h => h) (yieldsIf_ld (by rfl) 33 (.tmp 5) rfl (.pointer (some ⟨g2, 0, none⟩)) rfl (.agg MX) (fun W hW => HLX.out W hW)) (by assumption) ?_
  (try simp only [Act.put, List.setIfInBounds_toArray, List.set_cons_zero, List.set_cons_succ])
  refine ready_at 28 rfl (by kernel_rfl) (fun K hK => ?_)
  go_simp
  refine (HU.out _ hHeld).mono ?_
  rintro r v7 ⟨u7, rfl, hi7, -, hb7⟩
  have hB7 := below_step hHeld hb7
  try clear hHeld
  first
    | refine hK.out _ _ ?hS31 (fun hHeld => ?rest31)
    | (go_wp2_with fail; refine hK.out _ _ ?hS31 (fun hHeld => ?rest31))
  case hS31 => exact hB7
  clear hK K
  (try simp only [Act.put, List.setIfInBounds_toArray, List.set_cons_zero, List.set_cons_succ])
  refine ready_at 31 rfl (by kernel_rfl) (fun K hK => ?_)
  go_simp
  refine (HUR.out _ hHeld).mono ?_
  rintro r v8 ⟨u8, rfl, hi8, -, hb8⟩
  have hB8 := below_step hHeld hb8
  have hi7 := hi7.later hb8
  try clear hHeld
  first
    | refine hK.out _ _ ?hS32 (fun hHeld => ?rest32)
    | (go_wp2_with fail; refine hK.out _ _ ?hS32 (fun hHeld => ?rest32))
  case hS32 => exact hB8
  clear hK K
  (try simp only [Act.put, List.setIfInBounds_toArray, List.set_cons_zero, List.set_cons_succ])
  refine ready_at 32 rfl (by kernel_rfl) (fun K hK => ?_)
  go_simp
  refine (HSU.out _ _ _ hi7 hi8).mono ?_
  rintro r x8 ⟨rfl, hc8⟩
  have hC8 := below_step hB8 hc8
  clear hi7 hi8
  first
    | refine hK.out _ _ ?hS33 (fun hHeld => ?rest33)
    | (go_wp2_with fail; refine hK.out _ _ ?hS33 (fun hHeld => ?rest33))
  case hS33 => exact hC8
  clear hK K
  (try simp only [Act.put, List.setIfInBounds_toArray, List.set_cons_zero, List.set_cons_succ])
  refine take_at 33 (v := ?vv34) rfl (by kernel_rfl) (by kernel_rfl) (by kernel_rfl) (fun _ _ _ h => h) (Or.inl ⟨by rfl, ?hy34⟩) (by assumption) ?rest34
  case hy34 => intro w hSw; (try dsimp only at hSw); go_simp; (try with_reducible rfl)
  (try simp only [Act.put, List.setIfInBounds_toArray, List.set_cons_zero, List.set_cons_succ])
  refine take_at 34 (v := ?vv35) rfl (by kernel_rfl) (by kernel_rfl) (by kernel_rfl) (fun _ _ _ h => h) (Or.inl ⟨by rfl, ?hy35⟩) (by assumption) ?rest35
  case hy35 => intro w hSw; (try dsimp only at hSw); go_simp; (try with_reducible rfl)
  (try simp only [Act.put, List.setIfInBounds_toArray, List.set_cons_zero, List.set_cons_succ])
  refine ready_at 35 rfl (by kernel_rfl) (fun K hK => ?_)
  go_simp
  refine (HLV.out _).mono ?_
  rintro r x9 ⟨rfl, hc9⟩
  have hC9 := below_step hHeld hc9
  first
    | refine hK.out _ _ ?hS36 (fun hHeld => ?rest36)
    | (go_wp2_with fail; refine hK.out _ _ ?hS36 (fun hHeld => ?rest36))
  case hS36 => exact hC9
  clear hK K
  (try simp only [Act.put, List.setIfInBounds_toArray, List.set_cons_zero, List.set_cons_succ])
  refine take_at 36 (v := ?vv37) rfl (by kernel_rfl) (by kernel_rfl) (by kernel_rfl) (fun _ _ _ h => h) (Or.inl ⟨by rfl, ?hy37⟩) (by assumption) ?rest37
  case hy37 => intro w hSw; (try dsimp only at hSw); go_simp; (try with_reducible rfl)
  (try simp only [Act.put, List.setIfInBounds_toArray, List.set_cons_zero, List.set_cons_succ])
  refine take_at 37 (v := ?vv38) rfl (by kernel_rfl) (by kernel_rfl) (by kernel_rfl) (fun _ _ _ h => h) (Or.inl ⟨by rfl, ?hy38⟩) (by assumption) ?rest38
  case hy38 => intro w hSw; (try dsimp only at hSw); go_simp; (try with_reducible rfl)
  (try simp only [Act.put, List.setIfInBounds_toArray, List.set_cons_zero, List.set_cons_succ])
  refine wpAnyH_done (by kernel_rfl) ?_ _
  go_wp2
  go_ret
  exact ⟨rfl, below_step HB.out hHeld⟩
end Go.Proofs.Ythibllnpjjoehaa

namespace Go.Proofs.Ythibllnpjjoehaa
set_option linter.unusedVariables false
open Go.RowKit Go.Lib

theorem keepE_dok {e : Pe} (h : dok e.dg) (B : List Int) : dok (keepE e B).1.dg := by
  unfold keepE
  split
  · exact h
  · split
    · exact h
    · exact dz32_ok
theorem keepT_dok {e : Pt} (h : dok e.dg) (B : List Int) : dok (keepT e B).1.dg := by
  unfold keepT
  split
  · exact h
  · split
    · exact dz32_ok
    · exact dz32_ok
set_option maxRecDepth 100000 in
set_option maxHeartbeats 4000000 in
theorem entrykeeps_any (hP : cPutOk) (hD : cDelOk) (hA : cAliveOk) (hAT : cAliveTOk) (hK : cKeepOk) (hKT : cKeepTOk) (e : Pe) (s : Value) (t : Pt) (u v : Value) (B : List Int) (w : World) (h1 : Is w s e.ins) (h2 : Is w u t.ins) (h3 : Is w v B) (hd1 : dok e.dg) (hd2 : dok t.dg) (hn1 : e.ins.length ≤ 1048576) (hn2 : t.ins.length ≤ 1048576) (hn3 : B.length ≤ 1048576) :
    Calls Try.prog 4 #[enV e s, tnV t u, v] w fun r w' => r = .returned (.bool true) ∧ Below w.heap.size w w' := by
  obtain ⟨wa, wB, g1, ha, hb, hg1, hB⟩ := box2 w (enC e s) (tnC t u) 28 30
  have HE : Hid (Em wB w.heap.size e s) := Lib.hid hB.a
  have HT : Hid (Tn wB g1 t u) := Lib.hid hB.z
  have HB := Lib.hid hB.le
  have H1 := Lib.hid fun W (hW : Below wB.heap.size wB W) => (h1.later hB.le).later hW
  have H2 := Lib.hid fun W (hW : Below wB.heap.size wB W) => (h2.later hB.le).later hW
  have H3 := Lib.hid fun W (hW : Below wB.heap.size wB W) => (h3.later hB.le).later hW
  have HLE := Lib.hid fun W (hW : Below wB.heap.size wB W) => (HE.out.later hW).load hd1.1
  have HLT := Lib.hid fun W (hW : Below wB.heap.size wB W) => (HT.out.later hW).load hd2.1
  have HCE := Lib.hid fun W (hW : Below wB.heap.size wB W) => (HE.out.later hW).cells hd1.1
  have HCT := Lib.hid fun W (hW : Below wB.heap.size wB W) => (HT.out.later hW).cells hd2.1
  obtain ⟨p2, c2, rfl, _⟩ := h3
  have HK := Lib.hid fun W (hW : Below wB.heap.size wB W) => hK e s _ B W (H1.out W hW) (H3.out W hW) hd1 (by omega) (by omega)
  have HKR := Lib.hid fun W (hW : Below wB.heap.size wB W) => (by
    obtain ⟨q, d, hq, hg, _⟩ := H3.out W hW
    simp only [Value.slice.injEq] at hq
    obtain ⟨rfl, -, rfl⟩ := hq
    exact (rkeep19_any e s p2 B.length c2 B W (H1.out W hW) hg hd1 (by omega) (by omega)).mono fun _ _ h => h.q s : Calls Try.prog 18 #[enV e s, .slice p2 B.length c2] W fun r w' => KeQ W s (keepE e B) r w')
  have HKT := Lib.hid fun W (hW : Below wB.heap.size wB W) => hKT t u _ B W (H2.out W hW) (H3.out W hW) hd2 (by omega) (by omega)
  have HKTR := Lib.hid fun W (hW : Below wB.heap.size wB W) => (by
    obtain ⟨q, d, hq, hg, _⟩ := H3.out W hW
    simp only [Value.slice.injEq] at hq
    obtain ⟨rfl, -, rfl⟩ := hq
    exact (rkeept19_any t u p2 B.length c2 B W (H2.out W hW) hg hd2 (by omega) (by omega)).mono fun _ _ h => h.q u : Calls Try.prog 20 #[tnV t u, .slice p2 B.length c2] W fun r w' => KtQ W u (keepT t B) r w')
  obtain ⟨kb, hkb⟩ : ∃ b, (e.k == 5) = b := ⟨_, rfl⟩
  have HKB : Hid (decide (e.k = 5) = kb) := Lib.hid (by rw [← hkb]; rfl)
  have HA := Lib.hid fun W (hW : Below wB.heap.size wB W) => hA e s W (H1.out W hW) hd1 (by omega)
  have HAT := Lib.hid fun W (hW : Below wB.heap.size wB W) => hAT t u W (H2.out W hW) hd2 (by omega)
  obtain ⟨p0, c0', rfl, _⟩ := h1
  obtain ⟨p1, c1', rfl, _⟩ := h2
  have HAR := Lib.hid fun W (hW : Below wB.heap.size wB W) => (by
    obtain ⟨q, d, hq, hg, _⟩ := H1.out W hW
    simp only [Value.slice.injEq] at hq
    obtain ⟨rfl, -, rfl⟩ := hq
    exact ralive19_any kb p0 e.ins.length c0' e.ins e.seg W hg (by omega) : Calls Try.prog 22 #[.bool kb, .slice p0 e.ins.length c0', .int .i64 e.seg] W fun r w' => r = .returned (.bool (aliveB kb e.ins e.seg)) ∧ w' = W)
  have HATR := Lib.hid fun W (hW : Below wB.heap.size wB W) => (by
    obtain ⟨q, d, hq, hg, _⟩ := H2.out W hW
    simp only [Value.slice.injEq] at hq
    obtain ⟨rfl, -, rfl⟩ := hq
    exact ralive19_any t.gone p1 t.ins.length c1' t.ins t.seg W hg (by omega) : Calls Try.prog 22 #[.bool t.gone, .slice p1 t.ins.length c1', .int .i64 t.seg] W fun r w' => r = .returned (.bool (aliveB t.gone t.ins t.seg)) ∧ w' = W)
  rw [HKB.out] at HA
  have HLV := Lib.hid fun W => lives19_any hP hD hA hK W
  have HDK := Lib.hid (keepE_dok hd1 B)
  have HDT := Lib.hid (keepT_dok hd2 B)
  have HSE := Lib.hid fun W a b (ha : Is W a (keepE e B).1.ins) (hb : Is W b (keepE e B).1.ins) => rsame19_any (keepE e B).1 a b W ha hb HDK.out (Nat.le_trans (keepE_length _ _) (by omega))
  have HST := Lib.hid fun W a b (ha : Is W a (keepT t B).1.ins) (hb : Is W b (keepT t B).1.ins) => rsamet19_any (keepT t B).1 a b W ha hb HDT.out (Nat.le_trans (keepT_length _ _) (by omega))
  have hBE : Below wB.heap.size wB wB := Below.refl _ _
  obtain ⟨AE, hAE⟩ : ∃ b, aliveB kb e.ins e.seg = b := ⟨_, rfl⟩
  obtain ⟨AT, hAT'⟩ : ∃ b, aliveB t.gone t.ins t.seg = b := ⟨_, rfl⟩
  rw [hAE] at HA HAR
  rw [hAT'] at HAT HATR
  generalize keepE e B = RE at *
  generalize keepT t B = RT at *
  obtain ⟨RE, okE⟩ := RE
  obtain ⟨RT, okT⟩ := RT
  dsimp only at *
  unfold enV tnV at *
  generalize enC e _ = ME at *
  generalize tnC t _ = MT at *
  obtain ⟨n0, hn0⟩ : ∃ n, e.ins.length = n := ⟨_, rfl⟩
  obtain ⟨m0, hm0⟩ : ∃ n, t.ins.length = n := ⟨_, rfl⟩
  obtain ⟨b0, hb0⟩ : ∃ n, B.length = n := ⟨_, rfl⟩
  rw [hb0] at HK HKR HKT HKTR ⊢
  rw [hn0] at HAR HCE
  rw [hm0] at HATR HCT
  clear hP hD hA hAT hK hKT hd1 hd2 hn1 hn2 hn3 hB hAE hAT' hn0 hm0 hb0 H1 H2 H3
  go_enter Try.func4, Try.ntmps4
  go_upto_region 2 with (first
    | (refine wpList_ld rfl 28 _ rfl _ rfl _ (HLE.out _ hBE) ?_)
    | (go_at_call 17; refine (HK.out _ hBE).mono ?_; rintro r w1 ⟨u1, rfl, hi1, -, hc1⟩; have HI1 := Lib.hid hi1; have HC1 := Lib.hid hc1; obtain ⟨q1, d1, rfl, _⟩ := hi1; clear hc1)
    | (refine wpList_store_row rfl 28 _ _ rfl w1.heap.size (enC RE _) rfl rfl 28 _ (heap_alloc_new _ _) (enC_sizeOf RE _ HDK.out.1) ((enC_size zeroE _ rfl).trans (enC_size RE _ HDK.out.1).symm) (enC_one _ _ _ _) ?_; generalize hv1 : World.setRow _ _ _ = v1))
  obtain ⟨he1, hbe1⟩ := enC_lay rfl hv1
  obtain ⟨x1, hx1⟩ : ∃ g, w1.heap.size = g := ⟨_, rfl⟩
  rw [hx1] at he1
  rw [hx1]
  have V1 : Hid (Ed v1 x1 RE _) := Lib.hid ⟨he1, HI1.out.later hbe1, HDK.out⟩
  have hst1 := below_step HC1.out hbe1
  have hB1 := below_step hBE hst1
  clear he1 hbe1 hv1 hx1 hst1
  go_upto_region 3 with (first
    | (refine wpList_ld rfl 28 _ rfl _ rfl _ (HLE.out _ hB1) ?_)
    | (go_at_call 18; refine (HKR.out _ hB1).mono ?_; rintro r w2 ⟨u2, rfl, hi2, -, hc2⟩; have HI2 := Lib.hid hi2; have HC2 := Lib.hid hc2; obtain ⟨q2, d2, rfl, _⟩ := hi2; clear hc2)
    | (refine wpList_store_row rfl 28 _ _ rfl w2.heap.size (enC RE _) rfl rfl 28 _ (heap_alloc_new _ _) (enC_sizeOf RE _ HDK.out.1) ((enC_size zeroE _ rfl).trans (enC_size RE _ HDK.out.1).symm) (enC_one _ _ _ _) ?_; generalize hv2 : World.setRow _ _ _ = v2))
  obtain ⟨he2, hbe2⟩ := enC_lay rfl hv2
  obtain ⟨x2, hx2⟩ : ∃ g, w2.heap.size = g := ⟨_, rfl⟩
  rw [hx2] at he2
  rw [hx2]
  have V2 : Hid (Ed v2 x2 RE _) := Lib.hid ⟨he2, HI2.out.later hbe2, HDK.out⟩
  have hst2 := below_step HC2.out hbe2
  have hB2 := below_step hB1 hst2
  have V1 := Lib.hid (V1.out.later hst2)
  clear he2 hbe2 hv2 hx2 hst2
  go_upto_region 4 with (first
    | (refine wpList_ld rfl 30 _ rfl _ rfl _ (HLT.out _ hB2) ?_)
    | (go_at_call 19; refine (HKT.out _ hB2).mono ?_; rintro r w3 ⟨u3, rfl, hi3, -, hc3⟩; have HI3 := Lib.hid hi3; have HC3 := Lib.hid hc3; obtain ⟨q3, d3, rfl, _⟩ := hi3; clear hc3)
    | (refine wpList_store_row rfl 30 _ _ rfl w3.heap.size (tnC RT _) rfl rfl 30 _ (heap_alloc_new _ _) (tnC_sizeOf RT _ HDT.out.1) ((tnC_size zeroT _ rfl).trans (tnC_size RT _ HDT.out.1).symm) (tnC_one _ _ _ _) ?_; generalize hv3 : World.setRow _ _ _ = v3))
  obtain ⟨he3, hbe3⟩ := tnC_lay rfl hv3
  obtain ⟨x3, hx3⟩ : ∃ g, w3.heap.size = g := ⟨_, rfl⟩
  rw [hx3] at he3
  rw [hx3]
  have V3 : Hid (Td v3 x3 RT _) := Lib.hid ⟨he3, HI3.out.later hbe3, HDT.out⟩
  have hst3 := below_step HC3.out hbe3
  have hB3 := below_step hB2 hst3
  have V1 := Lib.hid (V1.out.later hst3)
  have V2 := Lib.hid (V2.out.later hst3)
  clear he3 hbe3 hv3 hx3 hst3
  go_upto_region 5 with (first
    | (refine wpList_ld rfl 30 _ rfl _ rfl _ (HLT.out _ hB3) ?_)
    | (go_at_call 20; refine (HKTR.out _ hB3).mono ?_; rintro r w4 ⟨u4, rfl, hi4, -, hc4⟩; have HI4 := Lib.hid hi4; have HC4 := Lib.hid hc4; obtain ⟨q4, d4, rfl, _⟩ := hi4; clear hc4)
    | (refine wpList_store_row rfl 30 _ _ rfl w4.heap.size (tnC RT _) rfl rfl 30 _ (heap_alloc_new _ _) (tnC_sizeOf RT _ HDT.out.1) ((tnC_size zeroT _ rfl).trans (tnC_size RT _ HDT.out.1).symm) (tnC_one _ _ _ _) ?_; generalize hv4 : World.setRow _ _ _ = v4))
  obtain ⟨he4, hbe4⟩ := tnC_lay rfl hv4
  obtain ⟨x4, hx4⟩ : ∃ g, w4.heap.size = g := ⟨_, rfl⟩
  rw [hx4] at he4
  rw [hx4]
  have V4 : Hid (Td v4 x4 RT _) := Lib.hid ⟨he4, HI4.out.later hbe4, HDT.out⟩
  have hst4 := below_step HC4.out hbe4
  have hB4 := below_step hB3 hst4
  have V1 := Lib.hid (V1.out.later hst4)
  have V2 := Lib.hid (V2.out.later hst4)
  have V3 := Lib.hid (V3.out.later hst4)
  clear he4 hbe4 hv4 hx4 hst4
  obtain ⟨e0, _, e2, e3⟩ := HCE.out _ hB4
  obtain ⟨_, t1, t2, t3⟩ := HCT.out _ hB4
  have HV := Lib.hid fun W (hW : Below v4.heap.size v4 W) => (⟨V1.out.later hW, V2.out.later hW, V3.out.later hW, V4.out.later hW⟩ : Ed W x1 RE _ ∧ Ed W x2 RE _ ∧ Td W x3 RT _ ∧ Td W x4 RT _)
  have HSC : Hid ((fun W : World => W.cell? ⟨w.heap.size, 32, none⟩ = some (.int .i64 e.k) ∧ W.cell? ⟨w.heap.size, 34, none⟩ = some (.int .i64 e.seg) ∧ W.cell? ⟨w.heap.size, 37, none⟩ = some (.slice p0 n0 c0') ∧ W.cell? ⟨g1, 33, none⟩ = some (.bool t.gone) ∧ W.cell? ⟨g1, 34, none⟩ = some (.int .i64 t.seg) ∧ W.cell? ⟨g1, 37, none⟩ = some (.slice p1 m0 c1') ∧ Below v4.heap.size v4 W) v4) := Lib.hid ⟨e0, e2, e3, t1, t2, t3, Below.refl _ _⟩
  have HB4 := Lib.hid hB4
  clear e0 e2 e3 t1 t2 t3 hB1 hB2 hB3 hB4
  refine wp_region_held_drew (S := (fun W : World => W.cell? ⟨w.heap.size, 32, none⟩ = some (.int .i64 e.k) ∧ W.cell? ⟨w.heap.size, 34, none⟩ = some (.int .i64 e.seg) ∧ W.cell? ⟨w.heap.size, 37, none⟩ = some (.slice p0 n0 c0') ∧ W.cell? ⟨g1, 33, none⟩ = some (.bool t.gone) ∧ W.cell? ⟨g1, 34, none⟩ = some (.int .i64 t.seg) ∧ W.cell? ⟨g1, 37, none⟩ = some (.slice p1 m0 c1') ∧ Below v4.heap.size v4 W)) (by kernel_rfl) ⟨HSC.out.1, HSC.out.2.1, HSC.out.2.2.1, HSC.out.2.2.2.1, HSC.out.2.2.2.2.1, HSC.out.2.2.2.2.2.1, (Below.refl _ _).drew⟩ (fun hHeld => ?_)
  refine take_at 0 rfl (by kernel_rfl) (by kernel_rfl) (by kernel_rfl) (fun _ _ _ h => h) (yieldsIf_ld (by rfl) 28 (.tmp 3) rfl (.pointer (some ⟨w.heap.size, 0, none⟩)) rfl (.agg ME) (fun W hW => HLE.out W (below_step HB4.out hW.2.2.2.2.2.2))) (by assumption) ?_
  (try simp only [Act.put, List.setIfInBounds_toArray, List.set_cons_zero, List.set_cons_succ])
  refine take_at 2 (v := ?vv2) rfl (by kernel_rfl) (by kernel_rfl) (by kernel_rfl) (fun _ _ _ h => h) (Or.inl ⟨by rfl, ?hy2⟩) (by assumption) ?rest2
  case hy2 => intro w hSw; (try dsimp only at hSw); go_simp; (try with_reducible rfl)
  (try simp only [Act.put, List.setIfInBounds_toArray, List.set_cons_zero, List.set_cons_succ])
  refine take_at 3 (v := ?vv3) rfl (by kernel_rfl) (by kernel_rfl) (by kernel_rfl) (fun _ _ _ h => h) (Or.inl ⟨by rfl, ?hy3⟩) (by assumption) ?rest3
  case hy3 => intro w hSw; (try dsimp only at hSw); go_simp; (try with_reducible rfl)
  (try simp only [Act.put, List.setIfInBounds_toArray, List.set_cons_zero, List.set_cons_succ])
  refine take_at 4 (v := ?vv4) rfl (by kernel_rfl) (by kernel_rfl) (by kernel_rfl) (fun _ _ _ h => h) (Or.inl ⟨by rfl, ?hy4⟩) (by assumption) ?rest4
  case hy4 => intro w hSw; (try dsimp only at hSw); go_simp; (try with_reducible rfl)
  (try simp only [Act.put, List.setIfInBounds_toArray, List.set_cons_zero, List.set_cons_succ])
  refine take_at 5 (v := ?vv5) rfl (by kernel_rfl) (by kernel_rfl) (by kernel_rfl) (fun _ _ _ h => h) (Or.inl ⟨by rfl, ?hy5⟩) (by assumption) ?rest5
  case hy5 => intro w hSw; (try dsimp only at hSw); go_simp; (try with_reducible rfl)
  (try simp only [Act.put, List.setIfInBounds_toArray, List.set_cons_zero, List.set_cons_succ])
  refine take_at 6 (v := ?vv6) rfl (by kernel_rfl) (by kernel_rfl) (by kernel_rfl) (fun _ _ _ h => h) (Or.inl ⟨by rfl, ?hy6⟩) (by assumption) ?rest6
  case hy6 => intro w hSw; (try dsimp only at hSw); go_simp; (try with_reducible rfl)
  (try simp only [Act.put, List.setIfInBounds_toArray, List.set_cons_zero, List.set_cons_succ])
  refine take_at 7 (v := ?vv7) rfl (by kernel_rfl) (by kernel_rfl) (by kernel_rfl) (fun _ _ _ h => h) (Or.inl ⟨by rfl, ?hy7⟩) (by assumption) ?rest7
  case hy7 => intro w hSw; (try dsimp only at hSw); go_simp; (try with_reducible rfl)
  (try simp only [Act.put, List.setIfInBounds_toArray, List.set_cons_zero, List.set_cons_succ])
  refine take_at 8 (v := ?vv8) rfl (by kernel_rfl) (by kernel_rfl) (by kernel_rfl) (fun _ _ _ h => h) (Or.inl ⟨by rfl, ?hy8⟩) (by assumption) ?rest8
  case hy8 => intro w hSw; (try dsimp only at hSw); go_simp; (try with_reducible rfl)
  (try simp only [Act.put, List.setIfInBounds_toArray, List.set_cons_zero, List.set_cons_succ])
  refine take_at 9 (v := ?vv9) rfl (by kernel_rfl) (by kernel_rfl) (by kernel_rfl) (fun _ _ _ h => h) (Or.inl ⟨by rfl, ?hy9⟩) (by assumption) ?rest9
  case hy9 => intro w hSw; (try dsimp only at hSw); go_simp; (try with_reducible rfl)
  (try simp only [Act.put, List.setIfInBounds_toArray, List.set_cons_zero, List.set_cons_succ])
  refine ready_at 1 rfl (by kernel_rfl) (fun K hK => ?_)
  go_simp
  refine (HA.out _ (below_step HB4.out hHeld.2.2.2.2.2.2)).mono ?_
  rintro r w5 ⟨rfl, hc5⟩
  have hD5 := below_step hHeld.2.2.2.2.2.2 hc5
  obtain ⟨e0, _, e2, e3⟩ := HCE.out _ (below_step HB4.out hD5)
  obtain ⟨_, t1, t2, t3⟩ := HCT.out _ (below_step HB4.out hD5)
  clear hHeld hc5
  first
    | refine hK.out _ _ ?hS10 (fun hHeld => ?rest10)
    | (go_wp2_with fail; refine hK.out _ _ ?hS10 (fun hHeld => ?rest10))
  case hS10 => exact ⟨e0, e2, e3, t1, t2, t3, hD5⟩
  clear hK K
  (try simp only [Act.put, List.setIfInBounds_toArray, List.set_cons_zero, List.set_cons_succ])
  refine ready_at 10 rfl (by kernel_rfl) (fun K hK => ?_)
  go_simp
  refine (HAR.out _ (below_step HB4.out hD5)).mono ?_
  rintro r w6 ⟨rfl, hw6⟩
  subst hw6
  clear hHeld
  first
    | refine hK.out _ _ ?hS11 (fun hHeld => ?rest11)
    | (go_wp2_with fail; refine hK.out _ _ ?hS11 (fun hHeld => ?rest11))
  case hS11 => exact ⟨e0, e2, e3, t1, t2, t3, hD5⟩
  clear hK K
  (try simp only [Act.put, List.setIfInBounds_toArray, List.set_cons_zero, List.set_cons_succ])
  refine take_at 11 (v := ?vv12) rfl (by kernel_rfl) (by kernel_rfl) (by kernel_rfl) (fun _ _ _ h => h) (Or.inl ⟨by rfl, ?hy12⟩) (by assumption) ?rest12
  case hy12 => intro w hSw; (try dsimp only at hSw); go_simp; (try with_reducible rfl)
  (try simp only [Act.put, List.setIfInBounds_toArray, List.set_cons_zero, List.set_cons_succ])
  refine take_at 12 (v := ?vv13) rfl (by kernel_rfl) (by kernel_rfl) (by kernel_rfl) (fun _ _ _ h => h) (Or.inl ⟨by rfl, ?hy13⟩) (by assumption) ?rest13
  case hy13 => intro w hSw; (try dsimp only at hSw); go_simp; (try with_reducible rfl)
  (try simp only [Act.put, List.setIfInBounds_toArray, List.set_cons_zero, List.set_cons_succ])
  refine take_at 13 rfl (by kernel_rfl) (by kernel_rfl) (by kernel_rfl) (fun _ _ _ h => h) (yieldsIf_ld (by rfl) 30 (.tmp 4) rfl (.pointer (some ⟨g1, 0, none⟩)) rfl (.agg MT) (fun W hW => HLT.out W (below_step HB4.out hW.2.2.2.2.2.2))) (by assumption) ?_
  (try simp only [Act.put, List.setIfInBounds_toArray, List.set_cons_zero, List.set_cons_succ])
  refine take_at 15 (v := ?vv15) rfl (by kernel_rfl) (by kernel_rfl) (by kernel_rfl) (fun _ _ _ h => h) (Or.inl ⟨by rfl, ?hy15⟩) (by assumption) ?rest15
  case hy15 => intro w hSw; (try dsimp only at hSw); go_simp; (try with_reducible rfl)
  (try simp only [Act.put, List.setIfInBounds_toArray, List.set_cons_zero, List.set_cons_succ])
  refine take_at 16 (v := ?vv16) rfl (by kernel_rfl) (by kernel_rfl) (by kernel_rfl) (fun _ _ _ h => h) (Or.inl ⟨by rfl, ?hy16⟩) (by assumption) ?rest16
  case hy16 => intro w hSw; (try dsimp only at hSw); go_simp; (try with_reducible rfl)
  (try simp only [Act.put, List.setIfInBounds_toArray, List.set_cons_zero, List.set_cons_succ])
  refine take_at 17 (v := ?vv17) rfl (by kernel_rfl) (by kernel_rfl) (by kernel_rfl) (fun _ _ _ h => h) (Or.inl ⟨by rfl, ?hy17⟩) (by assumption) ?rest17
  case hy17 => intro w hSw; (try dsimp only at hSw); go_simp; (try with_reducible rfl)
  (try simp only [Act.put, List.setIfInBounds_toArray, List.set_cons_zero, List.set_cons_succ])
  refine take_at 18 (v := ?vv18) rfl (by kernel_rfl) (by kernel_rfl) (by kernel_rfl) (fun _ _ _ h => h) (Or.inl ⟨by rfl, ?hy18⟩) (by assumption) ?rest18
  case hy18 => intro w hSw; (try dsimp only at hSw); go_simp; (try with_reducible rfl)
  (try simp only [Act.put, List.setIfInBounds_toArray, List.set_cons_zero, List.set_cons_succ])
  refine take_at 19 (v := ?vv19) rfl (by kernel_rfl) (by kernel_rfl) (by kernel_rfl) (fun _ _ _ h => h) (Or.inl ⟨by rfl, ?hy19⟩) (by assumption) ?rest19
  case hy19 => intro w hSw; (try dsimp only at hSw); go_simp; (try with_reducible rfl)
  (try simp only [Act.put, List.setIfInBounds_toArray, List.set_cons_zero, List.set_cons_succ])
  refine take_at 20 (v := ?vv20) rfl (by kernel_rfl) (by kernel_rfl) (by kernel_rfl) (fun _ _ _ h => h) (Or.inl ⟨by rfl, ?hy20⟩) (by assumption) ?rest20
  case hy20 => intro w hSw; (try dsimp only at hSw); go_simp; (try with_reducible rfl)
  (try simp only [Act.put, List.setIfInBounds_toArray, List.set_cons_zero, List.set_cons_succ])
  refine take_at 21 (v := ?vv21) rfl (by kernel_rfl) (by kernel_rfl) (by kernel_rfl) (fun _ _ _ h => h) (Or.inl ⟨by rfl, ?hy21⟩) (by assumption) ?rest21
  case hy21 => intro w hSw; (try dsimp only at hSw); go_simp; (try with_reducible rfl)
  (try simp only [Act.put, List.setIfInBounds_toArray, List.set_cons_zero, List.set_cons_succ])
  refine ready_at 14 rfl (by kernel_rfl) (fun K hK => ?_)
  go_simp
  refine (HAT.out _ (below_step HB4.out hHeld.2.2.2.2.2.2)).mono ?_
  rintro r w7 ⟨rfl, hc7⟩
  have hD7 := below_step hHeld.2.2.2.2.2.2 hc7
  obtain ⟨e0, _, e2, e3⟩ := HCE.out _ (below_step HB4.out hD7)
  obtain ⟨_, t1, t2, t3⟩ := HCT.out _ (below_step HB4.out hD7)
  clear hHeld hc7
  first
    | refine hK.out _ _ ?hS22 (fun hHeld => ?rest22)
    | (go_wp2_with fail; refine hK.out _ _ ?hS22 (fun hHeld => ?rest22))
  case hS22 => exact ⟨e0, e2, e3, t1, t2, t3, hD7⟩
  clear hK K
  (try simp only [Act.put, List.setIfInBounds_toArray, List.set_cons_zero, List.set_cons_succ])
  refine ready_at 22 rfl (by kernel_rfl) (fun K hK => ?_)
  go_simp
  refine (HATR.out _ (below_step HB4.out hD7)).mono ?_
  rintro r w8 ⟨rfl, hw8⟩
  subst hw8
  clear hHeld
  first
    | refine hK.out _ _ ?hS23 (fun hHeld => ?rest23)
    | (go_wp2_with fail; refine hK.out _ _ ?hS23 (fun hHeld => ?rest23))
  case hS23 => exact ⟨e0, e2, e3, t1, t2, t3, hD7⟩
  clear hK K
  (try simp only [Act.put, List.setIfInBounds_toArray, List.set_cons_zero, List.set_cons_succ])
  refine take_at 23 (v := ?vv24) rfl (by kernel_rfl) (by kernel_rfl) (by kernel_rfl) (fun _ _ _ h => h) (Or.inl ⟨by rfl, ?hy24⟩) (by assumption) ?rest24
  case hy24 => intro w hSw; (try dsimp only at hSw); go_simp; (try with_reducible rfl)
  (try simp only [Act.put, List.setIfInBounds_toArray, List.set_cons_zero, List.set_cons_succ])
  refine take_at 24 (v := ?vv25) rfl (by kernel_rfl) (by kernel_rfl) (by kernel_rfl) (fun _ _ _ h => h) (Or.inl ⟨by rfl, ?hy25⟩) (by assumption) ?rest25
  case hy25 => intro w hSw; (try dsimp only at hSw); go_simp; (try with_reducible rfl)
  (try simp only [Act.put, List.setIfInBounds_toArray, List.set_cons_zero, List.set_cons_succ])
  refine wpAnyH_done (by kernel_rfl) ?_ _
  have HV5 := HV.out _ hHeld.2.2.2.2.2.2
  have HB5 := Lib.hid (below_step HB4.out hHeld.2.2.2.2.2.2)
  clear hHeld
  obtain ⟨E1, E2, T1, T2⟩ := HV5
  have HE1 := Lib.hid E1
  have HE2 := Lib.hid E2
  have HT1 := Lib.hid T1
  have HT2 := Lib.hid T2
  have HL1 := Lib.hid (E1.m.load HDK.out.1)
  have HL2 := Lib.hid (E2.m.load HDK.out.1)
  have hok1 : (okE == okE) = true := by simp
  have hok2 : (okT == okT) = true := by simp
  clear E1 E2 T1 T2
  go_wp2_with (first
    | (refine wpList_ld rfl 28 _ rfl _ rfl _ HL1.out ?_)
    | (refine wpList_ld rfl 28 _ rfl _ rfl _ HL2.out ?_)
    | (go_at_call 6; refine (HSE.out _ _ _ HE1.out.i HE2.out.i).mono ?_; rintro r wS ⟨rfl, hcS⟩; have HCS := Lib.hid hcS; have HL3 := Lib.hid ((HT1.out.later hcS).m.load HDT.out.1); have HL4 := Lib.hid ((HT2.out.later hcS).m.load HDT.out.1); have HT1' := Lib.hid (HT1.out.later hcS); have HT2' := Lib.hid (HT2.out.later hcS); clear hcS)
    | (refine wpList_wanted (by rfl) fun K hK => wp_ld 30 _ rfl _ rfl _ HL3.out (hK _ _ ?_); clear hK K)
    | (refine wpList_wanted (by rfl) fun K hK => wp_ld 30 _ rfl _ rfl _ HL4.out (hK _ _ ?_); clear hK K)
    | (go_at_call 11; refine (HST.out _ _ _ HT1'.out.i HT2'.out.i).mono ?_; rintro r wT ⟨rfl, hcT⟩; have HCT' := Lib.hid (below_step HCS.out hcT); clear hcT)
    | (go_at_call 16; refine (HLV.out _).mono ?_; rintro r wL ⟨rfl, hcL⟩; have HCL := Lib.hid (below_step HCT'.out hcL); clear hcL))
  go_ret
  exact ⟨rfl, below_step HB.out (below_step HB5.out HCL.out)⟩
end Go.Proofs.Ythibllnpjjoehaa

namespace Go.Proofs.Ythibllnpjjoehaa
set_option linter.unusedVariables false
open Go.RowKit Go.Lib

set_option maxRecDepth 100000 in
set_option maxHeartbeats 4000000 in
theorem entryfewer_any (hP : cPutOk) (hD : cDelOk) (hA : cAliveOk) (hK : cKeepOk) (e : Pe) (s u v : Value) (A B : List Int) (w : World) (h1 : Is w s e.ins) (h2 : Is w u A) (h3 : Is w v B) (hd1 : dok e.dg) (hn1 : e.ins.length ≤ 1048576) (hn2 : A.length ≤ 1048576) (hn3 : B.length ≤ 1048576) :
    Calls Try.prog 5 #[enV e s, u, v] w fun r w' => r = .returned (.bool true) ∧ Below w.heap.size w w' := by
  obtain ⟨wB, hwB⟩ : ∃ W, w.alloc (.cells (enC e s) 28) = W := ⟨_, rfl⟩
  have hBl : Below w.heap.size w wB := by rw [← hwB]; exact (Below.refl _ _).alloc (Nat.le_refl _) _
  have HE : Hid (Em wB w.heap.size e s) := Lib.hid (by rw [← hwB]; exact heap_alloc_new _ _)
  have HB := Lib.hid hBl
  have H1 := Lib.hid fun W (hW : Below wB.heap.size wB W) => (h1.later hBl).later hW
  have H2 := Lib.hid fun W (hW : Below wB.heap.size wB W) => (h2.later hBl).later hW
  have HLE := Lib.hid fun W (hW : Below wB.heap.size wB W) => (HE.out.later hW).load hd1.1
  have HK1 := Lib.hid fun W s2 (hW : Below wB.heap.size wB W) (hs : Is W s2 (A ++ B)) => hK e s s2 (A ++ B) W (H1.out W hW) hs hd1 (by omega) (by rw [List.length_append]; omega)
  have HK2 := Lib.hid fun W (hW : Below wB.heap.size wB W) => hK e s u A W (H1.out W hW) (H2.out W hW) hd1 (by omega) (by omega)
  have HDK := Lib.hid (keepE_dok hd1 (A ++ B))
  have HDB := Lib.hid (keepE_dok hd1 A)
  have hlk : (keepE e (A ++ B)).1.ins.length ≤ 2097152 := Nat.le_trans (keepE_length _ _) (by omega)
  have HK3 := Lib.hid fun W s2 (hW : Below wB.heap.size wB W) (hs : Is W s2 (keepE e (A ++ B)).1.ins) => hK (keepE e (A ++ B)).1 s2 u A W hs (H2.out W hW) HDK.out hlk (by omega)
  have HDC := Lib.hid (keepE_dok HDK.out A)
  have hfew := keepE_fewer e A B
  have HSE := Lib.hid fun W a b (ha : Is W a (keepE e A).1.ins) (hb : Is W b (keepE e A).1.ins) => rsame19_any (keepE e A).1 a b W ha hb HDB.out (Nat.le_trans (keepE_length _ _) (by omega))
  have HLV := Lib.hid fun W => lives19_any hP hD hA hK W
  obtain ⟨R1, hR1⟩ : ∃ R, keepE e (A ++ B) = R := ⟨_, rfl⟩
  rw [hR1] at HK1 HDK HK3 HDC hfew
  obtain ⟨R2, hR2⟩ : ∃ R, keepE e A = R := ⟨_, rfl⟩
  rw [hR2] at HK2 HDB hfew HSE
  obtain ⟨R3, hR3⟩ : ∃ R, keepE R1.1 A = R := ⟨_, rfl⟩
  rw [hR3] at HK3 HDC hfew
  obtain ⟨p2, c2, rfl, hg2, hpc2, hnc2, _⟩ := h2
  obtain ⟨p3, c3, rfl, hg3, hpc3, hnc3, _⟩ := h3
  obtain ⟨R1, ok1⟩ := R1
  obtain ⟨R2, ok2⟩ := R2
  obtain ⟨R3, ok3⟩ := R3
  dsimp only at *
  have HG2 := Lib.hid fun W (hW : Below wB.heap.size wB W) => (hg2.later hBl).later hW
  have HG3 := Lib.hid fun W (hW : Below wB.heap.size wB W) => (hg3.later hBl).later hW
  have HP2 := Lib.hid hpc2
  have HP3 := Lib.hid hpc3
  have HNA : Hid (([] : List Int).length + A.length ≤ 2097216) := Lib.hid (by simp; omega)
  have HNB : Hid (A.length + B.length ≤ 2097216) := Lib.hid (by omega)
  have HAL := Lib.hid ((Below.refl wB.heap.size wB).alloc (Nat.le_refl _) (.cells #[] encI.t))
  have HAW := Lib.hid (Gw.empty encI wB wB.heap.size (Nat.le_refl _))
  unfold enV at *
  generalize enC e _ = ME at *
  obtain ⟨nA, hnA⟩ : ∃ n, A.length = n := ⟨_, rfl⟩
  obtain ⟨nB, hnB⟩ : ∃ n, B.length = n := ⟨_, rfl⟩
  rw [hnA] at HK2 HK3 HG2 HNA HNB
  rw [hnB] at HG3 HNB
  rw [hnA, hnB]
  have HFW := Lib.hid hfew
  have HLA := Lib.hid hnA
  clear hP hD hA hK h1 hd1 hn1 hn2 hn3 hBl hR1 hR2 hR3 hlk hg2 hg3 hpc2 hpc3 hnc2 hnc3 hnA hnB H1 H2 hfew
  go_enter Try.func5, Try.ntmps5
  go_upto_region 2 with (first
    | (refine wpList_append_gen encI rfl (.tmp 14) (.tmp 15) 26 rfl Try.underlying26 (.int .i64 0) 8 infoI rfl (by decide) wB.heap.size _ _ rfl HAW.out _ nA c2 A rfl (HG2.out _ HAL.out) HP2.out HNA.out HAL.out.size ?_; intro a1 w1 ho1 hg1; rw [List.nil_append] at ho1; have HO1 := Lib.hid ho1; have HB1 : Hid (Below wB.heap.size wB w1) := Lib.hid (below_new_gw HAL.out HAW.out hg1 HAL.out.size); clear ho1 hg1)
    | (refine wpList_append_gen encI rfl (.tmp 16) (.tmp 17) 26 rfl Try.underlying26 (.int .i64 0) 8 infoI rfl (by decide) wB.heap.size _ _ rfl HO1.out _ nB c3 B rfl (HG3.out _ HB1.out) HP3.out (by have h := HNB.out; have h2 := HLA.out; omega) HB1.out.size ?_; intro a2 w2 ho2 hg2; have HO2 := Lib.hid ho2.is; have hB2 : Below wB.heap.size wB w2 := below_new_gw HB1.out HO1.out hg2 HB1.out.size; clear ho2 hg2))
  go_upto_region 3 with (first
    | (refine wpList_ld rfl 28 _ rfl _ rfl _ (HLE.out _ hB2) ?_)
    | (go_at_call 17; refine (HK1.out _ _ hB2 HO2.out).mono ?_; rintro r w3 ⟨u3, rfl, hi3, -, hc3⟩; have HI3 := Lib.hid hi3; have HC3 := Lib.hid hc3; obtain ⟨q3, d3, rfl, _⟩ := hi3; clear hc3)
    | (refine wpList_store_row rfl 28 _ _ rfl w3.heap.size (enC R1 _) rfl rfl 28 _ (heap_alloc_new _ _) (enC_sizeOf R1 _ HDK.out.1) ((enC_size zeroE _ rfl).trans (enC_size R1 _ HDK.out.1).symm) (enC_one _ _ _ _) ?_; generalize hv3 : World.setRow _ _ _ = v3))
  obtain ⟨he3, hbe3⟩ := enC_lay rfl hv3
  obtain ⟨x3, hx3⟩ : ∃ g, w3.heap.size = g := ⟨_, rfl⟩
  rw [hx3] at he3
  rw [hx3]
  have V3 : Hid (Ed v3 x3 R1 _) := Lib.hid ⟨he3, HI3.out.later hbe3, HDK.out⟩
  have hst3 := below_step HC3.out hbe3
  have hB3 := below_step hB2 hst3
  clear he3 hbe3 hv3 hx3 hst3
  go_upto_region 4 with (first
    | (refine wpList_ld rfl 28 _ rfl _ rfl _ (HLE.out _ hB3) ?_)
    | (go_at_call 17; refine (HK2.out _ hB3).mono ?_; rintro r w4 ⟨u4, rfl, hi4, -, hc4⟩; have HI4 := Lib.hid hi4; have HC4 := Lib.hid hc4; obtain ⟨q4, d4, rfl, _⟩ := hi4; clear hc4)
    | (refine wpList_store_row rfl 28 _ _ rfl w4.heap.size (enC R2 _) rfl rfl 28 _ (heap_alloc_new _ _) (enC_sizeOf R2 _ HDB.out.1) ((enC_size zeroE _ rfl).trans (enC_size R2 _ HDB.out.1).symm) (enC_one _ _ _ _) ?_; generalize hv4 : World.setRow _ _ _ = v4))
  obtain ⟨he4, hbe4⟩ := enC_lay rfl hv4
  obtain ⟨x4, hx4⟩ : ∃ g, w4.heap.size = g := ⟨_, rfl⟩
  rw [hx4] at he4
  rw [hx4]
  have V4 : Hid (Ed v4 x4 R2 _) := Lib.hid ⟨he4, HI4.out.later hbe4, HDB.out⟩
  have hst4 := below_step HC4.out hbe4
  have hB4 := below_step hB3 hst4
  have V3 := Lib.hid (V3.out.later hst4)
  clear he4 hbe4 hv4 hx4 hst4
  have HL3 := Lib.hid (V3.out.m.load HDK.out.1)
  go_upto_region 5 with (first
    | (refine wpList_ld rfl 28 _ rfl _ rfl _ HL3.out ?_)
    | (go_at_call 17; refine (HK3.out _ _ hB4 V3.out.i).mono ?_; rintro r w5 ⟨u5, rfl, hi5, -, hc5⟩; have HI5 := Lib.hid hi5; have HC5 := Lib.hid hc5; obtain ⟨q5, d5, rfl, _⟩ := hi5; clear hc5)
    | (refine wpList_store_row rfl 28 _ _ rfl w5.heap.size (enC R3 _) rfl rfl 28 _ (heap_alloc_new _ _) (enC_sizeOf R3 _ HDC.out.1) ((enC_size zeroE _ rfl).trans (enC_size R3 _ HDC.out.1).symm) (enC_one _ _ _ _) ?_; generalize hv5 : World.setRow _ _ _ = v5))
  obtain ⟨he5, hbe5⟩ := enC_lay rfl hv5
  obtain ⟨x5, hx5⟩ : ∃ g, w5.heap.size = g := ⟨_, rfl⟩
  rw [hx5] at he5
  rw [hx5]
  have V5 : Hid (Ed v5 x5 R3 _) := Lib.hid ⟨he5, HI5.out.later hbe5, HDC.out⟩
  have hst5 := below_step HC5.out hbe5
  have hB5 := below_step hB4 hst5
  have V3 := Lib.hid (V3.out.later hst5)
  have V4 := Lib.hid (V4.out.later hst5)
  clear he5 hbe5 hv5 hx5 hst5
  have HB5 := Lib.hid hB5
  clear hB2 hB3 hB4 hB5 HL3
  rcases HFW.out with ⟨e1, e2⟩ | ⟨e1, e2⟩
  · subst e1 e2
    go_wp2_with (go_at_call 16; refine (HLV.out _).mono ?_; rintro r wL ⟨rfl, hcL⟩; have HCL := Lib.hid (below_step HB5.out hcL); clear hcL)
    go_ret
    exact ⟨rfl, below_step HB.out HCL.out⟩
  · simp only [Prod.mk.injEq] at e2
    obtain ⟨e2, e3⟩ := e2
    subst e1 e2 e3
    have HL4 := Lib.hid (V4.out.m.load HDB.out.1)
    have HL5 := Lib.hid (V5.out.m.load HDB.out.1)
    have hok : ∀ b : Bool, (b == b) = true := fun b => by simp
    have HSM := Lib.hid (HSE.out _ _ _ V4.out.i V5.out.i)
    go_wp2_with (first
      | (refine wpList_wanted (by rfl) fun K hK => wp_ld 28 _ rfl _ rfl _ HL4.out (hK _ _ ?_); clear hK K)
      | (refine wpList_wanted (by rfl) fun K hK => wp_ld 28 _ rfl _ rfl _ HL5.out (hK _ _ ?_); clear hK K)
      | (go_at_call 6; refine HSM.out.mono ?_; rintro r wS ⟨rfl, hcS⟩; have HCS := Lib.hid (below_step HB5.out hcS); clear hcS)
      | (go_at_call 16; refine (HLV.out _).mono ?_; rintro r wL ⟨rfl, hcL⟩; have HCL := Lib.hid (below_step HCS.out hcL); clear hcL))
    go_ret
    exact ⟨rfl, below_step HB.out HCL.out⟩
end Go.Proofs.Ythibllnpjjoehaa
