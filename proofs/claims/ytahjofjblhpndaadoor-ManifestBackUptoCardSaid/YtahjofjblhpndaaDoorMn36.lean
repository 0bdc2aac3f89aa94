/- Layer 17, the program: Text -/
import Derived.Test.YtahjofjblhpndaaDoorMn10
import Derived.Test.YtahjofjblhpndaaDoorMn15
import Derived.Test.YtahjofjblhpndaaDoorMn16
import Derived.Test.YtahjofjblhpndaaDoorMn28
import Derived.Test.YtahjofjblhpndaaDoorMn35
import Derived.Lib.SmallJoins
import Derived.Lib.SlBytesConst
set_option linter.unusedSimpArgs false
set_option linter.unusedVariables false
namespace Go.Proofs.YtahjofjblhpndaaDoor
set_option linter.unusedVariables false
open Go.RowKit Go.Lib

/-- bytes that are the call's own, or such as fill their row -/
def Oq (w : World) (B : Nat) (v : Value) (zs : List Int) : Prop :=
  (∀ j, 0 ≤ zs.getD j 0 ∧ zs.getD j 0 < 256) ∧ (Ob w B 5 v zs ∨ ∃ g, v = .slice (some ⟨g, 0, none⟩) zs.length zs.length ∧ Bs w (some ⟨g, 0, none⟩) zs.length zs ∧ zs.length ≤ maxLen)
theorem Oq.later {w w' : World} {B : Nat} {v : Value} {zs : List Int} (h : Oq w B v zs) (hb : Below w.heap.size w w') : Oq w' B v zs := by
  obtain ⟨h0, h | ⟨g, h1, h2, h3⟩⟩ := h
  · exact ⟨h0, Or.inl (h.later hb)⟩
  · exact ⟨h0, Or.inr ⟨g, h1, h2.later hb, h3⟩⟩
theorem Oq.open {w : World} {B : Nat} {v : Value} {zs : List Int} (h : Oq w B v zs) : ∃ p c, v = .slice p zs.length c ∧ zs.length ≤ c ∧ c ≤ maxLen ∧ Bs w p zs.length zs ∧ (p = none → c = 0) := by
  obtain ⟨h0, h | ⟨g, h1, h2, h3⟩⟩ := h
  · obtain ⟨p, c, hv, a, b, c', d⟩ := h.open
    exact ⟨p, c, hv, a, b, c', d⟩
  · exact ⟨_, _, h1, Nat.le_refl _, h3, h2, fun e => by cases e⟩
/-- 'append(s, x...)', x a string that isn't empty -/
theorem wpList_append_oq {w0 w : World} {ops : Array Oper} {rest : List Oper} {o : Oper} {a : Act} {Q : Exit → Act → World → Prop} (hgd : o.guard = none) (sl x : Operand) (t u : TypeId)
    (ho : o.op = .call { callee := .builtin .append, args := #[sl, x], argTypes := #[t, u] }) (ht : Tryd.prog.underlying t = some (.slice 5)) (hu : Tryd.prog.underlying u = some .string)
    (B : Nat) (v : Value) (zs : List Int) (hs : a.eval sl = v) (hob : Oq w B v zs) (s : ByteArray) (hx : a.eval x = .string s) (h0 : 0 < s.size)
    (hbytes : zs.length + s.size ≤ 140737488355328) (hB : B ≤ w.heap.size) (hle : Below B w0 w)
    (h : ∀ v' w', Oq w' B v' (zs ++ numsOf s) → Below B w0 w' → wpList Tryd.prog ops Q rest (a.put o.dst v') w') : wpList Tryd.prog ops Q (o :: rest) a w := by
  obtain ⟨hby, hob | ⟨g, rfl, hbs, hml⟩⟩ := hob
  · refine wpList_append_text hgd sl x t u 5 ho ht hu info8 B v zs hs hob s hx hbytes hB fun v' w' h1 h2 => h v' w' ⟨h1.1, Or.inl h1⟩ ?_
    exact hle.grown h2 hB (fun j hj => (hob.2.lt j hj).1)
  · obtain ⟨i, hi, hzz⟩ := Option.map_eq_some_iff.1 info8
    simp only [Prod.mk.injEq] at hzz
    obtain ⟨hz, hsz, hb⟩ := hzz
    have hold : ∀ j u, (zs.map (Value.int .u8))[j]? = some u → w.cell? ((⟨g, 0, none⟩ : Addr).add j) = some u := by
      intro j u' hj
      have hjl : j < zs.length := by
        have := (List.getElem?_eq_some_iff.1 hj).1
        rwa [List.length_map] at this
      rcases hbs.2.2 with h1 | ⟨b, off, hp, hc⟩
      · omega
      · simp only [Option.some.injEq, Addr.mk.injEq, and_true] at hp
        obtain ⟨rfl, rfl⟩ := hp
        have h1 := hc j hjl
        rw [Nat.zero_add] at h1
        rw [WideShapes.add_plain, Nat.zero_add, h1, ← hj, List.getElem?_map, List.getD_eq_getElem?_getD, List.getElem?_eq_getElem hjl]
        rfl
    have hr := run_append_grow_string (P := Tryd.prog) w t u o.type 5 i (.int .u8 0) ht hu hi hz ⟨g, 0, none⟩ zs.length zs.length (zs.map (Value.int .u8)) (by rw [List.length_map, hsz, Nat.mul_one]) hold s (by omega) (by omega) (by rw [hb]; exact growslice_fits (by omega) (by omega))
    have hge := grownCap_ge w (zs.length + s.size) zs.length 5
    have hcm2 : grownCap w (zs.length + s.size) zs.length 5 ≤ maxLen := grownCap_le_maxLen w (zs.length + s.size) zs.length 5 (by unfold maxLen at *; omega)
    have e1 : strCells s = (numsOf s).map (Value.int .u8) := by simp [strCells, numsOf, Function.comp_def]
    have hlen : (zs ++ numsOf s).length = zs.length + s.size := by rw [List.length_append, numsOf_length]
    refine wpList_plain hgd fun K hK => ?_
    unfold Oper.wp execOp
    simp only [ho, resolve, invoke, builtin, Sem.run_bind, Sem.run_pure, Result.andThen_ok, List.map_toArray, List.map_cons, List.map_nil, hs, hx, hr]
    refine hK _ _ (h _ _ ⟨bytes_append hby (numsOf_byte s), Or.inl ⟨bytes_append hby (numsOf_byte s), ?_, Or.inr ⟨w.heap.size, grownCap w (zs.length + s.size) zs.length 5, _, by rw [hlen], hB, heap_alloc_new w.drew _, by rw [hlen]; exact hge, hcm2, ?_, ?_⟩⟩⟩ ?_)
    · simp
    · have hz1 : (Value.int IntKind.u8 0).cells.size = 1 := rfl
      simp only [Array.size_append, List.size_toArray, size_zeroCells, hz1, List.length_map, strCells_length]
      omega
    · rw [e1]
      simp only [Array.toList_append, List.append_assoc]
      rw [← List.append_assoc, ← List.map_append, hlen]
      rw [show (zs.length + s.size) * 1 = ((zs ++ numsOf s).map (Value.int .u8)).length by rw [List.length_map, hlen, Nat.mul_one]]
      exact List.take_left
    · exact hle.grown (row := none) ⟨rfl, rfl, rfl, by simp, fun k hk _ => heap_alloc_old w.drew _ hk⟩ hB (fun k hk => by cases hk)
theorem first11 : numsOf ⟨#[115, 116, 105, 108, 108, 97, 103, 101, 32, 49, 10]⟩ = firstL ++ [10] := by decide
/-- 'l[:h]' of references -/
theorem Gs.rf_to {W : World} {b off len : Nat} {L : List Fx} (hb : Gs encRf W (some ⟨b, off, none⟩) len L) (cap h : Nat) (hlc : len ≤ cap) (hh : h ≤ len) :
    (∀ W', (Instr.slice 22 (.slice (some ⟨b, off, none⟩) len cap) none (some (.int .i64 (h : Int))) none).run Tryd.prog W' = .ok (.slice (some ⟨b, off, none⟩) h cap) W') ∧ Gs encRf W (some ⟨b, off, none⟩) h (L.take h) := by
  have ht : Tryd.prog.underlying 22 = some (.slice encRf.t) := Tryd.underlying22
  have hz : ∀ w, (Go.sizeOf encRf.t).run Tryd.prog w = .ok encRf.k w := Tryd.sizeOf41
  have ht' : Tryd.prog.underlying 22 = some (.slice (Tryd.prog.elem 22)) := by simp [Program.elem, ht]
  have he : Tryd.prog.elem 22 = encRf.t := by simp [Program.elem, ht]
  refine ⟨fun W' => ?_, hb.take h hh⟩
  rw [run_slice_h W' 22 _ _ _ ht' .i64 _ (by omega) (by omega), he, hz]
  simp [Result.andThen, sliced, Addr.add]
set_option maxRecDepth 100000 in
set_option maxHeartbeats 2000000 in
theorem cmtext_ok : cmTextOk Lw := by
  intro p n c L w h hpc hlc hk hn hLw
  have H := Lib.hid h
  have HK := Lib.hid hk
  have HLW := Lib.hid hLw
  have HLC := Lib.hid hlc
  have HLN := Lib.hid (show (rfL L).length = n by rw [rfL_length, h.len])
  have HTE := Lib.hid (show tE (rfL L) = if (rfL L).length > 64 then 8 else tGo [] (rfL L) from rfl)
  have HTB := Lib.hid (show tE (rfL L) = 0 → tB (rfL L) = txtN (rfL L) from fun h0 => by unfold tB txtN; rw [if_pos h0])
  rw [HLN.out] at HTE
  have HDK : Hid (∀ r ∈ rfL L, dok r.dg) := Lib.hid (fun r hr => by
    obtain ⟨x, hx, rfl⟩ := List.mem_map.1 hr
    exact (hk x hx).dg)
  clear h hk hpc hlc hLw
  by_cases h64 : n > 64
  · have hd' : decide ((64 : Int) < n) = true := decide_eq_true (by omega)
    have h64' : (64 : Int) < n := by omega
    rw [if_pos h64] at HTE
    go_enter Tryd.func6, Tryd.ntmps6
    go_wp2
    go_ret2
    exact TxQ.of (tE_no (by rw [HTE.out]; decide)) HTE.out none 0 0 (Bs.empty _ _) (Nat.le_refl _) (Nat.zero_le _) (fun _ => rfl) (Below.refl _ _)
  · have hd' : decide ((64 : Int) < n) = false := decide_eq_false (by omega)
    have h64' : ¬ (64 : Int) < n := by omega
    rw [if_neg h64] at HTE
    have HN64 : Hid (n ≤ 64) := Lib.hid (by omega)
    have kc := fun (W : World) (C : Array Value) (n c : Nat) => Lib.run_convert_bytes_const (P := Tryd.prog) W 23 5 C n c Tryd.underlying23 Tryd.underlying5
    have hfb : ∀ j, 0 ≤ (firstL ++ [10]).getD j 0 ∧ (firstL ++ [10]).getD j 0 < 256 := by rw [← first11]; exact numsOf_byte _
    have HO0 : Hid (Oq (w.alloc (.cells #[.int .u8 115, .int .u8 116, .int .u8 105, .int .u8 108, .int .u8 108, .int .u8 97, .int .u8 103, .int .u8 101, .int .u8 32, .int .u8 49, .int .u8 10] 5 (11, 12))) w.heap.size (.slice (some ⟨w.heap.size, 0, none⟩) 11 11) (txtN ((rfL L).take 0))) := Lib.hid (by
      have e : txtN ((rfL L).take 0) = firstL ++ [10] := by rw [List.take_zero]; rfl
      rw [e]
      exact ⟨hfb, Or.inr ⟨_, rfl, bs_lit_fr w 5 _ (11, 12) (firstL ++ [10]) 11 rfl hfb rfl, by unfold maxLen; decide⟩⟩)
    have HB0 : Hid (Below w.heap.size w (w.alloc (.cells #[.int .u8 115, .int .u8 116, .int .u8 105, .int .u8 108, .int .u8 108, .int .u8 97, .int .u8 103, .int .u8 101, .int .u8 32, .int .u8 49, .int .u8 10] 5 (11, 12)))) := Lib.hid ((Below.refl _ _).alloc (Nat.le_refl _) _)
    clear h64 hn hfb
    go_enter Tryd.func6, Tryd.ntmps6
    go_wp2
    go_loopw [4, 14] (fun ov iv wr => ∃ (k : Nat) (q : Option Addr) (m c' : Nat), k ≤ n ∧ ov = .slice q m c' ∧ iv = .int .i64 (k : Int) ∧ Hid (Oq wr w.heap.size (.slice q m c') (txtN ((rfL L).take k))) ∧ Hid ((txtN ((rfL L).take k)).length ≤ 11 + k * 87) ∧ Hid (tE (rfL L) = tGo ((rfL L).take k) ((rfL L).drop k)) ∧ Hid (Below w.heap.size w wr)) (fun _ iv _ => n - (Lib.intOf iv).toNat)
    case atStart => exact ⟨0, _, _, _, by omega, rfl, rfl, HO0, Lib.hid (by rw [List.take_zero]; decide), HTE, HB0⟩
    case round =>
      obtain ⟨k, q, m, c', hkn, rfl, rfl, HO, HTS, HE, HB⟩ := hrel
      by_cases hlt : k < n
      · have hds := H.out.later HB.out
        obtain ⟨b, off, x, rfl, hx1, hx2, hx3, hr⟩ := hds.rf k hlt
        have hki : (k : Int) < (n : Int) := by omega
        have hk0 : (0 : Int) ≤ (k : Int) := by omega
        have HXK := Lib.hid (HK.out x hx3)
        have HST := Lib.hid (tGo_step hx2)
        have HTN := Lib.hid (txtN_step hx2)
        rw [← HE.out] at HST
        have HLD := Lib.hid (rf_load hr)
        have HSO : Hid (sizeOk x.1 = (x.1.m || decide (0 ≤ x.1.z ∧ x.1.z ≤ 999999999))) := Lib.hid rfl
        obtain ⟨hsl, _⟩ := H.out.rf_to c k HLC.out (by omega)
        have HHA := Lib.hid fun W (hW : Below w.heap.size w W) => mhas_any (some ⟨b, off, none⟩) k c (L.take k) x.1.dg W ((H.out.later hW).take k (by omega)) (fun y hy => HK.out y (List.mem_of_mem_take hy)) HXK.out.dg (by have := HN64.out; omega)
        have etw : ((rfL (L.take k)).any fun y => decide (y.dg = x.1.dg)) = twice ((rfL L).take k) x.1 := by rw [rfL_take]; rfl
        rw [etw] at HHA
        have HSZ := Lib.hid fun W => misz_any x.1.z W
        have HLI := Lib.hid fun W (hs : sizeOk x.1 = true) hW => mline_any x.1 W HXK.out hs hW
        unfold Rf.v at HLI
        have HLL := Lib.hid fun (hs : sizeOk x.1 = true) => (by rw [numsOf_strOfNums (byt_fin fun y hy => by
            rcases List.mem_append.1 hy with h1 | h1
            · exact lineN_mem HXK.out.dg y h1
            · rw [List.mem_singleton] at h1; omega)] : numsOf (strOfNums (lineN x.1 ++ [10])) = lineN x.1 ++ [10])
        have HLZ := Lib.hid fun (hs : sizeOk x.1 = true) => (by rw [strOf_size, List.length_append, List.length_singleton]; exact Nat.succ_le_succ (lineN_length HXK.out.dg hs) : (strOfNums (lineN x.1 ++ [10])).size ≤ 87)
        have HLP := Lib.hid (by rw [strOf_size, List.length_append, List.length_singleton]; omega : 0 < (strOfNums (lineN x.1 ++ [10])).size)
        have HXD := Lib.hid x.2
        obtain ⟨d, hd⟩ : ∃ d : Bool, decide (0 ≤ x.1.z ∧ x.1.z ≤ 999999999) = d := ⟨_, rfl⟩
        rw [hd] at HSO HSZ
        obtain ⟨tb, htb⟩ : ∃ b, twice ((rfL L).take k) x.1 = b := ⟨_, rfl⟩
        rw [htb] at HST HHA
        clear hds hx1 hx2 hx3 hr hd htb etw
        obtain ⟨mm, hmm⟩ : ∃ m, x.1.m = m := ⟨_, rfl⟩
        rw [hmm] at HSO
        have HMM := Lib.hid hmm
        clear hmm
        cases hso : sizeOk x.1
        · have HE20 : Hid (tE (rfL L) = 20) := Lib.hid (by have h1 := HST.out; rw [hso] at h1; rw [h1]; rfl)
          rw [hso] at HSO
          have hmm : mm = false := by have h1 := HSO.out; cases mm; rfl; cases h1
          have hdd : d = false := by have h1 := HSO.out; cases d; rfl; rw [hmm] at h1; cases h1
          subst hmm hdd
          clear HST HSO HLI HLL HLZ hso
          go_wp2_with (first
            | (refine wpList_ld rfl 41 _ rfl _ rfl _ HLD.out ?_)
            | (refine wpList_store_row rfl 41 _ _ rfl wr.heap.size _ rfl rfl 41 _ (heap_alloc_new _ _) (Rf.sizeOf x.1 HXD.out) (Rf.sizes rf0 x.1 rfl HXD.out) x.1.one ?_; generalize hw2 : World.setRow _ _ _ = w2; have HLY := Lib.hid (lay_rf hw2); have HB2 := Lib.hid (below_step HB.out HLY.out.2); obtain ⟨c0, c33⟩ := HLY.out.1.cells HXD.out; rw [HMM.out] at c0; clear hw2)
            | (go_at_call 13; refine (HSZ.out _).mono ?_; rintro e w3 ⟨rfl, rfl⟩))
          go_ret2
          exact TxQ.of (tE_no (by rw [HE20.out]; decide)) HE20.out none 0 0 (Bs.empty _ _) (Nat.le_refl _) (Nat.zero_le _) (fun _ => rfl) HB2.out
        · have HSK := Lib.hid hso
          rw [hso] at HSO
          rw [if_neg (by rw [hso]; decide)] at HST
          clear hso
          have HNX : Hid (tb = false → tE (rfL L) = tGo ((rfL L).take (k + 1)) ((rfL L).drop (k + 1))) := Lib.hid fun e => by rw [HST.out, e]; rfl
          have HSV : Hid (tb = true → tE (rfL L) = 7) := Lib.hid fun e => by rw [HST.out, e]; rfl
          have HNL := HLL.out HSK.out
          have HLI2 := Lib.hid fun W hW => HLI.out W HSK.out hW
          have hlz := HLZ.out HSK.out
          have hlp := HLP.out
          obtain ⟨S, hS⟩ : ∃ s, strOfNums (lineN x.1 ++ [10]) = s := ⟨_, rfl⟩
          rw [hS] at HLI2 HNL hlz hlp
          have HLS := Lib.hid (And.intro hlp hlz)
          have HNS := Lib.hid HNL
          have HTL : Hid ((txtN ((rfL L).take (k + 1))).length ≤ 11 + (k + 1) * 87) := Lib.hid (by
            have h1 := HTS.out
            rw [HTN.out, List.length_append, List.length_append, List.length_singleton]
            have h2 := lineN_length HXK.out.dg HSK.out
            omega)
          rw [← HNS.out] at HTN
          clear HLI HLL HLZ HLP HNL hlz hlp hS HST
          have hcase : mm = true ∨ (mm = false ∧ d = true) := by
            have h1 := HSO.out
            cases mm
            · exact Or.inr ⟨rfl, by rw [Bool.false_or] at h1; exact h1.symm⟩
            · exact Or.inl rfl
          clear HSO
          rcases hcase with rfl | ⟨rfl, rfl⟩
          · skip
            cases tb
            · go_wp2_with (first
                | (refine wpList_ld rfl 41 _ rfl _ rfl _ HLD.out ?_)
                | (refine wpList_store_row rfl 41 _ _ rfl wr.heap.size _ rfl rfl 41 _ (heap_alloc_new _ _) (Rf.sizeOf x.1 HXD.out) (Rf.sizes rf0 x.1 rfl HXD.out) x.1.one ?_; generalize hw2 : World.setRow _ _ _ = w2; have HLY := Lib.hid (lay_rf hw2); have HB2 := Lib.hid (below_step HB.out HLY.out.2); obtain ⟨c0, c33⟩ := HLY.out.1.cells HXD.out; rw [HMM.out] at c0; clear hw2)
                | (go_at_call 13; refine (HSZ.out _).mono ?_; rintro e w3 ⟨rfl, rfl⟩))
              have CH := Lib.hid fun (U : Fut w2.heap.size w2) => (Calls.fut (Nat.le_refl _) (HHA.out U.W (below_step HB2.out U.le)) : Calls Tryd.prog 14 #[.slice (some ⟨b, off, none⟩) k c, .agg (bcs x.1.dg)] U.W fun e w' => e = .returned (.bool false) ∧ ∃ V : Fut w2.heap.size w2, w' = V.W)
              have HLU := Lib.hid fun (W : World) (h : ∃ U : Fut w2.heap.size w2, W = U.W) => (by obtain ⟨U, rfl⟩ := h; exact Mx.loadDig (P := Tryd.prog) (HLY.out.1.later U.le) 39 Tryd.underlying39 rfl (by rw [HXD.out]; exact size32) 1 rfl : (Instr.loadAt 39 (.pointer (some ⟨wr.heap.size, 1, none⟩))).run Tryd.prog W = .ok (.agg (bcs x.1.dg)) W)
              refine wp_region_quiet_fut w2.heap.size (by kernel_rfl) (by kernel_rfl) ?_
              repeat (first
                | (refine qwant (by rfl) fun K hK => qload 39 _ rfl _ rfl _ HLU.out (hK _ ?_); clear hK K)
                | (quiet_step (first
                  | (go_at_call 14; exact CH.out _))))
              refine wpQuiet_nil ?_
              intro w4 hw'
              obtain ⟨U4, hU4⟩ := hw'
              have hb4 : Below w2.heap.size w2 w4 := by rw [hU4]; exact U4.le
              clear hU4 U4
              have HB4 := Lib.hid (below_step HB2.out hb4)
              have HF4 : Hid (Fm w4 wr.heap.size x.1) := Lib.hid (HLY.out.1.later hb4)
              have HBW := Lib.hid hb4
              clear hb4 CH HLU
              have HO4 := Lib.hid (HO.out.later (below_step HLY.out.2 HBW.out))
              go_wp2_with (first
                | (refine wpList_ld rfl 41 _ rfl _ rfl _ (HF4.out.load HXD.out) ?_)
                | (go_at_call 15; refine (HLI2.out _ (HLW.out.later HB4.out)).mono ?_; rintro e w5 ⟨rfl, hb5⟩; have HB5 := Lib.hid (below_step HB4.out hb5); have HO5 := Lib.hid (HO4.out.later hb5); clear hb5)
                | (refine wpList_append_oq (w0 := w) rfl _ _ 23 9 rfl Tryd.underlying23 Tryd.underlying9 w.heap.size _ _ rfl HO5.out S rfl HLS.out.1 (by have h1 := HTS.out; have h2 := HLS.out; have h3 := HN64.out; omega) HB5.out.size HB5.out ?_; intro v6 w6 ho6 hb6; rw [← HTN.out] at ho6; obtain ⟨p6, c6, hv6, _⟩ := ho6.open; subst hv6; have HO6 := Lib.hid ho6; have HB6 := Lib.hid hb6; clear ho6 hb6))
              exact ⟨⟨k + 1, _, _, _, by omega, rfl, by go_num, HO6, HTL, Lib.hid (HNX.out (by first | rfl | trivial)), HB6⟩, by simp [Lib.intOf] <;> omega⟩
            · go_wp2_with (first
                | (refine wpList_ld rfl 41 _ rfl _ rfl _ HLD.out ?_)
                | (refine wpList_store_row rfl 41 _ _ rfl wr.heap.size _ rfl rfl 41 _ (heap_alloc_new _ _) (Rf.sizeOf x.1 HXD.out) (Rf.sizes rf0 x.1 rfl HXD.out) x.1.one ?_; generalize hw2 : World.setRow _ _ _ = w2; have HLY := Lib.hid (lay_rf hw2); have HB2 := Lib.hid (below_step HB.out HLY.out.2); obtain ⟨c0, c33⟩ := HLY.out.1.cells HXD.out; rw [HMM.out] at c0; clear hw2)
                | (go_at_call 13; refine (HSZ.out _).mono ?_; rintro e w3 ⟨rfl, rfl⟩))
              have CH := Lib.hid fun (U : Fut w2.heap.size w2) => (Calls.fut (Nat.le_refl _) (HHA.out U.W (below_step HB2.out U.le)) : Calls Tryd.prog 14 #[.slice (some ⟨b, off, none⟩) k c, .agg (bcs x.1.dg)] U.W fun e w' => e = .returned (.bool true) ∧ ∃ V : Fut w2.heap.size w2, w' = V.W)
              have HLU := Lib.hid fun (W : World) (h : ∃ U : Fut w2.heap.size w2, W = U.W) => (by obtain ⟨U, rfl⟩ := h; exact Mx.loadDig (P := Tryd.prog) (HLY.out.1.later U.le) 39 Tryd.underlying39 rfl (by rw [HXD.out]; exact size32) 1 rfl : (Instr.loadAt 39 (.pointer (some ⟨wr.heap.size, 1, none⟩))).run Tryd.prog W = .ok (.agg (bcs x.1.dg)) W)
              refine wp_region_quiet_fut w2.heap.size (by kernel_rfl) (by kernel_rfl) ?_
              repeat (first
                | (refine qwant (by rfl) fun K hK => qload 39 _ rfl _ rfl _ HLU.out (hK _ ?_); clear hK K)
                | (quiet_step (first
                  | (go_at_call 14; exact CH.out _))))
              refine wpQuiet_nil ?_
              intro w4 hw'
              obtain ⟨U4, hU4⟩ := hw'
              have hb4 : Below w2.heap.size w2 w4 := by rw [hU4]; exact U4.le
              clear hU4 U4
              have HB4 := Lib.hid (below_step HB2.out hb4)
              have HF4 : Hid (Fm w4 wr.heap.size x.1) := Lib.hid (HLY.out.1.later hb4)
              have HBW := Lib.hid hb4
              clear hb4 CH HLU
              go_wp2
              (try simp only [Exit.inBlock, Exit.then])
              go_ret2
              have HE7 : tE (rfL L) = 7 := HSV.out (by first | rfl | trivial)
              exact TxQ.of (tE_no (by rw [HE7]; decide)) HE7 none 0 0 (Bs.empty _ _) (Nat.le_refl _) (Nat.zero_le _) (fun _ => rfl) HB4.out
          · skip
            cases tb
            · go_wp2_with (first
                | (refine wpList_ld rfl 41 _ rfl _ rfl _ HLD.out ?_)
                | (refine wpList_store_row rfl 41 _ _ rfl wr.heap.size _ rfl rfl 41 _ (heap_alloc_new _ _) (Rf.sizeOf x.1 HXD.out) (Rf.sizes rf0 x.1 rfl HXD.out) x.1.one ?_; generalize hw2 : World.setRow _ _ _ = w2; have HLY := Lib.hid (lay_rf hw2); have HB2 := Lib.hid (below_step HB.out HLY.out.2); obtain ⟨c0, c33⟩ := HLY.out.1.cells HXD.out; rw [HMM.out] at c0; clear hw2)
                | (go_at_call 13; refine (HSZ.out _).mono ?_; rintro e w3 ⟨rfl, rfl⟩))
              have CH := Lib.hid fun (U : Fut w2.heap.size w2) => (Calls.fut (Nat.le_refl _) (HHA.out U.W (below_step HB2.out U.le)) : Calls Tryd.prog 14 #[.slice (some ⟨b, off, none⟩) k c, .agg (bcs x.1.dg)] U.W fun e w' => e = .returned (.bool false) ∧ ∃ V : Fut w2.heap.size w2, w' = V.W)
              have HLU := Lib.hid fun (W : World) (h : ∃ U : Fut w2.heap.size w2, W = U.W) => (by obtain ⟨U, rfl⟩ := h; exact Mx.loadDig (P := Tryd.prog) (HLY.out.1.later U.le) 39 Tryd.underlying39 rfl (by rw [HXD.out]; exact size32) 1 rfl : (Instr.loadAt 39 (.pointer (some ⟨wr.heap.size, 1, none⟩))).run Tryd.prog W = .ok (.agg (bcs x.1.dg)) W)
              refine wp_region_quiet_fut w2.heap.size (by kernel_rfl) (by kernel_rfl) ?_
              repeat (first
                | (refine qwant (by rfl) fun K hK => qload 39 _ rfl _ rfl _ HLU.out (hK _ ?_); clear hK K)
                | (quiet_step (first
                  | (go_at_call 14; exact CH.out _))))
              refine wpQuiet_nil ?_
              intro w4 hw'
              obtain ⟨U4, hU4⟩ := hw'
              have hb4 : Below w2.heap.size w2 w4 := by rw [hU4]; exact U4.le
              clear hU4 U4
              have HB4 := Lib.hid (below_step HB2.out hb4)
              have HF4 : Hid (Fm w4 wr.heap.size x.1) := Lib.hid (HLY.out.1.later hb4)
              have HBW := Lib.hid hb4
              clear hb4 CH HLU
              have HO4 := Lib.hid (HO.out.later (below_step HLY.out.2 HBW.out))
              go_wp2_with (first
                | (refine wpList_ld rfl 41 _ rfl _ rfl _ (HF4.out.load HXD.out) ?_)
                | (go_at_call 15; refine (HLI2.out _ (HLW.out.later HB4.out)).mono ?_; rintro e w5 ⟨rfl, hb5⟩; have HB5 := Lib.hid (below_step HB4.out hb5); have HO5 := Lib.hid (HO4.out.later hb5); clear hb5)
                | (refine wpList_append_oq (w0 := w) rfl _ _ 23 9 rfl Tryd.underlying23 Tryd.underlying9 w.heap.size _ _ rfl HO5.out S rfl HLS.out.1 (by have h1 := HTS.out; have h2 := HLS.out; have h3 := HN64.out; omega) HB5.out.size HB5.out ?_; intro v6 w6 ho6 hb6; rw [← HTN.out] at ho6; obtain ⟨p6, c6, hv6, _⟩ := ho6.open; subst hv6; have HO6 := Lib.hid ho6; have HB6 := Lib.hid hb6; clear ho6 hb6))
              exact ⟨⟨k + 1, _, _, _, by omega, rfl, by go_num, HO6, HTL, Lib.hid (HNX.out (by first | rfl | trivial)), HB6⟩, by simp [Lib.intOf] <;> omega⟩
            · go_wp2_with (first
                | (refine wpList_ld rfl 41 _ rfl _ rfl _ HLD.out ?_)
                | (refine wpList_store_row rfl 41 _ _ rfl wr.heap.size _ rfl rfl 41 _ (heap_alloc_new _ _) (Rf.sizeOf x.1 HXD.out) (Rf.sizes rf0 x.1 rfl HXD.out) x.1.one ?_; generalize hw2 : World.setRow _ _ _ = w2; have HLY := Lib.hid (lay_rf hw2); have HB2 := Lib.hid (below_step HB.out HLY.out.2); obtain ⟨c0, c33⟩ := HLY.out.1.cells HXD.out; rw [HMM.out] at c0; clear hw2)
                | (go_at_call 13; refine (HSZ.out _).mono ?_; rintro e w3 ⟨rfl, rfl⟩))
              have CH := Lib.hid fun (U : Fut w2.heap.size w2) => (Calls.fut (Nat.le_refl _) (HHA.out U.W (below_step HB2.out U.le)) : Calls Tryd.prog 14 #[.slice (some ⟨b, off, none⟩) k c, .agg (bcs x.1.dg)] U.W fun e w' => e = .returned (.bool true) ∧ ∃ V : Fut w2.heap.size w2, w' = V.W)
              have HLU := Lib.hid fun (W : World) (h : ∃ U : Fut w2.heap.size w2, W = U.W) => (by obtain ⟨U, rfl⟩ := h; exact Mx.loadDig (P := Tryd.prog) (HLY.out.1.later U.le) 39 Tryd.underlying39 rfl (by rw [HXD.out]; exact size32) 1 rfl : (Instr.loadAt 39 (.pointer (some ⟨wr.heap.size, 1, none⟩))).run Tryd.prog W = .ok (.agg (bcs x.1.dg)) W)
              refine wp_region_quiet_fut w2.heap.size (by kernel_rfl) (by kernel_rfl) ?_
              repeat (first
                | (refine qwant (by rfl) fun K hK => qload 39 _ rfl _ rfl _ HLU.out (hK _ ?_); clear hK K)
                | (quiet_step (first
                  | (go_at_call 14; exact CH.out _))))
              refine wpQuiet_nil ?_
              intro w4 hw'
              obtain ⟨U4, hU4⟩ := hw'
              have hb4 : Below w2.heap.size w2 w4 := by rw [hU4]; exact U4.le
              clear hU4 U4
              have HB4 := Lib.hid (below_step HB2.out hb4)
              have HF4 : Hid (Fm w4 wr.heap.size x.1) := Lib.hid (HLY.out.1.later hb4)
              have HBW := Lib.hid hb4
              clear hb4 CH HLU
              go_wp2
              (try simp only [Exit.inBlock, Exit.then])
              go_ret2
              have HE7 : tE (rfL L) = 7 := HSV.out (by first | rfl | trivial)
              exact TxQ.of (tE_no (by rw [HE7]; decide)) HE7 none 0 0 (Bs.empty _ _) (Nat.le_refl _) (Nat.zero_le _) (fun _ => rfl) HB4.out
      · obtain rfl : k = n := by omega
        obtain ⟨p', c2, hv, h1, h2, h3, h4⟩ := HO.out.open
        simp only [Value.slice.injEq] at hv
        obtain ⟨rfl, rfl, rfl⟩ := hv
        have e1 : (rfL L).take k = rfL L := List.take_of_length_le (by rw [HLN.out]; exact Nat.le_refl _)
        rw [e1] at h1 h3 ⊢
        have HE0 : Hid (tE (rfL L) = 0) := Lib.hid (by have := HE.out; rw [List.drop_of_length_le (by rw [HLN.out]; exact Nat.le_refl _)] at this; rw [this]; rfl)
        have H5 := Lib.hid (And.intro h1 (And.intro h2 (And.intro h3 h4)))
        obtain ⟨N, hN⟩ : ∃ N, (txtN (rfL L)).length = N := ⟨_, rfl⟩
        rw [hN] at H5 ⊢
        clear h1 h2 h3 h4 HO HTS HE hN e1
        go_wp2
        go_ret2
        exact TxQ.of (HTB.out HE0.out) HE0.out q N c' H5.out.2.2.1 H5.out.1 H5.out.2.1 H5.out.2.2.2 HB.out
end Go.Proofs.YtahjofjblhpndaaDoor
