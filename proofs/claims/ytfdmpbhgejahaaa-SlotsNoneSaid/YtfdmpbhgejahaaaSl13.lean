/- The reference of layer 18: Cut -/
import Derived.Test.YtfdmpbhgejahaaaSl6
import Derived.Test.YtfdmpbhgejahaaaSl11
import Derived.Test.YtfdmpbhgejahaaaSl12
import Derived.Great.BuildSlice
import Derived.Laws.ResultCell
import Derived.Laws.Rows
set_option linter.unusedSimpArgs false
set_option linter.unusedVariables false
namespace Go.Proofs.Ytfdmpbhgejahaaa
set_option linter.unusedVariables false
open Go.RowKit Go.Lib

def przero : Value := .agg (mixC [] dzero [.int .i64 0])
theorem infoPr : (Try.prog.info? encPr.t).map (fun i => (i.zero, i.size, i.bytes)) = some (some przero, encPr.k, 40) := by kernel_rfl
theorem przero_size : przero.cells.size = encPr.k := by kernel_rfl
theorem Px.size (q : Px) : (mixC [] q.1.dg q.1.t).size = 33 := by rw [mixC_size, q.2]; rfl
/-- '[]Pair{x}', at one operation -/
theorem wp_build_pr {o : Oper} {a : Act} {w : World} {K : Act → World → Prop} {Q : Exit → Act → World → Prop} (t : TypeId) (x : Nat) (ho : o.op = .buildSlice t 1 #[(0, .tmp x)])
    (hu : Try.prog.underlying t = some (.slice 42)) (q : Px) (hx : a.eval (.tmp x) = .agg (mixC [] q.1.dg q.1.t))
    (h : K (a.put o.dst (.slice (some ⟨w.heap.size, 0, none⟩) 1 1)) (w.alloc (.cells (mixC [] q.1.dg q.1.t) 42))) : o.wp Try.prog a w K Q := by
  obtain ⟨i, hi, hzz⟩ := Option.map_eq_some_iff.1 infoPr
  simp only [Prod.mk.injEq] at hzz
  obtain ⟨hz, hsz, _⟩ := hzz
  have hsz' : i.size = 33 := hsz
  refine wp_buildSlice t 42 1 _ ho (mixC [] q.1.dg q.1.t) i _ hu hi hz (by rw [hsz']; decide) (by rw [hsz']; decide) ?_ h
  rw [hsz']
  have hf := Great.fill_whole (s := 33) (by decide) [.agg (mixC [] q.1.dg q.1.t)] ((Array.range (1 * 33)).map (przero.cells[· % przero.cells.size]!)) (by
    intro v hv
    rw [List.mem_singleton] at hv
    subst hv
    exact q.size) (by simp)
  have e : (#[(0, Operand.tmp x)].map fun (p : Nat × Operand) => (p.1, a.eval p.2)).toList = [((0 : Nat), Value.agg (mixC [] q.1.dg q.1.t))] := by
    simp [hx]
  rw [e]
  refine (Eq.trans ?_ hf).trans ?_
  · rfl
  · simp [Value.cells]
theorem Gs.onePr (w : World) (q : Px) : Gs encPr (w.alloc (.cells (mixC [] q.1.dg q.1.t) 42)) (some ⟨w.heap.size, 0, none⟩) 1 [q] := Gs.one encPr w q _ rfl _ _
/-- block b holds a table -/
def Bt (w : World) (b : Nat) (v : Value) (s : Int) : Prop := w.heap[b]? = some (.cells #[v, .int .i64 s] 27 (0, 0))
theorem size2T : (Try.prog.info? 27).map (·.size) = some 2 := by kernel_rfl
theorem Bt.lt {w : World} {b : Nat} {v : Value} {s : Int} (h : Bt w b v s) : b < w.heap.size := (Array.getElem?_eq_some_iff.1 h).1
theorem Bt.later {w w' : World} {b : Nat} {v : Value} {s : Int} (h : Bt w b v s) (hb : Below w.heap.size w w') : Bt w' b v s := (hb.block _ h.lt).trans h
theorem Bt.cells {w : World} {b : Nat} {v : Value} {s : Int} (h : Bt w b v s) : w.cell? ⟨b, 0, none⟩ = some v ∧ w.cell? ⟨b, 1, none⟩ = some (.int .i64 s) ∧ w.frozen? ⟨b, 0, none⟩ = false ∧ w.frozen? ⟨b, 1, none⟩ = false :=
  ⟨by rw [cell_of_row w b 0 _ _ _ h]; rfl, by rw [cell_of_row w b 1 _ _ _ h]; rfl, frozen_of_row w b 0 _ _ h, frozen_of_row w b 1 _ _ h⟩
theorem Bt.kept {w w' : World} {b : Nat} {v : Value} {s : Int} {row : Option Nat} (h : Bt w b v s) (hg : w.grownBy w' row) (hne : some b ≠ row) : Bt w' b v s := (hg.block b h.lt hne).trans h
theorem Bt.not_row {w : World} {b B : Nat} {v u : Value} {s : Int} {L : List Px} (h : Bt w b v s) (hr : Gw encPr w B u L) : some b ≠ u.ownBlock := by
  rcases hr.2 with ⟨rfl, _⟩ | ⟨g, cap, cur, rfl, _, hgb, _⟩
  · simp [Value.ownBlock]
  · intro e'
    obtain rfl : b = g := by simpa [Value.ownBlock] using e'
    have h1 := (show w.heap[b]? = _ from h).symm.trans hgb
    simp only [Option.some.injEq, Obj.cells.injEq] at h1
    have h2 : 27 = encPr.t := h1.2.1
    exact absurd h2 (by decide)
theorem Bt.set0 {w : World} {b : Nat} {v : Value} {s : Int} (h : Bt w b v s) (u : Value) : Bt (w.setCell ⟨b, 0, none⟩ u) b u s := by
  unfold Bt
  rw [heap_setCell_same w b 0 _ _ _ h]
  rfl
theorem Bt.set1 {w : World} {b : Nat} {v : Value} {s : Int} (h : Bt w b v s) (s' : Int) : Bt (w.setCell ⟨b, 1, none⟩ (.int .i64 s')) b v s' := by
  unfold Bt
  rw [heap_setCell_same w b 1 _ _ _ h]
  rfl
theorem Bt.row {w : World} {b : Nat} {v u : Value} {s s' : Int} (h : Bt w b v s) : Bt (w.setRow b #[u, .int .i64 s']) b u s' := setRow_heap w b _ _ _ _ h
theorem Bt.load {w : World} {b : Nat} {p : Option Addr} {n c : Nat} {s : Int} (h : Bt w b (.slice p n c) s) : (Instr.loadAt 27 (.pointer (some ⟨b, 0, none⟩))).run Try.prog w = .ok (tabV p n c s) w := by
  have hr : w.rangeAt b 0 [.slice p n c, .int .i64 s] := fun i v hv => by
    rw [Nat.zero_add, cell_of_row w b i _ _ _ h]
    simpa using hv
  exact run_loadAt_mid w b 0 27 _ _ hr Try.underlying27 rfl (by kernel_rfl)
theorem Bt.res1 {fn : Func} {p : Tmp} {w : World} {b : Nat} {q : Option Addr} {n c : Nat} {s : Int} (h : Bt w b (.slice q n c) s) (hr : fn.results = #[.cell p 27]) (tmps : Array Value)
    (hp : tmps.getD p undef = .pointer (some ⟨b, 0, none⟩)) : (Go.results fn tmps).run Try.prog w = .ok (tabV q n c s) w :=
  results_cell_row hr tmps w b _ _ _ _ hp h Try.underlying27 rfl size2T
theorem gw_set {α : Type} {E : Ec α} {w : World} {B b j : Nat} {v u : Value} {L : List α} (h : Gw E w B v L) (hne : some b ≠ v.ownBlock) : Gw E (w.setCell ⟨b, j, none⟩ u) B v L := by
  obtain ⟨hl, h2⟩ := h
  refine ⟨hl, ?_⟩
  rcases h2 with h2 | ⟨g, cap, cur, hv, hB, hgb, r⟩
  · exact Or.inl h2
  · have hg : g ≠ b := fun e => hne (by rw [hv, e]; rfl)
    exact Or.inr ⟨g, cap, cur, hv, hB, (heap_setCell_other w ⟨b, j, none⟩ g u hg).trans hgb, r⟩
theorem Bt.set_other {w : World} {b b' j : Nat} {v u : Value} {s : Int} (h : Bt w b v s) (hne : b ≠ b') : Bt (w.setCell ⟨b', j, none⟩ u) b v s := (heap_setCell_other w ⟨b', j, none⟩ b u hne).trans h
set_option maxRecDepth 100000 in
set_option maxHeartbeats 2000000 in
theorem rcut18_any (p : Option Addr) (n c : Nat) (s : Int) (L : List Px) (d : List Int) (w : World) (h : Gs encPr w p n L) (hk : ∀ x ∈ L, dok x.1.dg) (hd : dok d) (hn : n ≤ 1048576) :
    Calls Try.prog 12 #[tabV p n c s, .agg (bcs d)] w fun e w' => ∃ (q : Option Addr) (m c' : Nat) (M : List Px), e = .returned (tabV q m c' s) ∧ prL M = cutN (prL L) d ∧ Gw encPr w' (w.heap.size + 2) (.slice q m c') M ∧ (∀ x ∈ M, x ∈ L) ∧ Below w.heap.size w w' := by
  obtain ⟨wA, wB, g, hA, hB, hg, hbx⟩ := box_td w p n c s d hd.1
  have HX := Lib.hid hbx
  have H := Lib.hid h
  have HK := Lib.hid hk
  have HD := Lib.hid hd
  have HLL : Hid ((prL L).length = n) := Lib.hid (by rw [prL_length, h.len])
  obtain ⟨wC, hC⟩ : ∃ W, wB.alloc (.cells #[.slice none 0 0, .int .i64 0] 27) = W := ⟨_, rfl⟩
  obtain ⟨g4, hg4⟩ : ∃ x, wB.heap.size = x := ⟨_, rfl⟩
  obtain ⟨wD, hD⟩ : ∃ W, wC.alloc (.cells #[.slice none 0 0, .int .i64 s] 27) = W := ⟨_, rfl⟩
  obtain ⟨g5, hg5⟩ : ∃ x, wC.heap.size = x := ⟨_, rfl⟩
  have hbC : Below wB.heap.size wB wC := by rw [← hC]; exact (Below.refl _ _).alloc (Nat.le_refl _) _
  have hbD : Below wC.heap.size wC wD := by rw [← hD]; exact (Below.refl _ _).alloc (Nat.le_refl _) _
  have hB4 : Bt wC g4 (.slice none 0 0) 0 := by rw [← hC, ← hg4]; exact heap_alloc_new _ _
  have hB5 : Bt wD g5 (.slice none 0 0) s := by rw [← hD, ← hg5]; exact heap_alloc_new _ _
  have HB4 := Lib.hid (hB4.later hbD)
  have HB5 := Lib.hid hB5
  have HBD := Lib.hid (hbC.trans (hbD.mono (by rw [← hC]; simp)))
  have hz4 : g4 = w.heap.size + 2 := by rw [← hg4]; exact hbx.sz
  have hz5 : g5 = w.heap.size + 3 := by rw [← hg5, ← hC]; simp [hbx.sz]
  have HG : Hid (g4 = w.heap.size + 2 ∧ g5 = w.heap.size + 3 ∧ w.heap.size + 2 ≤ wB.heap.size) := Lib.hid ⟨hz4, hz5, by have := hbx.sz; omega⟩
  unfold tabV
  generalize hM : bcs d = M at *
  have HM := Lib.hid hM
  obtain ⟨c0, c1⟩ := HX.out.c0 wB (Below.refl _ _)
  obtain ⟨c2, c3⟩ := HX.out.c0 wC hbC
  clear h hk hd hbx hM hbC hbD hB4 hB5 hz4 hz5
  go_enter Try.func12, Try.ntmps12
  go_wp2
  clear c0 c1 c2 c3 hA hB hC hD
  go_loopw [6] (fun j wr => ∃ (k : Nat) (q : Option Addr) (m c' : Nat) (N : List Px), k ≤ n ∧ j = .int .i64 (k : Int) ∧ Hid (prL N = cutN ((prL L).take k) d) ∧ Hid (∀ x ∈ N, x ∈ L) ∧ Hid (Gw encPr wr wB.heap.size (.slice q m c') N) ∧ Hid (Bt wr g5 (.slice q m c') s) ∧ Hid (Bt wr g4 (.slice none 0 0) 0) ∧ Hid (Below wB.heap.size wB wr)) (fun j _ => n - (intS j).toNat)
  case atStart => exact ⟨0, none, 0, 0, [], by omega, rfl, Lib.hid rfl, Lib.hid (by simp), Lib.hid (Gw.nil _ _ _), HB5, HB4, HBD⟩
  case round =>
    obtain ⟨k, q, m, c', N, hkn, rfl, HN, HI, HO, HQ5, HQ4, hb⟩ := hrel
    obtain ⟨c0, c1⟩ := HX.out.c0 wr hb.out
    by_cases hlt : k < n
    · have hwr := below_step HX.out.le hb.out
      obtain ⟨b1, off, y, rfl, hy1, hy2, hy3, hr⟩ := (H.out.later hwr).pr k hlt
      have HL1 : Hid (∀ W, (∃ m, W = wr.drewN m) → (Instr.loadAt 30 (.pointer (some ⟨b1, off + k * 33, none⟩))).run Try.prog W = .ok (.agg (bcs y.1.dg)) W) := Lib.hid (by rintro W ⟨m, rfl⟩; exact pr_dig (rngS_later hr (below_drewN (Below.refl _ _) _)))
      have HL2 : Hid (∀ W, (∃ m, W = wr.drewN m) → (Instr.loadAt 30 (.pointer (some ⟨g, 0, none⟩))).run Try.prog W = .ok (.agg (bcs d)) W) := Lib.hid (by rintro W ⟨m, rfl⟩; exact HX.out.ld _ (hb.out.trans (below_drewN ((Below.refl _ _)) _)))
      have heq := fun W => digest_eq y.1.dg d (HK.out y hy3) HD.out W
      have HT := Lib.hid (cutN_take hy2 d)
      have HR := Lib.hid hr
      have HRW : Hid (∀ W, Below wB.heap.size wB W → W.rangeAt b1 (off + k * 33) (mixL [] y.1.dg y.1.t)) := Lib.hid fun W hW => by
        obtain ⟨b2, off2, z, hp2, hz1, _, _, hr2⟩ := (H.out.later (below_step HX.out.le hW)).pr k hlt
        simp only [Option.some.injEq, Addr.mk.injEq, and_true] at hp2
        obtain ⟨rfl, rfl⟩ := hp2
        rw [hy1] at hz1
        obtain rfl := Option.some.inj hz1
        exact hr2
      have HYI := Lib.hid hy3
      have hki : (k : Int) < (n : Int) := by omega
      have hk0 : (0 : Int) ≤ (k : Int) := by omega
      obtain ⟨d1, hd1⟩ : ∃ d, y.1.dg = d := ⟨_, rfl⟩
      rw [hd1] at HL1 heq HT
      rw [HM.out] at HL2 heq
      have HD1 := Lib.hid hd1
      clear hr hy1 hy2 hy3 hd1 hwr
      go_wp2
      refine wp_region_quiet_lit (by kernel_rfl) (by kernel_rfl) ?_
      repeat (first | (refine quiet_want rfl fun K hK => quiet_load 30 _ rfl _ rfl _ (HL1).out (hK _ ?_); clear hK K) | (refine quiet_want rfl fun K hK => quiet_load 30 _ rfl _ rfl _ (HL2).out (hK _ ?_); clear hK K) | (quiet_step (fail)))
      refine wpQuiet_nil ?_
      intro wd hw'
      obtain ⟨nq, hwd⟩ := hw'
      have hbd : Below wr.heap.size wr wd := by rw [hwd]; exact below_drewN (Below.refl _ _) _
      have HB2 : Hid (Below wB.heap.size wB wd) := Lib.hid (below_step hb.out hbd)
      have HO2 := Lib.hid (HO.out.later hbd)
      have HQ52 := Lib.hid (HQ5.out.later hbd)
      have HQ42 := Lib.hid (HQ4.out.later hbd)
      have HR2 := Lib.hid (rngS_later HR.out hbd)
      clear hwd hbd heq c0 c1 HL1 HL2 HR HO HQ5 HQ4 hb
      obtain ⟨bx, hbx⟩ : ∃ b, decide (d1 = d) = b := ⟨_, rfl⟩
      rw [hbx]
      cases bx
      rotate_left
      · have hxd : d1 = d := of_decide_eq_true hbx
        have HN2 : Hid (prL N = cutN ((prL L).take (k + 1)) d) := Lib.hid (by rw [HT.out, if_pos hxd, List.append_nil]; exact HN.out)
        clear hxd HT HD1 hbx
        go_wp2
        exact ⟨⟨k + 1, q, m, c', N, by omega, by go_num, HN2, HI, HO2, HQ52, HQ42, HB2⟩, by simp [intS] <;> omega⟩
      · have hxd : ¬ d1 = d := of_decide_eq_false hbx
        have HN2 : Hid (prL (N ++ [y]) = cutN ((prL L).take (k + 1)) d) := Lib.hid (by rw [HT.out, if_neg hxd, prL_append, HN.out]; rfl)
        have HI2 : Hid (∀ x ∈ N ++ [y], x ∈ L) := Lib.hid fun x hx => by
          rcases List.mem_append.1 hx with h1 | h1
          · exact HI.out x h1
          · rw [List.mem_singleton] at h1; rw [h1]; exact HYI.out
        have HLE : Hid (N.length ≤ k) := Lib.hid (by
          have h1 := congrArg List.length HN.out
          rw [prL_length] at h1
          have h2 := cutN_length ((prL L).take k) d
          rw [List.length_take] at h2
          omega)
        have HML := Lib.hid HO2.out.gs.1
        clear hxd HT HD1 HN HI hbx
        go_wp2
        have HSS := Lib.hid fun W (hW : Below wd.heap.size wd W) => And.intro (HX.out.c0 W (below_step HB2.out hW)).1 (And.intro (HQ52.out.later hW).cells.1 (rngS_later HR2.out hW))
        have HLP : Hid (∀ W : World, (W.cell? ⟨w.heap.size, 0, none⟩ = some (.slice (some ⟨b1, off, none⟩) n c) ∧ W.cell? ⟨g5, 0, none⟩ = some (.slice q m c') ∧ W.rangeAt b1 (off + k * 33) (mixL [] y.1.dg y.1.t)) → (Instr.loadAt 42 (.pointer (some ⟨b1, off + k * 33, none⟩))).run Try.prog W = .ok (.agg (mixC [] y.1.dg y.1.t)) W) := Lib.hid fun W h => pr_load h.2.2
        obtain ⟨w7, hw7⟩ : ∃ W, wd.drew.alloc (.cells (mixC [] y.1.dg y.1.t) 42) = W := ⟨_, rfl⟩
        obtain ⟨g7, hg7⟩ : ∃ G, wd.drew.heap.size = G := ⟨_, rfl⟩
        have HB7 : Hid (Below wd.heap.size wd w7) := Lib.hid (by rw [← hw7]; exact (Below.refl _ _).drew.alloc (Nat.le_refl _) _)
        have HG7 : Hid (Gs encPr w7 (some ⟨g7, 0, none⟩) 1 [y]) := Lib.hid (by rw [← hw7, ← hg7]; exact Gs.onePr _ y)
        have HO7 := Lib.hid (HO2.out.later HB7.out)
        have HBB7 := Lib.hid (below_step HB2.out HB7.out)
        refine wp_region_x (fun W : World => W.cell? ⟨w.heap.size, 0, none⟩ = some (.slice (some ⟨b1, off, none⟩) n c) ∧ W.cell? ⟨g5, 0, none⟩ = some (.slice q m c') ∧ W.rangeAt b1 (off + k * 33) (mixL [] y.1.dg y.1.t)) 10 (by kernel_rfl) ?_
        have hHeld : (fun W : World => W.cell? ⟨w.heap.size, 0, none⟩ = some (.slice (some ⟨b1, off, none⟩) n c) ∧ W.cell? ⟨g5, 0, none⟩ = some (.slice q m c') ∧ W.rangeAt b1 (off + k * 33) (mixL [] y.1.dg y.1.t)) _ := HSS.out _ (Below.refl _ _).drew
        refine takex 0 (v := ?vv1) rfl (by kernel_rfl) (by kernel_rfl) (by kernel_rfl) (by kernel_rfl) (by kernel_rfl) (fun _ _ _ h => h) (Or.inl ⟨by rfl, ?hy1⟩) hHeld ?rest1
        case hy1 => intro w hSw; (try dsimp only at hSw); go_simp; (try with_reducible rfl)
        (try simp only [Act.put, List.setIfInBounds_toArray, List.set_cons_zero, List.set_cons_succ])
        refine takex 1 (v := ?vv2) rfl (by kernel_rfl) (by kernel_rfl) (by kernel_rfl) (by kernel_rfl) (by kernel_rfl) (fun _ _ _ h => h) (Or.inl ⟨by rfl, ?hy2⟩) hHeld ?rest2
        case hy2 => intro w hSw; (try dsimp only at hSw); go_simp; (try with_reducible rfl)
        (try simp only [Act.put, List.setIfInBounds_toArray, List.set_cons_zero, List.set_cons_succ])
        refine takex 2 (v := ?vv3) rfl (by kernel_rfl) (by kernel_rfl) (by kernel_rfl) (by kernel_rfl) (by kernel_rfl) (fun _ _ _ h => h) (Or.inl ⟨by rfl, ?hy3⟩) hHeld ?rest3
        case hy3 => intro w hSw; (try dsimp only at hSw); go_simp; (try with_reducible rfl)
        (try simp only [Act.put, List.setIfInBounds_toArray, List.set_cons_zero, List.set_cons_succ])
        refine takex 3 (v := ?vv4) rfl (by kernel_rfl) (by kernel_rfl) (by kernel_rfl) (by kernel_rfl) (by kernel_rfl) (fun _ _ _ h => h) (Or.inl ⟨by rfl, ?hy4⟩) hHeld ?rest4
        case hy4 => intro w hSw; (try dsimp only at hSw); go_simp; (try with_reducible rfl)
        (try simp only [Act.put, List.setIfInBounds_toArray, List.set_cons_zero, List.set_cons_succ])
        refine takex 4 (v := ?vv5) rfl (by kernel_rfl) (by kernel_rfl) (by kernel_rfl) (by kernel_rfl) (by kernel_rfl) (fun _ _ _ h => h) (Or.inl ⟨by rfl, ?hy5⟩) hHeld ?rest5
        case hy5 => intro w hSw; (try dsimp only at hSw); go_simp; (try with_reducible rfl)
        (try simp only [Act.put, List.setIfInBounds_toArray, List.set_cons_zero, List.set_cons_succ])
        refine takex 5 (v := ?vv6) rfl (by kernel_rfl) (by kernel_rfl) (by kernel_rfl) (by kernel_rfl) (by kernel_rfl) (fun _ _ _ h => h) (Or.inl ⟨by rfl, ?hy6⟩) hHeld ?rest6
        case hy6 => intro w hSw; (try dsimp only at hSw); go_simp; (try with_reducible rfl)
        (try simp only [Act.put, List.setIfInBounds_toArray, List.set_cons_zero, List.set_cons_succ])
        refine takex 6 rfl (by kernel_rfl) (by kernel_rfl) (by kernel_rfl) (by kernel_rfl) (by kernel_rfl) (fun _ _ _ h => h) (yieldsIf_ld (by rfl) 42 (.tmp 30) rfl (.pointer (some ⟨b1, off + k * 33, none⟩)) rfl (.agg (mixC [] y.1.dg y.1.t)) (HLP.out)) hHeld ?_
        (try simp only [Act.put, List.setIfInBounds_toArray, List.set_cons_zero, List.set_cons_succ])
        refine readyx 7 rfl (by kernel_rfl) (fun K hK => ?_)
        rw [if_pos (by rfl)]
        refine wp_build_pr 25 31 rfl Try.underlying25 y rfl ?_
        rw [hw7, hg7]
        refine hK.out _ _ ?hS8 ?rest8
        case hS8 => exact HSS.out _ HB7.out
        clear hK K hHeld
        have hHeld : (fun W : World => W.cell? ⟨w.heap.size, 0, none⟩ = some (.slice (some ⟨b1, off, none⟩) n c) ∧ W.cell? ⟨g5, 0, none⟩ = some (.slice q m c') ∧ W.rangeAt b1 (off + k * 33) (mixL [] y.1.dg y.1.t)) _ := HSS.out _ HB7.out
        (try simp only [Act.put, List.setIfInBounds_toArray, List.set_cons_zero, List.set_cons_succ])
        refine readyx 8 rfl (by kernel_rfl) (fun K hK => ?_)
        rw [if_pos (by rfl)]
        refine wp_append_gen encPr (.tmp 26) (.tmp 32) 25 rfl Try.underlying25 przero 40 infoPr przero_size (by decide) wB.heap.size _ N rfl HO7.out _ 1 1 [y] rfl HG7.out (fun h => by cases h) (by have := HLE.out; omega) HBB7.out.size ?_
        intro v8 w8 ho8 hg8
        obtain ⟨p8, c8, hv8, _⟩ := ho8.open
        rw [List.length_append, List.length_singleton, HML.out] at hv8
        subst hv8
        have HO8 := Lib.hid ho8
        have HQ58 := Lib.hid ((HQ52.out.later HB7.out).kept hg8 ((HQ52.out.later HB7.out).not_row HO7.out))
        have HQ48 := Lib.hid ((HQ42.out.later HB7.out).kept hg8 ((HQ42.out.later HB7.out).not_row HO7.out))
        have HB8 := Lib.hid (below_new_gw HBB7.out HO7.out hg8 HBB7.out.size)
        have HS8 := Lib.hid (And.intro (HX.out.c0 w8 HB8.out).1 (And.intro HQ58.out.cells.1 ((HRW.out w8 HB8.out))))
        obtain ⟨e0, e1, f0, f1⟩ := HQ58.out.cells
        clear ho8 hg8
        refine hK.out _ _ ?hS9 ?rest9
        case hS9 => exact HS8.out
        clear hK K hHeld
        have hHeld : (fun W : World => W.cell? ⟨w.heap.size, 0, none⟩ = some (.slice (some ⟨b1, off, none⟩) n c) ∧ W.cell? ⟨g5, 0, none⟩ = some (.slice q m c') ∧ W.rangeAt b1 (off + k * 33) (mixL [] y.1.dg y.1.t)) _ := HS8.out
        (try simp only [Act.put, List.setIfInBounds_toArray, List.set_cons_zero, List.set_cons_succ])
        refine takex 9 (v := ?vv10) rfl (by kernel_rfl) (by kernel_rfl) (by kernel_rfl) (by kernel_rfl) (by kernel_rfl) (fun _ _ _ h => h) (Or.inl ⟨by rfl, ?hy10⟩) hHeld ?rest10
        case hy10 => intro w hSw; (try dsimp only at hSw); go_simp; (try with_reducible rfl)
        (try simp only [Act.put, List.setIfInBounds_toArray, List.set_cons_zero, List.set_cons_succ])
        refine lastx 10 rfl (by kernel_rfl) (by kernel_rfl) (fun K hK => ?_)
        go_simp
        first
          | refine hK.out _ _ ?_
          | (go_wp2_with fail; refine hK.out _ _ ?_)
        clear hK K hHeld
        have HO9 := Lib.hid (gw_set (j := 0) (u := .slice p8 (m + 1) c8) HO8.out (HQ58.out.not_row HO8.out))
        have HQ59 := Lib.hid (HQ58.out.set0 (.slice p8 (m + 1) c8))
        have HQ49 := Lib.hid (HQ48.out.set_other (b' := g5) (j := 0) (u := .slice p8 (m + 1) c8) (by have := HG.out; omega))
        have HB9 := Lib.hid (HB8.out.setCell (p := ⟨g5, 0, none⟩) (by have := HG.out; have := HX.out.sz; show wB.heap.size ≤ g5; omega) (.slice p8 (m + 1) c8))
        clear HO8 HQ58 HQ48 HB8 e0 e1 f0 f1
        go_wp2
        refine ⟨⟨k + 1, p8, m + 1, c8, N ++ [y], by omega, by go_num, HN2, HI2, HO9, HQ59, HQ49, HB9⟩, by simp [intS] <;> omega⟩
    · obtain rfl : k = n := by omega
      have HF : Hid (prL N = cutN (prL L) d) := Lib.hid (by have h1 := HN.out; rwa [List.take_of_length_le (by rw [HLL.out]; exact Nat.le_refl _)] at h1)
      have hld := HQ5.out.load
      unfold tabV at hld
      have HLD := Lib.hid hld
      have HBX := Lib.hid (below_step HX.out.le hb.out)
      have HZ : Hid (wB.heap.size = w.heap.size + 2) := Lib.hid HX.out.sz
      clear hld
      obtain ⟨z0, z1, zf0, zf1⟩ := HQ4.out.cells
      go_wp2_with (first
        | (refine wpList_ld rfl 27 _ rfl _ rfl _ HLD.out ?_))
      have hne : g4 ≠ g5 := by have := HG.out; omega
      have hr1 : Bt ((wr.setCell ⟨g4, 0, none⟩ (.slice q m c')).setCell ⟨g4, 1, none⟩ (.int .i64 s)) g4 (.slice q m c') s := (HQ4.out.set0 _).set1 s
      refine bodyPost_ret (v := tabV q m c' s) ?_ rfl ⟨q, m, c', N, rfl, HF.out, ?_, HI.out, ?_⟩
      · exact hr1.res1 rfl _ rfl
      · exact gw_set (gw_set (HZ.out ▸ HO.out) (HQ4.out.not_row (HZ.out ▸ HO.out))) ((HQ4.out.set0 (.slice q m c')).not_row (gw_set (HZ.out ▸ HO.out) (HQ4.out.not_row (HZ.out ▸ HO.out))))
      · exact (HBX.out.setCell (p := ⟨g4, 0, none⟩) (by have := HG.out; show w.heap.size ≤ g4; omega) _).setCell (p := ⟨g4, 1, none⟩) (by have := HG.out; show w.heap.size ≤ g4; omega) _
end Go.Proofs.Ytfdmpbhgejahaaa
