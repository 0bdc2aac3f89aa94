/- Pairs of digests and values in memory; the reference's Get; The law SlotsNone, walked under contracts: the methods at a nil table -/
import Derived.Test.YtfdmpbhgejahaaaSl5
import Derived.Test.YtfdmpbhgejahaaaSl7
import Derived.Test.YtfdmpbhgejahaaaSl8
import Derived.Test.YtfdmpbhgejahaaaSl10
set_option linter.unusedSimpArgs false
set_option linter.unusedVariables false
namespace Go.Proofs.Ytfdmpbhgejahaaa
set_option linter.unusedVariables false
open Go.RowKit Go.Lib

def Pr.t (x : Pr) : List Value := [.int .i64 x.v]
/-- a pair whose digest has 32 bytes -/
abbrev Px := { x : Pr // x.dg.length = 32 }
theorem size33 : (Try.prog.info? 42).map (·.size) = some 33 := by kernel_rfl
def encPr : Ec Px where
  f := fun x => mixL [] x.1.dg x.1.t
  k := 33
  t := 42
  d := ⟨⟨dzero, 0⟩, rfl⟩
  len := fun x => by rw [mixL_length, x.2]; rfl
  one := fun x v hv => by
    unfold mixL at hv
    rw [List.nil_append] at hv
    rcases List.mem_append.1 hv with h | h
    · obtain ⟨y, _, rfl⟩ := List.mem_map.1 h
      rfl
    · rw [Pr.t, List.mem_singleton] at h
      subst h
      rfl
  pos := by decide
def prL (L : List Px) : List Pr := L.map fun x => x.1
theorem prL_length (L : List Px) : (prL L).length = L.length := List.length_map _
theorem prL_append (L M : List Px) : prL (L ++ M) = prL L ++ prL M := List.map_append
theorem prL_take (L : List Px) (k : Nat) : prL (L.take k) = (prL L).take k := by
  unfold prL
  rw [List.map_take]
/-- one of a row of pairs -/
theorem Gs.pr {W : World} {p : Option Addr} {n : Nat} {L : List Px} (h : Gs encPr W p n L) (j : Nat) (hj : j < n) :
    ∃ b off x, p = some ⟨b, off, none⟩ ∧ L[j]? = some x ∧ (prL L)[j]? = some x.1 ∧ x ∈ L ∧ W.rangeAt b (off + j * 33) (mixL [] x.1.dg x.1.t) := by
  obtain ⟨b, off, hp, hc⟩ := h.ptr j hj
  have hl := h.len
  have hx : L[j]? = some (L[j]'(by omega)) := List.getElem?_eq_getElem _
  have e : L.getD j encPr.d = L[j]'(by omega) := by rw [List.getD_eq_getElem?_getD, hx]; rfl
  rw [e] at hc
  exact ⟨b, off, _, hp, hx, by unfold prL; rw [List.getElem?_map, hx]; rfl, List.getElem_mem _, fun i v hv => hc i v hv⟩
/-- its cells, field by field -/
theorem pr_cells {W : World} {b o : Nat} {x : Px} (h : W.rangeAt b o (mixL [] x.1.dg x.1.t)) : W.rangeAt b o (x.1.dg.map (Value.int .u8)) ∧ W.cell? ⟨b, o + 32, none⟩ = some (.int .i64 x.1.v) := by
  unfold mixL at h
  rw [List.nil_append] at h
  refine ⟨fun i v hv => h i v (by rw [List.getElem?_append_left (List.getElem?_eq_some_iff.1 hv).1]; exact hv), ?_⟩
  exact h 32 _ (by rw [List.getElem?_append_right (by rw [List.length_map, x.2]; exact Nat.le_refl _), List.length_map, x.2]; rfl)
theorem pr_dig {W : World} {b o : Nat} {x : Px} (h : W.rangeAt b o (mixL [] x.1.dg x.1.t)) : (Instr.loadAt 30 (.pointer (some ⟨b, o, none⟩))).run Try.prog W = .ok (.agg (bcs x.1.dg)) W := by
  have h1 := run_loadAt_mid W b o 30 _ _ (pr_cells h).1 Try.underlying30 rfl (by rw [List.length_map, x.2]; exact size32)
  rw [h1]
  rfl
theorem pr_load {W : World} {b o : Nat} {x : Px} (h : W.rangeAt b o (mixL [] x.1.dg x.1.t)) : (Instr.loadAt 42 (.pointer (some ⟨b, o, none⟩))).run Try.prog W = .ok (.agg (mixC [] x.1.dg x.1.t)) W :=
  run_loadAt_mid W b o 42 _ _ h Try.underlying42 rfl (by rw [mixL_length, x.2]; exact size33)
theorem rngS_later {W V : World} {b o : Nat} {cs : List Value} (h : W.rangeAt b o cs) (hb : Below W.heap.size W V) : V.rangeAt b o cs := fun i v hv => by
  have h4 := h i v hv
  rw [hb.cell (World.block_lt_of_cell? W _ h4)]
  exact h4
theorem dig_load {W : World} {b : Nat} {d : List Int} (h : Yw W b 30 d) (hd : d.length = 32) : (Instr.loadAt 30 (.pointer (some ⟨b, 0, none⟩))).run Try.prog W = .ok (.agg (bcs d)) W := h.load hd
/-- a table, as it is handed on -/
def tabV (p : Option Addr) (n c : Nat) (s : Int) : Value := .agg #[.slice p n c, .int .i64 s]
/-- what a call that boxes a table and a digest finds -/
structure BoxTd (w wB : World) (g : Nat) (p : Option Addr) (n c : Nat) (s : Int) (d : List Int) : Prop where
  le : Below w.heap.size w wB
  c0 : ∀ W, Below wB.heap.size wB W → W.cell? ⟨w.heap.size, 0, none⟩ = some (.slice p n c) ∧ W.cell? ⟨w.heap.size, 1, none⟩ = some (.int .i64 s)
  ld : ∀ W, Below wB.heap.size wB W → (Instr.loadAt 30 (.pointer (some ⟨g, 0, none⟩))).run Try.prog W = .ok (.agg (bcs d)) W
  g1 : g = w.heap.size + 1
  sz : wB.heap.size = w.heap.size + 2
theorem box_td (w : World) (p : Option Addr) (n c : Nat) (s : Int) (d : List Int) (hd : d.length = 32) : ∃ wA wB g, w.alloc (.cells #[.slice p n c, .int .i64 s] 27) = wA ∧ wA.alloc (.cells (bcs d) 30) = wB ∧ wA.heap.size = g ∧ BoxTd w wB g p n c s d := by
  refine ⟨_, _, _, rfl, rfl, rfl, ?_⟩
  have hb : Below w.heap.size w ((w.alloc (.cells #[.slice p n c, .int .i64 s] 27)).alloc (.cells (bcs d) 30)) := ((Below.refl _ w).alloc (Nat.le_refl _) _).alloc (by simp) _
  have hr : ((w.alloc (.cells #[.slice p n c, .int .i64 s] 27)).alloc (.cells (bcs d) 30)).heap[w.heap.size]? = some (.cells #[.slice p n c, .int .i64 s] 27 (0, 0)) := by
    rw [heap_alloc_old _ _ (by simp)]
    exact heap_alloc_new _ _
  have hy : Yw ((w.alloc (.cells #[.slice p n c, .int .i64 s] 27)).alloc (.cells (bcs d) 30)) (w.alloc (.cells #[.slice p n c, .int .i64 s] 27)).heap.size 30 d := heap_alloc_new _ _
  refine ⟨hb, fun W hW => ?_, fun W hW => dig_load (hy.later hW) hd, by simp, by simp⟩
  have h1 := (hW.block _ (by simp; omega)).trans hr
  exact ⟨by rw [cell_of_row W _ 0 _ _ _ h1]; rfl, by rw [cell_of_row W _ 1 _ _ _ h1]; rfl⟩
def intS (v : Value) : Int := match v with | .int _ x => x | _ => 0
theorem getN_upto {L : List Pr} {k i : Nat} (hk : k ≤ i) {d : List Int} {v : Int} (h : getN (L.take k) d = some v) : getN (L.take i) d = some v := by
  have e : L.take i = L.take k ++ (L.take i).drop k := by
    conv => lhs; rw [← List.take_append_drop k (L.take i), List.take_take, Nat.min_eq_left hk]
  rw [e, getN_append, h]
set_option maxRecDepth 100000 in
set_option maxHeartbeats 1000000 in
theorem rget18_any (p : Option Addr) (n c : Nat) (s : Int) (L : List Px) (d : List Int) (w : World) (h : Gs encPr w p n L) (hk : ∀ x ∈ L, dok x.1.dg) (hd : dok d) (hn : n ≤ 1048576) :
    Calls Try.prog 10 #[tabV p n c s, .agg (bcs d)] w fun e w' => e = .returned (.tuple #[.int .i64 ((getN (prL L) d).getD 0), .bool (getN (prL L) d).isSome]) ∧ Below w.heap.size w w' := by
  obtain ⟨wA, wB, g, hA, hB, hg, hbx⟩ := box_td w p n c s d hd.1
  have HX := Lib.hid hbx
  have H := Lib.hid h
  have HK := Lib.hid hk
  have HD := Lib.hid hd
  have HLL : Hid ((prL L).length = n) := Lib.hid (by rw [prL_length, h.len])
  unfold tabV
  generalize hM : bcs d = M at *
  have HM := Lib.hid hM
  clear h hk hd hbx hM
  obtain ⟨c0, c1⟩ := HX.out.c0 wB (Below.refl _ _)
  go_enter Try.func10, Try.ntmps10
  go_wp2
  go_loopw [6] (fun j wr => ∃ k : Nat, k ≤ n ∧ j = .int .i64 (k : Int) ∧ Hid (getN ((prL L).take k) d = none) ∧ Hid (Below wB.heap.size wB wr)) (fun j _ => n - (intS j).toNat)
  case atStart => exact ⟨0, by omega, rfl, Lib.hid rfl, Lib.hid (Below.refl _ _)⟩
  case round =>
    obtain ⟨k, hkn, rfl, hm, hb⟩ := hrel
    obtain ⟨c0, c1⟩ := HX.out.c0 wr hb.out
    by_cases hlt : k < n
    · obtain ⟨b1, off, y, rfl, hy1, hy2, hy3, hr⟩ := (H.out.later (below_step HX.out.le hb.out)).pr k hlt
      have HL1 : Hid (∀ W, (∃ m, W = wr.drewN m) → (Instr.loadAt 30 (.pointer (some ⟨b1, off + k * 33, none⟩))).run Try.prog W = .ok (.agg (bcs y.1.dg)) W) := Lib.hid (by rintro W ⟨m, rfl⟩; exact pr_dig (rngS_later hr (below_drewN (Below.refl _ _) _)))
      have HL2 : Hid (∀ W, (∃ m, W = wr.drewN m) → (Instr.loadAt 30 (.pointer (some ⟨g, 0, none⟩))).run Try.prog W = .ok (.agg (bcs d)) W) := Lib.hid (by rintro W ⟨m, rfl⟩; exact HX.out.ld _ (hb.out.trans (below_drewN ((Below.refl _ _)) _)))
      have heq := fun W => digest_eq y.1.dg d (HK.out y hy3) HD.out W
      have HT := Lib.hid (getN_take hy2 d)
      have hcv := (pr_cells hr).2
      have hki : (k : Int) < (n : Int) := by omega
      have hk0 : (0 : Int) ≤ (k : Int) := by omega
      obtain ⟨d1, hd1⟩ : ∃ d, y.1.dg = d := ⟨_, rfl⟩
      rw [hd1] at HL1 heq HT
      rw [HM.out] at HL2 heq
      clear hr hy1 hy2 hy3 hd1
      go_wp2
      refine wp_region_quiet_lit (by kernel_rfl) (by kernel_rfl) ?_
      repeat (first | (refine quiet_want rfl fun K hK => quiet_load 30 _ rfl _ rfl _ (HL1).out (hK _ ?_); clear hK K) | (refine quiet_want rfl fun K hK => quiet_load 30 _ rfl _ rfl _ (HL2).out (hK _ ?_); clear hK K) | (quiet_step (fail)))
      refine wpQuiet_nil ?_
      intro wd hw'
      obtain ⟨nq, hwd⟩ := hw'
      have hbd : Below wr.heap.size wr wd := by rw [hwd]; exact below_drewN (Below.refl _ _) _
      have HB2 : Hid (Below wB.heap.size wB wd) := Lib.hid (below_step hb.out hbd)
      obtain ⟨c2, c3⟩ := HX.out.c0 wd HB2.out
      have hcw : wd.cell? ⟨b1, off + k * 33 + 32, none⟩ = some (.int .i64 y.1.v) := (hbd.cell (p := ⟨b1, off + k * 33 + 32, none⟩) (World.block_lt_of_cell? wr _ hcv)).trans hcv
      obtain ⟨v, hv⟩ : ∃ v, y.1.v = v := ⟨_, rfl⟩
      rw [hv] at hcw HT
      clear hwd hbd heq c0 c1 hcv hv
      by_cases hxd : d1 = d
      · have hT : decide (d1 = d) = true := by simpa using hxd
        have HF : Hid (getN (prL L) d = some v) := Lib.hid (by
          have h1 : getN ((prL L).take (k + 1)) d = some v := by rw [HT.out, hm.out]; dsimp only; rw [if_pos hxd]
          have h2 := getN_upto (i := (prL L).length) (by rw [HLL.out]; omega) h1
          rwa [List.take_length] at h2)
        go_wp2
        go_ret2
        exact ⟨by rw [HF.out]; rfl, below_step HX.out.le HB2.out⟩
      · have hT : decide (d1 = d) = false := by simpa using hxd
        have HM2 : Hid (getN ((prL L).take (k + 1)) d = none) := Lib.hid (by rw [HT.out, hm.out]; dsimp only; rw [if_neg hxd])
        go_wp2
        exact ⟨⟨k + 1, by omega, by go_num, HM2, HB2⟩, by simp [intS] <;> omega⟩
    · obtain rfl : k = n := by omega
      have HF : Hid (getN (prL L) d = none) := Lib.hid (by have h1 := hm.out; rwa [List.take_of_length_le (by rw [HLL.out]; exact Nat.le_refl _)] at h1)
      go_wp2
      go_ret2
      exact ⟨by rw [HF.out]; rfl, below_step HX.out.le hb.out⟩
end Go.Proofs.Ytfdmpbhgejahaaa

namespace Go.Proofs.Ytfdmpbhgejahaaa
set_option linter.unusedVariables false
open Go.RowKit Go.Lib

/-- the methods of Table[string] at a nil table -/
structure TabNil : Prop where
  put : ∀ (w : World) (d : List Int) (x : ByteArray), dok d → Calls Try.prog 20 #[.pointer none, .agg (bcs d), .string x] w fun e w' => e = .returned (.tuple #[]) ∧ Below w.heap.size w w'
  get : ∀ (w : World) (d : List Int), dok d → Calls Try.prog 21 #[.pointer none, .agg (bcs d)] w fun e w' => e = .returned (.tuple #[.string { data := #[] }, .bool false]) ∧ Below w.heap.size w w'
  cut : ∀ (w : World) (d : List Int), dok d → Calls Try.prog 22 #[.pointer none, .agg (bcs d)] w fun e w' => e = .returned (.bool false) ∧ Below w.heap.size w w'
  len : ∀ (w : World), Calls Try.prog 23 #[.pointer none] w fun e w' => e = .returned (.int .i64 0) ∧ Below w.heap.size w w'
  slots : ∀ (w : World), Calls Try.prog 24 #[.pointer none] w fun e w' => e = .returned (.int .i64 0) ∧ Below w.heap.size w w'
  row : ∀ (w : World), Calls Try.prog 25 #[.pointer none] w fun e w' => e = .returned (.slice none 0 0) ∧ Below w.heap.size w w'
set_option maxRecDepth 100000 in
set_option maxHeartbeats 1000000 in
theorem slotsnone_any {Tb : World → (Nat → Prop) → Value → List Pr → Int → Prop} (hT : TabOk Tb) (hN : TabNil) (d : List Int) (hd : dok d) (w : World) :
    Calls Try.prog 5 #[.agg (bcs d)] w fun e w' => e = .returned (.bool true) ∧ Below w.heap.size w w' := by
  have HLV := Lib.hid fun W => lives18_any hT W
  obtain ⟨w0, hw0⟩ : ∃ W, w.alloc (.cells (bcs d) 30) = W := ⟨_, rfl⟩
  obtain ⟨B, hB⟩ : ∃ x, w.heap.size = x := ⟨_, rfl⟩
  have hb0 : Below B w w0 := by rw [← hw0, ← hB]; exact (Below.refl _ _).alloc (Nat.le_refl _) _
  have hy : Yw w0 B 30 d := by rw [← hw0, ← hB]; exact heap_alloc_new _ _
  have HLD : Hid (∀ W, Below w0.heap.size w0 W → (Instr.loadAt 30 (.pointer (some ⟨B, 0, none⟩))).run Try.prog W = .ok (.agg (bcs d)) W) := Lib.hid fun W hW => dig_load (hy.later hW) hd.1
  have HP := Lib.hid fun W => hN.put W d { data := #[120] } hd
  have HG := Lib.hid fun W => hN.get W d hd
  have HC := Lib.hid fun W => hN.cut W d hd
  have HL := Lib.hid hN.len
  have HS := Lib.hid hN.slots
  have HR := Lib.hid hN.row
  have HB0 := Lib.hid hb0
  have HBE := Lib.hid (Below.refl w0.heap.size w0)
  generalize hM : bcs d = M at *
  clear hT hN hd hb0 hy hM
  go_enter Try.func5, Try.ntmps5
  go_wp2_with (first
    | (refine wpList_wanted (by rfl) fun K hK => wp_ld 30 _ rfl _ rfl _ (HLD.out _ HB3.out) (hK _ _ ?_); clear hK K)
    | (refine wpList_wanted (by rfl) fun K hK => wp_ld 30 _ rfl _ rfl _ (HLD.out _ HB2.out) (hK _ _ ?_); clear hK K)
    | (refine wpList_wanted (by rfl) fun K hK => wp_ld 30 _ rfl _ rfl _ (HLD.out _ HB1.out) (hK _ _ ?_); clear hK K)
    | (refine wpList_wanted (by rfl) fun K hK => wp_ld 30 _ rfl _ rfl _ (HLD.out _ HBE.out) (hK _ _ ?_); clear hK K)
    | (go_at_call 20; refine (HP.out _).mono ?_; rintro e w1 ⟨rfl, hb1⟩; have HB1 := Lib.hid hb1; clear hb1)
    | (go_at_call 21; refine (HG.out _).mono ?_; rintro e w2 ⟨rfl, hb2⟩; have HB2 := Lib.hid (below_step HB1.out hb2); clear hb2)
    | (go_at_call 22; refine (HC.out _).mono ?_; rintro e w3 ⟨rfl, hb3⟩; have HB3 := Lib.hid (below_step HB2.out hb3); clear hb3)
    | (go_at_call 23; refine (HL.out _).mono ?_; rintro e w4 ⟨rfl, hb4⟩; have HB4 := Lib.hid (below_step HB3.out hb4); clear hb4)
    | (go_at_call 24; refine (HS.out _).mono ?_; rintro e w5 ⟨rfl, hb5⟩; have HB5 := Lib.hid (below_step HB4.out hb5); clear hb5)
    | (go_at_call 25; refine (HR.out _).mono ?_; rintro e w6 ⟨rfl, hb6⟩; have HB6 := Lib.hid (below_step HB5.out hb6); clear hb6)
    | (go_at_call 19; refine (HLV.out _).mono ?_; rintro e w7 ⟨rfl, hb7⟩; have HB7 := Lib.hid (below_step HB6.out hb7); clear hb7))
  go_ret
  refine ⟨rfl, ?_⟩
  rw [hB]
  exact HB0.out.trans (HB7.out.mono (by rw [← hB]; exact HB0.out.size))
set_option maxRecDepth 100000 in
set_option maxHeartbeats 1000000 in
theorem tabnil : TabNil := by
  refine ⟨fun w d x hd => ?_, fun w d hd => ?_, fun w d hd => ?_, fun w => ?_, fun w => ?_, fun w => ?_⟩
  · generalize bcs d = M
    go_enter Try.func20, Try.ntmps20
    go_wp2
    (try simp only [Exit.inBlock, Exit.then])
    refine bodyPost_ret (results_none rfl _ _ _) rfl ?_
    exact ⟨rfl, (Below.refl _ _).alloc (Nat.le_refl _) _⟩
  · generalize bcs d = M
    go_enter Try.func21, Try.ntmps21
    go_wp2
    go_ret2
    exact ⟨rfl, (Below.refl _ _).alloc (Nat.le_refl _) _⟩
  · generalize bcs d = M
    go_enter Try.func22, Try.ntmps22
    go_wp2
    go_ret
    exact ⟨rfl, (Below.refl _ _).alloc (Nat.le_refl _) _⟩
  · go_enter Try.func23, Try.ntmps23
    go_wp2
    go_ret
    exact ⟨rfl, Below.refl _ _⟩
  · go_enter Try.func24, Try.ntmps24
    go_wp2
    go_ret
    exact ⟨rfl, Below.refl _ _⟩
  · go_enter Try.func25, Try.ntmps25
    go_wp2
    go_ret
    exact ⟨rfl, Below.refl _ _⟩
end Go.Proofs.Ytfdmpbhgejahaaa
