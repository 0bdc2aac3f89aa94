/- Layer 10: the program's Now, Room, Sync; slices.Clone at changes. -/
import Derived.Test.YtapobakolnlpmaaInoC
import Derived.Lib.SliceRun
import Derived.Laws.ResultCell
namespace Go.Proofs.Ytapobakolnlpmaa
set_option linter.unusedVariables false
open Go.RowKit Go.Lib

set_option maxRecDepth 100000 in
theorem sclone_any (p : Option Addr) (n c : Nat) (L : List Wd) (w : World) (h : Ws w p n L) (hpc : p = none → c = 0) (hnc : n ≤ c) (hn : n ≤ 1048576) :
    Calls Try.prog 30 #[.slice p n c] w fun e w' => ∃ p' c', e = .returned (.slice p' n c') ∧ Ow w' w.heap.size (.slice p' n c') L ∧ Apart (.slice p' n c') L ∧ (p' = none → c' = 0) ∧ n ≤ c' ∧ Below w.heap.size w w' := by
  have H := Lib.hid h
  have HB0 : Hid (Below w.heap.size w (w.alloc (.cells #[] 48))) := Lib.hid ((Below.refl _ _).alloc (Nat.le_refl _) _)
  have HO0 := Lib.hid (Ow.empty w w.heap.size (Nat.le_refl _))
  have hq : ∀ (w : World) (a : Option Addr) (n c n' c' : Nat), (binOp .eql 23 (.slice a n c) (.slice none n' c')).run Try.prog w = .ok (.bool a.isNone) w := fun w a n c n' c' => Lib.run_eql_slice_nil w _ _ a n c n' c' Try.underlying23
  cases p with
  | none =>
    obtain rfl := hpc rfl
    obtain rfl : n = 0 := by omega
    obtain rfl : L = [] := List.length_eq_zero_iff.1 h.1
    clear h hpc
    go_enter Try.func30, Try.ntmps30
    go_wp2
    go_ret
    exact ⟨none, 0, rfl, Ow.nil _ _, Apart.nil _, fun _ => rfl, Nat.le_refl _, Below.refl _ _⟩
  | some ad =>
    have HD := Lib.hid (h.later HB0.out)
    have HA := Lib.hid (apart_of_below HO0.out (Nat.le_refl _) h.2.1)
    have HZ : Hid (([] : List Wd).length + n ≤ 2097152) := Lib.hid (by simp; omega)
    clear h hpc hnc hn
    go_enter Try.func30, Try.ntmps30
    go_wp2_with (refine wpList_append_wds rfl (.tmp 5) (.tmp 6) 23 rfl Try.underlying23 info48 w.heap.size _ [] rfl HO0.out (fun _ hx => by cases hx) _ n c L rfl HD.out HA.out (fun h => by cases h) HZ.out HB0.out.size ?_; intro v5 w5 ho5 hg5; have HO5 := Lib.hid ho5; have HB5 : Hid (Below w.heap.size w w5) := Lib.hid (below_new_ow HB0.out HO0.out hg5 HB0.out.size); clear ho5 hg5)
    go_ret
    have ho := HO5.out
    rw [List.nil_append] at ho
    obtain ⟨p', c', hv, hlc, _, _, hpn⟩ := ho.open
    have hl := H.out.1
    rw [hl] at hv hlc
    subst hv
    exact ⟨p', c', rfl, ho, apart_of_below ho (Nat.le_refl _) H.out.2.1, hpn, hlc, HB5.out⟩

set_option maxRecDepth 100000 in
theorem inow_any (x : Ni) (w : World) (h : Ni.fit w x) (ho : x.fi.ok) :
    Calls Try.prog 13 #[x.v] w fun e w' => ∃ v, e = .returned v ∧ Ob w' w.heap.size 5 v (nowP x.fi) ∧ Below w.heap.size w w' := by
  obtain ⟨hn, hm, hzl, hll⟩ := Ni.len h ho
  obtain ⟨p, n, c, q, m, d, zs, L⟩ := x
  have HB0 : Hid (Below w.heap.size w (w.alloc (.cells #[.slice p n c, .slice q m d] 25))) := Lib.hid ((Below.refl _ _).alloc (Nat.le_refl _) _)
  have HZ := Lib.hid h.1
  have HQ := Lib.hid h.2.1
  have H := Lib.hid h.2.2.2.1
  have HN := Lib.hid hn
  have HM : Hid (m ≤ 1048576) := Lib.hid (Nat.le_succ_of_le hm)
  unfold Ni.v nowP Ni.fi
  dsimp only at HZ HQ H HN HM ⊢
  clear h ho hn hm hzl hll
  go_enter Try.func13, Try.ntmps13
  go_wp2_with (go_at_call 25; refine (wall_any p n c zs q m d L _ (HZ.out.later HB0.out) HQ.out HN.out (H.out.later HB0.out) HM.out).mono ?_; rintro e w2 ⟨v2, rfl, ho2, hb2⟩; have HO2 := Lib.hid (ho2.mono HB0.out.size); have HB2 := Lib.hid (below_step HB0.out hb2); clear ho2 hb2)
  go_ret
  exact ⟨_, rfl, HO2.out, HB2.out⟩

set_option maxRecDepth 100000 in
theorem iroom_any (x : Ni) (w : World) (h : Ni.fit w x) (ho : x.fi.ok) :
    Calls Try.prog 15 #[x.v] w fun e w' => e = .returned (.int .i64 (roomP x.fi)) ∧ Below w.heap.size w w' := by
  obtain ⟨hn, hm, hzl, hll⟩ := Ni.len h ho
  obtain ⟨p, n, c, q, m, d, zs, L⟩ := x
  have HB0 : Hid (Below w.heap.size w (w.alloc (.cells #[.slice p n c, .slice q m d] 25))) := Lib.hid ((Below.refl _ _).alloc (Nat.le_refl _) _)
  have H := Lib.hid h.2.2.2.1
  have HM : Hid (m ≤ 1048576) := Lib.hid (Nat.le_succ_of_le hm)
  have HL := Lib.hid hzl
  unfold Ni.v roomP Ni.fi
  dsimp only at H HM HL ⊢
  rw [HL.out]
  clear h ho hn hm hzl hll HL
  go_enter Try.func15, Try.ntmps15
  go_wp2_with (go_at_call 26; refine (wpeak_any n q m d L _ (H.out.later HB0.out) HM.out).mono ?_; rintro e w2 ⟨rfl, hb2⟩; have HB2 := Lib.hid (below_step HB0.out hb2); clear hb2)
  go_ret
  exact ⟨rfl, HB2.out⟩

theorem size25 : (Try.prog.info? 25).map (·.size) = some 2 := by kernel_rfl

theorem Iw.results_tmp {fn : Func} {p u : Tmp} {w : World} {g : Nat} {y : Ni} (hg : Iw w g y) (h : fn.results = #[.cell p 25, .tmp u]) (tmps : Array Value)
    (hp : tmps.getD p undef = .pointer (some ⟨g, 0, none⟩)) : (Go.results fn tmps).run Try.prog w = .ok (.tuple #[y.v, tmps.getD u undef]) w := by
  rw [results_cell_tmp h, hp]
  simp only [asAddr, Sem.run_pure, Result.andThen]
  have hr := run_loadVar_row (P := Try.prog) w g _ 25 _ _ _ hg Try.underlying25 rfl size25
  rw [hr]
  rfl

set_option maxRecDepth 100000 in
theorem isync_any (x : Ni) (w : World) (h : Ni.fit w x) (ho : x.fi.ok) :
    Calls Try.prog 14 #[x.v] w fun e w' => ∃ y : Ni, e = .returned y.v ∧ Ni.fit w' y ∧ y.fi = syncP x.fi ∧ Below w.heap.size w w' := by
  have HN := Lib.hid fun W hW => inow_any x W hW ho
  obtain ⟨p, n, c, q, m, d, zs, L⟩ := x
  have HB0 : Hid (Below w.heap.size w (w.alloc (.cells #[.slice p n c, .slice q m d] 25))) := Lib.hid ((Below.refl _ _).alloc (Nat.le_refl _) _)
  have HB1 : Hid (Below w.heap.size w ((w.alloc (.cells #[.slice p n c, .slice q m d] 25)).alloc (.cells #[.slice none 0 0, .slice none 0 0] 25))) := Lib.hid (HB0.out.alloc HB0.out.size _)
  have HZ1 : Hid (Iw ((w.alloc (.cells #[.slice p n c, .slice q m d] 25)).alloc (.cells #[.slice none 0 0, .slice none 0 0] 25)) (w.heap.size + 1) ni0) := Lib.hid (two_new _ _ _)
  have HF := Lib.hid h
  generalize hF : Ni.fi ⟨p, n, c, q, m, d, zs, L⟩ = F at *
  clear h ho hF
  unfold Ni.v at HN ⊢
  go_enter Try.func14, Try.ntmps14
  go_wp2_with fail
  refine (HN.out _ (HF.out.later HB1.out)).mono ?_
  rintro e w2 ⟨v2, rfl, ho2, hb2⟩
  have HB2 := Lib.hid (below_step HB1.out hb2)
  have HZ2 := Lib.hid (HZ1.out.later hb2)
  obtain ⟨p2, c2, hv2, hlc2, _, hbs2, hpn2⟩ := ho2.open
  subst hv2
  obtain ⟨z0, z1⟩ := HZ2.out.cells
  have f0 := HZ2.out.frozen 0
  have f1 := HZ2.out.frozen 1
  have HBS : Hid (Bs w2 p2 (nowP F).length (nowP F)) := Lib.hid hbs2
  have HLC := Lib.hid hlc2
  have HPN := Lib.hid hpn2
  clear ho2 hb2 hbs2 hlc2 hpn2 HZ1 HB1 HB0
  go_wp2
  refine bodyPost_ret (results_cell_row rfl _ _ (w.heap.size + 1) 25 _ (0, 0) _ rfl (cells2_stored HZ2.out _ _) Try.underlying25 rfl size25) rfl ?_
  refine ⟨⟨p2, (nowP F).length, c2, none, 0, 0, nowP F, []⟩, rfl, ⟨HBS.out.stored HZ2.out.sl2 (stored2_keep _ _ _ _), HPN.out, HLC.out, ⟨rfl, by simp, Or.inl rfl⟩, fun _ => rfl, Nat.le_refl _⟩, rfl, ?_⟩
  exact (HB2.out.setCell (p := ⟨w.heap.size + 1, 0, none⟩) (Nat.le_succ _) _).setCell (p := ⟨w.heap.size + 1, 1, none⟩) (Nat.le_succ _) _
end Go.Proofs.Ytapobakolnlpmaa
