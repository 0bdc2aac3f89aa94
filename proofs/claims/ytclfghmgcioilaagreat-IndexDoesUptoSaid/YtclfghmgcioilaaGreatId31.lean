/- Layer 19, the reference: Put, Delete, Tag, Untag. (gen_entb.py); Layer 19, the reference: Keep, KeepTag, Same, SameTag. (gen_entc.py); The reference of layer 20: Get, Count, Same. (gen_idxr.py); The reference of layer 20: Set, New. (gen_idxr.py); The reference of layer 20: Keep, Apply. (gen_idxr.py); Layer 20: deeds in memory; an index and the reference's row between deeds. (gen_idxd.py); Layer 20 -/
import Derived.Test.YtclfghmgcioilaaGreatId1
import Derived.Test.YtclfghmgcioilaaGreatId3
import Derived.Test.YtclfghmgcioilaaGreatId6
import Derived.Test.YtclfghmgcioilaaGreatId10
import Derived.Test.YtclfghmgcioilaaGreatId13
import Derived.Test.YtclfghmgcioilaaGreatId14
import Derived.Test.YtclfghmgcioilaaGreatId15
import Derived.Test.YtclfghmgcioilaaGreatId30
import Derived.Deep.Cut
import Derived.Deep.DeepCutAuto
set_option linter.unusedSimpArgs false
set_option linter.unusedVariables false
namespace Go.Proofs.YtclfghmgcioilaaGreat
set_option linter.unusedVariables false
open Go.RowKit Go.Lib
set_option maxRecDepth 100000 in
set_option maxHeartbeats 4000000 in
theorem rput19_any (e : Pe) (s : Value) (x : Wq) (w : World) (h : Is w s e.ins) (hd : dok e.dg) (hx : dok x.dg) (hn : e.ins.length ≤ 2097152) :
    Calls Tryz.prog 23 #[enV e s, x.v] w fun r w' => EnG w (putE e x) r w' := by
  obtain ⟨w0, w1, w2, g1, g2, h0, h1, h2, hg1, hg2, hB⟩ := box3 w (enC e s) (mixC x.a x.dg x.t) (enC zeroE (.slice none 0 0)) 42 33 42
  have HE : Hid (Em w2 w.heap.size e s) := Lib.hid hB.a
  have HX : Hid (Wm w2 g1 x) := Lib.hid hB.b
  have HZ : Hid (Em w2 g2 zeroE (.slice none 0 0)) := Lib.hid hB.z
  have HB := Lib.hid hB.le
  have HLT := Lib.hid hB.lt
  have HS := Lib.hid (h.later hB.le)
  obtain ⟨p, c, rfl, hs, _⟩ := h.later hB.le
  have HRO := Lib.hid fun W (hW : Below w2.heap.size w2 W) => rrow19_any p e.ins.length c e.ins W (hs.later hW) hn
  have HD := Lib.hid hd
  have HXD := Lib.hid hx
  have HN := Lib.hid hn
  have HLX := Lib.hid fun W (hW : Below w2.heap.size w2 W) => (HX.out.later hW).dig hx.1
  have HLC := Lib.hid fun W (hW : Below w2.heap.size w2 W) => (HX.out.later hW).loc hx.1
  obtain ⟨m, hm⟩ : ∃ m, e.ins.length = m := ⟨_, rfl⟩
  rw [hm] at HRO
  have HML := Lib.hid hm
  obtain ⟨e0, e1, e2, cs⟩ := HE.out.cells hd.1
  obtain ⟨x0, x1, x2, x3⟩ := HX.out.cells5 hx.1
  rw [hm] at cs
  have HSC := Lib.hid (show (fun W : World => W.cell? ⟨g1, 0, none⟩ = some (.int .i64 x.k) ∧ W.cell? ⟨g1, 35, none⟩ = some (.int .i64 x.z) ∧ W.cell? ⟨g1, 36, none⟩ = some (.int .i64 x.seg) ∧ W.cell? ⟨w.heap.size, 37, none⟩ = some (.slice p m c) ∧ Below w2.heap.size w2 W) w2 from ⟨x0, x2, x3, cs, Below.refl _ _⟩)
  rw [enZero] at h2
  unfold enV Wq.v
  generalize hMC : enC e (Value.slice p e.ins.length c) = MC at *
  generalize hMX : mixC x.a x.dg x.t = MX at *
  rw [hm] at hMC
  clear hMC hMX hs hd hx hn hB hm cs e0 e1 e2 x0 x1 x2 x3
  go_enter Tryz.func23, Tryz.ntmps23
  go_upto_region 1 with fail
  refine wp_region_x (fun W : World => W.cell? ⟨g1, 0, none⟩ = some (.int .i64 x.k) ∧ W.cell? ⟨g1, 35, none⟩ = some (.int .i64 x.z) ∧ W.cell? ⟨g1, 36, none⟩ = some (.int .i64 x.seg) ∧ W.cell? ⟨w.heap.size, 37, none⟩ = some (.slice p m c) ∧ Below w2.heap.size w2 W) 16 (by kernel_rfl) ?_
  have hHeld : (fun W : World => W.cell? ⟨g1, 0, none⟩ = some (.int .i64 x.k) ∧ W.cell? ⟨g1, 35, none⟩ = some (.int .i64 x.z) ∧ W.cell? ⟨g1, 36, none⟩ = some (.int .i64 x.seg) ∧ W.cell? ⟨w.heap.size, 37, none⟩ = some (.slice p m c) ∧ Below w2.heap.size w2 W) _ := (show (fun W : World => W.cell? ⟨g1, 0, none⟩ = some (.int .i64 x.k) ∧ W.cell? ⟨g1, 35, none⟩ = some (.int .i64 x.z) ∧ W.cell? ⟨g1, 36, none⟩ = some (.int .i64 x.seg) ∧ W.cell? ⟨w.heap.size, 37, none⟩ = some (.slice p m c) ∧ Below w2.heap.size w2 W) (World.drew w2) from ⟨HSC.out.1, HSC.out.2.1, HSC.out.2.2.1, HSC.out.2.2.2.1, (Below.refl _ _).drew⟩)
  refine takex 0 (v := ?vv1) rfl (by kernel_rfl) (by kernel_rfl) (by kernel_rfl) (by kernel_rfl) (by kernel_rfl) (fun _ _ _ h => h) (Or.inl ⟨by rfl, ?hy1⟩) hHeld ?rest1
  case hy1 => intro w hSw; (try dsimp only at hSw); go_simp; (try with_reducible rfl)
  (try simp only [Act.put, List.setIfInBounds_toArray, List.set_cons_zero, List.set_cons_succ])
  refine takex 1 rfl (by kernel_rfl) (by kernel_rfl) (by kernel_rfl) (by kernel_rfl) (by kernel_rfl) (fun _ _ _ h => h) (yieldsIf_ld (by rfl) 29 (.tmp 5) rfl (.pointer (some ⟨g1, 2, none⟩)) rfl (.agg (bcs x.dg)) (fun W hW => HLX.out W (hW.2.2.2.2))) hHeld ?_
  (try simp only [Act.put, List.setIfInBounds_toArray, List.set_cons_zero, List.set_cons_succ])
  refine takex 2 (v := ?vv3) rfl (by kernel_rfl) (by kernel_rfl) (by kernel_rfl) (by kernel_rfl) (by kernel_rfl) (fun _ _ _ h => h) (Or.inl ⟨by rfl, ?hy3⟩) hHeld ?rest3
  case hy3 => intro w hSw; (try dsimp only at hSw); go_simp; (try with_reducible rfl)
  (try simp only [Act.put, List.setIfInBounds_toArray, List.set_cons_zero, List.set_cons_succ])
  refine takex 3 (v := ?vv4) rfl (by kernel_rfl) (by kernel_rfl) (by kernel_rfl) (by kernel_rfl) (by kernel_rfl) (fun _ _ _ h => h) (Or.inl ⟨by rfl, ?hy4⟩) hHeld ?rest4
  case hy4 => intro w hSw; (try dsimp only at hSw); go_simp; (try with_reducible rfl)
  (try simp only [Act.put, List.setIfInBounds_toArray, List.set_cons_zero, List.set_cons_succ])
  refine takex 4 (v := ?vv5) rfl (by kernel_rfl) (by kernel_rfl) (by kernel_rfl) (by kernel_rfl) (by kernel_rfl) (fun _ _ _ h => h) (Or.inl ⟨by rfl, ?hy5⟩) hHeld ?rest5
  case hy5 => intro w hSw; (try dsimp only at hSw); go_simp; (try with_reducible rfl)
  (try simp only [Act.put, List.setIfInBounds_toArray, List.set_cons_zero, List.set_cons_succ])
  refine takex 5 (v := ?vv6) rfl (by kernel_rfl) (by kernel_rfl) (by kernel_rfl) (by kernel_rfl) (by kernel_rfl) (fun _ _ _ h => h) (Or.inl ⟨by rfl, ?hy6⟩) hHeld ?rest6
  case hy6 => intro w hSw; (try dsimp only at hSw); go_simp; (try with_reducible rfl)
  (try simp only [Act.put, List.setIfInBounds_toArray, List.set_cons_zero, List.set_cons_succ])
  refine takex 6 (v := ?vv7) rfl (by kernel_rfl) (by kernel_rfl) (by kernel_rfl) (by kernel_rfl) (by kernel_rfl) (fun _ _ _ h => h) (Or.inl ⟨by rfl, ?hy7⟩) hHeld ?rest7
  case hy7 => intro w hSw; (try dsimp only at hSw); go_simp; (try with_reducible rfl)
  (try simp only [Act.put, List.setIfInBounds_toArray, List.set_cons_zero, List.set_cons_succ])
  refine takex 7 rfl (by kernel_rfl) (by kernel_rfl) (by kernel_rfl) (by kernel_rfl) (by kernel_rfl) (fun _ _ _ h => h) (yieldsIf_ld (by rfl) 31 (.tmp 11) rfl (.pointer (some ⟨g1, 36, none⟩)) rfl (.agg (lcA x.seg x.off x.len)) (fun W hW => HLC.out W (hW.2.2.2.2))) hHeld ?_
  (try simp only [Act.put, List.setIfInBounds_toArray, List.set_cons_zero, List.set_cons_succ])
  refine takex 8 (v := ?vv9) rfl (by kernel_rfl) (by kernel_rfl) (by kernel_rfl) (by kernel_rfl) (by kernel_rfl) (fun _ _ _ h => h) (Or.inl ⟨by rfl, ?hy9⟩) hHeld ?rest9
  case hy9 => intro w hSw; (try dsimp only at hSw); go_simp; (try with_reducible rfl)
  (try simp only [Act.put, List.setIfInBounds_toArray, List.set_cons_zero, List.set_cons_succ])
  refine takex 9 (v := ?vv10) rfl (by kernel_rfl) (by kernel_rfl) (by kernel_rfl) (by kernel_rfl) (by kernel_rfl) (fun _ _ _ h => h) (Or.inl ⟨by rfl, ?hy10⟩) hHeld ?rest10
  case hy10 => intro w hSw; (try dsimp only at hSw); go_simp; (try with_reducible rfl)
  (try simp only [Act.put, List.setIfInBounds_toArray, List.set_cons_zero, List.set_cons_succ])
  refine takex 11 (v := ?vv11) rfl (by kernel_rfl) (by kernel_rfl) (by kernel_rfl) (by kernel_rfl) (by kernel_rfl) (fun _ _ _ h => h) (Or.inl ⟨by rfl, ?hy11⟩) hHeld ?rest11
  case hy11 => intro w hSw; (try dsimp only at hSw); go_simp; (try with_reducible rfl)
  (try simp only [Act.put, List.setIfInBounds_toArray, List.set_cons_zero, List.set_cons_succ])
  refine takex 12 (v := ?vv12) rfl (by kernel_rfl) (by kernel_rfl) (by kernel_rfl) (by kernel_rfl) (by kernel_rfl) (fun _ _ _ h => h) (Or.inl ⟨by rfl, ?hy12⟩) hHeld ?rest12
  case hy12 => intro w hSw; (try dsimp only at hSw); go_simp; (try with_reducible rfl)
  (try simp only [Act.put, List.setIfInBounds_toArray, List.set_cons_zero, List.set_cons_succ])
  refine takex 13 (v := ?vv13) rfl (by kernel_rfl) (by kernel_rfl) (by kernel_rfl) (by kernel_rfl) (by kernel_rfl) (fun _ _ _ h => h) (Or.inl ⟨by rfl, ?hy13⟩) hHeld ?rest13
  case hy13 => intro w hSw; (try dsimp only at hSw); go_simp; (try with_reducible rfl)
  (try simp only [Act.put, List.setIfInBounds_toArray, List.set_cons_zero, List.set_cons_succ])
  refine readyx 10 rfl (by kernel_rfl) (fun K hK => ?_)
  go_simp
  refine (HRO.out _ (hHeld.2.2.2.2)).mono ?_
  rintro r w5 ⟨v5, rfl, ho5, hb5⟩
  have hb25 := below_step (hHeld.2.2.2.2) hb5
  obtain ⟨q5, d5, hv5, _⟩ := ho5.open
  obtain ⟨n5, hnn5⟩ : ∃ n, (rowI e.ins).length = n := ⟨_, rfl⟩
  rw [hnn5] at hv5
  subst hv5
  have HO5 := Lib.hid ho5
  obtain ⟨y0, y1, y2, y3⟩ := (HE.out.later hb25).cells HD.out.1
  obtain ⟨z0, z1, z2, z3⟩ := (HX.out.later hb25).cells5 HXD.out.1
  rw [show e.ins.length = m from HML.out] at y3
  have k_x0 := z0
  have k_x2 := z2
  have k_x3 := z3
  have k_cs := y3
  clear y0 y1 y2 z0 z1 z2 z3
  clear hb5 ho5
  have hn5 : n5 ≤ 2097152 := by rw [← hnn5]; exact Nat.le_trans (rowI_length _) HN.out
  have HAD := Lib.hid fun W (hW : Below w5.heap.size w5 W) => radd19_any q5 n5 d5 _ x.seg W (HO5.out.gs.later hW) hn5
  clear hnn5 hn5
  first
    | refine hK.out _ _ ?hS14 ?rest14
    | (go_wp2_with fail; refine hK.out _ _ ?hS14 ?rest14)
  case hS14 => exact ⟨k_x0, k_x2, k_x3, k_cs, hb25⟩
  clear hK K hHeld
  have hHeld : (fun W : World => W.cell? ⟨g1, 0, none⟩ = some (.int .i64 x.k) ∧ W.cell? ⟨g1, 35, none⟩ = some (.int .i64 x.z) ∧ W.cell? ⟨g1, 36, none⟩ = some (.int .i64 x.seg) ∧ W.cell? ⟨w.heap.size, 37, none⟩ = some (.slice p m c) ∧ Below w2.heap.size w2 W) _ := ⟨k_x0, k_x2, k_x3, k_cs, hb25⟩
  (try simp only [Act.put, List.setIfInBounds_toArray, List.set_cons_zero, List.set_cons_succ])
  refine readyx 14 rfl (by kernel_rfl) (fun K hK => ?_)
  go_simp
  refine (HAD.out _ (Below.refl _ _)).mono ?_
  rintro r w6 ⟨v6, rfl, ho6, hb6⟩
  have hb26 := below_step hb25 hb6
  obtain ⟨q, d, hv6, _⟩ := ho6.open
  obtain ⟨n, hnn⟩ : ∃ n, (putI (rowI e.ins) x.seg).length = n := ⟨_, rfl⟩
  rw [hnn] at hv6
  subst hv6
  have HO6 := Lib.hid ho6
  obtain ⟨y0, y1, y2, y3⟩ := (HE.out.later hb26).cells HD.out.1
  obtain ⟨z0, z1, z2, z3⟩ := (HX.out.later hb26).cells5 HXD.out.1
  rw [show e.ins.length = m from HML.out] at y3
  have k_x0 := z0
  have k_x2 := z2
  have k_x3 := z3
  have k_cs := y3
  clear y0 y1 y2 z0 z1 z2 z3
  clear hb6 ho6
  have HBL5 : Hid (g2 < _) := Lib.hid (Nat.lt_of_lt_of_le HZ.out.lt (Below.size hb25))
  first
    | refine hK.out _ _ ?hS15 ?rest15
    | (go_wp2_with fail; refine hK.out _ _ ?hS15 ?rest15)
  case hS15 => exact ⟨k_x0, k_x2, k_x3, k_cs, hb26⟩
  clear hK K hHeld
  have hHeld : (fun W : World => W.cell? ⟨g1, 0, none⟩ = some (.int .i64 x.k) ∧ W.cell? ⟨g1, 35, none⟩ = some (.int .i64 x.z) ∧ W.cell? ⟨g1, 36, none⟩ = some (.int .i64 x.seg) ∧ W.cell? ⟨w.heap.size, 37, none⟩ = some (.slice p m c) ∧ Below w2.heap.size w2 W) _ := ⟨k_x0, k_x2, k_x3, k_cs, hb26⟩
  (try simp only [Act.put, List.setIfInBounds_toArray, List.set_cons_zero, List.set_cons_succ])
  refine takex 15 rfl (by kernel_rfl) (by kernel_rfl) (by kernel_rfl) (by kernel_rfl) (by kernel_rfl) (fun _ _ _ h => h) (yieldsIf_build (by rfl) 42 #[(0, .tmp 6), (1, .tmp 8), (2, .tmp 10), (3, .tmp 12), (4, .tmp 19)] rfl (enC (putE e x) (.slice q n d)) (by first | exact (built_en5 x.k x.z x.seg x.off x.len (putI (rowI e.ins) x.seg) q n d x.dg HXD.out.1) | (simp only [List.map_toArray, List.map_cons, List.map_nil]; exact (built_en5 x.k x.z x.seg x.off x.len (putI (rowI e.ins) x.seg) q n d x.dg HXD.out.1)))) hHeld ?_
  (try simp only [Act.put, List.setIfInBounds_toArray, List.set_cons_zero, List.set_cons_succ])
  refine lastx 16 rfl (by kernel_rfl) (by kernel_rfl) (fun K hK => ?_)
  rw [if_pos (by rfl)]
  have HZ5 := Lib.hid (HZ.out.later hb26)
  have HIS : Hid (Is w6 (.slice q n d) (putI (rowI e.ins) x.seg)) := Lib.hid (by have h := HO6.out.is; exact h)
  have hlz : g2 < w6.heap.size := HZ5.out.lt
  have hgl : w.heap.size ≤ g2 := by have := HLT.out; omega
  have HMZ : Hid (Em (w6.setRow g2 (enC (putE e x) (.slice q n d))) g2 (putE e x) (.slice q n d)) := Lib.hid (Mx.row HZ5.out)
  have HBZ : Hid (Below w.heap.size w (w6.setRow g2 (enC (putE e x) (.slice q n d)))) := Lib.hid (below_setRow8 (below_step HB.out hb26) _ _ hgl)
  have HIZ : Hid (Gw encI (w6.setRow g2 (enC (putE e x) (.slice q n d))) w.heap.size (.slice q n d) (putI (rowI e.ins) x.seg)) := Lib.hid ((Gw.isrow HO6.out HZ5.out HBL5.out).mono (by have h1 := HBL5.out; have h2 := HLT.out; omega))
  refine wp_store_row 42 _ _ rfl g2 (enC (putE e x) (.slice q n d)) rfl rfl 42 _ HZ5.out (enC_sizeOf (putE e x) _ HXD.out.1) ((enC_size _ _ rfl).trans (enC_size (putE e x) _ HXD.out.1).symm) (enC_one _ _ _ _) ?_
  generalize World.setRow _ _ _ = wZ at *
  first
    | refine hK.out _ _ ?_
    | (go_wp2_with fail; refine hK.out _ _ ?_)
  clear hK K hHeld
  go_wp2
  refine bodyPost_ret (HMZ.out.res1 HXD.out.1 rfl _ rfl) rfl ?_
  exact ⟨_, rfl, HIZ.out, HBZ.out⟩
set_option maxRecDepth 100000 in
set_option maxHeartbeats 4000000 in
theorem rdel19_any (e : Pe) (s : Value) (x : Wq) (w : World) (h : Is w s e.ins) (hd : dok e.dg) (hx : dok x.dg) (hn : e.ins.length ≤ 2097152) :
    Calls Tryz.prog 24 #[enV e s, x.v] w fun r w' => EnG w (delE e x) r w' := by
  obtain ⟨w0, w1, w2, g1, g2, h0, h1, h2, hg1, hg2, hB⟩ := box3 w (enC e s) (mixC x.a x.dg x.t) (enC zeroE (.slice none 0 0)) 42 33 42
  have HE : Hid (Em w2 w.heap.size e s) := Lib.hid hB.a
  have HX : Hid (Wm w2 g1 x) := Lib.hid hB.b
  have HZ : Hid (Em w2 g2 zeroE (.slice none 0 0)) := Lib.hid hB.z
  have HB := Lib.hid hB.le
  have HLT := Lib.hid hB.lt
  have HS := Lib.hid (h.later hB.le)
  obtain ⟨p, c, rfl, hs, _⟩ := h.later hB.le
  have HRO := Lib.hid fun W (hW : Below w2.heap.size w2 W) => rrow19_any p e.ins.length c e.ins W (hs.later hW) hn
  have HD := Lib.hid hd
  have HXD := Lib.hid hx
  have HN := Lib.hid hn
  have HLE := Lib.hid fun W (hW : Below w2.heap.size w2 W) => (HE.out.later hW).dig hd.1
  have HLC := Lib.hid fun W (hW : Below w2.heap.size w2 W) => (HX.out.later hW).loc hx.1
  obtain ⟨m, hm⟩ : ∃ m, e.ins.length = m := ⟨_, rfl⟩
  rw [hm] at HRO
  have HML := Lib.hid hm
  obtain ⟨e0, e1, e2, cs⟩ := HE.out.cells hd.1
  obtain ⟨x0, x1, x2, x3⟩ := HX.out.cells5 hx.1
  rw [hm] at cs
  have HSC := Lib.hid (show (fun W : World => W.cell? ⟨w.heap.size, 37, none⟩ = some (.slice p m c) ∧ Below w2.heap.size w2 W) w2 from ⟨cs, Below.refl _ _⟩)
  rw [enZero] at h2
  unfold enV Wq.v
  generalize hMC : enC e (Value.slice p e.ins.length c) = MC at *
  generalize hMX : mixC x.a x.dg x.t = MX at *
  rw [hm] at hMC
  clear hMC hMX hs hd hx hn hB hm cs e0 e1 e2 x0 x1 x2 x3
  go_enter Tryz.func24, Tryz.ntmps24
  go_upto_region 1 with fail
  refine wp_region_x (fun W : World => W.cell? ⟨w.heap.size, 37, none⟩ = some (.slice p m c) ∧ Below w2.heap.size w2 W) 8 (by kernel_rfl) ?_
  have hHeld : (fun W : World => W.cell? ⟨w.heap.size, 37, none⟩ = some (.slice p m c) ∧ Below w2.heap.size w2 W) _ := (show (fun W : World => W.cell? ⟨w.heap.size, 37, none⟩ = some (.slice p m c) ∧ Below w2.heap.size w2 W) (World.drew w2) from ⟨HSC.out.1, (Below.refl _ _).drew⟩)
  refine takex 0 (v := ?vv18) rfl (by kernel_rfl) (by kernel_rfl) (by kernel_rfl) (by kernel_rfl) (by kernel_rfl) (fun _ _ _ h => h) (Or.inl ⟨by rfl, ?hy18⟩) hHeld ?rest18
  case hy18 => intro w hSw; (try dsimp only at hSw); go_simp; (try with_reducible rfl)
  (try simp only [Act.put, List.setIfInBounds_toArray, List.set_cons_zero, List.set_cons_succ])
  refine takex 1 rfl (by kernel_rfl) (by kernel_rfl) (by kernel_rfl) (by kernel_rfl) (by kernel_rfl) (fun _ _ _ h => h) (yieldsIf_ld (by rfl) 29 (.tmp 5) rfl (.pointer (some ⟨w.heap.size, 0, none⟩)) rfl (.agg (bcs e.dg)) (fun W hW => HLE.out W (hW.2))) hHeld ?_
  (try simp only [Act.put, List.setIfInBounds_toArray, List.set_cons_zero, List.set_cons_succ])
  refine takex 2 (v := ?vv20) rfl (by kernel_rfl) (by kernel_rfl) (by kernel_rfl) (by kernel_rfl) (by kernel_rfl) (fun _ _ _ h => h) (Or.inl ⟨by rfl, ?hy20⟩) hHeld ?rest20
  case hy20 => intro w hSw; (try dsimp only at hSw); go_simp; (try with_reducible rfl)
  (try simp only [Act.put, List.setIfInBounds_toArray, List.set_cons_zero, List.set_cons_succ])
  refine takex 3 rfl (by kernel_rfl) (by kernel_rfl) (by kernel_rfl) (by kernel_rfl) (by kernel_rfl) (fun _ _ _ h => h) (yieldsIf_ld (by rfl) 31 (.tmp 7) rfl (.pointer (some ⟨g1, 36, none⟩)) rfl (.agg (lcA x.seg x.off x.len)) (fun W hW => HLC.out W (hW.2))) hHeld ?_
  (try simp only [Act.put, List.setIfInBounds_toArray, List.set_cons_zero, List.set_cons_succ])
  refine takex 4 (v := ?vv22) rfl (by kernel_rfl) (by kernel_rfl) (by kernel_rfl) (by kernel_rfl) (by kernel_rfl) (fun _ _ _ h => h) (Or.inl ⟨by rfl, ?hy22⟩) hHeld ?rest22
  case hy22 => intro w hSw; (try dsimp only at hSw); go_simp; (try with_reducible rfl)
  (try simp only [Act.put, List.setIfInBounds_toArray, List.set_cons_zero, List.set_cons_succ])
  refine takex 5 (v := ?vv23) rfl (by kernel_rfl) (by kernel_rfl) (by kernel_rfl) (by kernel_rfl) (by kernel_rfl) (fun _ _ _ h => h) (Or.inl ⟨by rfl, ?hy23⟩) hHeld ?rest23
  case hy23 => intro w hSw; (try dsimp only at hSw); go_simp; (try with_reducible rfl)
  (try simp only [Act.put, List.setIfInBounds_toArray, List.set_cons_zero, List.set_cons_succ])
  refine readyx 6 rfl (by kernel_rfl) (fun K hK => ?_)
  go_simp
  refine (HRO.out _ (hHeld.2)).mono ?_
  rintro r w5 ⟨v5, rfl, ho5, hb5⟩
  have hb25 := below_step (hHeld.2) hb5
  obtain ⟨q, d, hv5, _⟩ := ho5.open
  obtain ⟨n, hnn⟩ : ∃ n, (rowI e.ins).length = n := ⟨_, rfl⟩
  rw [hnn] at hv5
  subst hv5
  have HO5 := Lib.hid ho5
  obtain ⟨y0, y1, y2, y3⟩ := (HE.out.later hb25).cells HD.out.1
  obtain ⟨z0, z1, z2, z3⟩ := (HX.out.later hb25).cells5 HXD.out.1
  rw [show e.ins.length = m from HML.out] at y3
  have k_cs := y3
  clear y0 y1 y2 z0 z1 z2 z3
  clear hb5 ho5
  have HBL5 : Hid (g2 < _) := Lib.hid (Nat.lt_of_lt_of_le HZ.out.lt (Below.size hHeld.2))
  first
    | refine hK.out _ _ ?hS24 ?rest24
    | (go_wp2_with fail; refine hK.out _ _ ?hS24 ?rest24)
  case hS24 => exact ⟨k_cs, hb25⟩
  clear hK K hHeld
  have hHeld : (fun W : World => W.cell? ⟨w.heap.size, 37, none⟩ = some (.slice p m c) ∧ Below w2.heap.size w2 W) _ := ⟨k_cs, hb25⟩
  (try simp only [Act.put, List.setIfInBounds_toArray, List.set_cons_zero, List.set_cons_succ])
  refine takex 7 rfl (by kernel_rfl) (by kernel_rfl) (by kernel_rfl) (by kernel_rfl) (by kernel_rfl) (fun _ _ _ h => h) (yieldsIf_build (by rfl) 42 #[(0, .tmp 6), (1, .const (.int .i64 5)), (3, .tmp 8), (4, .tmp 11)] rfl (enC (delE e x) (.slice q n d)) (by first | exact (built_en4 5 x.seg x.off x.len (rowI e.ins) q n d e.dg HD.out.1) | (simp only [List.map_toArray, List.map_cons, List.map_nil]; exact (built_en4 5 x.seg x.off x.len (rowI e.ins) q n d e.dg HD.out.1)))) hHeld ?_
  (try simp only [Act.put, List.setIfInBounds_toArray, List.set_cons_zero, List.set_cons_succ])
  refine lastx 8 rfl (by kernel_rfl) (by kernel_rfl) (fun K hK => ?_)
  rw [if_pos (by rfl)]
  have HZ5 := Lib.hid (HZ.out.later hb25)
  have HIS : Hid (Is w5 (.slice q n d) (rowI e.ins)) := Lib.hid (by have h := HO5.out.is; exact h)
  have hlz : g2 < w5.heap.size := HZ5.out.lt
  have hgl : w.heap.size ≤ g2 := by have := HLT.out; omega
  have HMZ : Hid (Em (w5.setRow g2 (enC (delE e x) (.slice q n d))) g2 (delE e x) (.slice q n d)) := Lib.hid (Mx.row HZ5.out)
  have HBZ : Hid (Below w.heap.size w (w5.setRow g2 (enC (delE e x) (.slice q n d)))) := Lib.hid (below_setRow8 (below_step HB.out hb25) _ _ hgl)
  have HIZ : Hid (Gw encI (w5.setRow g2 (enC (delE e x) (.slice q n d))) w.heap.size (.slice q n d) (rowI e.ins)) := Lib.hid ((Gw.isrow HO5.out HZ5.out HBL5.out).mono (by have h1 := HBL5.out; have h2 := HLT.out; omega))
  refine wp_store_row 42 _ _ rfl g2 (enC (delE e x) (.slice q n d)) rfl rfl 42 _ HZ5.out (enC_sizeOf (delE e x) _ HD.out.1) ((enC_size _ _ rfl).trans (enC_size (delE e x) _ HD.out.1).symm) (enC_one _ _ _ _) ?_
  generalize World.setRow _ _ _ = wZ at *
  first
    | refine hK.out _ _ ?_
    | (go_wp2_with fail; refine hK.out _ _ ?_)
  clear hK K hHeld
  go_wp2
  refine bodyPost_ret (HMZ.out.res1 HD.out.1 rfl _ rfl) rfl ?_
  exact ⟨_, rfl, HIZ.out, HBZ.out⟩
end Go.Proofs.YtclfghmgcioilaaGreat

namespace Go.Proofs.YtclfghmgcioilaaGreat
set_option linter.unusedVariables false
open Go.RowKit Go.Lib
set_option maxRecDepth 100000 in
set_option maxHeartbeats 1000000 in
theorem rkeep19_any (e : Pe) (s : Value) (p2 : Option Addr) (m2 c2 : Nat) (B : List Int) (w : World) (h : Is w s e.ins) (hs2 : Gs encI w p2 m2 B) (hd : dok e.dg) (hn : e.ins.length ≤ 2097152) (hm2 : m2 ≤ 2097152) :
    Calls Tryz.prog 28 #[enV e s, .slice p2 m2 c2] w fun r w' => KeG w (keepE e B) r w' := by
  obtain ⟨w0, w2, g1, h0, h2, hg1, hB⟩ := box2 w (enC e s) (enC zeroE (.slice none 0 0)) 42 42
  have HE : Hid (Em w2 w.heap.size e s) := Lib.hid hB.a
  have HZ : Hid (Em w2 g1 zeroE (.slice none 0 0)) := Lib.hid hB.z
  have HB := Lib.hid hB.le
  have HLT := Lib.hid hB.lt
  obtain ⟨p, c, rfl, hs, _⟩ := h.later hB.le
  have HBO := Lib.hid (rboth19_any p e.ins.length c e.ins p2 m2 c2 B w2 hs (hs2.later hB.le) hn hm2)
  have HIN := Lib.hid fun W (hW : Below w2.heap.size w2 W) => rin19_any p2 m2 c2 B e.seg W ((hs2.later hB.le).later hW) hm2
  have HD := Lib.hid hd
  have HBL := Lib.hid (bothI_length e.ins B)
  obtain ⟨e0, e1, e2, cs⟩ := HE.out.cells hd.1
  obtain ⟨m, hm⟩ : ∃ m, e.ins.length = m := ⟨_, rfl⟩
  rw [hm] at HBO cs HBL
  have HR : Hid (keepE e B = _) := Lib.hid (by unfold keepE; rfl)
  obtain ⟨Y, hY⟩ : ∃ Y, bothI e.ins B = Y := ⟨_, rfl⟩
  rw [hY] at HBO HR HBL
  have HYY := Lib.hid hY
  have hnil := len_nil (L := Y)
  have HNIL := Lib.hid hnil
  have hmm : m ≤ 2097152 := by omega
  rw [enZero] at h2
  unfold enV
  generalize hMC : enC e (Value.slice p e.ins.length c) = MC at *
  rw [hm] at hMC
  clear hMC hs hs2 h hd hB hm hY hnil hn
  go_enter Tryz.func28, Tryz.ntmps28
  go_upto_region 2 with (go_at_call 43; refine HBO.out.mono ?_; rintro r w3 ⟨v, rfl, ho3, hb3⟩)
  have HO3 := Lib.hid ho3
  have HB3 := Lib.hid hb3
  obtain ⟨q, d, hv, _⟩ := ho3.open
  obtain ⟨n, hnn⟩ : ∃ n, Y.length = n := ⟨_, rfl⟩
  rw [hnn] at hv HNIL HBL
  subst hv
  have HE3 := Lib.hid (HE.out.later hb3)
  have HZ3 := Lib.hid (HZ.out.later hb3)
  have hnl : n ≤ 2097152 := by have := HBL.out; omega
  have HIN3 := Lib.hid (HIN.out w3 hb3)
  obtain ⟨f0, f1, f2, fs⟩ := HE3.out.cells HD.out.1
  have hfr := Mx.frozen HE3.out 37
  have HLT3 : Hid (w.heap.size < g1 ∧ g1 < w3.heap.size ∧ w2.heap.size ≤ w3.heap.size ∧ g1 < w2.heap.size) := Lib.hid (by have h1 := HLT.out; have h2 := hb3.size; omega)
  clear ho3 hb3 hnn e0 e1 e2 cs
  by_cases hin : e.seg ∈ B
  · have hdi : decide (e.seg ∈ B) = true := by simpa using hin
    rw [hdi] at HIN3
    have HINB := Lib.hid hin
    clear hin hdi
    by_cases hk : e.k ≠ 5
    · have HK := Lib.hid hk
      have hkt : (e.k != 5) = true := by simpa using hk
      have HRA : Hid (keepE e B = ({ e with ins := Y }, true)) := Lib.hid (by rw [HR.out, if_pos ⟨HINB.out, Or.inl HK.out⟩])
      clear hk
      have HE4 : Hid (Em (w3.setCell ⟨w.heap.size, 37, none⟩ (.slice q n d)) w.heap.size { e with ins := Y } (.slice q n d)) := Lib.hid (Mx.setLast HE3.out HD.out.1 5 (.slice q n d))
      have HZ4 : Hid (Em (w3.setCell ⟨w.heap.size, 37, none⟩ (.slice q n d)) g1 zeroE (.slice none 0 0)) := Lib.hid (Mx.other HZ3.out _ _ (by have := HLT3.out; show g1 ≠ w.heap.size; omega))
      have HK4 : Hid (∀ b, b ≠ w.heap.size → (w3.setCell ⟨w.heap.size, 37, none⟩ (.slice q n d)).heap[b]? = w3.heap[b]?) := Lib.hid fun b hb => heap_setCell_other w3 ⟨w.heap.size, 37, none⟩ b _ hb
      have HB4 : Hid (Below w.heap.size w (w3.setCell ⟨w.heap.size, 37, none⟩ (.slice q n d))) := Lib.hid ((below_step HB.out HB3.out).setCell (Nat.le_refl _) _)
      go_upto_region 4 with (go_at_call 44; refine HIN3.out.mono ?_; rintro r w4 ⟨rfl, rfl⟩)
      generalize World.setCell _ _ _ = w5 at *
      go_wp2_with (first
        | (refine wpList_ld rfl 42 _ rfl _ rfl _ (HE4.out.load HD.out.1) ?_)
        | (refine wpList_store_row rfl 42 _ _ rfl g1 (enC { e with ins := Y } (.slice q n d)) rfl rfl 42 _ HZ4.out (enC_sizeOf { e with ins := Y } _ HD.out.1) ((enC_size _ _ rfl).trans (enC_size { e with ins := Y } _ HD.out.1).symm) (enC_one _ _ _ _) ?_; generalize hw6 : World.setRow _ _ _ = w6))
      have HM6 : Em w6 g1 { e with ins := Y } (.slice q n d) := by rw [← hw6]; exact Mx.row HZ4.out
      refine bodyPost_ret (HM6.res2 HD.out.1 rfl _ rfl) rfl ?_
      refine ⟨_, by rw [HRA.out]; rfl, ?_, by rw [← hw6]; exact below_setRow8 HB4.out _ _ (by have := HLT3.out; omega)⟩
      rw [HRA.out]
      exact Gw.mono (B := w2.heap.size) (HO3.out.iskeep fun b hb => by rw [← hw6, setRow_other _ _ _ _ (by have := HLT3.out; omega)]; exact HK4.out b (by have := HLT3.out; omega)) (by have := HLT3.out; omega)
    · have HK : Hid (¬ e.k ≠ 5) := Lib.hid hk
      have hkt : (e.k != 5) = false := by simpa using hk
      by_cases hy : (0 : Int) < (n : Int)
      · have HRA : Hid (keepE e B = ({ e with ins := Y }, true)) := Lib.hid (by rw [HR.out, if_pos ⟨HINB.out, Or.inr (fun h => by have := HNIL.out.1 h; omega)⟩])
        clear hk
        have HE4 : Hid (Em (w3.setCell ⟨w.heap.size, 37, none⟩ (.slice q n d)) w.heap.size { e with ins := Y } (.slice q n d)) := Lib.hid (Mx.setLast HE3.out HD.out.1 5 (.slice q n d))
        have HZ4 : Hid (Em (w3.setCell ⟨w.heap.size, 37, none⟩ (.slice q n d)) g1 zeroE (.slice none 0 0)) := Lib.hid (Mx.other HZ3.out _ _ (by have := HLT3.out; show g1 ≠ w.heap.size; omega))
        have HK4 : Hid (∀ b, b ≠ w.heap.size → (w3.setCell ⟨w.heap.size, 37, none⟩ (.slice q n d)).heap[b]? = w3.heap[b]?) := Lib.hid fun b hb => heap_setCell_other w3 ⟨w.heap.size, 37, none⟩ b _ hb
        have HB4 : Hid (Below w.heap.size w (w3.setCell ⟨w.heap.size, 37, none⟩ (.slice q n d))) := Lib.hid ((below_step HB.out HB3.out).setCell (Nat.le_refl _) _)
        go_upto_region 4 with (go_at_call 44; refine HIN3.out.mono ?_; rintro r w4 ⟨rfl, rfl⟩)
        generalize World.setCell _ _ _ = w5 at *
        go_wp2_with (first
          | (refine wpList_ld rfl 42 _ rfl _ rfl _ (HE4.out.load HD.out.1) ?_)
          | (refine wpList_store_row rfl 42 _ _ rfl g1 (enC { e with ins := Y } (.slice q n d)) rfl rfl 42 _ HZ4.out (enC_sizeOf { e with ins := Y } _ HD.out.1) ((enC_size _ _ rfl).trans (enC_size { e with ins := Y } _ HD.out.1).symm) (enC_one _ _ _ _) ?_; generalize hw6 : World.setRow _ _ _ = w6))
        have HM6 : Em w6 g1 { e with ins := Y } (.slice q n d) := by rw [← hw6]; exact Mx.row HZ4.out
        refine bodyPost_ret (HM6.res2 HD.out.1 rfl _ rfl) rfl ?_
        refine ⟨_, by rw [HRA.out]; rfl, ?_, by rw [← hw6]; exact below_setRow8 HB4.out _ _ (by have := HLT3.out; omega)⟩
        rw [HRA.out]
        exact Gw.mono (B := w2.heap.size) (HO3.out.iskeep fun b hb => by rw [← hw6, setRow_other _ _ _ _ (by have := HLT3.out; omega)]; exact HK4.out b (by have := HLT3.out; omega)) (by have := HLT3.out; omega)
      · have HY0 : Hid (Y = []) := Lib.hid (HNIL.out.2 (by omega))
        have HRC : Hid (keepE e B = (zeroE, false)) := Lib.hid (by rw [HR.out, if_neg (fun h => h.2.elim HK.out (fun h2 => h2 HY0.out)), if_neg (fun h => h HY0.out)])
        clear hk
        have HBU := Lib.hid built_en0
        go_upto_region 7 with (go_at_call 44; refine HIN3.out.mono ?_; rintro r w4 ⟨rfl, rfl⟩)
        go_wp2_with (first
          | (refine wpList_build_is rfl 42 _ rfl (enC zeroE (.slice none 0 0)) ?_ ?_; focus (first | (simp only [List.map_toArray, List.map_nil]; exact HBU.out) | (simp only [Array.map_empty]; exact HBU.out) | (simp; exact HBU.out)))
          | (refine wpList_store_row rfl 42 _ _ rfl g1 (enC zeroE (.slice none 0 0)) rfl rfl 42 _ HZ3.out (enC_sizeOf zeroE _ rfl) rfl (enC_one _ _ _ _) ?_; generalize hw6 : World.setRow _ _ _ = w6))
        have HM6 : Em w6 g1 zeroE (.slice none 0 0) := by rw [← hw6]; exact Mx.row HZ3.out
        refine bodyPost_ret (HM6.res2 rfl rfl _ rfl) rfl ?_
        refine ⟨_, by rw [HRC.out]; rfl, ?_, by rw [← hw6]; exact below_setRow8 (below_step HB.out HB3.out) _ _ (by have := HLT3.out; omega)⟩
        rw [HRC.out]
        exact Gw.nil _ _ _
  · have hdi : decide (e.seg ∈ B) = false := by simpa using hin
    rw [hdi] at HIN3
    have HINB := Lib.hid hin
    clear hin hdi
    by_cases hy : (0 : Int) < (n : Int)
    · have HRB : Hid (keepE e B = (⟨e.dg, 5, 0, 0, 0, 0, Y⟩, true)) := Lib.hid (by rw [HR.out, if_neg (fun h => HINB.out h.1), if_pos (fun h => by have := HNIL.out.1 h; omega)])
      have HBU := Lib.hid (built_en3 5 Y q n d e.dg HD.out.1)
      have HLD := Lib.hid (HE3.out.dig HD.out.1)
      go_upto_region 6 with (go_at_call 44; refine HIN3.out.mono ?_; rintro r w4 ⟨rfl, rfl⟩)
      go_wp2_with (first
        | (refine wpList_ld rfl 29 _ rfl _ rfl _ HLD.out ?_)
        | (refine wpList_build_is rfl 42 _ rfl (enC ⟨e.dg, 5, 0, 0, 0, 0, Y⟩ (.slice q n d)) ?_ ?_; focus (first | exact HBU.out | (simp only [List.map_toArray, List.map_cons, List.map_nil]; exact HBU.out)))
        | (refine wpList_store_row rfl 42 _ _ rfl g1 (enC ⟨e.dg, 5, 0, 0, 0, 0, Y⟩ (.slice q n d)) rfl rfl 42 _ HZ3.out (enC_sizeOf ⟨e.dg, 5, 0, 0, 0, 0, Y⟩ _ HD.out.1) ((enC_size _ _ rfl).trans (enC_size ⟨e.dg, 5, 0, 0, 0, 0, Y⟩ _ HD.out.1).symm) (enC_one _ _ _ _) ?_; generalize hw6 : World.setRow _ _ _ = w6))
      have HM6 : Em w6 g1 ⟨e.dg, 5, 0, 0, 0, 0, Y⟩ (.slice q n d) := by rw [← hw6]; exact Mx.row HZ3.out
      refine bodyPost_ret (HM6.res2 HD.out.1 rfl _ rfl) rfl ?_
      refine ⟨_, by rw [HRB.out]; rfl, ?_, by rw [← hw6]; exact below_setRow8 (below_step HB.out HB3.out) _ _ (by have := HLT3.out; omega)⟩
      rw [HRB.out]
      exact Gw.mono (B := w2.heap.size) (HO3.out.iskeep fun b hb => by rw [← hw6, setRow_other _ _ _ _ (by have := HLT3.out; omega)]) (by have := HLT3.out; omega)
    · have HY0 : Hid (Y = []) := Lib.hid (HNIL.out.2 (by omega))
      have HRC : Hid (keepE e B = (zeroE, false)) := Lib.hid (by rw [HR.out, if_neg (fun h => HINB.out h.1), if_neg (fun h => h HY0.out)])
      have HBU := Lib.hid built_en0
      go_upto_region 7 with (go_at_call 44; refine HIN3.out.mono ?_; rintro r w4 ⟨rfl, rfl⟩)
      go_wp2_with (first
        | (refine wpList_build_is rfl 42 _ rfl (enC zeroE (.slice none 0 0)) ?_ ?_; focus (first | (simp only [List.map_toArray, List.map_nil]; exact HBU.out) | (simp only [Array.map_empty]; exact HBU.out) | (simp; exact HBU.out)))
        | (refine wpList_store_row rfl 42 _ _ rfl g1 (enC zeroE (.slice none 0 0)) rfl rfl 42 _ HZ3.out (enC_sizeOf zeroE _ rfl) rfl (enC_one _ _ _ _) ?_; generalize hw6 : World.setRow _ _ _ = w6))
      have HM6 : Em w6 g1 zeroE (.slice none 0 0) := by rw [← hw6]; exact Mx.row HZ3.out
      refine bodyPost_ret (HM6.res2 rfl rfl _ rfl) rfl ?_
      refine ⟨_, by rw [HRC.out]; rfl, ?_, by rw [← hw6]; exact below_setRow8 (below_step HB.out HB3.out) _ _ (by have := HLT3.out; omega)⟩
      rw [HRC.out]
      exact Gw.nil _ _ _
end Go.Proofs.YtclfghmgcioilaaGreat

namespace Go.Proofs.YtclfghmgcioilaaGreat
set_option linter.unusedVariables false
open Go.RowKit Go.Lib

theorem getE_cons (x : Pe) (M : List Pe) (d : List Int) : getE (x :: M) d = if x.dg = d then some x else getE M d := rfl
theorem getE_append (l m : List Pe) (d : List Int) : getE (l ++ m) d = match getE l d with | some x => some x | none => getE m d := by
  induction l with
  | nil => rfl
  | cons y l ih =>
    rw [List.cons_append, getE_cons, getE_cons]
    by_cases h : y.dg = d
    · rw [if_pos h, if_pos h]
    · rw [if_neg h, if_neg h]; exact ih
theorem getE_take {L : List Pe} {k : Nat} {x : Pe} (h : L[k]? = some x) (d : List Int) : getE (L.take (k + 1)) d = match getE (L.take k) d with | some y => some y | none => if x.dg = d then some x else none := by
  obtain ⟨h2, h3⟩ := List.getElem?_eq_some_iff.1 h
  rw [List.take_succ_eq_append_getElem h2, getE_append, h3]
  rfl
theorem getE_upto {L : List Pe} {k : Nat} {d : List Int} {x : Pe} (h : getE (L.take k) d = some x) : getE L d = some x := by
  conv => lhs; rw [← List.take_append_drop k L, getE_append, h]
/-- what Get answers -/
def GetQ (w : World) (L : List Ex) (r : Pe × Bool) (e : Ending) (w' : World) : Prop :=
  ∃ u, e = .returned (.tuple #[enV r.1 u, .bool r.2]) ∧ ((∃ x ∈ L, x.e = r.1 ∧ u = x.s) ∨ u = .slice none 0 0 ∧ r.1 = zeroE) ∧ Below w.heap.size w w'
set_option maxRecDepth 100000 in
set_option maxHeartbeats 2000000 in
theorem rget20_any (p : Option Addr) (n c : Nat) (L : List Ex) (d : List Int) (w : World) (h : Gs encEn w p n L) (hk : ∀ x ∈ L, dok x.e.dg) (hd : dok d) (hn : n ≤ 2097152) :
    Calls Tryz.prog 11 #[.slice p n c, .agg (bcs d)] w fun e w' => GetQ w L (getR (peL L) d) e w' := by
  obtain ⟨w0, wB, g1, hw0, hwB, hg1, hX⟩ := box2 w (bcs d) (enC zeroE (.slice none 0 0)) 29 42
  have HB := Lib.hid hX.le
  have HLT := Lib.hid hX.lt
  have HLD : Hid (∀ W, Below wB.heap.size wB W → (Instr.loadAt 29 (.pointer (some ⟨w.heap.size, 0, none⟩))).run Tryz.prog W = .ok (.agg (bcs d)) W) := Lib.hid fun W hW => Yw.load (show Yw W w.heap.size 29 d from obj_later hX.a hW) hd.1
  have HZ := Lib.hid fun W (hW : Below wB.heap.size wB W) => (obj_later hX.z hW : Em W g1 zeroE (.slice none 0 0))
  have H := Lib.hid (h.later hX.le)
  have HK := Lib.hid hk
  have HD := Lib.hid hd
  have HLL : Hid ((peL L).length = n) := Lib.hid (by rw [peL_length, h.len])
  rw [enZero] at hwB
  generalize hM : bcs d = M at *
  have HM := Lib.hid hM
  clear h hk hd hX hM
  go_enter Tryz.func11, Tryz.ntmps11
  go_wp2
  clear hw0 hwB hg1
  go_loopw [6] (fun j wr => ∃ k : Nat, k ≤ n ∧ j = .int .i64 (k : Int) ∧ Hid (getE ((peL L).take k) d = none) ∧ Hid (Below wB.heap.size wB wr)) (fun j _ => n - (intOf j).toNat)
  case atStart => exact ⟨0, by omega, rfl, Lib.hid rfl, Lib.hid (Below.refl _ _)⟩
  case round =>
    obtain ⟨k, hkn, rfl, hm, hb⟩ := hrel
    by_cases hlt : k < n
    · obtain ⟨b1, off, y, rfl, hy1, hy3, hr⟩ := (H.out.later hb.out).en k hlt
      have HL1 : Hid (∀ W, (∃ m, W = wr.drewN m) → (Instr.loadAt 29 (.pointer (some ⟨b1, off + k * 38, none⟩))).run Tryz.prog W = .ok (.agg (bcs y.e.dg)) W) := Lib.hid (by rintro W ⟨m, rfl⟩; exact en_dig (en_range hr (below_drewN (Below.refl _ _) _)))
      have HL2 : Hid (∀ W, (∃ m, W = wr.drewN m) → (Instr.loadAt 29 (.pointer (some ⟨w.heap.size, 0, none⟩))).run Tryz.prog W = .ok (.agg M) W) := Lib.hid (by rintro W ⟨m, rfl⟩; exact HLD.out _ (hb.out.trans (below_drewN ((Below.refl _ _)) _)))
      have HLW : Hid (∀ W, Below wr.heap.size wr W → (Instr.loadAt 42 (.pointer (some ⟨b1, off + k * 38, none⟩))).run Tryz.prog W = .ok (.agg (enC y.e y.s)) W) := Lib.hid fun W hW => en_load (en_range hr hW)
      have heq := fun W => digest_eq y.e.dg d (HK.out y hy3) HD.out W
      have HT := Lib.hid (getE_take (peL_get hy1) d)
      have HY := Lib.hid hy3
      have hki : (k : Int) < (n : Int) := by omega
      have hk0 : (0 : Int) ≤ (k : Int) := by omega
      obtain ⟨d1, hd1⟩ : ∃ d, y.e.dg = d := ⟨_, rfl⟩
      rw [hd1] at HL1 heq HT
      rw [HM.out] at heq
      clear hr hy1 hy3 hd1
      go_wp2
      refine wp_region_quiet_lit (by kernel_rfl) (by kernel_rfl) ?_
      repeat (first | (refine quiet_want rfl fun K hK => quiet_load 29 _ rfl _ rfl _ (HL1).out (hK _ ?_); clear hK K) | (refine quiet_want rfl fun K hK => quiet_load 29 _ rfl _ rfl _ (HL2).out (hK _ ?_); clear hK K) | (quiet_step (fail)))
      refine wpQuiet_nil ?_
      intro wd hw'
      obtain ⟨nq, hwd⟩ := hw'
      have hbd : Below wr.heap.size wr wd := by rw [hwd]; exact below_drewN (Below.refl _ _) _
      have HB2 : Hid (Below wB.heap.size wB wd) := Lib.hid (below_step hb.out hbd)
      have HLY := Lib.hid (HLW.out wd hbd)
      have HZD := Lib.hid (HZ.out wd HB2.out)
      clear hwd hbd heq
      by_cases hxd : d1 = d
      · have hT : decide (d1 = d) = true := by simpa using hxd
        have HF : Hid (getR (peL L) d = (y.e, true)) := Lib.hid (by
          have h1 : getE ((peL L).take (k + 1)) d = some y.e := by rw [HT.out, hm.out]; dsimp only; rw [if_pos hxd]
          unfold getR
          rw [getE_upto h1])
        go_wp2_with (first
          | (refine wpList_ld rfl 42 _ rfl _ rfl _ HLY.out ?_)
          | (refine wpList_store_row rfl 42 _ _ rfl g1 (enC y.e y.s) rfl rfl 42 _ HZD.out (enC_sizeOf y.e _ y.hd) ((enC_size _ _ rfl).trans (enC_size y.e _ y.hd).symm) (enC_one _ _ _ _) ?_; generalize hw6 : World.setRow _ _ _ = w6))
        have HM6 : Em w6 g1 y.e y.s := by rw [← hw6]; exact Mx.row HZD.out
        refine bodyPost_ret (HM6.res2 y.hd rfl _ rfl) rfl ?_
        rw [HF.out]
        exact ⟨_, rfl, Or.inl ⟨y, HY.out, rfl, rfl⟩, by rw [← hw6]; exact below_setRow8 (below_step HB.out HB2.out) _ _ (by have := HLT.out; omega)⟩
      · have hT : decide (d1 = d) = false := by simpa using hxd
        have HN2 : Hid (getE ((peL L).take (k + 1)) d = none) := Lib.hid (by rw [HT.out, hm.out]; dsimp only; rw [if_neg hxd])
        go_wp2
        exact ⟨⟨k + 1, by omega, by go_num, HN2, HB2⟩, by simp [intOf] <;> omega⟩
    · obtain rfl : k = n := by omega
      have HF : Hid (getR (peL L) d = (zeroE, false)) := Lib.hid (by
        have h1 := hm.out
        rw [List.take_of_length_le (by rw [HLL.out]; exact Nat.le_refl _)] at h1
        unfold getR
        rw [h1])
      have HZD := Lib.hid (HZ.out wr hb.out)
      have HBU := Lib.hid built_en0
      go_wp2_with (first
        | (refine wpList_build_is rfl 42 _ rfl (enC zeroE (.slice none 0 0)) ?_ ?_; focus (first | (simp only [List.map_toArray, List.map_nil]; exact HBU.out) | (simp only [Array.map_empty]; exact HBU.out) | (simp; exact HBU.out)))
        | (refine wpList_store_row rfl 42 _ _ rfl g1 (enC zeroE (.slice none 0 0)) rfl rfl 42 _ HZD.out (enC_sizeOf zeroE _ rfl) rfl (enC_one _ _ _ _) ?_; generalize hw6 : World.setRow _ _ _ = w6))
      have HM6 : Em w6 g1 zeroE (.slice none 0 0) := by rw [← hw6]; exact Mx.row HZD.out
      refine bodyPost_ret (HM6.res2 rfl rfl _ rfl) rfl ?_
      rw [HF.out]
      exact ⟨_, rfl, Or.inr ⟨rfl, rfl⟩, by rw [← hw6]; exact below_setRow8 (below_step HB.out hb.out) _ _ (by have := HLT.out; omega)⟩
theorem cntE_step {L : List Pe} {k : Nat} {x : Pe} (h : L[k]? = some x) : cntE (L.take (k + 1)) = (if x.k ≠ 5 then cntE (L.take k) + 1 else cntE (L.take k)) ∧ sumE (L.take (k + 1)) = if x.k ≠ 5 then sumE (L.take k) + x.z else sumE (L.take k) := by
  obtain ⟨h2, h3⟩ := List.getElem?_eq_some_iff.1 h
  unfold cntE sumE
  rw [List.take_succ_eq_append_getElem h2, List.filter_append, List.length_append, List.map_append, List.sum_append, h3]
  by_cases hx : x.k ≠ 5
  · rw [if_pos hx, if_pos hx, List.filter_cons_of_pos (by simpa using hx)]
    simp
  · rw [if_neg hx, if_neg hx, List.filter_cons_of_neg (by simpa using hx)]
    simp
theorem cntE_le (L : List Pe) (k : Nat) : cntE (L.take k) ≤ L.length := by
  refine Nat.le_trans (List.length_filter_le _ _) ?_
  rw [List.length_take]
  omega
theorem wrap_sum (a b : Int) : IntKind.i64.wrap (IntKind.i64.wrap a + b) = IntKind.i64.wrap (a + b) := by
  rw [IntKind.wrap_i64, IntKind.wrap_i64, IntKind.wrap_i64]
  omega
set_option maxRecDepth 100000 in
set_option maxHeartbeats 1000000 in
theorem rcount20_any (p : Option Addr) (n c : Nat) (L : List Ex) (w : World) (h : Gs encEn w p n L) (hn : n ≤ 2097152) :
    Calls Tryz.prog 13 #[.slice p n c] w fun e w' => e = .returned (.tuple #[.int .i64 (cntE (peL L) : Int), .int .i64 (IntKind.i64.wrap (sumE (peL L)))]) ∧ w' = w := by
  have H := Lib.hid h
  have HLL : Hid ((peL L).length = n) := Lib.hid (by rw [peL_length, h.len])
  clear h
  go_enter Tryz.func13, Tryz.ntmps13
  go_wp2
  go_loopw [4, 5, 6] (fun cv sv j wr => ∃ (k m : Nat) (z : Int), k ≤ n ∧ j = .int .i64 (k : Int) ∧ cv = .int .i64 (m : Int) ∧ sv = .int .i64 z ∧ Hid (m = cntE ((peL L).take k)) ∧ Hid (z = IntKind.i64.wrap (sumE ((peL L).take k))) ∧ wr = w) (fun _ _ j _ => n - (intOf j).toNat)
  case atStart => exact ⟨0, 0, 0, by omega, rfl, rfl, rfl, Lib.hid rfl, Lib.hid (by simp [sumE]; rfl), rfl⟩
  case round =>
    obtain ⟨k, m, z, hkn, rfl, rfl, rfl, HMC, HZS, rfl⟩ := hrel
    have hmm : m ≤ 2097152 := by
      have := cntE_le (peL L) k
      rw [HLL.out, ← HMC.out] at this
      omega
    by_cases hlt : k < n
    · obtain ⟨b1, off, y, rfl, hy1, hy3, hr⟩ := H.out.en k hlt
      obtain ⟨c0, c1⟩ := en_cells hr
      have HS := Lib.hid (cntE_step (peL_get hy1))
      have hki : (k : Int) < (n : Int) := by omega
      have hk0 : (0 : Int) ≤ (k : Int) := by omega
      obtain ⟨yk, hyk⟩ : ∃ x, y.e.k = x := ⟨_, rfl⟩
      obtain ⟨yz, hyz⟩ : ∃ x, y.e.z = x := ⟨_, rfl⟩
      rw [hyk] at c0 HS
      rw [hyz] at c1 HS
      clear hr hy1 hy3 hyk hyz
      by_cases h5 : yk = 5
      · have ht : (yk != 5) = false := by simpa using h5
        have HM2 : Hid (m = cntE ((peL L).take (k + 1))) := Lib.hid (by rw [HS.out.1, if_neg (fun h => h h5)]; exact HMC.out)
        have HZ2 : Hid (z = IntKind.i64.wrap (sumE ((peL L).take (k + 1)))) := Lib.hid (by rw [HS.out.2, if_neg (fun h => h h5)]; exact HZS.out)
        clear h5
        go_wp2
        exact ⟨⟨k + 1, m, z, by omega, by go_num, rfl, rfl, HM2, HZ2, by first | rfl | trivial⟩, by simp [intOf] <;> omega⟩
      · have ht : (yk != 5) = true := by simpa using h5
        have HM2 : Hid (m + 1 = cntE ((peL L).take (k + 1))) := Lib.hid (by rw [HS.out.1, if_pos h5, HMC.out])
        obtain ⟨z2, hz2⟩ : ∃ x, IntKind.i64.wrap (z + yz) = x := ⟨_, rfl⟩
        have HZ2 : Hid (z2 = IntKind.i64.wrap (sumE ((peL L).take (k + 1)))) := Lib.hid (by rw [HS.out.2, if_pos h5, ← hz2, HZS.out, wrap_sum])
        clear h5
        go_wp2
        exact ⟨⟨k + 1, m + 1, z2, by omega, by go_num, by go_num, by first | rfl | rw [← hz2], HM2, HZ2, by first | rfl | trivial⟩, by simp [intOf] <;> omega⟩
    · obtain rfl : k = n := by omega
      have HM2 : Hid (m = cntE (peL L)) := Lib.hid (by have h1 := HMC.out; rwa [List.take_of_length_le (by rw [HLL.out]; exact Nat.le_refl _)] at h1)
      have HZ2 : Hid (z = IntKind.i64.wrap (sumE (peL L))) := Lib.hid (by have h1 := HZS.out; rwa [List.take_of_length_le (by rw [HLL.out]; exact Nat.le_refl _)] at h1)
      go_wp2
      go_ret2
      exact ⟨by rw [← HM2.out, ← HZ2.out]; rfl, rfl⟩
end Go.Proofs.YtclfghmgcioilaaGreat

namespace Go.Proofs.YtclfghmgcioilaaGreat
set_option linter.unusedVariables false
open Go.RowKit Go.Lib
theorem setB_drop {L : List Pe} {k : Nat} {x : Pe} (h : L[k]? = some x) (e : Pe) (t : Bool) : setB e (L.drop k) t = (if t = false ∧ dlt x.dg e.dg = false then [e] else []) ++ ((if x.dg = e.dg then [] else [x]) ++ setB e (L.drop (k + 1)) (t || !dlt x.dg e.dg)) := by
  obtain ⟨h2, h3⟩ := List.getElem?_eq_some_iff.1 h
  rw [List.drop_eq_getElem_cons h2, h3]
  rfl
def SetQ (w : World) (L : List Ex) (X : Ex) (e : Ending) (w' : World) : Prop := ∃ v o, e = .returned v ∧ peL o = setE (peL L) X.e ∧ Gw encEn w' w.heap.size v o ∧ (∀ x ∈ o, x ∈ L ∨ x = X) ∧ Below w.heap.size w w'
def NewQ (w : World) (L : List Ex) (e : Ending) (w' : World) : Prop := ∃ v o, e = .returned v ∧ peL o = newE (peL L) ∧ Gw encEn w' w.heap.size v o ∧ (∀ x ∈ o, x ∈ L) ∧ Below w.heap.size w w'
/-- amid Set's loop -/
structure SeI (w W : World) (L : List Ex) (X : Ex) (B k : Nat) (tb : Bool) (v : Value) (o : List Ex) : Prop where
  gw : Gw encEn W B v o
  eq : peL o ++ setB X.e ((peL L).drop k) tb = setE (peL L) X.e
  me : ∀ x ∈ o, x ∈ L ∨ x = X
  le : Below w.heap.size w W
theorem SeI.len {w W : World} {L : List Ex} {X : Ex} {B k : Nat} {tb : Bool} {v : Value} {o : List Ex} (h : SeI w W L X B k tb v o) : o.length ≤ L.length + 1 := by
  have h1 := setE_length (peL L) X.e
  rw [← h.eq, List.length_append, peL_length, peL_length] at h1
  omega
set_option maxRecDepth 100000 in
set_option maxHeartbeats 4000000 in
theorem rset20_any (p : Option Addr) (n c : Nat) (L : List Ex) (X : Ex) (w : World) (h : Gs encEn w p n L) (hk : ∀ x ∈ L, dok x.e.dg) (hX : dok X.e.dg) (hn : n ≤ 2097152) :
    Calls Tryz.prog 20 #[.slice p n c, enV X.e X.s] w fun e w' => SetQ w L X e w' := by
  obtain ⟨wB, hwB⟩ : ∃ W, w.alloc (.cells (enC X.e X.s) 42) = W := ⟨_, rfl⟩
  have hbB : Below w.heap.size w wB := by rw [← hwB]; exact (Below.refl _ _).alloc (Nat.le_refl _) _
  have hmE : Em wB w.heap.size X.e X.s := by rw [← hwB]; exact heap_alloc_new _ _
  have HB := Lib.hid hbB
  have HLX := Lib.hid fun W (hW : Below wB.heap.size wB W) => (hmE.later hW).load X.hd
  have HDX := Lib.hid fun W (hW : Below wB.heap.size wB W) => (hmE.later hW).dig X.hd
  have H := Lib.hid (h.later hbB)
  have HK := Lib.hid hk
  have HXD := Lib.hid hX
  have HLL : Hid ((peL L).length = n) := Lib.hid (by rw [peL_length, h.len])
  have HL0 : Hid (L.length = n) := Lib.hid h.len
  have HSI : Hid (SeI wB wB L X wB.heap.size 0 false (.slice none 0 0) []) := Lib.hid ⟨Gw.nil _ _ _, by simp [peL, setE], (fun x hx => by cases hx), Below.refl _ _⟩
  unfold enV
  generalize hME : enC X.e X.s = ME at *
  have HME := Lib.hid hME
  clear h hk hX hbB hmE hME
  go_enter Tryz.func20, Tryz.ntmps20
  go_wp2
  clear hwB
  go_loopw [5, 6, 7] (fun v t j wr => ∃ (k : Nat) (tb : Bool) (q : Option Addr) (m c' : Nat) (o : List Ex), k ≤ n ∧ j = .int .i64 (k : Int) ∧ t = .bool tb ∧ v = .slice q m c' ∧ Hid (SeI wB wr L X wB.heap.size k tb (.slice q m c') o)) (fun _ _ j _ => n - (intOf j).toNat)
  case atStart => exact ⟨0, false, none, 0, 0, [], by omega, rfl, rfl, rfl, HSI⟩
  case round =>
    obtain ⟨k, tb, q, m, c', o, hkn, rfl, rfl, rfl, HI⟩ := hrel
    by_cases hlt : k < n
    · obtain ⟨b1, off, y, rfl, hy1, hy3, hr⟩ := (H.out.later HI.out.le).en k hlt
      have HY := Lib.hid hy3
      have HYD := Lib.hid (HK.out y hy3)
      have HSB := Lib.hid (setB_drop (peL_get hy1) X.e tb)
      have HRW : Hid (∀ W, Below wB.heap.size wB W → W.rangeAt b1 (off + k * 38) (mixL [] y.e.dg (y.e.t y.s))) := Lib.hid fun W hW => by
        obtain ⟨b2, off2, z, hp2, hz1, _, hr2⟩ := (H.out.later hW).en k hlt
        simp only [Option.some.injEq, Addr.mk.injEq, and_true] at hp2
        obtain ⟨rfl, rfl⟩ := hp2
        rw [hy1] at hz1
        obtain rfl := Option.some.inj hz1
        exact hr2
      have HLY := Lib.hid fun W (hW : Below wB.heap.size wB W) => en_load (HRW.out W hW)
      have HDY := Lib.hid fun W (hW : Below wB.heap.size wB W) => en_dig (HRW.out W hW)
      have HLS := Lib.hid fun W => rless_any y.e.dg X.e.dg W HYD.out HXD.out
      have heq := fun W => digest_eq y.e.dg X.e.dg HYD.out HXD.out W
      have hki : (k : Int) < (n : Int) := by omega
      have hk0 : (0 : Int) ≤ (k : Int) := by omega
      obtain ⟨dy, hdy⟩ : ∃ d, bcs y.e.dg = d := ⟨_, rfl⟩
      obtain ⟨dx, hdx⟩ : ∃ d, bcs X.e.dg = d := ⟨_, rfl⟩
      rw [hdy] at HDY HLS heq
      rw [hdx] at HDX HLS heq
      obtain ⟨MY, hMY⟩ : ∃ M, enC y.e y.s = M := ⟨_, rfl⟩
      have HMY := Lib.hid hMY
      rw [hMY] at HLY
      have HBL : Hid (Below wB.heap.size wB wr) := Lib.hid HI.out.le
      clear hr hy1 hy3 hdy hdx hMY
      obtain ⟨lt, hlt2⟩ : ∃ b, dlt y.e.dg X.e.dg = b := ⟨_, rfl⟩
      rw [hlt2] at HLS HSB
      clear hlt2
      -- the first test
      cases tb with
      | true =>
        go_upto_region 6 with fail
        go_quiet (fail)
        have hbq : Below wr.heap.size wr (wr.drewN nq) := below_drewN (Below.refl _ _) nq
        have HGQ := Lib.hid (HI.out.gw.later hbq)
        have HBQ := Lib.hid (below_step HBL.out hbq)
        have HEQ0 : Hid (peL o ++ ((if y.e.dg = X.e.dg then [] else [y.e]) ++ setB X.e ((peL L).drop (k + 1)) true) = setE (peL L) X.e) := Lib.hid (by
          have h1 := HI.out.eq
          rw [HSB.out, if_neg (fun h => by cases h.1), List.nil_append] at h1
          exact h1)
        clear hbq
        generalize wr.drewN nq = wq at *
        have HL1 : Hid (∀ V, (∃ m, V = wq.drewN m) → (Instr.loadAt 29 (.pointer (some ⟨b1, off + k * 38, none⟩))).run Tryz.prog V = .ok (.agg dy) V) := Lib.hid (by rintro V ⟨m, rfl⟩; exact HDY.out _ (below_drewN HBQ.out _))
        have HL2 : Hid (∀ V, (∃ m, V = wq.drewN m) → (Instr.loadAt 29 (.pointer (some ⟨w.heap.size, 0, none⟩))).run Tryz.prog V = .ok (.agg dx) V) := Lib.hid (by rintro V ⟨m, rfl⟩; exact HDX.out _ (below_drewN HBQ.out _))
        go_upto_region 9 with fail
        refine wp_region_quiet_lit (by kernel_rfl) (by kernel_rfl) ?_
        repeat (first | (refine quiet_want rfl fun K hK => quiet_load 29 _ rfl _ rfl _ (HL1).out (hK _ ?_); clear hK K) | (refine quiet_want rfl fun K hK => quiet_load 29 _ rfl _ rfl _ (HL2).out (hK _ ?_); clear hK K) | (quiet_step (fail)))
        refine wpQuiet_nil ?_
        intro wd hw'
        obtain ⟨nq, hwd⟩ := hw'
        have hbd : Below wq.heap.size wq wd := by rw [hwd]; exact below_drewN (Below.refl _ _) _
        have HGD := Lib.hid (HGQ.out.later hbd)
        have HBD := Lib.hid (below_step HBQ.out hbd)
        clear hwd hbd heq
        obtain ⟨bx, hbx⟩ : ∃ b, decide (y.e.dg = X.e.dg) = b := ⟨_, rfl⟩
        rw [hbx]
        cases bx
        rotate_left
        · have hne : y.e.dg = X.e.dg := of_decide_eq_true hbx
          have HIN : Hid (SeI wB wd L X wB.heap.size (k + 1) true _ o) := Lib.hid ⟨HGD.out, by have h1 := HEQ0.out; rw [if_pos hne, List.nil_append] at h1; exact h1, HI.out.me, HBD.out⟩
          clear hne hbx
          go_wp2
          exact ⟨⟨k + 1, _, _, _, _, _, by omega, by go_num, rfl, rfl, HIN⟩, by simp [intOf] <;> omega⟩
        · have hne : ¬ y.e.dg = X.e.dg := of_decide_eq_false hbx
          have HLYD := Lib.hid (HLY.out wd HBD.out)
          have HEQ : Hid (peL (o ++ [y]) ++ setB X.e ((peL L).drop (k + 1)) true = setE (peL L) X.e) := Lib.hid (by have h1 := HEQ0.out; rw [if_neg hne] at h1; rw [peL_append, List.append_assoc]; exact h1)
          have HOL2 : Hid ((o).length + 1 ≤ 2097216) := Lib.hid (by
            have h1 := setE_length (peL L) X.e
            rw [← HEQ.out, List.length_append, peL_length, peL_length, List.length_append, List.length_singleton, HL0.out] at h1
            omega)
          clear hne hbx
          go_wp2_with (first
                  | (refine wpList_ld rfl 42 _ rfl _ rfl _ HLYD.out ?_)
                  | (refine wpList_build_en rfl 22 43 rfl Tryz.underlying22 y (by rw [HMY.out]; rfl) ?_)
                  | (refine wpList_append_gen encEn rfl _ _ 22 rfl Tryz.underlying22 ezero 96 infoEn ezero_size (by decide) wB.heap.size _ o rfl (HGD.out.alloc _) _ 1 1 [y] rfl (Gs.oneEn _ y) (fun h => by cases h) HOL2.out (by have h1 := HBD.out.size; rw [World.size_alloc]; omega) ?_; intro v9 w9 ho9 hg9; obtain ⟨p9, c9, hv9, _⟩ := ho9.open; obtain ⟨m9, hm9⟩ : ∃ x, (o ++ [y]).length = x := ⟨_, rfl⟩; rw [hm9] at hv9; subst hv9; have HO9 := Lib.hid ho9; have HB9 := Lib.hid (below_app (HBD.out.alloc HBD.out.size (.cells (enC y.e y.s) 42)) (HGD.out.alloc _) (Nat.le_refl _) hg9); clear ho9 hg9 hm9))
          have HIN : Hid (SeI wB w9 L X wB.heap.size (k + 1) true _ (o ++ [y])) := Lib.hid ⟨HO9.out, HEQ.out, fun x hx => by
            rcases List.mem_append.1 hx with h1 | h1
            · exact HI.out.me x h1
            · rw [List.mem_singleton] at h1
              rw [h1]; exact Or.inl HY.out, HB9.out⟩
          exact ⟨⟨k + 1, _, _, _, _, _, by omega, by go_num, rfl, rfl, HIN⟩, by simp [intOf] <;> omega⟩
      | false =>
        go_upto_region 6 with fail
        refine wp_region_held_drew (S := (fun W : World => Below wr.heap.size wr W)) (by kernel_rfl) (show Below _ _ (World.drew wr) from (Below.refl _ _).drew) (fun hHeld => ?_)
        refine take_at 0 (v := ?vv11) rfl (by kernel_rfl) (by kernel_rfl) (by kernel_rfl) (fun _ _ _ h => h) (Or.inl ⟨by rfl, ?hy11⟩) (by assumption) ?rest11
        case hy11 => intro w hSw; (try dsimp only at hSw); go_simp; (try with_reducible rfl)
        (try simp only [Act.put, List.setIfInBounds_toArray, List.set_cons_zero, List.set_cons_succ])
        refine take_at 1 (v := ?vv12) rfl (by kernel_rfl) (by kernel_rfl) (by kernel_rfl) (fun _ _ _ h => h) (Or.inl ⟨by rfl, ?hy12⟩) (by assumption) ?rest12
        case hy12 => intro w hSw; (try dsimp only at hSw); go_simp; (try with_reducible rfl)
        (try simp only [Act.put, List.setIfInBounds_toArray, List.set_cons_zero, List.set_cons_succ])
        refine take_at 2 (v := ?vv13) rfl (by kernel_rfl) (by kernel_rfl) (by kernel_rfl) (fun _ _ _ h => h) (Or.inl ⟨by rfl, ?hy13⟩) (by assumption) ?rest13
        case hy13 => intro w hSw; (try dsimp only at hSw); go_simp; (try with_reducible rfl)
        (try simp only [Act.put, List.setIfInBounds_toArray, List.set_cons_zero, List.set_cons_succ])
        refine take_at 3 (v := ?vv14) rfl (by kernel_rfl) (by kernel_rfl) (by kernel_rfl) (fun _ _ _ h => h) (Or.inl ⟨by rfl, ?hy14⟩) (by assumption) ?rest14
        case hy14 => intro w hSw; (try dsimp only at hSw); go_simp; (try with_reducible rfl)
        (try simp only [Act.put, List.setIfInBounds_toArray, List.set_cons_zero, List.set_cons_succ])
        refine take_at 4 (v := ?vv15) rfl (by kernel_rfl) (by kernel_rfl) (by kernel_rfl) (fun _ _ _ h => h) (Or.inl ⟨by rfl, ?hy15⟩) (by assumption) ?rest15
        case hy15 => intro w hSw; (try dsimp only at hSw); go_simp; (try with_reducible rfl)
        (try simp only [Act.put, List.setIfInBounds_toArray, List.set_cons_zero, List.set_cons_succ])
        refine take_at 5 (v := ?vv16) rfl (by kernel_rfl) (by kernel_rfl) (by kernel_rfl) (fun _ _ _ h => h) (Or.inl ⟨by rfl, ?hy16⟩) (by assumption) ?rest16
        case hy16 => intro w hSw; (try dsimp only at hSw); go_simp; (try with_reducible rfl)
        (try simp only [Act.put, List.setIfInBounds_toArray, List.set_cons_zero, List.set_cons_succ])
        refine take_at 6 (v := ?vv17) rfl (by kernel_rfl) (by kernel_rfl) (by kernel_rfl) (fun _ _ _ h => h) (Or.inl ⟨by rfl, ?hy17⟩) (by assumption) ?rest17
        case hy17 => intro w hSw; (try dsimp only at hSw); go_simp; (try with_reducible rfl)
        (try simp only [Act.put, List.setIfInBounds_toArray, List.set_cons_zero, List.set_cons_succ])
        refine take_at 7 rfl (by kernel_rfl) (by kernel_rfl) (by kernel_rfl) (fun _ _ _ h => h) (yieldsIf_ld (by rfl) 29 (.tmp 20) rfl (.pointer (some ⟨b1, off + k * 38, none⟩)) rfl (.agg dy) (fun W hW => HDY.out W (below_step HBL.out hW))) (by assumption) ?_
        (try simp only [Act.put, List.setIfInBounds_toArray, List.set_cons_zero, List.set_cons_succ])
        refine take_at 8 (v := ?vv19) rfl (by kernel_rfl) (by kernel_rfl) (by kernel_rfl) (fun _ _ _ h => h) (Or.inl ⟨by rfl, ?hy19⟩) (by assumption) ?rest19
        case hy19 => intro w hSw; (try dsimp only at hSw); go_simp; (try with_reducible rfl)
        (try simp only [Act.put, List.setIfInBounds_toArray, List.set_cons_zero, List.set_cons_succ])
        refine take_at 9 rfl (by kernel_rfl) (by kernel_rfl) (by kernel_rfl) (fun _ _ _ h => h) (yieldsIf_ld (by rfl) 29 (.tmp 22) rfl (.pointer (some ⟨w.heap.size, 0, none⟩)) rfl (.agg dx) (fun W hW => HDX.out W (below_step HBL.out hW))) (by assumption) ?_
        (try simp only [Act.put, List.setIfInBounds_toArray, List.set_cons_zero, List.set_cons_succ])
        refine ready_at 10 rfl (by kernel_rfl) (fun K hK => ?_)
        go_simp
        refine (HLS.out _).mono ?_
        rintro r w3 ⟨rfl, hb3⟩
        have hB3 := below_step hHeld hb3
        clear hHeld
        first
          | refine hK.out _ _ ?hS21 (fun hHeld => ?rest21)
          | (go_wp2_with fail; refine hK.out _ _ ?hS21 (fun hHeld => ?rest21))
        case hS21 => exact hB3
        clear hK K
        (try simp only [Act.put, List.setIfInBounds_toArray, List.set_cons_zero, List.set_cons_succ])
        refine take_at 11 (v := ?vv22) rfl (by kernel_rfl) (by kernel_rfl) (by kernel_rfl) (fun _ _ _ h => h) (Or.inl ⟨by rfl, ?hy22⟩) (by assumption) ?rest22
        case hy22 => intro w hSw; (try dsimp only at hSw); go_simp; (try with_reducible rfl)
        (try simp only [Act.put, List.setIfInBounds_toArray, List.set_cons_zero, List.set_cons_succ])
        refine take_at 12 (v := ?vv23) rfl (by kernel_rfl) (by kernel_rfl) (by kernel_rfl) (fun _ _ _ h => h) (Or.inl ⟨by rfl, ?hy23⟩) (by assumption) ?rest23
        case hy23 => intro w hSw; (try dsimp only at hSw); go_simp; (try with_reducible rfl)
        (try simp only [Act.put, List.setIfInBounds_toArray, List.set_cons_zero, List.set_cons_succ])
        refine wpAnyH_done (by kernel_rfl) ?_ _
        have HGQ := Lib.hid (HI.out.gw.later hHeld)
        have HBQ := Lib.hid (below_step HBL.out hHeld)
        clear hHeld
        cases lt with
        | true =>
          have HEQ0 : Hid (peL o ++ ((if y.e.dg = X.e.dg then [] else [y.e]) ++ setB X.e ((peL L).drop (k + 1)) false) = setE (peL L) X.e) := Lib.hid (by
            have h1 := HI.out.eq
            rw [HSB.out, if_neg (fun h => by cases h.2), List.nil_append] at h1
            exact h1)
          have HL1 : Hid (∀ V, (∃ m, V = w3.drewN m) → (Instr.loadAt 29 (.pointer (some ⟨b1, off + k * 38, none⟩))).run Tryz.prog V = .ok (.agg dy) V) := Lib.hid (by rintro V ⟨m, rfl⟩; exact HDY.out _ (below_drewN HBQ.out _))
          have HL2 : Hid (∀ V, (∃ m, V = w3.drewN m) → (Instr.loadAt 29 (.pointer (some ⟨w.heap.size, 0, none⟩))).run Tryz.prog V = .ok (.agg dx) V) := Lib.hid (by rintro V ⟨m, rfl⟩; exact HDX.out _ (below_drewN HBQ.out _))
          go_upto_region 9 with fail
          refine wp_region_quiet_lit (by kernel_rfl) (by kernel_rfl) ?_
          repeat (first | (refine quiet_want rfl fun K hK => quiet_load 29 _ rfl _ rfl _ (HL1).out (hK _ ?_); clear hK K) | (refine quiet_want rfl fun K hK => quiet_load 29 _ rfl _ rfl _ (HL2).out (hK _ ?_); clear hK K) | (quiet_step (fail)))
          refine wpQuiet_nil ?_
          intro wd hw'
          obtain ⟨nq, hwd⟩ := hw'
          have hbd : Below w3.heap.size w3 wd := by rw [hwd]; exact below_drewN (Below.refl _ _) _
          have HGD := Lib.hid (HGQ.out.later hbd)
          have HBD := Lib.hid (below_step HBQ.out hbd)
          clear hwd hbd heq
          obtain ⟨bx, hbx⟩ : ∃ b, decide (y.e.dg = X.e.dg) = b := ⟨_, rfl⟩
          rw [hbx]
          cases bx
          rotate_left
          · have hne : y.e.dg = X.e.dg := of_decide_eq_true hbx
            have HIN : Hid (SeI wB wd L X wB.heap.size (k + 1) false _ o) := Lib.hid ⟨HGD.out, by have h1 := HEQ0.out; rw [if_pos hne, List.nil_append] at h1; exact h1, HI.out.me, HBD.out⟩
            clear hne hbx
            go_wp2
            exact ⟨⟨k + 1, _, _, _, _, _, by omega, by go_num, rfl, rfl, HIN⟩, by simp [intOf] <;> omega⟩
          · have hne : ¬ y.e.dg = X.e.dg := of_decide_eq_false hbx
            have HLYD := Lib.hid (HLY.out wd HBD.out)
            have HEQ : Hid (peL (o ++ [y]) ++ setB X.e ((peL L).drop (k + 1)) false = setE (peL L) X.e) := Lib.hid (by have h1 := HEQ0.out; rw [if_neg hne] at h1; rw [peL_append, List.append_assoc]; exact h1)
            have HOL2 : Hid ((o).length + 1 ≤ 2097216) := Lib.hid (by
              have h1 := setE_length (peL L) X.e
              rw [← HEQ.out, List.length_append, peL_length, peL_length, List.length_append, List.length_singleton, HL0.out] at h1
              omega)
            clear hne hbx
            go_wp2_with (first
                    | (refine wpList_ld rfl 42 _ rfl _ rfl _ HLYD.out ?_)
                    | (refine wpList_build_en rfl 22 43 rfl Tryz.underlying22 y (by rw [HMY.out]; rfl) ?_)
                    | (refine wpList_append_gen encEn rfl _ _ 22 rfl Tryz.underlying22 ezero 96 infoEn ezero_size (by decide) wB.heap.size _ o rfl (HGD.out.alloc _) _ 1 1 [y] rfl (Gs.oneEn _ y) (fun h => by cases h) HOL2.out (by have h1 := HBD.out.size; rw [World.size_alloc]; omega) ?_; intro v9 w9 ho9 hg9; obtain ⟨p9, c9, hv9, _⟩ := ho9.open; obtain ⟨m9, hm9⟩ : ∃ x, (o ++ [y]).length = x := ⟨_, rfl⟩; rw [hm9] at hv9; subst hv9; have HO9 := Lib.hid ho9; have HB9 := Lib.hid (below_app (HBD.out.alloc HBD.out.size (.cells (enC y.e y.s) 42)) (HGD.out.alloc _) (Nat.le_refl _) hg9); clear ho9 hg9 hm9))
            have HIN : Hid (SeI wB w9 L X wB.heap.size (k + 1) false _ (o ++ [y])) := Lib.hid ⟨HO9.out, HEQ.out, fun x hx => by
              rcases List.mem_append.1 hx with h1 | h1
              · exact HI.out.me x h1
              · rw [List.mem_singleton] at h1
                rw [h1]; exact Or.inl HY.out, HB9.out⟩
            exact ⟨⟨k + 1, _, _, _, _, _, by omega, by go_num, rfl, rfl, HIN⟩, by simp [intOf] <;> omega⟩
        | false =>
          have HEQ0 : Hid (peL (o ++ [X]) ++ ((if y.e.dg = X.e.dg then [] else [y.e]) ++ setB X.e ((peL L).drop (k + 1)) true) = setE (peL L) X.e) := Lib.hid (by
            have h1 := HI.out.eq
            rw [HSB.out, if_pos ⟨rfl, rfl⟩] at h1
            rw [peL_append, List.append_assoc]
            exact h1)
          have HOL1 : Hid (o.length + 1 ≤ 2097216) := Lib.hid (by have := HI.out.len; rw [HL0.out] at this; omega)
          have HLXW := Lib.hid (HLX.out w3 HBQ.out)
          have HME1 : Hid (∀ x ∈ o ++ [X], x ∈ L ∨ x = X) := Lib.hid (fun x hx => by
            rcases List.mem_append.1 hx with h1 | h1
            · exact HI.out.me x h1
            · rw [List.mem_singleton] at h1
              exact Or.inr h1)
          go_upto_region 9 with (first
          | (refine wpList_ld rfl 42 _ rfl _ rfl _ HLXW.out ?_)
          | (refine wpList_build_en rfl 22 28 rfl Tryz.underlying22 X (by rw [HME.out]; rfl) ?_)
          | (refine wpList_append_gen encEn rfl _ _ 22 rfl Tryz.underlying22 ezero 96 infoEn ezero_size (by decide) wB.heap.size _ o rfl (HGQ.out.alloc _) _ 1 1 [X] rfl (Gs.oneEn _ X) (fun h => by cases h) HOL1.out (by have h1 := HBQ.out.size; rw [World.size_alloc]; omega) ?_; intro v8 w8 ho8 hg8; obtain ⟨p8, c8, hv8, _⟩ := ho8.open; obtain ⟨m8, hm8⟩ : ∃ x, (o ++ [X]).length = x := ⟨_, rfl⟩; rw [hm8] at hv8; subst hv8; have HO8 := Lib.hid ho8; have HB8 := Lib.hid (below_app (HBQ.out.alloc HBQ.out.size (.cells (enC X.e X.s) 42)) (HGQ.out.alloc _) (Nat.le_refl _) hg8); clear ho8 hg8 hm8))
          have HL1 : Hid (∀ V, (∃ m, V = w8.drewN m) → (Instr.loadAt 29 (.pointer (some ⟨b1, off + k * 38, none⟩))).run Tryz.prog V = .ok (.agg dy) V) := Lib.hid (by rintro V ⟨m, rfl⟩; exact HDY.out _ (below_drewN HB8.out _))
          have HL2 : Hid (∀ V, (∃ m, V = w8.drewN m) → (Instr.loadAt 29 (.pointer (some ⟨w.heap.size, 0, none⟩))).run Tryz.prog V = .ok (.agg dx) V) := Lib.hid (by rintro V ⟨m, rfl⟩; exact HDX.out _ (below_drewN HB8.out _))
          go_upto_region 9 with fail
          refine wp_region_quiet_lit (by kernel_rfl) (by kernel_rfl) ?_
          repeat (first | (refine quiet_want rfl fun K hK => quiet_load 29 _ rfl _ rfl _ (HL1).out (hK _ ?_); clear hK K) | (refine quiet_want rfl fun K hK => quiet_load 29 _ rfl _ rfl _ (HL2).out (hK _ ?_); clear hK K) | (quiet_step (fail)))
          refine wpQuiet_nil ?_
          intro wd hw'
          obtain ⟨nq, hwd⟩ := hw'
          have hbd : Below w8.heap.size w8 wd := by rw [hwd]; exact below_drewN (Below.refl _ _) _
          have HGD := Lib.hid (HO8.out.later hbd)
          have HBD := Lib.hid (below_step HB8.out hbd)
          clear hwd hbd heq
          obtain ⟨bx, hbx⟩ : ∃ b, decide (y.e.dg = X.e.dg) = b := ⟨_, rfl⟩
          rw [hbx]
          cases bx
          rotate_left
          · have hne : y.e.dg = X.e.dg := of_decide_eq_true hbx
            have HIN : Hid (SeI wB wd L X wB.heap.size (k + 1) true _ (o ++ [X])) := Lib.hid ⟨HGD.out, by have h1 := HEQ0.out; rw [if_pos hne, List.nil_append] at h1; exact h1, HME1.out, HBD.out⟩
            clear hne hbx
            go_wp2
            exact ⟨⟨k + 1, _, _, _, _, _, by omega, by go_num, rfl, rfl, HIN⟩, by simp [intOf] <;> omega⟩
          · have hne : ¬ y.e.dg = X.e.dg := of_decide_eq_false hbx
            have HLYD := Lib.hid (HLY.out wd HBD.out)
            have HEQ : Hid (peL ((o ++ [X]) ++ [y]) ++ setB X.e ((peL L).drop (k + 1)) true = setE (peL L) X.e) := Lib.hid (by have h1 := HEQ0.out; rw [if_neg hne] at h1; rw [peL_append, List.append_assoc]; exact h1)
            have HOL2 : Hid (((o ++ [X])).length + 1 ≤ 2097216) := Lib.hid (by
              have h1 := setE_length (peL L) X.e
              rw [← HEQ.out, List.length_append, peL_length, peL_length, List.length_append, List.length_singleton, HL0.out] at h1
              omega)
            clear hne hbx
            go_wp2_with (first
                    | (refine wpList_ld rfl 42 _ rfl _ rfl _ HLYD.out ?_)
                    | (refine wpList_build_en rfl 22 43 rfl Tryz.underlying22 y (by rw [HMY.out]; rfl) ?_)
                    | (refine wpList_append_gen encEn rfl _ _ 22 rfl Tryz.underlying22 ezero 96 infoEn ezero_size (by decide) wB.heap.size _ (o ++ [X]) rfl (HGD.out.alloc _) _ 1 1 [y] rfl (Gs.oneEn _ y) (fun h => by cases h) HOL2.out (by have h1 := HBD.out.size; rw [World.size_alloc]; omega) ?_; intro v9 w9 ho9 hg9; obtain ⟨p9, c9, hv9, _⟩ := ho9.open; obtain ⟨m9, hm9⟩ : ∃ x, ((o ++ [X]) ++ [y]).length = x := ⟨_, rfl⟩; rw [hm9] at hv9; subst hv9; have HO9 := Lib.hid ho9; have HB9 := Lib.hid (below_app (HBD.out.alloc HBD.out.size (.cells (enC y.e y.s) 42)) (HGD.out.alloc _) (Nat.le_refl _) hg9); clear ho9 hg9 hm9))
            have HIN : Hid (SeI wB w9 L X wB.heap.size (k + 1) true _ ((o ++ [X]) ++ [y])) := Lib.hid ⟨HO9.out, HEQ.out, fun x hx => by
              rcases List.mem_append.1 hx with h1 | h1
              · exact HME1.out x h1
              · rw [List.mem_singleton] at h1
                rw [h1]; exact Or.inl HY.out, HB9.out⟩
            exact ⟨⟨k + 1, _, _, _, _, _, by omega, by go_num, rfl, rfl, HIN⟩, by simp [intOf] <;> omega⟩
    · obtain rfl : k = n := by omega
      have HO : Hid (peL o ++ (if tb then [] else [X.e]) = setE (peL L) X.e) := Lib.hid (by
        have h1 := HI.out.eq
        rw [List.drop_of_length_le (by rw [HLL.out]; exact Nat.le_refl _)] at h1
        exact h1)
      have HOL : Hid (o.length + 1 ≤ 2097216) := Lib.hid (by have := HI.out.len; rw [HL0.out] at this; omega)
      have HLXW := Lib.hid (HLX.out wr HI.out.le)
      cases tb with
      | true =>
        go_wp2
        go_ret
        refine ⟨_, o, rfl, by simpa using HO.out, HI.out.gw.mono HB.out.size, HI.out.me, below_step HB.out HI.out.le⟩
      | false =>
        go_wp2_with (first
          | (refine wpList_ld rfl 42 _ rfl _ rfl _ HLXW.out ?_)
          | (refine wpList_build_en rfl 22 49 rfl Tryz.underlying22 X (by rw [HME.out]; rfl) ?_)
          | (refine wpList_append_gen encEn rfl _ _ 22 rfl Tryz.underlying22 ezero 96 infoEn ezero_size (by decide) wB.heap.size _ o rfl (HI.out.gw.alloc _) _ 1 1 [X] rfl (Gs.oneEn _ X) (fun h => by cases h) HOL.out (by have h1 := HI.out.le.size; rw [World.size_alloc]; omega) ?_; intro v8 w8 ho8 hg8; have HO8 := Lib.hid ho8; have HB8 := Lib.hid (below_app (HI.out.le.alloc HI.out.le.size (.cells (enC X.e X.s) 42)) (HI.out.gw.alloc _) (Nat.le_refl _) hg8); clear ho8 hg8))
        go_ret
        refine ⟨_, o ++ [X], rfl, ?_, HO8.out.mono HB.out.size, fun x hx => ?_, below_step HB.out HB8.out⟩
        · rw [peL_append, show peL [X] = [X.e] from rfl]
          simpa using HO.out
        · rcases List.mem_append.1 hx with h1 | h1
          · exact HI.out.me x h1
          · rw [List.mem_singleton] at h1
            exact Or.inr h1
set_option maxRecDepth 100000 in
set_option maxHeartbeats 1000000 in
theorem rnew20_any (p : Option Addr) (n c : Nat) (L : List Ex) (w : World) (h : Gs encEn w p n L) (hk : ∀ x ∈ L, dok x.e.dg) (hn : n ≤ 2097152) :
    Calls Tryz.prog 5 #[.slice p n c] w fun e w' => NewQ w L e w' := by
  have H := Lib.hid h
  have HK := Lib.hid hk
  have HLL : Hid ((peL L).length = n) := Lib.hid (by rw [peL_length, h.len])
  have HS := Lib.hid fun (q : Option Addr) (m d : Nat) (M : List Ex) (X : Ex) W (hW : Gs encEn W q m M) (hM : ∀ x ∈ M, dok x.e.dg) (hX : dok X.e.dg) (hm : m ≤ 2097152) => rset20_any q m d M X W hW hM hX hm
  clear h hk
  go_enter Tryz.func5, Tryz.ntmps5
  go_wp2
  go_loopw [3, 4] (fun v j wr => ∃ (k : Nat) (q : Option Addr) (m d : Nat) (o : List Ex), k ≤ n ∧ j = .int .i64 (k : Int) ∧ v = .slice q m d ∧ Hid (peL o = newE ((peL L).take k)) ∧ Hid (Gw encEn wr w.heap.size (.slice q m d) o) ∧ Hid (∀ x ∈ o, x ∈ L) ∧ Hid (Below w.heap.size w wr)) (fun _ j _ => n - (intOf j).toNat)
  case atStart => exact ⟨0, none, 0, 0, [], by omega, rfl, rfl, Lib.hid rfl, Lib.hid (Gw.nil _ _ _), Lib.hid (fun x hx => by cases hx), Lib.hid (Below.refl _ _)⟩
  case round =>
    obtain ⟨k, q, m, d, o, hkn, rfl, rfl, HE, HO, HM, HB⟩ := hrel
    by_cases hlt : k < n
    · obtain ⟨b1, off, y, rfl, hy1, hy3, hr⟩ := (H.out.later HB.out).en k hlt
      have HY := Lib.hid hy3
      have hmm : m ≤ 2097152 := by
        have h1 := newE_length ((peL L).take k)
        rw [← HE.out, peL_length, HO.out.len, List.length_take, HLL.out] at h1
        omega
      have HSC := Lib.hid (HS.out q m d o y wr HO.out.gs (fun x hx => HK.out x (HM.out x hx)) (HK.out y hy3) hmm)
      have HLY := Lib.hid (en_load hr)
      have HT : Hid (setE (peL o) y.e = newE ((peL L).take (k + 1))) := Lib.hid (by
        obtain ⟨h2, h3⟩ := List.getElem?_eq_some_iff.1 (peL_get hy1)
        rw [List.take_succ_eq_append_getElem h2, h3, newE_snoc, HE.out])
      have hki : (k : Int) < (n : Int) := by omega
      have hk0 : (0 : Int) ≤ (k : Int) := by omega
      unfold enV at HSC
      generalize enC y.e y.s = MY at *
      clear hr hy1 hy3 hmm
      go_wp2_with (first
        | (refine wpList_ld rfl 42 _ rfl _ rfl _ HLY.out ?_)
        | (go_at_call 20; refine HSC.out.mono ?_; rintro e w2 ⟨v2, o2, rfl, he2, ho2, hm2, hb2⟩; obtain ⟨q2, d2, hv2, _⟩ := ho2.open; obtain ⟨n2, hn2⟩ : ∃ x, o2.length = x := ⟨_, rfl⟩; rw [hn2] at hv2; subst hv2; have HE2 := Lib.hid (he2.trans HT.out); have HO2 := Lib.hid (ho2.mono HB.out.size); have HM2 : Hid (∀ x ∈ o2, x ∈ L) := (Lib.hid (fun x hx => (hm2 x hx).elim (HM.out x) (fun h => by rw [h]; exact HY.out))); have HB2 := Lib.hid (below_step HB.out hb2); clear he2 ho2 hm2 hb2 hn2))
      exact ⟨⟨k + 1, q2, n2, d2, o2, by omega, by go_num, rfl, HE2, HO2, HM2, HB2⟩, by simp [intOf] <;> omega⟩
    · obtain rfl : k = n := by omega
      have HF : Hid (peL o = newE (peL L)) := Lib.hid (by have h1 := HE.out; rwa [List.take_of_length_le (by rw [HLL.out]; exact Nat.le_refl _)] at h1)
      go_wp2
      go_ret
      exact ⟨_, o, rfl, HF.out, HO.out, HM.out, HB.out⟩
end Go.Proofs.YtclfghmgcioilaaGreat

namespace Go.Proofs.YtclfghmgcioilaaGreat
set_option linter.unusedVariables false
open Go.RowKit Go.Lib
def KepQ (w : World) (L : List Ex) (B : List Int) (e : Ending) (w' : World) : Prop := ∃ v o, e = .returned v ∧ peL o = keepR (peL L) B ∧ Gw encEn w' w.heap.size v o ∧ (∀ x ∈ o, dok x.e.dg ∧ Gw encI w' w.heap.size x.s x.e.ins) ∧ Below w.heap.size w w'
set_option maxRecDepth 100000 in
set_option maxHeartbeats 2000000 in
theorem rkeep20_any (p : Option Addr) (n c : Nat) (L : List Ex) (p2 : Option Addr) (m2 c2 : Nat) (B : List Int) (w : World) (h : Gs encEn w p n L) (hi : ∀ x ∈ L, Is w x.s x.e.ins) (hk : ∀ x ∈ L, dok x.e.dg) (hb : ∀ x ∈ L, x.e.ins.length ≤ 2097152) (hs2 : Gs encI w p2 m2 B) (hm2 : m2 ≤ 2097152) (hn : n ≤ 2097152) :
    Calls Tryz.prog 9 #[.slice p n c, .slice p2 m2 c2] w fun e w' => KepQ w L B e w' := by
  have H := Lib.hid h
  have HK := Lib.hid hk
  have HLL : Hid ((peL L).length = n) := Lib.hid (by rw [peL_length, h.len])
  have HKC := Lib.hid fun (x : Ex) (hx : x ∈ L) W (hW : Below w.heap.size w W) => rkeep19_any x.e x.s p2 m2 c2 B W ((hi x hx).later hW) (hs2.later hW) (hk x hx) (hb x hx) hm2
  clear h hk hi hb hs2
  go_enter Tryz.func9, Tryz.ntmps9
  go_wp2
  go_loopw [5, 6] (fun v j wr => ∃ (k : Nat) (q : Option Addr) (m d : Nat) (o : List Ex), k ≤ n ∧ j = .int .i64 (k : Int) ∧ v = .slice q m d ∧ Hid (peL o = keepR ((peL L).take k) B) ∧ Hid (Gw encEn wr w.heap.size (.slice q m d) o) ∧ Hid (∀ x ∈ o, dok x.e.dg ∧ Gw encI wr w.heap.size x.s x.e.ins) ∧ Hid (Below w.heap.size w wr)) (fun _ j _ => n - (intOf j).toNat)
  case atStart => exact ⟨0, none, 0, 0, [], by omega, rfl, rfl, Lib.hid rfl, Lib.hid (Gw.nil _ _ _), Lib.hid (fun x hx => by cases hx), Lib.hid (Below.refl _ _)⟩
  case round =>
    obtain ⟨k, q, m, d, o, hkn, rfl, rfl, HE, HO, HM, HB⟩ := hrel
    by_cases hlt : k < n
    · obtain ⟨b1, off, y, rfl, hy1, hy3, hr⟩ := (H.out.later HB.out).en k hlt
      have HC := Lib.hid (HKC.out y hy3 wr HB.out)
      have HLY := Lib.hid (en_load hr)
      have HT := Lib.hid (keepR_take (peL_get hy1) B)
      have HYD := Lib.hid (keepE_dok20 (HK.out y hy3) B)
      have HOL : Hid (o.length + 1 ≤ 2097216) := Lib.hid (by
        have h1 := keepR_length ((peL L).take k) B
        rw [← HE.out, peL_length, List.length_take, HLL.out] at h1
        omega)
      have hki : (k : Int) < (n : Int) := by omega
      have hk0 : (0 : Int) ≤ (k : Int) := by omega
      obtain ⟨R, hR⟩ : ∃ R, keepE y.e B = R := ⟨_, rfl⟩
      rw [hR] at HC HT HYD
      obtain ⟨R, ok⟩ := R
      dsimp only at HC HT HYD
      unfold enV at HC
      generalize enC y.e y.s = MY at *
      clear hr hy1 hy3 hR
      go_upto_region 6 with (first
        | (refine wpList_ld rfl 42 _ rfl _ rfl _ HLY.out ?_)
        | (go_at_call 28; refine HC.out.mono ?_; rintro e w2 ⟨u2, rfl, hg2, hb2⟩; have HG2 := Lib.hid hg2; have HB2 := Lib.hid hb2; obtain ⟨q2, d2, hv2, _⟩ := hg2.open; subst hv2; clear hg2 hb2)
        | (refine wpList_store_row rfl 42 _ _ rfl w2.heap.size (enC R _) rfl rfl 42 _ (heap_alloc_new _ _) (enC_sizeOf R _ HYD.out.1) ((enC_size zeroE _ rfl).trans (enC_size R _ HYD.out.1).symm) (enC_one _ _ _ _) ?_; generalize hv3 : World.setRow _ _ _ = w3))
      obtain ⟨he3, hb3⟩ := enC_lay rfl hv3
      obtain ⟨g3, hg3⟩ : ∃ g, w2.heap.size = g := ⟨_, rfl⟩
      rw [hg3] at he3
      rw [hg3]
      obtain ⟨X, hX⟩ : ∃ X : Ex, X = ⟨R, q2, d2, HYD.out.1⟩ := ⟨_, rfl⟩
      have HXG : Hid (Gw encI w3 w.heap.size X.s X.e.ins) := Lib.hid (by rw [hX]; exact (HG2.out.later hb3).mono HB.out.size)
      have HXE : Hid (X.e = R) := Lib.hid (by rw [hX])
      have HXC : Hid (enC R (.slice q2 R.ins.length d2) = enC X.e X.s) := Lib.hid (by rw [hX]; rfl)
      have HO3 := Lib.hid (HO.out.later (below_step HB2.out hb3))
      have HM3 : Hid (∀ x ∈ o, dok x.e.dg ∧ Gw encI w3 w.heap.size x.s x.e.ins) := Lib.hid fun x hx => ⟨(HM.out x hx).1, (HM.out x hx).2.later (below_step HB2.out hb3)⟩
      have HB3 := Lib.hid (below_step HB.out (below_step HB2.out hb3))
      have HLV := Lib.hid (he3.load HYD.out.1)
      rw [HXC.out] at HLV
      clear he3 hb3 hv3 hg3 hX
      cases ok with
      | true =>
        have HE2 : Hid (peL (o ++ [X]) = keepR ((peL L).take (k + 1)) B) := Lib.hid (by rw [HT.out, if_pos rfl, peL_append, HE.out, ← HXE.out]; rfl)
        go_wp2_with (first
          | (refine wpList_ld rfl 42 _ rfl _ rfl _ HLV.out ?_)
          | (refine wpList_build_en rfl 22 26 rfl Tryz.underlying22 X rfl ?_)
          | (refine wpList_append_gen encEn rfl _ _ 22 rfl Tryz.underlying22 ezero 96 infoEn ezero_size (by decide) w.heap.size _ o rfl (HO3.out.alloc _) _ 1 1 [X] rfl (Gs.oneEn _ X) (fun h => by cases h) HOL.out (by have h1 := HB3.out.size; rw [World.size_alloc]; omega) ?_; intro v8 w8 ho8 hg8; obtain ⟨p8, c8, hv8, _⟩ := ho8.open; obtain ⟨m8, hm8⟩ : ∃ x, (o ++ [X]).length = x := ⟨_, rfl⟩; rw [hm8] at hv8; subst hv8; have HO8 := Lib.hid ho8; have HB8 := Lib.hid (below_app (HB3.out.alloc HB3.out.size (.cells (enC X.e X.s) 42)) (HO3.out.alloc _) (Nat.le_refl _) hg8); have HM8 : Hid (∀ x ∈ o ++ [X], dok x.e.dg ∧ Gw encI w8 w.heap.size x.s x.e.ins) := (Lib.hid (fun x hx => (List.mem_append.1 hx).elim (fun h => ⟨(HM3.out x h).1, ((HM3.out x h).2.alloc _).besideEn (HO3.out.alloc _) hg8⟩) (fun h => (List.mem_singleton.1 h) ▸ ⟨(by rw [HXE.out]; exact HYD.out), (HXG.out.alloc _).besideEn (HO3.out.alloc _) hg8⟩))); clear ho8 hg8 hm8))
        exact ⟨⟨k + 1, p8, m8, c8, o ++ [X], by omega, by go_num, rfl, HE2, HO8, HM8, HB8⟩, by simp [intOf] <;> omega⟩
      | false =>
        have HE2 : Hid (peL o = keepR ((peL L).take (k + 1)) B) := Lib.hid (by rw [HT.out, HE.out]; simp)
        go_wp2
        exact ⟨⟨k + 1, q, m, d, o, by omega, by go_num, rfl, HE2, HO3, HM3, HB3⟩, by simp [intOf] <;> omega⟩
    · obtain rfl : k = n := by omega
      have HF : Hid (peL o = keepR (peL L) B) := Lib.hid (by have h1 := HE.out; rwa [List.take_of_length_le (by rw [HLL.out]; exact Nat.le_refl _)] at h1)
      go_wp2
      go_ret
      exact ⟨_, o, rfl, HF.out, HO.out, HM.out, HB.out⟩
/-- what Apply answers: the same row, or one of its own -/
def AppQ (w : World) (p : Option Addr) (n c : Nat) (L : List Ex) (x : Wq) (e : Ending) (w' : World) : Prop :=
  ∃ q m d o, e = .returned (.slice q m d) ∧ peL o = applyE (peL L) x ∧ Gs encEn w' q m o ∧ ((q = p ∧ m = n) ∨ ∀ b off, q = some ⟨b, off, none⟩ → w.heap.size ≤ b) ∧ (∀ y ∈ o, y ∈ L ∨ dok y.e.dg ∧ Gw encI w' w.heap.size y.s y.e.ins) ∧ (q = none → d = 0 ∨ q = p ∧ d = c) ∧ Below w.heap.size w w'
set_option maxRecDepth 100000 in
set_option maxHeartbeats 2000000 in
theorem rapply20_any (p : Option Addr) (n c : Nat) (L : List Ex) (x : Wq) (w : World) (h : Gs encEn w p n L) (hi : ∀ y ∈ L, Is w y.s y.e.ins) (hk : ∀ y ∈ L, dok y.e.dg) (hb : ∀ y ∈ L, y.e.ins.length ≤ 2097151) (hx : dok x.dg) (hn : n ≤ 2097152) :
    Calls Tryz.prog 7 #[.slice p n c, x.v] w fun e w' => AppQ w p n c L x e w' := by
  obtain ⟨wB, hwB⟩ : ∃ W, w.alloc (.cells (mixC x.a x.dg x.t) 33) = W := ⟨_, rfl⟩
  have hbB : Below w.heap.size w wB := by rw [← hwB]; exact (Below.refl _ _).alloc (Nat.le_refl _) _
  have hmW : Wm wB w.heap.size x := by rw [← hwB]; exact heap_alloc_new _ _
  have HB := Lib.hid hbB
  have HLW := Lib.hid fun W (hW : Below wB.heap.size wB W) => (hmW.later hW).load hx.1
  have HDW := Lib.hid fun W (hW : Below wB.heap.size wB W) => (hmW.later hW).dig hx.1
  have HCW := Lib.hid fun W (hW : Below wB.heap.size wB W) => (hmW.later hW).cells5 hx.1
  have H := Lib.hid fun W (hW : Below wB.heap.size wB W) => (h.later hbB).later hW
  have HI := Lib.hid fun W (hW : Below wB.heap.size wB W) y (hy : y ∈ L) => ((hi y hy).later hbB).later hW
  have HK := Lib.hid hk
  have HBD := Lib.hid hb
  have HXD := Lib.hid hx
  have HG := Lib.hid (rget20_any p n c L x.dg wB (h.later hbB) hk hx hn)
  have HA : Hid (applyE (peL L) x = _) := Lib.hid (by unfold applyE; rfl)
  have HDR : Hid (dok (getR (peL L) x.dg).1.dg) := Lib.hid (by
    unfold getR
    cases hge : getE (peL L) x.dg with
    | none => exact dz32_ok
    | some z =>
      obtain ⟨y, hy, e⟩ := List.mem_map.1 (getE_mem hge).1
      show dok z.dg
      rw [← e]
      exact hk y hy)
  have HIR : Hid ((getR (peL L) x.dg).1.ins.length ≤ 2097151) := Lib.hid (getR_ins (k := 2097151) (fun z hz => by
    obtain ⟨y, hy, e⟩ := List.mem_map.1 hz
    rw [← e]
    exact hb y hy) x.dg)
  obtain ⟨R, hR⟩ : ∃ R, getR (peL L) x.dg = R := ⟨_, rfl⟩
  rw [hR] at HG HA HDR HIR
  obtain ⟨R, ok⟩ := R
  dsimp only at HA HDR HIR
  have HDB := Lib.hid (HDW.out wB (Below.refl _ _))
  unfold Wq.v
  generalize hMX : mixC x.a x.dg x.t = MX at *
  have HMX := Lib.hid hMX
  obtain ⟨dx, hdx⟩ : ∃ d, bcs x.dg = d := ⟨_, rfl⟩
  rw [hdx] at HG HDB
  clear h hi hk hb hx hbB hmW hR hMX hdx
  go_enter Tryz.func7, Tryz.ntmps7
  go_upto_region 2 with (first
    | (refine wpList_ld rfl 29 _ rfl _ rfl _ HDB.out ?_)
    | (go_at_call 11; refine HG.out.mono ?_; rintro e w2 ⟨u2, rfl, ho2, hb2⟩; have HO2 := Lib.hid ho2; have u2is : ∃ (q : Option Addr) (n d : Nat), u2 = .slice q n d := ho2.elim (fun ⟨y, _, _, h⟩ => ⟨_, _, _, h⟩) (fun h => ⟨_, _, _, h.1⟩); obtain ⟨uq, un, ud, hu2⟩ := u2is; subst hu2; have HB2 := Lib.hid hb2; clear ho2 hb2)
    | (refine wpList_store_row rfl 42 _ _ rfl w2.heap.size (enC R (.slice uq un ud)) rfl rfl 42 _ (heap_alloc_new _ _) (enC_sizeOf R _ HDR.out.1) ((enC_size zeroE _ rfl).trans (enC_size R _ HDR.out.1).symm) (enC_one _ _ _ _) ?_; generalize hv3 : World.setRow _ _ _ = w3))
  obtain ⟨he3, hb3⟩ := enC_lay rfl hv3
  obtain ⟨g3, hg3⟩ : ∃ g, w2.heap.size = g := ⟨_, rfl⟩
  rw [hg3] at he3
  rw [hg3]
  have HI2 : Hid (Is w3 (.slice uq un ud) R.ins) := Lib.hid (by
    rcases HO2.out with ⟨y, hy, h1, h2⟩ | ⟨h1, h2⟩
    · have h3 := HI.out w3 (below_step HB2.out hb3) y hy
      rw [h1, ← h2] at h3
      exact h3
    · have h3 := Is.nil w3
      have h4 : R = zeroE := h2
      rw [h1, h4]
      exact h3)
  have HB3 := Lib.hid (below_step HB2.out hb3)
  have HLV := Lib.hid fun W (hW : Below w3.heap.size w3 W) => (he3.later hW).load HDR.out.1
  have HLX := Lib.hid (HLW.out w3 HB3.out)
  obtain ⟨x0, _, _, _⟩ := HCW.out w3 HB3.out
  have HPU := Lib.hid (rput19_any R (.slice uq un ud) x w3 HI2.out HDR.out HXD.out (by have := HIR.out; omega))
  have HDE := Lib.hid (rdel19_any R (.slice uq un ud) x w3 HI2.out HDR.out HXD.out (by have := HIR.out; omega))
  have HST := Lib.hid fun (X : Ex) W (hW : Below w3.heap.size w3 W) (hX : dok X.e.dg) => rset20_any p n c L X W (H.out W (below_step HB3.out hW)) HK.out hX hn
  have HLV3 := Lib.hid (HLV.out w3 (Below.refl _ _))
  unfold enV Wq.v at HPU HDE
  rw [HMX.out] at HPU HDE
  generalize enC R (.slice uq un ud) = MR at *
  clear he3 hb3 hv3 hg3
  by_cases h12 : x.k = 1 ∨ x.k = 2
  · have HAP : Hid (applyE (peL L) x = setE (peL L) (putE R x)) := Lib.hid (by rw [HA.out, if_pos h12])
    rcases h12 with h1 | h2
    · have ht1 : (x.k == 1) = true := by simpa using h1
      clear h1
      go_wp2_with (first
        | (refine wpList_ld rfl 42 _ rfl _ rfl _ HLV3.out ?_)
        | (refine wpList_ld rfl 33 _ rfl _ rfl _ HLX.out ?_)
        | (go_at_call 23; refine HPU.out.mono ?_; rintro e w4 ⟨u4, rfl, hg4, hb4⟩; obtain ⟨X, hX1, hX2, _⟩ := hg4.is.ex (e := putE R x) (HXD.out).1; have HG4 := Lib.hid hg4; have HB4 := Lib.hid hb4; have HX1 := Lib.hid hX1; have HX2 := Lib.hid hX2; have HSC := (Lib.hid (HST.out X w4 hb4 (by rw [hX1]; exact HXD.out))); rw [show enV X.e X.s = enV (putE R x) u4 by rw [hX1, hX2]] at HSC; unfold enV at HSC; clear hg4 hb4 hX1 hX2)
        | (go_at_call 20; refine HSC.out.mono ?_; rintro e w5 ⟨v5, o5, rfl, he5, ho5, hm5, hb5⟩; have HO5 := Lib.hid ho5; have HE5 := Lib.hid he5; have HM5 := Lib.hid hm5; have HB5 := Lib.hid hb5; clear he5 ho5 hm5 hb5))
      go_ret
      have hB05 : Below w.heap.size w w4 := below_step HB.out (below_step HB3.out HB4.out)
      obtain ⟨q5, d5, hv5, _, _, hp5, hbl5⟩ := gwEn_open HO5.out
      subst hv5
      exact ⟨q5, o5.length, d5, o5, rfl, by rw [HE5.out, HX1.out, HAP.out], HO5.out.gs, Or.inr (fun b off e => Nat.le_trans hB05.size (hbl5 b off e)), fun y hy => (HM5.out y hy).elim Or.inl (fun h => Or.inr (by rw [h, HX1.out, HX2.out]; exact ⟨HXD.out, (HG4.out.later HB5.out).mono (Nat.le_trans HB.out.size (below_step HB3.out (Below.refl _ _)).size)⟩)), fun h => Or.inl (hp5 h), below_step hB05 HB5.out⟩
    · have ht1 : (x.k == 1) = false := by simp [h2]
      have ht2 : (x.k == 2) = true := by simpa using h2
      clear h2
      go_wp2_with (first
        | (refine wpList_ld rfl 42 _ rfl _ rfl _ HLV3.out ?_)
        | (refine wpList_ld rfl 33 _ rfl _ rfl _ HLX.out ?_)
        | (go_at_call 23; refine HPU.out.mono ?_; rintro e w4 ⟨u4, rfl, hg4, hb4⟩; obtain ⟨X, hX1, hX2, _⟩ := hg4.is.ex (e := putE R x) (HXD.out).1; have HG4 := Lib.hid hg4; have HB4 := Lib.hid hb4; have HX1 := Lib.hid hX1; have HX2 := Lib.hid hX2; have HSC := (Lib.hid (HST.out X w4 hb4 (by rw [hX1]; exact HXD.out))); rw [show enV X.e X.s = enV (putE R x) u4 by rw [hX1, hX2]] at HSC; unfold enV at HSC; clear hg4 hb4 hX1 hX2)
        | (go_at_call 20; refine HSC.out.mono ?_; rintro e w5 ⟨v5, o5, rfl, he5, ho5, hm5, hb5⟩; have HO5 := Lib.hid ho5; have HE5 := Lib.hid he5; have HM5 := Lib.hid hm5; have HB5 := Lib.hid hb5; clear he5 ho5 hm5 hb5))
      go_ret
      have hB05 : Below w.heap.size w w4 := below_step HB.out (below_step HB3.out HB4.out)
      obtain ⟨q5, d5, hv5, _, _, hp5, hbl5⟩ := gwEn_open HO5.out
      subst hv5
      exact ⟨q5, o5.length, d5, o5, rfl, by rw [HE5.out, HX1.out, HAP.out], HO5.out.gs, Or.inr (fun b off e => Nat.le_trans hB05.size (hbl5 b off e)), fun y hy => (HM5.out y hy).elim Or.inl (fun h => Or.inr (by rw [h, HX1.out, HX2.out]; exact ⟨HXD.out, (HG4.out.later HB5.out).mono (Nat.le_trans HB.out.size (below_step HB3.out (Below.refl _ _)).size)⟩)), fun h => Or.inl (hp5 h), below_step hB05 HB5.out⟩
  · have h1 : ¬ x.k = 1 := fun h => h12 (Or.inl h)
    have h2 : ¬ x.k = 2 := fun h => h12 (Or.inr h)
    have ht1 : (x.k == 1) = false := by simpa using h1
    have ht2 : (x.k == 2) = false := by simpa using h2
    rw [if_neg h12] at HA
    clear h12 h1 h2
    have hend : ¬ (x.k = 5 ∧ ok = true) → Hid (AppQ w p n c L x (.returned (.slice p n c)) w3) := fun hno => Lib.hid ⟨p, n, c, L, rfl, by rw [HA.out, if_neg hno], H.out w3 HB3.out, Or.inl ⟨rfl, rfl⟩, fun y hy => Or.inl hy, fun _ => Or.inr ⟨rfl, rfl⟩, below_step HB.out HB3.out⟩
    by_cases h5 : x.k = 5
    · have ht5 : (x.k == 5) = true := by simpa using h5
      cases ok with
      | true =>
        have HAP : Hid (applyE (peL L) x = setE (peL L) (delE R x)) := Lib.hid (by rw [HA.out, if_pos ⟨h5, rfl⟩])
        clear h5 hend
        go_wp2_with (first
          | (refine wpList_ld rfl 42 _ rfl _ rfl _ HLV3.out ?_)
          | (refine wpList_ld rfl 33 _ rfl _ rfl _ HLX.out ?_)
          | (go_at_call 24; refine HDE.out.mono ?_; rintro e w4 ⟨u4, rfl, hg4, hb4⟩; obtain ⟨X, hX1, hX2, _⟩ := hg4.is.ex (e := delE R x) (HDR.out).1; have HG4 := Lib.hid hg4; have HB4 := Lib.hid hb4; have HX1 := Lib.hid hX1; have HX2 := Lib.hid hX2; have HSC := (Lib.hid (HST.out X w4 hb4 (by rw [hX1]; exact HDR.out))); rw [show enV X.e X.s = enV (delE R x) u4 by rw [hX1, hX2]] at HSC; unfold enV at HSC; clear hg4 hb4 hX1 hX2)
          | (go_at_call 20; refine HSC.out.mono ?_; rintro e w5 ⟨v5, o5, rfl, he5, ho5, hm5, hb5⟩; have HO5 := Lib.hid ho5; have HE5 := Lib.hid he5; have HM5 := Lib.hid hm5; have HB5 := Lib.hid hb5; clear he5 ho5 hm5 hb5))
        go_ret
        have hB05 : Below w.heap.size w w4 := below_step HB.out (below_step HB3.out HB4.out)
        obtain ⟨q5, d5, hv5, _, _, hp5, hbl5⟩ := gwEn_open HO5.out
        subst hv5
        exact ⟨q5, o5.length, d5, o5, rfl, by rw [HE5.out, HX1.out, HAP.out], HO5.out.gs, Or.inr (fun b off e => Nat.le_trans hB05.size (hbl5 b off e)), fun y hy => (HM5.out y hy).elim Or.inl (fun h => Or.inr (by rw [h, HX1.out, HX2.out]; exact ⟨HDR.out, (HG4.out.later HB5.out).mono (Nat.le_trans HB.out.size (below_step HB3.out (Below.refl _ _)).size)⟩)), fun h => Or.inl (hp5 h), below_step hB05 HB5.out⟩
      | false =>
        have HEND := hend (fun h => by cases h.2)
        clear h5 hend
        go_wp2
        go_ret
        exact HEND.out
    · have ht5 : (x.k == 5) = false := by simpa using h5
      have HEND := hend (fun h => h5 h.1)
      clear h5 hend
      go_wp2
      go_ret
      exact HEND.out
end Go.Proofs.YtclfghmgcioilaaGreat

namespace Go.Proofs.YtclfghmgcioilaaGreat
set_option linter.unusedVariables false
open Go.RowKit Go.Lib

structure Dq where
  k : Int
  w : Wq
  hd : w.dg.length = 32
  p : Option Addr
  c : Nat
  B : List Int
def Dq.s (x : Dq) : Value := .slice x.p x.B.length x.c
def Dq.f (x : Dq) : List Value := .int .i64 x.k :: (mixL x.w.a x.w.dg x.w.t ++ [x.s])
theorem Dq.wl (x : Dq) : (mixL x.w.a x.w.dg x.w.t).length = 39 := by rw [mixL_length, x.hd]; rfl
def encDq : Ec Dq where
  f := Dq.f
  k := 41
  t := 36
  d := ⟨0, wq0, rfl, none, 0, []⟩
  len := fun x => by unfold Dq.f; rw [List.length_cons, List.length_append, x.wl]; rfl
  one := fun x v hv => by
    unfold Dq.f at hv
    rcases List.mem_cons.1 hv with rfl | hv
    · rfl
    · rcases List.mem_append.1 hv with h | h
      · unfold mixL at h
        rcases List.mem_append.1 h with h | h
        · simp only [Wq.a, List.mem_cons, List.not_mem_nil, or_false] at h
          rcases h with rfl | rfl <;> rfl
        · rcases List.mem_append.1 h with h | h
          · obtain ⟨y, _, rfl⟩ := List.mem_map.1 h; rfl
          · simp only [Wq.t, List.mem_cons, List.not_mem_nil, or_false] at h
            rcases h with rfl | rfl | rfl | rfl | rfl <;> rfl
      · rw [List.mem_singleton] at h
        subst h
        rfl
  pos := by decide
theorem Gs.dq {W : World} {p : Option Addr} {n : Nat} {L : List Dq} (h : Gs encDq W p n L) (j : Nat) (hj : j < n) :
    ∃ b off x, p = some ⟨b, off, none⟩ ∧ L[j]? = some x ∧ x ∈ L ∧ W.rangeAt b (off + j * 41) x.f := by
  obtain ⟨b, off, hp, hc⟩ := h.ptr j hj
  have hl := h.len
  have hx : L[j]? = some (L[j]'(by omega)) := List.getElem?_eq_getElem _
  have e : L.getD j encDq.d = L[j]'(by omega) := by rw [List.getD_eq_getElem?_getD, hx]; rfl
  rw [e] at hc
  exact ⟨b, off, _, hp, hx, List.getElem_mem _, fun i v hv => hc i v hv⟩
theorem dq_cells {W : World} {b o : Nat} {x : Dq} (h : W.rangeAt b o x.f) : W.cell? ⟨b, o, none⟩ = some (.int .i64 x.k) ∧ W.cell? ⟨b, o + 40, none⟩ = some x.s := by
  refine ⟨h 0 _ rfl, h 40 _ ?_⟩
  unfold Dq.f
  rw [List.getElem?_cons_succ, List.getElem?_append_right (by rw [x.wl]; omega), x.wl]
  rfl
theorem dq_wrange {W : World} {b o : Nat} {x : Dq} (h : W.rangeAt b o x.f) : W.rangeAt b (o + 1) (mixL x.w.a x.w.dg x.w.t) := fun i v hv => by
  rw [Nat.add_assoc, Nat.add_comm 1 i]
  refine h (i + 1) v ?_
  unfold Dq.f
  rw [List.getElem?_cons_succ, List.getElem?_append_left (List.getElem?_eq_some_iff.1 hv).1]
  exact hv
theorem dq_word {W : World} {b o : Nat} {x : Dq} (h : W.rangeAt b o x.f) : (Instr.loadAt 33 (.pointer (some ⟨b, o + 1, none⟩))).run Tryz.prog W = .ok (.agg (mixC x.w.a x.w.dg x.w.t)) W :=
  run_loadAt_mid W b (o + 1) 33 _ _ (dq_wrange h) Tryz.underlying33 rfl (by rw [x.wl]; exact size39)
theorem dq_dig {W : World} {b o : Nat} {x : Dq} (h : W.rangeAt b o x.f) : (Instr.loadAt 29 (.pointer (some ⟨b, o + 3, none⟩))).run Tryz.prog W = .ok (.agg (bcs x.w.dg)) W := by
  have h1 : W.rangeAt b (o + 3) (x.w.dg.map (Value.int .u8)) := fun i v hv => by
    have h2 := dq_wrange h (2 + i) v (by
      unfold mixL
      rw [List.getElem?_append_right (by simp [Wq.a]), List.getElem?_append_left (by rw [show 2 + i - x.w.a.length = i by simp [Wq.a]]; exact (List.getElem?_eq_some_iff.1 hv).1), show 2 + i - x.w.a.length = i by simp [Wq.a]]
      exact hv)
    rw [show o + 1 + (2 + i) = o + 3 + i by omega] at h2
    exact h2
  exact run_loadAt_mid W b (o + 3) 29 _ _ h1 Tryz.underlying29 rfl (by rw [List.length_map, x.hd]; exact sizeD32)
section
variable {Ix : World → (Nat → Prop) → (Nat → Prop) → Value → List Pe → Prop}
/-- between deeds: the index, and the reference's row -/
structure IdS (Ix : World → (Nat → Prop) → (Nat → Prop) → Value → List Pe → Prop) (w W : World) (v : Value) (S F N : Nat → Prop) (L : List Pe) (q : Option Addr) (m : Nat) (o : List Ex) : Prop where
  ix : Ix W S F v L
  re : ReN W N q m o
  eq : peL o = L
  ds : ∀ b, S b → ¬ N b
  sa : ∀ b, S b → w.heap.size ≤ b
  le : Below w.heap.size w W
theorem IdS.later (hT : IdxOk Ix) {w W V : World} {v : Value} {S F N : Nat → Prop} {L : List Pe} {q : Option Addr} {m : Nat} {o : List Ex} (h : IdS Ix w W v S F N L q m o) (hb : Below W.heap.size W V) : IdS Ix w V v S F N L q m o :=
  ⟨hT.later h.ix hb, h.re.later hb, h.eq, h.ds, h.sa, below_step h.le hb⟩
theorem IdS.len {w W : World} {v : Value} {S F N : Nat → Prop} {L : List Pe} {q : Option Addr} {m : Nat} {o : List Ex} (h : IdS Ix w W v S F N L q m o) : m = L.length := by rw [← h.eq, peL_length, h.re.gs.len]
/-- amid a deed: the index is turned, the row is not -/
structure MiS (Ix : World → (Nat → Prop) → (Nat → Prop) → Value → List Pe → Prop) (w W : World) (v : Value) (S F N : Nat → Prop) (L' L : List Pe) (q : Option Addr) (m : Nat) (o : List Ex) : Prop where
  ix : Ix W S F v L'
  re : ReN W N q m o
  eq : peL o = L
  ds : ∀ b, S b → ¬ N b
  sa : ∀ b, S b → w.heap.size ≤ b
  le : Below w.heap.size w W
theorem IdS.op {w W V : World} {v : Value} {S F N S' F' : Nat → Prop} {L L' : List Pe} {q : Option Addr} {m : Nat} {o : List Ex} (h : IdS Ix w W v S F N L q m o) (hx : Ix V S' F' v L') (hc : Chg S W V) (hs : ∀ b, S' b → S b ∨ W.heap.size ≤ b) : MiS Ix w V v S' F' N L' L q m o :=
  ⟨hx, h.re.hold (fun b hN => hc.block b (h.re.lt b hN) (fun hS => h.ds b hS hN)) hc.size, h.eq, fun b hS hN => (hs b hS).elim (fun h1 => h.ds b h1 hN) (fun h1 => absurd (h.re.lt b hN) (Nat.not_lt.2 h1)), fun b hS => (hs b hS).elim (h.sa b) (fun h1 => Nat.le_trans h.le.size h1), h.le.trans (hc.below h.sa h.le.size)⟩
theorem MiS.ref (hT : IdxOk Ix) {w W V : World} {v : Value} {S F N : Nat → Prop} {L L' : List Pe} {q q2 : Option Addr} {m m2 : Nat} {o o2 : List Ex} (h : MiS Ix w W v S F N L' L q m o) (hb : Below W.heap.size W V) (hg : Gs encEn V q2 m2 o2) (hq : m2 ≠ 0 → ∀ b off, q2 = some ⟨b, off, none⟩ → N b ∨ W.heap.size ≤ b)
    (ho : ∀ x ∈ o2, x ∈ o ∨ dok x.e.dg ∧ Gw encI V W.heap.size x.s x.e.ins) (he : peL o2 = L') : IdS Ix w V v S F (fun b => N b ∨ (W.heap.size ≤ b ∧ b < V.heap.size)) L' q2 m2 o2 :=
  ⟨hT.later h.ix hb, h.re.next hb hg hq ho, he, fun b hS hN => hN.elim (h.ds b hS) (fun h1 => absurd (hT.lt h.ix b (Or.inl hS)) (Nat.not_lt.2 h1.1)), h.sa, below_step h.le hb⟩
/-- the reference's Apply, Keep behind the index's -/
theorem MiS.app (hT : IdxOk Ix) {w W V : World} {v : Value} {S F N : Nat → Prop} {L : List Pe} {q q2 : Option Addr} {m m2 : Nat} {o o2 : List Ex} {x : Wq} (h : MiS Ix w W v S F N (applyE L x) L q m o) (hb : Below W.heap.size W V) (hg : Gs encEn V q2 m2 o2) (hq : (q2 = q ∧ m2 = m) ∨ ∀ b off, q2 = some ⟨b, off, none⟩ → W.heap.size ≤ b)
    (ho : ∀ y ∈ o2, y ∈ o ∨ dok y.e.dg ∧ Gw encI V W.heap.size y.s y.e.ins) (he : peL o2 = applyE (peL o) x) : IdS Ix w V v S F (fun b => N b ∨ (W.heap.size ≤ b ∧ b < V.heap.size)) (applyE L x) q2 m2 o2 :=
  h.ref hT hb hg (fun hn b off e => hq.elim (fun ⟨h1, h2⟩ => Or.inl (h.re.row (by rw [← h2]; exact hn) b off (by rw [← h1]; exact e))) (fun h1 => Or.inr (h1 b off e))) ho (by rw [he, h.eq])
end
end Go.Proofs.YtclfghmgcioilaaGreat

namespace Go.Proofs.YtclfghmgcioilaaGreat
set_option linter.unusedVariables false
open Go.RowKit Go.Lib

set_option maxRecDepth 100000 in
set_option maxHeartbeats 8000000 in
theorem indexdoes_any {Ix : World → (Nat → Prop) → (Nat → Prop) → Value → List Pe → Prop} (hT : IdxOk Ix) (p : Option Addr) (n c : Nat) (Ls : List Ex) (q : Option Addr) (m d : Nat) (D : List Dq) (K : Nat) (w : World)
    (hR : ReN w (fun b => b < w.heap.size) p n Ls) (hpc : p = none → c = 0) (hnc : n ≤ c) (hcm : c ≤ maxLen) (hil : insLe (peL Ls) K) (hD : Gs encDq w q m D) (hDi : ∀ x ∈ D, Is w x.s x.B ∧ dok x.w.dg ∧ x.B.length ≤ 1048576) (hnm : n + m ≤ 1048576) (hkm : K + m ≤ 1048576) :
    Calls Tryz.prog 3 #[.slice p n c, .slice q m d] w fun e w' => e = .returned (.bool true) ∧ Below w.heap.size w w' := by
  have HT := Lib.hid hT
  have HD := Lib.hid hD
  have HDI := Lib.hid hDi
  have HIL := Lib.hid hil
  have HR := Lib.hid hR
  have HNL : Hid ((peL Ls).length = n) := Lib.hid (by rw [peL_length, hR.gs.len])
  have HNW := Lib.hid (hT.new hR hpc hnc hcm (by omega) (fun x hx => Nat.le_trans (hil x hx) (by omega)))
  have HRN := Lib.hid fun W (hW : Below w.heap.size w W) => rnew20_any p n c Ls W (hR.gs.later hW) hR.dk (by omega)
  have HLV := Lib.hid fun W => lives20_any hT W
  clear hT hR hil hD hDi
  go_enter Tryz.func3, Tryz.ntmps3
  go_upto_region 3 with (first
    | (go_at_call 4; refine HNW.out.mono ?_; rintro e w1 ⟨v, S, F, rfl, hx1, hs1, hf1, hb1⟩; have HX1 := Lib.hid hx1; have HS1 := Lib.hid hs1; have HB1 := Lib.hid hb1; clear hx1 hs1 hf1 hb1)
    | (go_at_call 5; refine (HRN.out _ HB1.out).mono ?_; rintro e w2 ⟨v2, o2, rfl, he2, ho2, hm2, hb2⟩; obtain ⟨q2, d2, hv2, _, _, _, hbl2⟩ := gwEn_open ho2; obtain ⟨m2, hm2'⟩ : ∃ x, o2.length = x := ⟨_, rfl⟩; rw [hm2'] at hv2; subst hv2; have HO2 := Lib.hid ho2.gs; have HE2 := Lib.hid he2; have HM2 := Lib.hid hm2; have HB2 := Lib.hid hb2; have HBL2 := Lib.hid hbl2; clear ho2 hm2' he2 hm2 hb2 hbl2))
  have HIS : Hid (∃ S F N o, IdS Ix w w2 v S F N (newE (peL Ls)) q2 m2 o) := Lib.hid (by
    have h1 : MiS Ix w w1 v S F (fun b => b < w.heap.size) (newE (peL Ls)) (peL Ls) p n Ls := ⟨HX1.out, HR.out.later HB1.out, rfl, fun b hS hN => absurd (HS1.out b hS) (Nat.not_le.2 hN), HS1.out, HB1.out⟩
    have hg := HO2.out
    have hl := hg.len
    refine ⟨_, _, _, _, h1.ref HT.out HB2.out (m2 := m2) hg (fun hn b off e => Or.inr (HBL2.out b off e)) (fun x hx => Or.inl (HM2.out x hx)) HE2.out⟩)
  obtain ⟨S0, F0, N0, o0, HIS⟩ := HIS.out
  have HI0 := Lib.hid HIS
  clear HIS
  go_wp2
  go_loopw [6, 7] (fun rv j wr => ∃ (k : Nat) (S F N : Nat → Prop) (L : List Pe) (q' : Option Addr) (m' d' : Nat) (o : List Ex), k ≤ m ∧ j = .int .i64 (k : Int) ∧ rv = .slice q' m' d' ∧ Hid (IdS Ix w wr v S F N L q' m' o) ∧ Hid (L.length ≤ n + k) ∧ Hid (insLe L (K + k))) (fun _ j _ => m - (intOf j).toNat)
  case atStart => exact ⟨0, S0, F0, N0, _, q2, m2, d2, o0, by omega, rfl, rfl, HI0, Lib.hid (by have := newE_length (peL Ls); rw [HNL.out] at this; omega), Lib.hid (newE_ins HIL.out)⟩
  case round =>
    obtain ⟨k, S, F, N, L, q', m', d', o, hkm', rfl, rfl, HI, HLN, HIN⟩ := hrel
    by_cases hlt : k < m
    · obtain ⟨b1, off, y, rfl, hy1, hy3, hr⟩ := (HD.out.later HI.out.le).dq k hlt
      obtain ⟨hyi, hyd, hyb⟩ := HDI.out y hy3
      have HYD := Lib.hid hyd
      have HRW : Hid (∀ W, Below w.heap.size w W → W.rangeAt b1 (off + k * 41) y.f) := Lib.hid fun W hW => by
        obtain ⟨b2, off2, z, hp2, hz1, _, hr2⟩ := (HD.out.later hW).dq k hlt
        simp only [Option.some.injEq, Addr.mk.injEq, and_true] at hp2
        obtain ⟨rfl, rfl⟩ := hp2
        rw [hy1] at hz1
        obtain rfl := Option.some.inj hz1
        exact hr2
      have HLW := Lib.hid fun W (hW : Below w.heap.size w W) => dq_word (HRW.out W hW)
      have HLD := Lib.hid fun W (hW : Below w.heap.size w W) => dq_dig (HRW.out W hW)
      have HCS := Lib.hid fun W (hW : Below w.heap.size w W) => dq_cells (HRW.out W hW)
      have HYI := Lib.hid fun W (hW : Below w.heap.size w W) => hyi.later hW
      have HYS : Hid (y.B ≠ [] → ∀ b, y.s.ownBlock = some b → ¬ S b) := Lib.hid fun hB b hb hS => absurd (hyi.lt hB hb) (Nat.not_lt.2 (HI.out.sa b hS))
      obtain ⟨c0, _⟩ := HCS.out wr HI.out.le
      have hki : (k : Int) < (m : Int) := by omega
      have hk0 : (0 : Int) ≤ (k : Int) := by omega
      have hLL : L.length ≤ 1048576 := by have := HLN.out; omega
      have HAP := Lib.hid (HT.out.apply y.w HI.out.ix hyd hLL (fun x hx => Nat.le_trans (HIN.out x hx) (by omega)))
      have HKP := Lib.hid (HT.out.keepS HI.out.ix (hyi.later HI.out.le) HYS.out (by omega) hLL (fun x hx => Nat.le_trans (HIN.out x hx) (by omega)))
      have HLWr := Lib.hid (HLW.out wr HI.out.le)
      have HRA := Lib.hid fun (S' F' : Nat → Prop) (L' : List Pe) (W : World) (h : MiS Ix w W v S' F' N L' L q' m' o) => rapply20_any q' m' d' o y.w W h.re.gs h.re.is h.re.dk (fun z hz => by
        have h1 := HIN.out z.e (by rw [← h.eq]; exact List.mem_map_of_mem hz)
        omega) hyd (by rw [show m' = L.length from by rw [← h.eq, peL_length, h.re.gs.len]]; omega)
      have HRK := Lib.hid fun (S' F' : Nat → Prop) (L' : List Pe) (W : World) (h : MiS Ix w W v S' F' N L' L q' m' o) => rkeep20_any q' m' d' o y.p y.B.length y.c y.B W h.re.gs h.re.is h.re.dk (fun z hz => by
        have h1 := HIN.out z.e (by rw [← h.eq]; exact List.mem_map_of_mem hz)
        omega) (by
          obtain ⟨p9, c9, e9, g9, _⟩ := HYI.out W h.le
          unfold Dq.s at e9
          simp only [Value.slice.injEq] at e9
          obtain ⟨rfl, -, rfl⟩ := e9
          exact g9) (by omega) (by rw [show m' = L.length from by rw [← h.eq, peL_length, h.re.gs.len]]; omega)
      unfold Wq.v at HAP HRA
      unfold Dq.s at HKP
      generalize hMW : mixC y.w.a y.w.dg y.w.t = MW at *
      clear hr hy1 hy3 hyi hyd hMW
      by_cases hz : y.k = 0
      · have ht : (y.k == 0) = true := by simpa using hz
        clear hz
        go_upto_region 8 with (first
          | (refine wpList_ld rfl 33 _ rfl _ rfl _ HLWr.out ?_)
          | (go_at_call 6; refine HAP.out.mono ?_; rintro e w3 ⟨S3, F3, rfl, hx3, hc3, hs3, hf3⟩))
        have HM3 := Lib.hid (HI.out.op hx3 hc3 hs3)
        have HLW3 := Lib.hid (HLW.out w3 HM3.out.le)
        have HRA3 := Lib.hid (HRA.out _ _ _ _ HM3.out)
        clear hx3 hc3 hs3 hf3 c0
        go_upto_region 11 with (first
          | (refine wpList_ld rfl 33 _ rfl _ rfl _ HLW3.out ?_)
          | (go_at_call 7; refine HRA3.out.mono ?_; rintro e w4 ⟨q4, m4, d4, o4, rfl, he4, hg4, hq4, ho4, _, hb4⟩))
        have HIV := Lib.hid (HM3.out.app HT.out hb4 hg4 hq4 ho4 he4)
        have HLN2 : Hid ((applyE L y.w).length ≤ n + (k + 1)) := Lib.hid (by have h1 := applyE_length L y.w; have h2 := HLN.out; omega)
        have HIN2 : Hid (insLe (applyE L y.w) (K + (k + 1))) := Lib.hid (applyE_ins HIN.out)
        clear he4 hg4 hq4 ho4 hb4
        generalize applyE L y.w = L2 at *
        have hL2 : L2.length ≤ 1048576 := by have := HLN2.out; omega
        have HGE := Lib.hid (HT.out.get y.w.dg HIV.out.ix HYD.out)
        have HLD4 := Lib.hid (HLD.out w4 HIV.out.le)
        obtain ⟨R, hR⟩ : ∃ R, getR L2 y.w.dg = R := ⟨_, rfl⟩
        have HRD : Hid (dok R.1.dg) := Lib.hid (by
          rw [← hR]
          unfold getR
          cases hge : getE L2 y.w.dg with
          | none => exact dz32_ok
          | some z => exact (HT.out.ok HIV.out.ix).2 z (getE_mem hge).1)
        have HRI : Hid (R.1.ins.length ≤ 2097152) := Lib.hid (by
          rw [← hR]
          exact Nat.le_trans (getR_ins HIN2.out _) (by omega))
        have HRG := Lib.hid fun W (hW : Below w4.heap.size w4 W) => rget20_any q4 m4 d4 _ y.w.dg W (HIV.out.re.later hW).gs HIV.out.re.dk HYD.out (by rw [HIV.out.len]; omega)
        rw [HIV.out.eq] at HRG
        rw [hR] at HGE HRG
        obtain ⟨R, ok⟩ := R
        dsimp only at HRD HRI
        obtain ⟨dx, hdx⟩ : ∃ x, bcs y.w.dg = x := ⟨_, rfl⟩
        rw [hdx] at HGE HLD4 HRG HLD
        clear hR hdx
        go_upto_region 12 with (first
          | (refine wpList_ld rfl 29 _ rfl _ rfl _ HLD4.out ?_)
          | (go_at_call 10; refine HGE.out.mono ?_; rintro e w5 ⟨s5, rfl, hi5, _, hb5⟩; have HI5 := Lib.hid hi5; have HB5 := Lib.hid hb5; obtain ⟨p5, c5, rfl, _⟩ := hi5; clear hb5)
          | (refine wpList_store_row rfl 42 _ _ rfl w5.heap.size (enC R _) rfl rfl 42 _ (heap_alloc_new _ _) (enC_sizeOf R _ HRD.out.1) ((enC_size zeroE _ rfl).trans (enC_size R _ HRD.out.1).symm) (enC_one _ _ _ _) ?_; generalize hw6 : World.setRow _ _ _ = w6))
        obtain ⟨he6, hb6⟩ := enC_lay rfl hw6
        obtain ⟨g6, hg6⟩ : ∃ g, w5.heap.size = g := ⟨_, rfl⟩
        rw [hg6] at he6
        rw [hg6]
        have HB6 := Lib.hid (below_step HB5.out hb6)
        have HV6 : Hid (Ed w6 g6 R _) := Lib.hid ⟨he6, HI5.out.later hb6, HRD.out⟩
        have HLD6 := Lib.hid (HLD.out w6 (below_step HIV.out.le HB6.out))
        have HRG6 := Lib.hid (HRG.out w6 HB6.out)
        clear he6 hb6 hw6 hg6
        go_upto_region 13 with (first
          | (refine wpList_ld rfl 29 _ rfl _ rfl _ HLD6.out ?_)
          | (go_at_call 11; refine HRG6.out.mono ?_; rintro e w7 ⟨u7, rfl, ho7, hb7⟩; have u7is : Is w7 u7 R.ins := (ho7.elim (fun ⟨z, hz, h1, h2⟩ => (by have h3 := ((HIV.out.re.later HB6.out).is z hz).later hb7; rw [h1, ← h2] at h3; exact h3)) (fun ⟨h1, h2⟩ => (by have h4 : R = zeroE := h2; rw [h1, h4]; exact Is.nil w7))); have HU7 := Lib.hid u7is; have HB7 := Lib.hid hb7; obtain ⟨p7, c7, hu7, _⟩ := u7is; subst hu7; clear hb7 ho7)
          | (refine wpList_store_row rfl 42 _ _ rfl w7.heap.size (enC R _) rfl rfl 42 _ (heap_alloc_new _ _) (enC_sizeOf R _ HRD.out.1) ((enC_size zeroE _ rfl).trans (enC_size R _ HRD.out.1).symm) (enC_one _ _ _ _) ?_; generalize hw8 : World.setRow _ _ _ = w8))
        obtain ⟨he8, hb8⟩ := enC_lay rfl hw8
        obtain ⟨g8, hg8⟩ : ∃ g, w7.heap.size = g := ⟨_, rfl⟩
        rw [hg8] at he8
        rw [hg8]
        have HB8 := Lib.hid (below_step HB6.out (below_step HB7.out hb8))
        have HV8 : Hid (Ed w8 g8 R _) := Lib.hid ⟨he8, HU7.out.later hb8, HRD.out⟩
        have HV68 := Lib.hid (HV6.out.later (below_step HB7.out hb8))
        have HCO := Lib.hid (HT.out.count (HT.out.later HIV.out.ix HB8.out) hL2)
        have HRC := Lib.hid fun W (hW : Below w4.heap.size w4 W) => rcount20_any q4 m4 d4 _ W (HIV.out.re.later hW).gs (by rw [HIV.out.len]; omega)
        rw [HIV.out.eq] at HRC
        obtain ⟨cn, hcn⟩ : ∃ x, cntE L2 = x := ⟨_, rfl⟩
        obtain ⟨sz, hsz⟩ : ∃ x, IntKind.i64.wrap (sumE L2) = x := ⟨_, rfl⟩
        rw [hcn, hsz] at HCO HRC
        clear he8 hb8 hw8 hg8 hcn hsz
        go_upto_region 15 with (first
          | (go_at_call 12; refine HCO.out.mono ?_; rintro e w9 ⟨rfl, hb9⟩; have HB9 := Lib.hid hb9; clear hb9)
          | (go_at_call 13; refine (HRC.out _ (below_step HB8.out HB9.out)).mono ?_; rintro e w10 ⟨rfl, hw10⟩; have hw11 := hw10.symm; clear hw10; subst hw11))
        have HB49 := Lib.hid (below_step HB8.out HB9.out)
        have HVA := Lib.hid (HV68.out.later HB9.out)
        have HVB := Lib.hid (HV8.out.later HB9.out)
        have HLA := Lib.hid (HVA.out.m.load HRD.out.1)
        have HLB := Lib.hid (HVB.out.m.load HRD.out.1)
        have HSE := Lib.hid (rsame19_any R _ _ w9 HVA.out.i HVB.out.i HRD.out HRI.out)
        have HIV9 := Lib.hid (HIV.out.later HT.out HB49.out)
        have HRO := Lib.hid fun W (hW : Below w9.heap.size w9 W) => HT.out.row (HT.out.later HIV9.out.ix hW) hL2
        have hb1 : (ok != ok) = false := by simp
        have hb2 : ((cn : Int) != (cn : Int)) = false := by simp
        have hb3 : (sz != sz) = false := by simp
        go_wp2_with (first
          | (refine wpList_ld rfl 42 _ rfl _ rfl _ HLA.out ?_)
          | (refine wpList_ld rfl 42 _ rfl _ rfl _ HLB.out ?_)
          | (go_at_call 14; refine HSE.out.mono ?_; rintro e w11 ⟨rfl, hb11⟩; have HB11 := Lib.hid hb11; have HRO11 := Lib.hid (HRO.out _ hb11); clear hb11)
          | (go_at_call 16; refine HRO11.out.mono ?_; rintro e w12 ⟨p8, n8, c8, Ls8, N8, rfl, he8, hr8, hn8, hp8, hl8, hm8, hb8⟩; have HB12 := Lib.hid (below_step HB11.out hb8); have HSM := Lib.hid (rsame20_any p8 q4 n8 c8 m4 d4 Ls8 _ w12 hr8.gs (HIV9.out.re.later HB12.out).gs (he8.trans HIV9.out.eq.symm) hr8.is (HIV9.out.re.later HB12.out).is hr8.dk (fun z hz => Nat.le_trans (HIN2.out z.e (by rw [← he8]; exact List.mem_map_of_mem hz)) (by omega)) (by have h1 := hr8.gs.len; rw [← peL_length, he8] at h1; omega)); clear he8 hr8 hn8 hp8 hl8 hm8 hb8)
          | (go_at_call 15; refine HSM.out.mono ?_; rintro e w13 ⟨rfl, hb13⟩; have HB13 := Lib.hid (below_step HB12.out hb13); clear hb13))
        have HIN3 := Lib.hid (HIV9.out.later HT.out HB13.out)
        exact ⟨⟨k + 1, _, _, _, L2, q4, m4, d4, _, by omega, by go_num, rfl, HIN3, HLN2, HIN2⟩, by simp [intOf] <;> omega⟩
      · have ht : (y.k == 0) = false := by simpa using hz
        clear hz
        have c40 := (HCS.out wr HI.out.le).2
        unfold Dq.s at c40
        go_upto_region 10 with (go_at_call 8; refine HKP.out.mono ?_; rintro e w3 ⟨S3, F3, rfl, hx3, hc3, hs3, hf3⟩)
        have HM3 := Lib.hid (HI.out.op hx3 hc3 hs3)
        have HRK3 := Lib.hid (HRK.out _ _ _ _ HM3.out)
        have c43 := (HCS.out w3 HM3.out.le).2
        unfold Dq.s at c43
        clear hx3 hc3 hs3 hf3 c0 c40
        go_upto_region 11 with (go_at_call 9; refine HRK3.out.mono ?_; rintro e w4 ⟨v4, o4, rfl, he4, hg4, ho4, hb4⟩; obtain ⟨q4, d4, hv4, _, _, _, hbl4⟩ := gwEn_open hg4; obtain ⟨m4, hm4⟩ : ∃ x, o4.length = x := ⟨_, rfl⟩; rw [hm4] at hv4; subst hv4)
        have HIV := Lib.hid (HM3.out.ref HT.out hb4 (m2 := m4) (q2 := q4) hg4.gs (fun _ b off e => Or.inr (hbl4 b off e)) (fun x hx => Or.inr (ho4 x hx)) (by rw [he4, HM3.out.eq]))
        have HLN2 : Hid ((keepR L y.B).length ≤ n + (k + 1)) := Lib.hid (by have h1 := keepR_length L y.B; have h2 := HLN.out; omega)
        have HIN2 : Hid (insLe (keepR L y.B) (K + (k + 1))) := Lib.hid (fun x hx => Nat.le_succ_of_le (keepR_ins HIN.out y.B x hx))
        clear he4 hg4 ho4 hb4 hbl4 hm4 c43
        generalize keepR L y.B = L2 at *
        have hL2 : L2.length ≤ 1048576 := by have := HLN2.out; omega
        have HGE := Lib.hid (HT.out.get y.w.dg HIV.out.ix HYD.out)
        have HLD4 := Lib.hid (HLD.out w4 HIV.out.le)
        obtain ⟨R, hR⟩ : ∃ R, getR L2 y.w.dg = R := ⟨_, rfl⟩
        have HRD : Hid (dok R.1.dg) := Lib.hid (by
          rw [← hR]
          unfold getR
          cases hge : getE L2 y.w.dg with
          | none => exact dz32_ok
          | some z => exact (HT.out.ok HIV.out.ix).2 z (getE_mem hge).1)
        have HRI : Hid (R.1.ins.length ≤ 2097152) := Lib.hid (by
          rw [← hR]
          exact Nat.le_trans (getR_ins HIN2.out _) (by omega))
        have HRG := Lib.hid fun W (hW : Below w4.heap.size w4 W) => rget20_any q4 m4 d4 _ y.w.dg W (HIV.out.re.later hW).gs HIV.out.re.dk HYD.out (by rw [HIV.out.len]; omega)
        rw [HIV.out.eq] at HRG
        rw [hR] at HGE HRG
        obtain ⟨R, ok⟩ := R
        dsimp only at HRD HRI
        obtain ⟨dx, hdx⟩ : ∃ x, bcs y.w.dg = x := ⟨_, rfl⟩
        rw [hdx] at HGE HLD4 HRG HLD
        clear hR hdx
        go_upto_region 12 with (first
          | (refine wpList_ld rfl 29 _ rfl _ rfl _ HLD4.out ?_)
          | (go_at_call 10; refine HGE.out.mono ?_; rintro e w5 ⟨s5, rfl, hi5, _, hb5⟩; have HI5 := Lib.hid hi5; have HB5 := Lib.hid hb5; obtain ⟨p5, c5, rfl, _⟩ := hi5; clear hb5)
          | (refine wpList_store_row rfl 42 _ _ rfl w5.heap.size (enC R _) rfl rfl 42 _ (heap_alloc_new _ _) (enC_sizeOf R _ HRD.out.1) ((enC_size zeroE _ rfl).trans (enC_size R _ HRD.out.1).symm) (enC_one _ _ _ _) ?_; generalize hw6 : World.setRow _ _ _ = w6))
        obtain ⟨he6, hb6⟩ := enC_lay rfl hw6
        obtain ⟨g6, hg6⟩ : ∃ g, w5.heap.size = g := ⟨_, rfl⟩
        rw [hg6] at he6
        rw [hg6]
        have HB6 := Lib.hid (below_step HB5.out hb6)
        have HV6 : Hid (Ed w6 g6 R _) := Lib.hid ⟨he6, HI5.out.later hb6, HRD.out⟩
        have HLD6 := Lib.hid (HLD.out w6 (below_step HIV.out.le HB6.out))
        have HRG6 := Lib.hid (HRG.out w6 HB6.out)
        clear he6 hb6 hw6 hg6
        go_upto_region 13 with (first
          | (refine wpList_ld rfl 29 _ rfl _ rfl _ HLD6.out ?_)
          | (go_at_call 11; refine HRG6.out.mono ?_; rintro e w7 ⟨u7, rfl, ho7, hb7⟩; have u7is : Is w7 u7 R.ins := (ho7.elim (fun ⟨z, hz, h1, h2⟩ => (by have h3 := ((HIV.out.re.later HB6.out).is z hz).later hb7; rw [h1, ← h2] at h3; exact h3)) (fun ⟨h1, h2⟩ => (by have h4 : R = zeroE := h2; rw [h1, h4]; exact Is.nil w7))); have HU7 := Lib.hid u7is; have HB7 := Lib.hid hb7; obtain ⟨p7, c7, hu7, _⟩ := u7is; subst hu7; clear hb7 ho7)
          | (refine wpList_store_row rfl 42 _ _ rfl w7.heap.size (enC R _) rfl rfl 42 _ (heap_alloc_new _ _) (enC_sizeOf R _ HRD.out.1) ((enC_size zeroE _ rfl).trans (enC_size R _ HRD.out.1).symm) (enC_one _ _ _ _) ?_; generalize hw8 : World.setRow _ _ _ = w8))
        obtain ⟨he8, hb8⟩ := enC_lay rfl hw8
        obtain ⟨g8, hg8⟩ : ∃ g, w7.heap.size = g := ⟨_, rfl⟩
        rw [hg8] at he8
        rw [hg8]
        have HB8 := Lib.hid (below_step HB6.out (below_step HB7.out hb8))
        have HV8 : Hid (Ed w8 g8 R _) := Lib.hid ⟨he8, HU7.out.later hb8, HRD.out⟩
        have HV68 := Lib.hid (HV6.out.later (below_step HB7.out hb8))
        have HCO := Lib.hid (HT.out.count (HT.out.later HIV.out.ix HB8.out) hL2)
        have HRC := Lib.hid fun W (hW : Below w4.heap.size w4 W) => rcount20_any q4 m4 d4 _ W (HIV.out.re.later hW).gs (by rw [HIV.out.len]; omega)
        rw [HIV.out.eq] at HRC
        obtain ⟨cn, hcn⟩ : ∃ x, cntE L2 = x := ⟨_, rfl⟩
        obtain ⟨sz, hsz⟩ : ∃ x, IntKind.i64.wrap (sumE L2) = x := ⟨_, rfl⟩
        rw [hcn, hsz] at HCO HRC
        clear he8 hb8 hw8 hg8 hcn hsz
        go_upto_region 15 with (first
          | (go_at_call 12; refine HCO.out.mono ?_; rintro e w9 ⟨rfl, hb9⟩; have HB9 := Lib.hid hb9; clear hb9)
          | (go_at_call 13; refine (HRC.out _ (below_step HB8.out HB9.out)).mono ?_; rintro e w10 ⟨rfl, hw10⟩; have hw11 := hw10.symm; clear hw10; subst hw11))
        have HB49 := Lib.hid (below_step HB8.out HB9.out)
        have HVA := Lib.hid (HV68.out.later HB9.out)
        have HVB := Lib.hid (HV8.out.later HB9.out)
        have HLA := Lib.hid (HVA.out.m.load HRD.out.1)
        have HLB := Lib.hid (HVB.out.m.load HRD.out.1)
        have HSE := Lib.hid (rsame19_any R _ _ w9 HVA.out.i HVB.out.i HRD.out HRI.out)
        have HIV9 := Lib.hid (HIV.out.later HT.out HB49.out)
        have HRO := Lib.hid fun W (hW : Below w9.heap.size w9 W) => HT.out.row (HT.out.later HIV9.out.ix hW) hL2
        have hb1 : (ok != ok) = false := by simp
        have hb2 : ((cn : Int) != (cn : Int)) = false := by simp
        have hb3 : (sz != sz) = false := by simp
        go_wp2_with (first
          | (refine wpList_ld rfl 42 _ rfl _ rfl _ HLA.out ?_)
          | (refine wpList_ld rfl 42 _ rfl _ rfl _ HLB.out ?_)
          | (go_at_call 14; refine HSE.out.mono ?_; rintro e w11 ⟨rfl, hb11⟩; have HB11 := Lib.hid hb11; have HRO11 := Lib.hid (HRO.out _ hb11); clear hb11)
          | (go_at_call 16; refine HRO11.out.mono ?_; rintro e w12 ⟨p8, n8, c8, Ls8, N8, rfl, he8, hr8, hn8, hp8, hl8, hm8, hb8⟩; have HB12 := Lib.hid (below_step HB11.out hb8); have HSM := Lib.hid (rsame20_any p8 q4 n8 c8 m4 d4 Ls8 _ w12 hr8.gs (HIV9.out.re.later HB12.out).gs (he8.trans HIV9.out.eq.symm) hr8.is (HIV9.out.re.later HB12.out).is hr8.dk (fun z hz => Nat.le_trans (HIN2.out z.e (by rw [← he8]; exact List.mem_map_of_mem hz)) (by omega)) (by have h1 := hr8.gs.len; rw [← peL_length, he8] at h1; omega)); clear he8 hr8 hn8 hp8 hl8 hm8 hb8)
          | (go_at_call 15; refine HSM.out.mono ?_; rintro e w13 ⟨rfl, hb13⟩; have HB13 := Lib.hid (below_step HB12.out hb13); clear hb13))
        have HIN3 := Lib.hid (HIV9.out.later HT.out HB13.out)
        exact ⟨⟨k + 1, _, _, _, L2, q4, m4, d4, _, by omega, by go_num, rfl, HIN3, HLN2, HIN2⟩, by simp [intOf] <;> omega⟩
    · obtain rfl : k = m := by omega
      have hLL : L.length ≤ 1048576 := by have := HLN.out; omega
      have HRO := Lib.hid (HT.out.row HI.out.ix hLL)
      go_wp2_with (first
        | (go_at_call 16; refine HRO.out.mono ?_; rintro e w8 ⟨p8, n8, c8, Ls8, N8, rfl, he8, hr8, hn8, hp8, hl8, hm8, hb8⟩; have HSM := Lib.hid (rsame20_any p8 q' n8 c8 m' d' Ls8 o w8 hr8.gs (HI.out.re.later hb8).gs (he8.trans HI.out.eq.symm) hr8.is (HI.out.re.later hb8).is hr8.dk (fun z hz => Nat.le_trans (HIN.out z.e (by rw [← he8]; exact List.mem_map_of_mem hz)) (by omega)) (by have h1 := hr8.gs.len; rw [← peL_length, he8] at h1; omega)); have HB8 := Lib.hid hb8; clear he8 hr8 hn8 hp8 hl8 hm8 hb8)
        | (go_at_call 15; refine HSM.out.mono ?_; rintro e w9 ⟨rfl, hb9⟩; have HB9 := Lib.hid (below_step HB8.out hb9); clear hb9)
        | (go_at_call 17; refine (HLV.out _).mono ?_; rintro e wL ⟨rfl, hbL⟩; have HBL := Lib.hid (below_step HB9.out hbL); clear hbL))
      go_ret
      exact ⟨rfl, below_step HI.out.le HBL.out⟩
end Go.Proofs.YtclfghmgcioilaaGreat

namespace Go.Proofs.YtclfghmgcioilaaGreat
set_option linter.unusedVariables false
open Go.RowKit Go.Lib Go.ChangeShapes Go.WideShapes Go.ChangeAt

theorem cutDq {α : Type} (cs : List α) (h : cs.length = 41) : cs = (cs.drop 0).take 1 ++ ((cs.drop 1).take 39 ++ (cs.drop 40).take 1) := by
  have e (a b : Nat) : cs.drop a = (cs.drop a).take b ++ cs.drop (a + b) := by
    rw [← List.drop_drop, List.take_append_drop]
  have h3 : cs.drop 40 = (cs.drop 40).take 1 := by rw [List.take_of_length_le (by rw [List.length_drop]; omega)]
  have h2 := e 1 39
  have h1 := e 0 1
  simp only [Nat.reduceAdd] at h2 h1
  rw [← h3, ← h2, ← h1, List.drop_zero]
section
variable {H : Type} {enc : TypeId × Value → H} {W : World} {base : Nat} {held : Bool}
set_option maxRecDepth 100000 in
theorem open_dqL (fuel : Nat) (cs : List Value) (x : DataW H × List MemPlace) (h : DataW.trod enc Tryz.prog W base (fun _ => true) held fuel encDq.t cs = some x) :
    ∃ q : Dq, cs = encDq.f q ∧ (Is W q.s q.B ∧ dok q.w.dg) ∧ q.B.length + 1 ≤ Rows.uptoBulk x.1 := by
  have h' : DataW.trod enc Tryz.prog W base (fun _ => true) held fuel 36 cs = some x := h
  obtain ⟨y0, y1, y2, m, hx, hl, h0, h1, h2⟩ := trod_structE3 Tryz.underlying36 h'
  have ec : Tryz.prog.cellsOf 36 = 41 := by kernel_rfl
  rw [ec] at hl
  have e1 : Tryz.prog.cellsOf 33 = 39 := by kernel_rfl
  have e2 : Tryz.prog.cellsOf 3 = 1 := by kernel_rfl
  have e3 : Tryz.prog.cellsOf 34 = 1 := by kernel_rfl
  simp only [e1, e2, e3] at h0 h1 h2
  have hc := cutDq cs hl
  have one : ∀ a, a < 41 → ∃ v, (cs.drop a).take 1 = [v] := fun a ha => by
    rw [List.drop_eq_getElem_cons (by omega)]
    exact ⟨_, rfl⟩
  obtain ⟨v0, q0⟩ := one 0 (by omega)
  obtain ⟨v2, q2⟩ := one 40 (by omega)
  rw [q0] at h0 hc
  rw [q2] at h2 hc
  obtain ⟨k, rfl, hw0⟩ := open_int' Tryz.underlying3 h0
  obtain ⟨w, hwc, hwd⟩ := open_wdL _ _ _ h1
  obtain ⟨B, hB, hBo, hBb⟩ := open_intsC h2
  obtain ⟨p, c, rfl, hg⟩ := hB
  refine ⟨⟨k, w, hwd.1, p, c, B⟩, ?_, ⟨⟨p, c, rfl, hg⟩, hwd⟩, ?_⟩
  · rw [hc, hwc]
    rfl
  · rw [hx]
    simp only [Rows.uptoBulk, Rows.uptoBulkAll]
    omega
theorem open_deeds {fuel : Nat} {a0 : Option Addr} {len cap : Nat} {x : DataW H × List MemPlace}
    (h : DataW.trod enc Tryz.prog W base (fun _ => true) held fuel 23 [.slice a0 len cap] = some x) :
    ∃ L : List Dq, Gs encDq W a0 len L ∧ (∀ q ∈ L, Is W q.s q.B ∧ dok q.w.dg ∧ q.B.length ≤ Rows.uptoBulk x.1) ∧ len + 1 ≤ Rows.uptoBulk x.1 := by
  obtain ⟨hl0, hm0, hp0, L, hL, hLo, hLs⟩ := open_gs encDq Tryz.underlying23 (by kernel_rfl) (fun q => q.B.length + 1) (fun q => Is W q.s q.B ∧ dok q.w.dg) open_dqL h
  obtain ⟨K, h1, h2⟩ := sum_max (fun q : Dq => q.B.length) (fun q => q.B.length + 1) (fun _ => Nat.le_refl _) L
  have h3 := hL.len
  exact ⟨L, hL, fun q hq => ⟨(hLo q hq).1, (hLo q hq).2, by have := h1 q hq; omega⟩, by omega⟩
end
end Go.Proofs.YtclfghmgcioilaaGreat
