/- Layer 19, the reference: Put, Delete, Tag, Untag. (gen_entb.py); Layer 19, the reference: Tag, Untag. (gen_entb.py) -/
import Derived.Test.YtpfbfhigelbfcaaGreatSd12
import Derived.Test.YtpfbfhigelbfcaaGreatSd13
import Derived.Deep.Cut
import Derived.Deep.DeepCutAuto
set_option linter.unusedSimpArgs false
set_option linter.unusedVariables false
namespace Go.Proofs.YtpfbfhigelbfcaaGreat
open Go.RowKit Go.Lib
set_option maxRecDepth 100000 in
set_option maxHeartbeats 4000000 in
theorem rput19_any (e : Pe) (s : Value) (x : Wq) (w : World) (h : Is w s e.ins) (hd : dok e.dg) (hx : dok x.dg) (hn : e.ins.length ≤ 2097152) :
 Calls Tryz.prog 81 #[enV e s, x.v] w fun r w' => EnG w (putE e x) r w' := by
 obtain ⟨w0, w1, w2, g1, g2, h0, h1, h2, hg1, hg2, hB⟩ := box3 w (enC e s) (mixC x.a x.dg x.t) (enC zeroE (.slice none 0 0)) 59 39 59
 have HE : Hid (Em w2 w.heap.size e s) := Lib.hid hB.a
 have HX : Hid (Wm w2 g1 x) := Lib.hid hB.b
 have HZ : Hid (Em w2 g2 zeroE (.slice none 0 0)) := Lib.hid hB.z
 have HB := Lib.hid hB.le
 have HLT := Lib.hid hB.lt
 have HS := Lib.hid (h.later hB.le)
 obtain ⟨p, c, rfl, hs, _⟩ := h.later hB.le
 have HRO := Lib.hid fun W (hW : Below w2.heap.size w2 W) => rrow19_any p e.ins.length c e.ins W (hs.later hW) hn
 have HD := Lib.hid hd
 have HXD := Lib.hid hx
 have HN := Lib.hid hn
 have HLX := Lib.hid fun W (hW : Below w2.heap.size w2 W) => (HX.out.later hW).dig hx.1
 have HLC := Lib.hid fun W (hW : Below w2.heap.size w2 W) => (HX.out.later hW).loc hx.1
 obtain ⟨m, hm⟩ : ∃ m, e.ins.length = m := ⟨_, rfl⟩
 rw [hm] at HRO
 have HML := Lib.hid hm
 obtain ⟨e0, e1, e2, cs⟩ := HE.out.cells hd.1
 obtain ⟨x0, x1, x2, x3⟩ := HX.out.cells5 hx.1
 rw [hm] at cs
 have HSC := Lib.hid (show (fun W : World => W.cell? ⟨g1, 0, none⟩ = some (.int .i64 x.k) ∧ W.cell? ⟨g1, 35, none⟩ = some (.int .i64 x.z) ∧ W.cell? ⟨g1, 36, none⟩ = some (.int .i64 x.seg) ∧ W.cell? ⟨w.heap.size, 37, none⟩ = some (.slice p m c) ∧ Below w2.heap.size w2 W) w2 from ⟨x0, x2, x3, cs, Below.refl _ _⟩)
 rw [enZero] at h2
 unfold enV Wq.v
 generalize hMC : enC e (Value.slice p e.ins.length c) = MC at *
 generalize hMX : mixC x.a x.dg x.t = MX at *
 rw [hm] at hMC
 clear hMC hMX hs hd hx hn hB hm cs e0 e1 e2 x0 x1 x2 x3
 go_enter Tryz.func81, Tryz.ntmps81
 go_upto_region 1 with fail
 refine wp_region_x (fun W : World => W.cell? ⟨g1, 0, none⟩ = some (.int .i64 x.k) ∧ W.cell? ⟨g1, 35, none⟩ = some (.int .i64 x.z) ∧ W.cell? ⟨g1, 36, none⟩ = some (.int .i64 x.seg) ∧ W.cell? ⟨w.heap.size, 37, none⟩ = some (.slice p m c) ∧ Below w2.heap.size w2 W) 16 (by kernel_rfl) ?_
 have hHeld : (fun W : World => W.cell? ⟨g1, 0, none⟩ = some (.int .i64 x.k) ∧ W.cell? ⟨g1, 35, none⟩ = some (.int .i64 x.z) ∧ W.cell? ⟨g1, 36, none⟩ = some (.int .i64 x.seg) ∧ W.cell? ⟨w.heap.size, 37, none⟩ = some (.slice p m c) ∧ Below w2.heap.size w2 W) _ := (show (fun W : World => W.cell? ⟨g1, 0, none⟩ = some (.int .i64 x.k) ∧ W.cell? ⟨g1, 35, none⟩ = some (.int .i64 x.z) ∧ W.cell? ⟨g1, 36, none⟩ = some (.int .i64 x.seg) ∧ W.cell? ⟨w.heap.size, 37, none⟩ = some (.slice p m c) ∧ Below w2.heap.size w2 W) (World.drew w2) from ⟨HSC.out.1, HSC.out.2.1, HSC.out.2.2.1, HSC.out.2.2.2.1, (Below.refl _ _).drew⟩)
 refine tkx 0 rfl ?_;(try simp only [PT])
 refine tkxL 1 rfl (yieldsIf_ld (by rfl) 35 (.tmp 5) rfl (.pointer (some ⟨g1, 2, none⟩)) rfl (.agg (bcs x.dg)) (fun W hW => HLX.out W (hW.2.2.2.2))) ?_
 (try simp only [PT])
 refine tkx 2 rfl ?_;(try simp only [PT]);refine tkx 3 rfl ?_;(try simp only [PT]);refine tkx 4 rfl ?_;(try simp only [PT]);refine tkx 5 rfl ?_;(try simp only [PT]);refine tkx 6 rfl ?_;(try simp only [PT])
 refine tkxL 7 rfl (yieldsIf_ld (by rfl) 37 (.tmp 11) rfl (.pointer (some ⟨g1, 36, none⟩)) rfl (.agg (lcA x.seg x.off x.len)) (fun W hW => HLC.out W (hW.2.2.2.2))) ?_
 (try simp only [PT])
 refine tkx 8 rfl ?_;(try simp only [PT]);refine tkx 9 rfl ?_;(try simp only [PT]);refine tkx 11 rfl ?_;(try simp only [PT]);refine tkx 12 rfl ?_;(try simp only [PT]);refine tkx 13 rfl ?_;(try simp only [PT])
 refine readyx 10 rfl (by kernel_rfl) (fun K hK => ?_)
 go_simp
 refine (HRO.out _ (hHeld.2.2.2.2)).mono ?_
 rintro r w5 ⟨v5, rfl, ho5, hb5⟩
 have hb25 := below_step (hHeld.2.2.2.2) hb5
 obtain ⟨q5, d5, hv5, _⟩ := ho5.open
 obtain ⟨n5, hnn5⟩ : ∃ n, (rowI e.ins).length = n := ⟨_, rfl⟩
 rw [hnn5] at hv5
 subst hv5
 have HO5 := Lib.hid ho5
 obtain ⟨y0, y1, y2, y3⟩ := (HE.out.later hb25).cells HD.out.1
 obtain ⟨z0, z1, z2, z3⟩ := (HX.out.later hb25).cells5 HXD.out.1
 rw [show e.ins.length = m from HML.out] at y3
 have k_x0 := z0
 have k_x2 := z2
 have k_x3 := z3
 have k_cs := y3
 clear y0 y1 y2 z0 z1 z2 z3
 clear hb5 ho5
 have hn5 : n5 ≤ 2097152 := by rw [← hnn5]; exact Nat.le_trans (rowI_length _) HN.out
 have HAD := Lib.hid fun W (hW : Below w5.heap.size w5 W) => radd19_any q5 n5 d5 _ x.seg W (HO5.out.gs.later hW) hn5
 clear hnn5 hn5
 first
  | refine hK.out _ _ ?hS14 ?rest14
  | (go_wp2_with fail; refine hK.out _ _ ?hS14 ?rest14)
 case hS14 => exact ⟨k_x0, k_x2, k_x3, k_cs, hb25⟩
 clear hK K hHeld
 have hHeld : (fun W : World => W.cell? ⟨g1, 0, none⟩ = some (.int .i64 x.k) ∧ W.cell? ⟨g1, 35, none⟩ = some (.int .i64 x.z) ∧ W.cell? ⟨g1, 36, none⟩ = some (.int .i64 x.seg) ∧ W.cell? ⟨w.heap.size, 37, none⟩ = some (.slice p m c) ∧ Below w2.heap.size w2 W) _ := ⟨k_x0, k_x2, k_x3, k_cs, hb25⟩
 (try simp only [PT])
 refine readyx 14 rfl (by kernel_rfl) (fun K hK => ?_)
 go_simp
 refine (HAD.out _ (Below.refl _ _)).mono ?_
 rintro r w6 ⟨v6, rfl, ho6, hb6⟩
 have hb26 := below_step hb25 hb6
 obtain ⟨q, d, hv6, _⟩ := ho6.open
 obtain ⟨n, hnn⟩ : ∃ n, (putI (rowI e.ins) x.seg).length = n := ⟨_, rfl⟩
 rw [hnn] at hv6
 subst hv6
 have HO6 := Lib.hid ho6
 obtain ⟨y0, y1, y2, y3⟩ := (HE.out.later hb26).cells HD.out.1
 obtain ⟨z0, z1, z2, z3⟩ := (HX.out.later hb26).cells5 HXD.out.1
 rw [show e.ins.length = m from HML.out] at y3
 have k_x0 := z0
 have k_x2 := z2
 have k_x3 := z3
 have k_cs := y3
 clear y0 y1 y2 z0 z1 z2 z3
 clear hb6 ho6
 have HBL5 : Hid (g2 < _) := Lib.hid (Nat.lt_of_lt_of_le HZ.out.lt (Below.size hb25))
 first
  | refine hK.out _ _ ?hS15 ?rest15
  | (go_wp2_with fail; refine hK.out _ _ ?hS15 ?rest15)
 case hS15 => exact ⟨k_x0, k_x2, k_x3, k_cs, hb26⟩
 clear hK K hHeld
 have hHeld : (fun W : World => W.cell? ⟨g1, 0, none⟩ = some (.int .i64 x.k) ∧ W.cell? ⟨g1, 35, none⟩ = some (.int .i64 x.z) ∧ W.cell? ⟨g1, 36, none⟩ = some (.int .i64 x.seg) ∧ W.cell? ⟨w.heap.size, 37, none⟩ = some (.slice p m c) ∧ Below w2.heap.size w2 W) _ := ⟨k_x0, k_x2, k_x3, k_cs, hb26⟩
 (try simp only [PT])
 refine tkxL 15 rfl (yieldsIf_build (by rfl) 59 #[(0, .tmp 6), (1, .tmp 8), (2, .tmp 10), (3, .tmp 12), (4, .tmp 19)] rfl (enC (putE e x) (.slice q n d)) (by first | exact (built_en5 x.k x.z x.seg x.off x.len (putI (rowI e.ins) x.seg) q n d x.dg HXD.out.1) | (simp only [List.map_toArray, List.map_cons, List.map_nil]; exact (built_en5 x.k x.z x.seg x.off x.len (putI (rowI e.ins) x.seg) q n d x.dg HXD.out.1)))) ?_
 (try simp only [PT])
 refine lastx 16 rfl (by kernel_rfl) (by kernel_rfl) (fun K hK => ?_)
 rw [if_pos (by rfl)]
 have HZ5 := Lib.hid (HZ.out.later hb26)
 have HIS : Hid (Is w6 (.slice q n d) (putI (rowI e.ins) x.seg)) := Lib.hid (by have h := HO6.out.is; exact h)
 have hlz : g2 < w6.heap.size := HZ5.out.lt
 have hgl : w.heap.size ≤ g2 := by have := HLT.out; omega
 have HMZ : Hid (Em (w6.setRow g2 (enC (putE e x) (.slice q n d))) g2 (putE e x) (.slice q n d)) := Lib.hid (Mx.row HZ5.out)
 have HBZ : Hid (Below w.heap.size w (w6.setRow g2 (enC (putE e x) (.slice q n d)))) := Lib.hid (below_setRow8 (below_step HB.out hb26) _ _ hgl)
 have HIZ : Hid (Gw encI (w6.setRow g2 (enC (putE e x) (.slice q n d))) w.heap.size (.slice q n d) (putI (rowI e.ins) x.seg)) := Lib.hid ((Gw.isrow HO6.out HZ5.out HBL5.out).mono (by have h1 := HBL5.out; have h2 := HLT.out; omega))
 refine wp_store_row 59 _ _ rfl g2 (enC (putE e x) (.slice q n d)) rfl rfl 59 _ HZ5.out (enC_sizeOf (putE e x) _ HXD.out.1) ((enC_size _ _ rfl).trans (enC_size (putE e x) _ HXD.out.1).symm) (enC_one _ _ _ _) ?_
 generalize World.setRow _ _ _ = wZ at *
 first
  | refine hK.out _ _ ?_
  | (go_wp2_with fail; refine hK.out _ _ ?_)
 clear hK K hHeld
 go_wp2
 refine bodyPost_ret (HMZ.out.res1 HXD.out.1 rfl _ rfl) rfl ?_
 exact ⟨_, rfl, HIZ.out, HBZ.out⟩
set_option maxRecDepth 100000 in
set_option maxHeartbeats 4000000 in
theorem rdel19_any (e : Pe) (s : Value) (x : Wq) (w : World) (h : Is w s e.ins) (hd : dok e.dg) (hx : dok x.dg) (hn : e.ins.length ≤ 2097152) :
 Calls Tryz.prog 82 #[enV e s, x.v] w fun r w' => EnG w (delE e x) r w' := by
 obtain ⟨w0, w1, w2, g1, g2, h0, h1, h2, hg1, hg2, hB⟩ := box3 w (enC e s) (mixC x.a x.dg x.t) (enC zeroE (.slice none 0 0)) 59 39 59
 have HE : Hid (Em w2 w.heap.size e s) := Lib.hid hB.a
 have HX : Hid (Wm w2 g1 x) := Lib.hid hB.b
 have HZ : Hid (Em w2 g2 zeroE (.slice none 0 0)) := Lib.hid hB.z
 have HB := Lib.hid hB.le
 have HLT := Lib.hid hB.lt
 have HS := Lib.hid (h.later hB.le)
 obtain ⟨p, c, rfl, hs, _⟩ := h.later hB.le
 have HRO := Lib.hid fun W (hW : Below w2.heap.size w2 W) => rrow19_any p e.ins.length c e.ins W (hs.later hW) hn
 have HD := Lib.hid hd
 have HXD := Lib.hid hx
 have HN := Lib.hid hn
 have HLE := Lib.hid fun W (hW : Below w2.heap.size w2 W) => (HE.out.later hW).dig hd.1
 have HLC := Lib.hid fun W (hW : Below w2.heap.size w2 W) => (HX.out.later hW).loc hx.1
 obtain ⟨m, hm⟩ : ∃ m, e.ins.length = m := ⟨_, rfl⟩
 rw [hm] at HRO
 have HML := Lib.hid hm
 obtain ⟨e0, e1, e2, cs⟩ := HE.out.cells hd.1
 obtain ⟨x0, x1, x2, x3⟩ := HX.out.cells5 hx.1
 rw [hm] at cs
 have HSC := Lib.hid (show (fun W : World => W.cell? ⟨w.heap.size, 37, none⟩ = some (.slice p m c) ∧ Below w2.heap.size w2 W) w2 from ⟨cs, Below.refl _ _⟩)
 rw [enZero] at h2
 unfold enV Wq.v
 generalize hMC : enC e (Value.slice p e.ins.length c) = MC at *
 generalize hMX : mixC x.a x.dg x.t = MX at *
 rw [hm] at hMC
 clear hMC hMX hs hd hx hn hB hm cs e0 e1 e2 x0 x1 x2 x3
 go_enter Tryz.func82, Tryz.ntmps82
 go_upto_region 1 with fail
 refine wp_region_x (fun W : World => W.cell? ⟨w.heap.size, 37, none⟩ = some (.slice p m c) ∧ Below w2.heap.size w2 W) 8 (by kernel_rfl) ?_
 have hHeld : (fun W : World => W.cell? ⟨w.heap.size, 37, none⟩ = some (.slice p m c) ∧ Below w2.heap.size w2 W) _ := (show (fun W : World => W.cell? ⟨w.heap.size, 37, none⟩ = some (.slice p m c) ∧ Below w2.heap.size w2 W) (World.drew w2) from ⟨HSC.out.1, (Below.refl _ _).drew⟩)
 refine tkx 0 rfl ?_;(try simp only [PT])
 refine tkxL 1 rfl (yieldsIf_ld (by rfl) 35 (.tmp 5) rfl (.pointer (some ⟨w.heap.size, 0, none⟩)) rfl (.agg (bcs e.dg)) (fun W hW => HLE.out W (hW.2))) ?_
 (try simp only [PT])
 refine tkx 2 rfl ?_;(try simp only [PT])
 refine tkxL 3 rfl (yieldsIf_ld (by rfl) 37 (.tmp 7) rfl (.pointer (some ⟨g1, 36, none⟩)) rfl (.agg (lcA x.seg x.off x.len)) (fun W hW => HLC.out W (hW.2))) ?_
 (try simp only [PT])
 refine tkx 4 rfl ?_;(try simp only [PT]);refine tkx 5 rfl ?_;(try simp only [PT])
 refine readyx 6 rfl (by kernel_rfl) (fun K hK => ?_)
 go_simp
 refine (HRO.out _ (hHeld.2)).mono ?_
 rintro r w5 ⟨v5, rfl, ho5, hb5⟩
 have hb25 := below_step (hHeld.2) hb5
 obtain ⟨q, d, hv5, _⟩ := ho5.open
 obtain ⟨n, hnn⟩ : ∃ n, (rowI e.ins).length = n := ⟨_, rfl⟩
 rw [hnn] at hv5
 subst hv5
 have HO5 := Lib.hid ho5
 obtain ⟨y0, y1, y2, y3⟩ := (HE.out.later hb25).cells HD.out.1
 obtain ⟨z0, z1, z2, z3⟩ := (HX.out.later hb25).cells5 HXD.out.1
 rw [show e.ins.length = m from HML.out] at y3
 have k_cs := y3
 clear y0 y1 y2 z0 z1 z2 z3
 clear hb5 ho5
 have HBL5 : Hid (g2 < _) := Lib.hid (Nat.lt_of_lt_of_le HZ.out.lt (Below.size hHeld.2))
 first
  | refine hK.out _ _ ?hS24 ?rest24
  | (go_wp2_with fail; refine hK.out _ _ ?hS24 ?rest24)
 case hS24 => exact ⟨k_cs, hb25⟩
 clear hK K hHeld
 have hHeld : (fun W : World => W.cell? ⟨w.heap.size, 37, none⟩ = some (.slice p m c) ∧ Below w2.heap.size w2 W) _ := ⟨k_cs, hb25⟩
 (try simp only [PT])
 refine tkxL 7 rfl (yieldsIf_build (by rfl) 59 #[(0, .tmp 6), (1, .const (.int .i64 5)), (3, .tmp 8), (4, .tmp 11)] rfl (enC (delE e x) (.slice q n d)) (by first | exact (built_en4 5 x.seg x.off x.len (rowI e.ins) q n d e.dg HD.out.1) | (simp only [List.map_toArray, List.map_cons, List.map_nil]; exact (built_en4 5 x.seg x.off x.len (rowI e.ins) q n d e.dg HD.out.1)))) ?_
 (try simp only [PT])
 refine lastx 8 rfl (by kernel_rfl) (by kernel_rfl) (fun K hK => ?_)
 rw [if_pos (by rfl)]
 have HZ5 := Lib.hid (HZ.out.later hb25)
 have HIS : Hid (Is w5 (.slice q n d) (rowI e.ins)) := Lib.hid (by have h := HO5.out.is; exact h)
 have hlz : g2 < w5.heap.size := HZ5.out.lt
 have hgl : w.heap.size ≤ g2 := by have := HLT.out; omega
 have HMZ : Hid (Em (w5.setRow g2 (enC (delE e x) (.slice q n d))) g2 (delE e x) (.slice q n d)) := Lib.hid (Mx.row HZ5.out)
 have HBZ : Hid (Below w.heap.size w (w5.setRow g2 (enC (delE e x) (.slice q n d)))) := Lib.hid (below_setRow8 (below_step HB.out hb25) _ _ hgl)
 have HIZ : Hid (Gw encI (w5.setRow g2 (enC (delE e x) (.slice q n d))) w.heap.size (.slice q n d) (rowI e.ins)) := Lib.hid ((Gw.isrow HO5.out HZ5.out HBL5.out).mono (by have h1 := HBL5.out; have h2 := HLT.out; omega))
 refine wp_store_row 59 _ _ rfl g2 (enC (delE e x) (.slice q n d)) rfl rfl 59 _ HZ5.out (enC_sizeOf (delE e x) _ HD.out.1) ((enC_size _ _ rfl).trans (enC_size (delE e x) _ HD.out.1).symm) (enC_one _ _ _ _) ?_
 generalize World.setRow _ _ _ = wZ at *
 first
  | refine hK.out _ _ ?_
  | (go_wp2_with fail; refine hK.out _ _ ?_)
 clear hK K hHeld
 go_wp2
 refine bodyPost_ret (HMZ.out.res1 HD.out.1 rfl _ rfl) rfl ?_
 exact ⟨_, rfl, HIZ.out, HBZ.out⟩
set_option maxRecDepth 100000 in
set_option maxHeartbeats 4000000 in
theorem rtag19_any (e : Pt) (s : Value) (x : Wq) (w : World) (h : Is w s e.ins) (hd : dok e.dg) (hx : dok x.dg) (hn : e.ins.length ≤ 2097152) :
 Calls Tryz.prog 83 #[tnV e s, x.v] w fun r w' => TnG w (tagT e x) r w' := by
 obtain ⟨w0, w1, w2, g1, g2, h0, h1, h2, hg1, hg2, hB⟩ := box3 w (tnC e s) (mixC x.a x.dg x.t) (tnC zeroT (.slice none 0 0)) 64 39 64
 have HE : Hid (Tn w2 w.heap.size e s) := Lib.hid hB.a
 have HX : Hid (Wm w2 g1 x) := Lib.hid hB.b
 have HZ : Hid (Tn w2 g2 zeroT (.slice none 0 0)) := Lib.hid hB.z
 have HB := Lib.hid hB.le
 have HLT := Lib.hid hB.lt
 have HS := Lib.hid (h.later hB.le)
 obtain ⟨p, c, rfl, hs, _⟩ := h.later hB.le
 have HRO := Lib.hid fun W (hW : Below w2.heap.size w2 W) => rrow19_any p e.ins.length c e.ins W (hs.later hW) hn
 have HD := Lib.hid hd
 have HXD := Lib.hid hx
 have HN := Lib.hid hn
 have HLX := Lib.hid fun W (hW : Below w2.heap.size w2 W) => (HX.out.later hW).dig hx.1
 have HLC := Lib.hid fun W (hW : Below w2.heap.size w2 W) => (HX.out.later hW).loc hx.1
 obtain ⟨m, hm⟩ : ∃ m, e.ins.length = m := ⟨_, rfl⟩
 rw [hm] at HRO
 have HML := Lib.hid hm
 obtain ⟨e0, e1, e2, cs⟩ := HE.out.cells hd.1
 obtain ⟨x0, x1, x2, x3⟩ := HX.out.cells5 hx.1
 rw [hm] at cs
 have HSC := Lib.hid (show (fun W : World => W.cell? ⟨g1, 34, none⟩ = some (.string x.nm) ∧ W.cell? ⟨g1, 36, none⟩ = some (.int .i64 x.seg) ∧ W.cell? ⟨w.heap.size, 37, none⟩ = some (.slice p m c) ∧ Below w2.heap.size w2 W) w2 from ⟨x1, x3, cs, Below.refl _ _⟩)
 rw [tnZero] at h2
 unfold tnV Wq.v
 generalize hMC : tnC e (Value.slice p e.ins.length c) = MC at *
 generalize hMX : mixC x.a x.dg x.t = MX at *
 rw [hm] at hMC
 clear hMC hMX hs hd hx hn hB hm cs e0 e1 e2 x0 x1 x2 x3
 go_enter Tryz.func83, Tryz.ntmps83
 go_upto_region 1 with fail
 refine wp_region_x (fun W : World => W.cell? ⟨g1, 34, none⟩ = some (.string x.nm) ∧ W.cell? ⟨g1, 36, none⟩ = some (.int .i64 x.seg) ∧ W.cell? ⟨w.heap.size, 37, none⟩ = some (.slice p m c) ∧ Below w2.heap.size w2 W) 14 (by kernel_rfl) ?_
 have hHeld : (fun W : World => W.cell? ⟨g1, 34, none⟩ = some (.string x.nm) ∧ W.cell? ⟨g1, 36, none⟩ = some (.int .i64 x.seg) ∧ W.cell? ⟨w.heap.size, 37, none⟩ = some (.slice p m c) ∧ Below w2.heap.size w2 W) _ := (show (fun W : World => W.cell? ⟨g1, 34, none⟩ = some (.string x.nm) ∧ W.cell? ⟨g1, 36, none⟩ = some (.int .i64 x.seg) ∧ W.cell? ⟨w.heap.size, 37, none⟩ = some (.slice p m c) ∧ Below w2.heap.size w2 W) (World.drew w2) from ⟨HSC.out.1, HSC.out.2.1, HSC.out.2.2.1, (Below.refl _ _).drew⟩)
 refine tkx 0 rfl ?_;(try simp only [PT]);refine tkx 1 rfl ?_;(try simp only [PT]);refine tkx 2 rfl ?_;(try simp only [PT])
 refine tkxL 3 rfl (yieldsIf_ld (by rfl) 35 (.tmp 7) rfl (.pointer (some ⟨g1, 2, none⟩)) rfl (.agg (bcs x.dg)) (fun W hW => HLX.out W (hW.2.2.2))) ?_
 (try simp only [PT])
 refine tkx 4 rfl ?_;(try simp only [PT])
 refine tkxL 5 rfl (yieldsIf_ld (by rfl) 37 (.tmp 9) rfl (.pointer (some ⟨g1, 36, none⟩)) rfl (.agg (lcA x.seg x.off x.len)) (fun W hW => HLC.out W (hW.2.2.2))) ?_
 (try simp only [PT])
 refine tkx 6 rfl ?_;(try simp only [PT]);refine tkx 7 rfl ?_;(try simp only [PT]);refine tkx 9 rfl ?_;(try simp only [PT]);refine tkx 10 rfl ?_;(try simp only [PT]);refine tkx 11 rfl ?_;(try simp only [PT])
 refine readyx 8 rfl (by kernel_rfl) (fun K hK => ?_)
 go_simp
 refine (HRO.out _ (hHeld.2.2.2)).mono ?_
 rintro r w5 ⟨v5, rfl, ho5, hb5⟩
 have hb25 := below_step (hHeld.2.2.2) hb5
 obtain ⟨q5, d5, hv5, _⟩ := ho5.open
 obtain ⟨n5, hnn5⟩ : ∃ n, (rowI e.ins).length = n := ⟨_, rfl⟩
 rw [hnn5] at hv5
 subst hv5
 have HO5 := Lib.hid ho5
 obtain ⟨y0, y1, y2, y3⟩ := (HE.out.later hb25).cells HD.out.1
 obtain ⟨z0, z1, z2, z3⟩ := (HX.out.later hb25).cells5 HXD.out.1
 rw [show e.ins.length = m from HML.out] at y3
 have k_x1 := z1
 have k_x3 := z3
 have k_cs := y3
 clear y0 y1 y2 z0 z1 z2 z3
 clear hb5 ho5
 have hn5 : n5 ≤ 2097152 := by rw [← hnn5]; exact Nat.le_trans (rowI_length _) HN.out
 have HAD := Lib.hid fun W (hW : Below w5.heap.size w5 W) => radd19_any q5 n5 d5 _ x.seg W (HO5.out.gs.later hW) hn5
 clear hnn5 hn5
 first
  | refine hK.out _ _ ?hS38 ?rest38
  | (go_wp2_with fail; refine hK.out _ _ ?hS38 ?rest38)
 case hS38 => exact ⟨k_x1, k_x3, k_cs, hb25⟩
 clear hK K hHeld
 have hHeld : (fun W : World => W.cell? ⟨g1, 34, none⟩ = some (.string x.nm) ∧ W.cell? ⟨g1, 36, none⟩ = some (.int .i64 x.seg) ∧ W.cell? ⟨w.heap.size, 37, none⟩ = some (.slice p m c) ∧ Below w2.heap.size w2 W) _ := ⟨k_x1, k_x3, k_cs, hb25⟩
 (try simp only [PT])
 refine readyx 12 rfl (by kernel_rfl) (fun K hK => ?_)
 go_simp
 refine (HAD.out _ (Below.refl _ _)).mono ?_
 rintro r w6 ⟨v6, rfl, ho6, hb6⟩
 have hb26 := below_step hb25 hb6
 obtain ⟨q, d, hv6, _⟩ := ho6.open
 obtain ⟨n, hnn⟩ : ∃ n, (putI (rowI e.ins) x.seg).length = n := ⟨_, rfl⟩
 rw [hnn] at hv6
 subst hv6
 have HO6 := Lib.hid ho6
 obtain ⟨y0, y1, y2, y3⟩ := (HE.out.later hb26).cells HD.out.1
 obtain ⟨z0, z1, z2, z3⟩ := (HX.out.later hb26).cells5 HXD.out.1
 rw [show e.ins.length = m from HML.out] at y3
 have k_x1 := z1
 have k_x3 := z3
 have k_cs := y3
 clear y0 y1 y2 z0 z1 z2 z3
 clear hb6 ho6
 have HBL5 : Hid (g2 < _) := Lib.hid (Nat.lt_of_lt_of_le HZ.out.lt (Below.size hb25))
 first
  | refine hK.out _ _ ?hS39 ?rest39
  | (go_wp2_with fail; refine hK.out _ _ ?hS39 ?rest39)
 case hS39 => exact ⟨k_x1, k_x3, k_cs, hb26⟩
 clear hK K hHeld
 have hHeld : (fun W : World => W.cell? ⟨g1, 34, none⟩ = some (.string x.nm) ∧ W.cell? ⟨g1, 36, none⟩ = some (.int .i64 x.seg) ∧ W.cell? ⟨w.heap.size, 37, none⟩ = some (.slice p m c) ∧ Below w2.heap.size w2 W) _ := ⟨k_x1, k_x3, k_cs, hb26⟩
 (try simp only [PT])
 refine tkxL 13 rfl (yieldsIf_build (by rfl) 64 #[(0, .tmp 6), (1, .tmp 8), (3, .tmp 10), (4, .tmp 17)] rfl (tnC (tagT e x) (.slice q n d)) (by first | exact (built_tn4 x.nm x.seg x.off x.len (putI (rowI e.ins) x.seg) q n d x.dg HXD.out.1) | (simp only [List.map_toArray, List.map_cons, List.map_nil]; exact (built_tn4 x.nm x.seg x.off x.len (putI (rowI e.ins) x.seg) q n d x.dg HXD.out.1)))) ?_
 (try simp only [PT])
 refine lastx 14 rfl (by kernel_rfl) (by kernel_rfl) (fun K hK => ?_)
 rw [if_pos (by rfl)]
 have HZ5 := Lib.hid (HZ.out.later hb26)
 have HIS : Hid (Is w6 (.slice q n d) (putI (rowI e.ins) x.seg)) := Lib.hid (by have h := HO6.out.is; exact h)
 have hlz : g2 < w6.heap.size := HZ5.out.lt
 have hgl : w.heap.size ≤ g2 := by have := HLT.out; omega
 have HMZ : Hid (Tn (w6.setRow g2 (tnC (tagT e x) (.slice q n d))) g2 (tagT e x) (.slice q n d)) := Lib.hid (Mx.row HZ5.out)
 have HBZ : Hid (Below w.heap.size w (w6.setRow g2 (tnC (tagT e x) (.slice q n d)))) := Lib.hid (below_setRow8 (below_step HB.out hb26) _ _ hgl)
 have HIZ : Hid (Gw encI (w6.setRow g2 (tnC (tagT e x) (.slice q n d))) w.heap.size (.slice q n d) (putI (rowI e.ins) x.seg)) := Lib.hid ((Gw.isrow HO6.out HZ5.out HBL5.out).mono (by have h1 := HBL5.out; have h2 := HLT.out; omega))
 refine wp_store_row 64 _ _ rfl g2 (tnC (tagT e x) (.slice q n d)) rfl rfl 64 _ HZ5.out (tnC_sizeOf (tagT e x) _ HXD.out.1) ((tnC_size _ _ rfl).trans (tnC_size (tagT e x) _ HXD.out.1).symm) (tnC_one _ _ _ _) ?_
 generalize World.setRow _ _ _ = wZ at *
 first
  | refine hK.out _ _ ?_
  | (go_wp2_with fail; refine hK.out _ _ ?_)
 clear hK K hHeld
 go_wp2
 refine bodyPost_ret (HMZ.out.res1 HXD.out.1 rfl _ rfl) rfl ?_
 exact ⟨_, rfl, HIZ.out, HBZ.out⟩
set_option maxRecDepth 100000 in
set_option maxHeartbeats 4000000 in
theorem runt19_any (e : Pt) (s : Value) (x : Wq) (w : World) (h : Is w s e.ins) (hd : dok e.dg) (hx : dok x.dg) (hn : e.ins.length ≤ 2097152) :
 Calls Tryz.prog 84 #[tnV e s, x.v] w fun r w' => TnG w (untT e x) r w' := by
 obtain ⟨w0, w1, w2, g1, g2, h0, h1, h2, hg1, hg2, hB⟩ := box3 w (tnC e s) (mixC x.a x.dg x.t) (tnC zeroT (.slice none 0 0)) 64 39 64
 have HE : Hid (Tn w2 w.heap.size e s) := Lib.hid hB.a
 have HX : Hid (Wm w2 g1 x) := Lib.hid hB.b
 have HZ : Hid (Tn w2 g2 zeroT (.slice none 0 0)) := Lib.hid hB.z
 have HB := Lib.hid hB.le
 have HLT := Lib.hid hB.lt
 have HS := Lib.hid (h.later hB.le)
 obtain ⟨p, c, rfl, hs, _⟩ := h.later hB.le
 have HRO := Lib.hid fun W (hW : Below w2.heap.size w2 W) => rrow19_any p e.ins.length c e.ins W (hs.later hW) hn
 have HD := Lib.hid hd
 have HXD := Lib.hid hx
 have HN := Lib.hid hn
 have HLC := Lib.hid fun W (hW : Below w2.heap.size w2 W) => (HX.out.later hW).loc hx.1
 obtain ⟨m, hm⟩ : ∃ m, e.ins.length = m := ⟨_, rfl⟩
 rw [hm] at HRO
 have HML := Lib.hid hm
 obtain ⟨e0, e1, e2, cs⟩ := HE.out.cells hd.1
 obtain ⟨x0, x1, x2, x3⟩ := HX.out.cells5 hx.1
 rw [hm] at cs
 have HSC := Lib.hid (show (fun W : World => W.cell? ⟨w.heap.size, 0, none⟩ = some (.string e.nm) ∧ W.cell? ⟨w.heap.size, 37, none⟩ = some (.slice p m c) ∧ Below w2.heap.size w2 W) w2 from ⟨e0, cs, Below.refl _ _⟩)
 rw [tnZero] at h2
 unfold tnV Wq.v
 generalize hMC : tnC e (Value.slice p e.ins.length c) = MC at *
 generalize hMX : mixC x.a x.dg x.t = MX at *
 rw [hm] at hMC
 clear hMC hMX hs hd hx hn hB hm cs e0 e1 e2 x0 x1 x2 x3
 go_enter Tryz.func84, Tryz.ntmps84
 go_upto_region 1 with fail
 refine wp_region_x (fun W : World => W.cell? ⟨w.heap.size, 0, none⟩ = some (.string e.nm) ∧ W.cell? ⟨w.heap.size, 37, none⟩ = some (.slice p m c) ∧ Below w2.heap.size w2 W) 8 (by kernel_rfl) ?_
 have hHeld : (fun W : World => W.cell? ⟨w.heap.size, 0, none⟩ = some (.string e.nm) ∧ W.cell? ⟨w.heap.size, 37, none⟩ = some (.slice p m c) ∧ Below w2.heap.size w2 W) _ := (show (fun W : World => W.cell? ⟨w.heap.size, 0, none⟩ = some (.string e.nm) ∧ W.cell? ⟨w.heap.size, 37, none⟩ = some (.slice p m c) ∧ Below w2.heap.size w2 W) (World.drew w2) from ⟨HSC.out.1, HSC.out.2.1, (Below.refl _ _).drew⟩)
 refine tkx 0 rfl ?_;(try simp only [PT]);refine tkx 1 rfl ?_;(try simp only [PT]);refine tkx 2 rfl ?_;(try simp only [PT])
 refine tkxL 3 rfl (yieldsIf_ld (by rfl) 37 (.tmp 7) rfl (.pointer (some ⟨g1, 36, none⟩)) rfl (.agg (lcA x.seg x.off x.len)) (fun W hW => HLC.out W (hW.2.2))) ?_
 (try simp only [PT])
 refine tkx 4 rfl ?_;(try simp only [PT]);refine tkx 5 rfl ?_;(try simp only [PT])
 refine readyx 6 rfl (by kernel_rfl) (fun K hK => ?_)
 go_simp
 refine (HRO.out _ (hHeld.2.2)).mono ?_
 rintro r w5 ⟨v5, rfl, ho5, hb5⟩
 have hb25 := below_step (hHeld.2.2) hb5
 obtain ⟨q, d, hv5, _⟩ := ho5.open
 obtain ⟨n, hnn⟩ : ∃ n, (rowI e.ins).length = n := ⟨_, rfl⟩
 rw [hnn] at hv5
 subst hv5
 have HO5 := Lib.hid ho5
 obtain ⟨y0, y1, y2, y3⟩ := (HE.out.later hb25).cells HD.out.1
 obtain ⟨z0, z1, z2, z3⟩ := (HX.out.later hb25).cells5 HXD.out.1
 rw [show e.ins.length = m from HML.out] at y3
 have k_e0 := y0
 have k_cs := y3
 clear y0 y1 y2 z0 z1 z2 z3
 clear hb5 ho5
 have HBL5 : Hid (g2 < _) := Lib.hid (Nat.lt_of_lt_of_le HZ.out.lt (Below.size hHeld.2.2))
 first
  | refine hK.out _ _ ?hS48 ?rest48
  | (go_wp2_with fail; refine hK.out _ _ ?hS48 ?rest48)
 case hS48 => exact ⟨k_e0, k_cs, hb25⟩
 clear hK K hHeld
 have hHeld : (fun W : World => W.cell? ⟨w.heap.size, 0, none⟩ = some (.string e.nm) ∧ W.cell? ⟨w.heap.size, 37, none⟩ = some (.slice p m c) ∧ Below w2.heap.size w2 W) _ := ⟨k_e0, k_cs, hb25⟩
 (try simp only [PT])
 refine tkxL 7 rfl (yieldsIf_build (by rfl) 64 #[(0, .tmp 6), (2, .const (.bool true)), (3, .tmp 8), (4, .tmp 11)] rfl (tnC (untT e x) (.slice q n d)) (by first | exact (built_un4 e.nm x.seg x.off x.len (rowI e.ins) q n d) | (simp only [List.map_toArray, List.map_cons, List.map_nil]; exact (built_un4 e.nm x.seg x.off x.len (rowI e.ins) q n d)))) ?_
 (try simp only [PT])
 refine lastx 8 rfl (by kernel_rfl) (by kernel_rfl) (fun K hK => ?_)
 rw [if_pos (by rfl)]
 have HZ5 := Lib.hid (HZ.out.later hb25)
 have HIS : Hid (Is w5 (.slice q n d) (rowI e.ins)) := Lib.hid (by have h := HO5.out.is; exact h)
 have hlz : g2 < w5.heap.size := HZ5.out.lt
 have hgl : w.heap.size ≤ g2 := by have := HLT.out; omega
 have HMZ : Hid (Tn (w5.setRow g2 (tnC (untT e x) (.slice q n d))) g2 (untT e x) (.slice q n d)) := Lib.hid (Mx.row HZ5.out)
 have HBZ : Hid (Below w.heap.size w (w5.setRow g2 (tnC (untT e x) (.slice q n d)))) := Lib.hid (below_setRow8 (below_step HB.out hb25) _ _ hgl)
 have HIZ : Hid (Gw encI (w5.setRow g2 (tnC (untT e x) (.slice q n d))) w.heap.size (.slice q n d) (rowI e.ins)) := Lib.hid ((Gw.isrow HO5.out HZ5.out HBL5.out).mono (by have h1 := HBL5.out; have h2 := HLT.out; omega))
 refine wp_store_row 64 _ _ rfl g2 (tnC (untT e x) (.slice q n d)) rfl rfl 64 _ HZ5.out (tnC_sizeOf (untT e x) _ rfl) ((tnC_size _ _ rfl).trans (tnC_size (untT e x) _ rfl).symm) (tnC_one _ _ _ _) ?_
 generalize World.setRow _ _ _ = wZ at *
 first
  | refine hK.out _ _ ?_
  | (go_wp2_with fail; refine hK.out _ _ ?_)
 clear hK K hHeld
 go_wp2
 refine bodyPost_ret (HMZ.out.res1 rfl rfl _ rfl) rfl ?_
 exact ⟨_, rfl, HIZ.out, HBZ.out⟩
end Go.Proofs.YtpfbfhigelbfcaaGreat

