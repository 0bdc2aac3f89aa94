/- Layer 19, the reference: Tag, Untag. (gen_entb.py); Layer 19, the reference: SameTag; names' entries that a call answers with a second result; Layer 19, the reference: KeepTag, SameTag. (gen_entc.py); The reference of layer 21: Get, Same. (gen_tagr.py); The reference of layer 21: Set, New. (gen_tagr.py); The reference of layer 21: Keep, Apply. (gen_tagr.py) -/
import Derived.Test.YtieednadbcghjaaTg10
import Derived.Test.YtieednadbcghjaaTg12
import Derived.Test.YtieednadbcghjaaTg13
import Derived.Test.YtieednadbcghjaaTg14
import Derived.Test.YtieednadbcghjaaTg16
set_option linter.unusedSimpArgs false
set_option linter.unusedVariables false
namespace Go.Proofs.Ytieednadbcghjaa
set_option linter.unusedVariables false
open Go.RowKit Go.Lib
set_option maxRecDepth 100000 in
set_option maxHeartbeats 4000000 in
theorem rtag19_any (e : Pt) (s : Value) (x : Wq) (w : World) (h : Is w s e.ins) (hd : dok e.dg) (hx : dok x.dg) (hn : e.ins.length ≤ 2097152) :
    Calls Try.prog 29 #[tnV e s, x.v] w fun r w' => TnG w (tagT e x) r w' := by
  obtain ⟨w0, w1, w2, g1, g2, h0, h1, h2, hg1, hg2, hB⟩ := box3 w (tnC e s) (mixC x.a x.dg x.t) (tnC zeroT (.slice none 0 0)) 42 33 42
  have HE : Hid (Tn w2 w.heap.size e s) := Lib.hid hB.a
  have HX : Hid (Wm w2 g1 x) := Lib.hid hB.b
  have HZ : Hid (Tn w2 g2 zeroT (.slice none 0 0)) := Lib.hid hB.z
  have HB := Lib.hid hB.le
  have HLT := Lib.hid hB.lt
  have HS := Lib.hid (h.later hB.le)
  obtain ⟨p, c, rfl, hs, _⟩ := h.later hB.le
  have HRO := Lib.hid fun W (hW : Below w2.heap.size w2 W) => rrow19_any p e.ins.length c e.ins W (hs.later hW) hn
  have HD := Lib.hid hd
  have HXD := Lib.hid hx
  have HN := Lib.hid hn
  have HLX := Lib.hid fun W (hW : Below w2.heap.size w2 W) => (HX.out.later hW).dig hx.1
  have HLC := Lib.hid fun W (hW : Below w2.heap.size w2 W) => (HX.out.later hW).loc hx.1
  obtain ⟨m, hm⟩ : ∃ m, e.ins.length = m := ⟨_, rfl⟩
  rw [hm] at HRO
  have HML := Lib.hid hm
  obtain ⟨e0, e1, e2, cs⟩ := HE.out.cells hd.1
  obtain ⟨x0, x1, x2, x3⟩ := HX.out.cells5 hx.1
  rw [hm] at cs
  have HSC := Lib.hid (show (fun W : World => W.cell? ⟨g1, 34, none⟩ = some (.string x.nm) ∧ W.cell? ⟨g1, 36, none⟩ = some (.int .i64 x.seg) ∧ W.cell? ⟨w.heap.size, 37, none⟩ = some (.slice p m c) ∧ Below w2.heap.size w2 W) w2 from ⟨x1, x3, cs, Below.refl _ _⟩)
  rw [tnZero] at h2
  unfold tnV Wq.v
  generalize hMC : tnC e (Value.slice p e.ins.length c) = MC at *
  generalize hMX : mixC x.a x.dg x.t = MX at *
  rw [hm] at hMC
  clear hMC hMX hs hd hx hn hB hm cs e0 e1 e2 x0 x1 x2 x3
  go_enter Try.func29, Try.ntmps29
  go_upto_region 1 with fail
  refine wp_region_x (fun W : World => W.cell? ⟨g1, 34, none⟩ = some (.string x.nm) ∧ W.cell? ⟨g1, 36, none⟩ = some (.int .i64 x.seg) ∧ W.cell? ⟨w.heap.size, 37, none⟩ = some (.slice p m c) ∧ Below w2.heap.size w2 W) 14 (by kernel_rfl) ?_
  have hHeld : (fun W : World => W.cell? ⟨g1, 34, none⟩ = some (.string x.nm) ∧ W.cell? ⟨g1, 36, none⟩ = some (.int .i64 x.seg) ∧ W.cell? ⟨w.heap.size, 37, none⟩ = some (.slice p m c) ∧ Below w2.heap.size w2 W) _ := (show (fun W : World => W.cell? ⟨g1, 34, none⟩ = some (.string x.nm) ∧ W.cell? ⟨g1, 36, none⟩ = some (.int .i64 x.seg) ∧ W.cell? ⟨w.heap.size, 37, none⟩ = some (.slice p m c) ∧ Below w2.heap.size w2 W) (World.drew w2) from ⟨HSC.out.1, HSC.out.2.1, HSC.out.2.2.1, (Below.refl _ _).drew⟩)
  refine takex 0 (v := ?vv27) rfl (by kernel_rfl) (by kernel_rfl) (by kernel_rfl) (by kernel_rfl) (by kernel_rfl) (fun _ _ _ h => h) (Or.inl ⟨by rfl, ?hy27⟩) hHeld ?rest27
  case hy27 => intro w hSw; (try dsimp only at hSw); go_simp; (try with_reducible rfl)
  (try simp only [Act.put, List.setIfInBounds_toArray, List.set_cons_zero, List.set_cons_succ])
  refine takex 1 (v := ?vv28) rfl (by kernel_rfl) (by kernel_rfl) (by kernel_rfl) (by kernel_rfl) (by kernel_rfl) (fun _ _ _ h => h) (Or.inl ⟨by rfl, ?hy28⟩) hHeld ?rest28
  case hy28 => intro w hSw; (try dsimp only at hSw); go_simp; (try with_reducible rfl)
  (try simp only [Act.put, List.setIfInBounds_toArray, List.set_cons_zero, List.set_cons_succ])
  refine takex 2 (v := ?vv29) rfl (by kernel_rfl) (by kernel_rfl) (by kernel_rfl) (by kernel_rfl) (by kernel_rfl) (fun _ _ _ h => h) (Or.inl ⟨by rfl, ?hy29⟩) hHeld ?rest29
  case hy29 => intro w hSw; (try dsimp only at hSw); go_simp; (try with_reducible rfl)
  (try simp only [Act.put, List.setIfInBounds_toArray, List.set_cons_zero, List.set_cons_succ])
  refine takex 3 rfl (by kernel_rfl) (by kernel_rfl) (by kernel_rfl) (by kernel_rfl) (by kernel_rfl) (fun _ _ _ h => h) (yieldsIf_ld (by rfl) 29 (.tmp 7) rfl (.pointer (some ⟨g1, 2, none⟩)) rfl (.agg (bcs x.dg)) (fun W hW => HLX.out W (hW.2.2.2))) hHeld ?_
  (try simp only [Act.put, List.setIfInBounds_toArray, List.set_cons_zero, List.set_cons_succ])
  refine takex 4 (v := ?vv31) rfl (by kernel_rfl) (by kernel_rfl) (by kernel_rfl) (by kernel_rfl) (by kernel_rfl) (fun _ _ _ h => h) (Or.inl ⟨by rfl, ?hy31⟩) hHeld ?rest31
  case hy31 => intro w hSw; (try dsimp only at hSw); go_simp; (try with_reducible rfl)
  (try simp only [Act.put, List.setIfInBounds_toArray, List.set_cons_zero, List.set_cons_succ])
  refine takex 5 rfl (by kernel_rfl) (by kernel_rfl) (by kernel_rfl) (by kernel_rfl) (by kernel_rfl) (fun _ _ _ h => h) (yieldsIf_ld (by rfl) 31 (.tmp 9) rfl (.pointer (some ⟨g1, 36, none⟩)) rfl (.agg (lcA x.seg x.off x.len)) (fun W hW => HLC.out W (hW.2.2.2))) hHeld ?_
  (try simp only [Act.put, List.setIfInBounds_toArray, List.set_cons_zero, List.set_cons_succ])
  refine takex 6 (v := ?vv33) rfl (by kernel_rfl) (by kernel_rfl) (by kernel_rfl) (by kernel_rfl) (by kernel_rfl) (fun _ _ _ h => h) (Or.inl ⟨by rfl, ?hy33⟩) hHeld ?rest33
  case hy33 => intro w hSw; (try dsimp only at hSw); go_simp; (try with_reducible rfl)
  (try simp only [Act.put, List.setIfInBounds_toArray, List.set_cons_zero, List.set_cons_succ])
  refine takex 7 (v := ?vv34) rfl (by kernel_rfl) (by kernel_rfl) (by kernel_rfl) (by kernel_rfl) (by kernel_rfl) (fun _ _ _ h => h) (Or.inl ⟨by rfl, ?hy34⟩) hHeld ?rest34
  case hy34 => intro w hSw; (try dsimp only at hSw); go_simp; (try with_reducible rfl)
  (try simp only [Act.put, List.setIfInBounds_toArray, List.set_cons_zero, List.set_cons_succ])
  refine takex 9 (v := ?vv35) rfl (by kernel_rfl) (by kernel_rfl) (by kernel_rfl) (by kernel_rfl) (by kernel_rfl) (fun _ _ _ h => h) (Or.inl ⟨by rfl, ?hy35⟩) hHeld ?rest35
  case hy35 => intro w hSw; (try dsimp only at hSw); go_simp; (try with_reducible rfl)
  (try simp only [Act.put, List.setIfInBounds_toArray, List.set_cons_zero, List.set_cons_succ])
  refine takex 10 (v := ?vv36) rfl (by kernel_rfl) (by kernel_rfl) (by kernel_rfl) (by kernel_rfl) (by kernel_rfl) (fun _ _ _ h => h) (Or.inl ⟨by rfl, ?hy36⟩) hHeld ?rest36
  case hy36 => intro w hSw; (try dsimp only at hSw); go_simp; (try with_reducible rfl)
  (try simp only [Act.put, List.setIfInBounds_toArray, List.set_cons_zero, List.set_cons_succ])
  refine takex 11 (v := ?vv37) rfl (by kernel_rfl) (by kernel_rfl) (by kernel_rfl) (by kernel_rfl) (by kernel_rfl) (fun _ _ _ h => h) (Or.inl ⟨by rfl, ?hy37⟩) hHeld ?rest37
  case hy37 => intro w hSw; (try dsimp only at hSw); go_simp; (try with_reducible rfl)
  (try simp only [Act.put, List.setIfInBounds_toArray, List.set_cons_zero, List.set_cons_succ])
  refine readyx 8 rfl (by kernel_rfl) (fun K hK => ?_)
  go_simp
  refine (HRO.out _ (hHeld.2.2.2)).mono ?_
  rintro r w5 ⟨v5, rfl, ho5, hb5⟩
  have hb25 := below_step (hHeld.2.2.2) hb5
  obtain ⟨q5, d5, hv5, _⟩ := ho5.open
  obtain ⟨n5, hnn5⟩ : ∃ n, (rowI e.ins).length = n := ⟨_, rfl⟩
  rw [hnn5] at hv5
  subst hv5
  have HO5 := Lib.hid ho5
  obtain ⟨y0, y1, y2, y3⟩ := (HE.out.later hb25).cells HD.out.1
  obtain ⟨z0, z1, z2, z3⟩ := (HX.out.later hb25).cells5 HXD.out.1
  rw [show e.ins.length = m from HML.out] at y3
  have k_x1 := z1
  have k_x3 := z3
  have k_cs := y3
  clear y0 y1 y2 z0 z1 z2 z3
  clear hb5 ho5
  have hn5 : n5 ≤ 2097152 := by rw [← hnn5]; exact Nat.le_trans (rowI_length _) HN.out
  have HAD := Lib.hid fun W (hW : Below w5.heap.size w5 W) => radd19_any q5 n5 d5 _ x.seg W (HO5.out.gs.later hW) hn5
  clear hnn5 hn5
  first
    | refine hK.out _ _ ?hS38 ?rest38
    | (go_wp2_with fail; refine hK.out _ _ ?hS38 ?rest38)
  case hS38 => exact ⟨k_x1, k_x3, k_cs, hb25⟩
  clear hK K hHeld
  have hHeld : (fun W : World => W.cell? ⟨g1, 34, none⟩ = some (.string x.nm) ∧ W.cell? ⟨g1, 36, none⟩ = some (.int .i64 x.seg) ∧ W.cell? ⟨w.heap.size, 37, none⟩ = some (.slice p m c) ∧ Below w2.heap.size w2 W) _ := ⟨k_x1, k_x3, k_cs, hb25⟩
  (try simp only [Act.put, List.setIfInBounds_toArray, List.set_cons_zero, List.set_cons_succ])
  refine readyx 12 rfl (by kernel_rfl) (fun K hK => ?_)
  go_simp
  refine (HAD.out _ (Below.refl _ _)).mono ?_
  rintro r w6 ⟨v6, rfl, ho6, hb6⟩
  have hb26 := below_step hb25 hb6
  obtain ⟨q, d, hv6, _⟩ := ho6.open
  obtain ⟨n, hnn⟩ : ∃ n, (putI (rowI e.ins) x.seg).length = n := ⟨_, rfl⟩
  rw [hnn] at hv6
  subst hv6
  have HO6 := Lib.hid ho6
  obtain ⟨y0, y1, y2, y3⟩ := (HE.out.later hb26).cells HD.out.1
  obtain ⟨z0, z1, z2, z3⟩ := (HX.out.later hb26).cells5 HXD.out.1
  rw [show e.ins.length = m from HML.out] at y3
  have k_x1 := z1
  have k_x3 := z3
  have k_cs := y3
  clear y0 y1 y2 z0 z1 z2 z3
  clear hb6 ho6
  have HBL5 : Hid (g2 < _) := Lib.hid (Nat.lt_of_lt_of_le HZ.out.lt (Below.size hb25))
  first
    | refine hK.out _ _ ?hS39 ?rest39
    | (go_wp2_with fail; refine hK.out _ _ ?hS39 ?rest39)
  case hS39 => exact ⟨k_x1, k_x3, k_cs, hb26⟩
  clear hK K hHeld
  have hHeld : (fun W : World => W.cell? ⟨g1, 34, none⟩ = some (.string x.nm) ∧ W.cell? ⟨g1, 36, none⟩ = some (.int .i64 x.seg) ∧ W.cell? ⟨w.heap.size, 37, none⟩ = some (.slice p m c) ∧ Below w2.heap.size w2 W) _ := ⟨k_x1, k_x3, k_cs, hb26⟩
  (try simp only [Act.put, List.setIfInBounds_toArray, List.set_cons_zero, List.set_cons_succ])
  refine takex 13 rfl (by kernel_rfl) (by kernel_rfl) (by kernel_rfl) (by kernel_rfl) (by kernel_rfl) (fun _ _ _ h => h) (yieldsIf_build (by rfl) 42 #[(0, .tmp 6), (1, .tmp 8), (3, .tmp 10), (4, .tmp 17)] rfl (tnC (tagT e x) (.slice q n d)) (by first | exact (built_tn4 x.nm x.seg x.off x.len (putI (rowI e.ins) x.seg) q n d x.dg HXD.out.1) | (simp only [List.map_toArray, List.map_cons, List.map_nil]; exact (built_tn4 x.nm x.seg x.off x.len (putI (rowI e.ins) x.seg) q n d x.dg HXD.out.1)))) hHeld ?_
  (try simp only [Act.put, List.setIfInBounds_toArray, List.set_cons_zero, List.set_cons_succ])
  refine lastx 14 rfl (by kernel_rfl) (by kernel_rfl) (fun K hK => ?_)
  rw [if_pos (by rfl)]
  have HZ5 := Lib.hid (HZ.out.later hb26)
  have HIS : Hid (Is w6 (.slice q n d) (putI (rowI e.ins) x.seg)) := Lib.hid (by have h := HO6.out.is; exact h)
  have hlz : g2 < w6.heap.size := HZ5.out.lt
  have hgl : w.heap.size ≤ g2 := by have := HLT.out; omega
  have HMZ : Hid (Tn (w6.setRow g2 (tnC (tagT e x) (.slice q n d))) g2 (tagT e x) (.slice q n d)) := Lib.hid (Mx.row HZ5.out)
  have HBZ : Hid (Below w.heap.size w (w6.setRow g2 (tnC (tagT e x) (.slice q n d)))) := Lib.hid (below_setRow8 (below_step HB.out hb26) _ _ hgl)
  have HIZ : Hid (Gw encI (w6.setRow g2 (tnC (tagT e x) (.slice q n d))) w.heap.size (.slice q n d) (putI (rowI e.ins) x.seg)) := Lib.hid ((Gw.isrow HO6.out HZ5.out HBL5.out).mono (by have h1 := HBL5.out; have h2 := HLT.out; omega))
  refine wp_store_row 42 _ _ rfl g2 (tnC (tagT e x) (.slice q n d)) rfl rfl 42 _ HZ5.out (tnC_sizeOf (tagT e x) _ HXD.out.1) ((tnC_size _ _ rfl).trans (tnC_size (tagT e x) _ HXD.out.1).symm) (tnC_one _ _ _ _) ?_
  generalize World.setRow _ _ _ = wZ at *
  first
    | refine hK.out _ _ ?_
    | (go_wp2_with fail; refine hK.out _ _ ?_)
  clear hK K hHeld
  go_wp2
  refine bodyPost_ret (HMZ.out.res1 HXD.out.1 rfl _ rfl) rfl ?_
  exact ⟨_, rfl, HIZ.out, HBZ.out⟩
set_option maxRecDepth 100000 in
set_option maxHeartbeats 4000000 in
theorem runt19_any (e : Pt) (s : Value) (x : Wq) (w : World) (h : Is w s e.ins) (hd : dok e.dg) (hx : dok x.dg) (hn : e.ins.length ≤ 2097152) :
    Calls Try.prog 30 #[tnV e s, x.v] w fun r w' => TnG w (untT e x) r w' := by
  obtain ⟨w0, w1, w2, g1, g2, h0, h1, h2, hg1, hg2, hB⟩ := box3 w (tnC e s) (mixC x.a x.dg x.t) (tnC zeroT (.slice none 0 0)) 42 33 42
  have HE : Hid (Tn w2 w.heap.size e s) := Lib.hid hB.a
  have HX : Hid (Wm w2 g1 x) := Lib.hid hB.b
  have HZ : Hid (Tn w2 g2 zeroT (.slice none 0 0)) := Lib.hid hB.z
  have HB := Lib.hid hB.le
  have HLT := Lib.hid hB.lt
  have HS := Lib.hid (h.later hB.le)
  obtain ⟨p, c, rfl, hs, _⟩ := h.later hB.le
  have HRO := Lib.hid fun W (hW : Below w2.heap.size w2 W) => rrow19_any p e.ins.length c e.ins W (hs.later hW) hn
  have HD := Lib.hid hd
  have HXD := Lib.hid hx
  have HN := Lib.hid hn
  have HLC := Lib.hid fun W (hW : Below w2.heap.size w2 W) => (HX.out.later hW).loc hx.1
  obtain ⟨m, hm⟩ : ∃ m, e.ins.length = m := ⟨_, rfl⟩
  rw [hm] at HRO
  have HML := Lib.hid hm
  obtain ⟨e0, e1, e2, cs⟩ := HE.out.cells hd.1
  obtain ⟨x0, x1, x2, x3⟩ := HX.out.cells5 hx.1
  rw [hm] at cs
  have HSC := Lib.hid (show (fun W : World => W.cell? ⟨w.heap.size, 0, none⟩ = some (.string e.nm) ∧ W.cell? ⟨w.heap.size, 37, none⟩ = some (.slice p m c) ∧ Below w2.heap.size w2 W) w2 from ⟨e0, cs, Below.refl _ _⟩)
  rw [tnZero] at h2
  unfold tnV Wq.v
  generalize hMC : tnC e (Value.slice p e.ins.length c) = MC at *
  generalize hMX : mixC x.a x.dg x.t = MX at *
  rw [hm] at hMC
  clear hMC hMX hs hd hx hn hB hm cs e0 e1 e2 x0 x1 x2 x3
  go_enter Try.func30, Try.ntmps30
  go_upto_region 1 with fail
  refine wp_region_x (fun W : World => W.cell? ⟨w.heap.size, 0, none⟩ = some (.string e.nm) ∧ W.cell? ⟨w.heap.size, 37, none⟩ = some (.slice p m c) ∧ Below w2.heap.size w2 W) 8 (by kernel_rfl) ?_
  have hHeld : (fun W : World => W.cell? ⟨w.heap.size, 0, none⟩ = some (.string e.nm) ∧ W.cell? ⟨w.heap.size, 37, none⟩ = some (.slice p m c) ∧ Below w2.heap.size w2 W) _ := (show (fun W : World => W.cell? ⟨w.heap.size, 0, none⟩ = some (.string e.nm) ∧ W.cell? ⟨w.heap.size, 37, none⟩ = some (.slice p m c) ∧ Below w2.heap.size w2 W) (World.drew w2) from ⟨HSC.out.1, HSC.out.2.1, (Below.refl _ _).drew⟩)
  refine takex 0 (v := ?vv42) rfl (by kernel_rfl) (by kernel_rfl) (by kernel_rfl) (by kernel_rfl) (by kernel_rfl) (fun _ _ _ h => h) (Or.inl ⟨by rfl, ?hy42⟩) hHeld ?rest42
  case hy42 => intro w hSw; (try dsimp only at hSw); go_simp; (try with_reducible rfl)
  (try simp only [Act.put, List.setIfInBounds_toArray, List.set_cons_zero, List.set_cons_succ])
  refine takex 1 (v := ?vv43) rfl (by kernel_rfl) (by kernel_rfl) (by kernel_rfl) (by kernel_rfl) (by kernel_rfl) (fun _ _ _ h => h) (Or.inl ⟨by rfl, ?hy43⟩) hHeld ?rest43
  case hy43 => intro w hSw; (try dsimp only at hSw); go_simp; (try with_reducible rfl)
  (try simp only [Act.put, List.setIfInBounds_toArray, List.set_cons_zero, List.set_cons_succ])
  refine takex 2 (v := ?vv44) rfl (by kernel_rfl) (by kernel_rfl) (by kernel_rfl) (by kernel_rfl) (by kernel_rfl) (fun _ _ _ h => h) (Or.inl ⟨by rfl, ?hy44⟩) hHeld ?rest44
  case hy44 => intro w hSw; (try dsimp only at hSw); go_simp; (try with_reducible rfl)
  (try simp only [Act.put, List.setIfInBounds_toArray, List.set_cons_zero, List.set_cons_succ])
  refine takex 3 rfl (by kernel_rfl) (by kernel_rfl) (by kernel_rfl) (by kernel_rfl) (by kernel_rfl) (fun _ _ _ h => h) (yieldsIf_ld (by rfl) 31 (.tmp 7) rfl (.pointer (some ⟨g1, 36, none⟩)) rfl (.agg (lcA x.seg x.off x.len)) (fun W hW => HLC.out W (hW.2.2))) hHeld ?_
  (try simp only [Act.put, List.setIfInBounds_toArray, List.set_cons_zero, List.set_cons_succ])
  refine takex 4 (v := ?vv46) rfl (by kernel_rfl) (by kernel_rfl) (by kernel_rfl) (by kernel_rfl) (by kernel_rfl) (fun _ _ _ h => h) (Or.inl ⟨by rfl, ?hy46⟩) hHeld ?rest46
  case hy46 => intro w hSw; (try dsimp only at hSw); go_simp; (try with_reducible rfl)
  (try simp only [Act.put, List.setIfInBounds_toArray, List.set_cons_zero, List.set_cons_succ])
  refine takex 5 (v := ?vv47) rfl (by kernel_rfl) (by kernel_rfl) (by kernel_rfl) (by kernel_rfl) (by kernel_rfl) (fun _ _ _ h => h) (Or.inl ⟨by rfl, ?hy47⟩) hHeld ?rest47
  case hy47 => intro w hSw; (try dsimp only at hSw); go_simp; (try with_reducible rfl)
  (try simp only [Act.put, List.setIfInBounds_toArray, List.set_cons_zero, List.set_cons_succ])
  refine readyx 6 rfl (by kernel_rfl) (fun K hK => ?_)
  go_simp
  refine (HRO.out _ (hHeld.2.2)).mono ?_
  rintro r w5 ⟨v5, rfl, ho5, hb5⟩
  have hb25 := below_step (hHeld.2.2) hb5
  obtain ⟨q, d, hv5, _⟩ := ho5.open
  obtain ⟨n, hnn⟩ : ∃ n, (rowI e.ins).length = n := ⟨_, rfl⟩
  rw [hnn] at hv5
  subst hv5
  have HO5 := Lib.hid ho5
  obtain ⟨y0, y1, y2, y3⟩ := (HE.out.later hb25).cells HD.out.1
  obtain ⟨z0, z1, z2, z3⟩ := (HX.out.later hb25).cells5 HXD.out.1
  rw [show e.ins.length = m from HML.out] at y3
  have k_e0 := y0
  have k_cs := y3
  clear y0 y1 y2 z0 z1 z2 z3
  clear hb5 ho5
  have HBL5 : Hid (g2 < _) := Lib.hid (Nat.lt_of_lt_of_le HZ.out.lt (Below.size hHeld.2.2))
  first
    | refine hK.out _ _ ?hS48 ?rest48
    | (go_wp2_with fail; refine hK.out _ _ ?hS48 ?rest48)
  case hS48 => exact ⟨k_e0, k_cs, hb25⟩
  clear hK K hHeld
  have hHeld : (fun W : World => W.cell? ⟨w.heap.size, 0, none⟩ = some (.string e.nm) ∧ W.cell? ⟨w.heap.size, 37, none⟩ = some (.slice p m c) ∧ Below w2.heap.size w2 W) _ := ⟨k_e0, k_cs, hb25⟩
  (try simp only [Act.put, List.setIfInBounds_toArray, List.set_cons_zero, List.set_cons_succ])
  refine takex 7 rfl (by kernel_rfl) (by kernel_rfl) (by kernel_rfl) (by kernel_rfl) (by kernel_rfl) (fun _ _ _ h => h) (yieldsIf_build (by rfl) 42 #[(0, .tmp 6), (2, .const (.bool true)), (3, .tmp 8), (4, .tmp 11)] rfl (tnC (untT e x) (.slice q n d)) (by first | exact (built_un4 e.nm x.seg x.off x.len (rowI e.ins) q n d) | (simp only [List.map_toArray, List.map_cons, List.map_nil]; exact (built_un4 e.nm x.seg x.off x.len (rowI e.ins) q n d)))) hHeld ?_
  (try simp only [Act.put, List.setIfInBounds_toArray, List.set_cons_zero, List.set_cons_succ])
  refine lastx 8 rfl (by kernel_rfl) (by kernel_rfl) (fun K hK => ?_)
  rw [if_pos (by rfl)]
  have HZ5 := Lib.hid (HZ.out.later hb25)
  have HIS : Hid (Is w5 (.slice q n d) (rowI e.ins)) := Lib.hid (by have h := HO5.out.is; exact h)
  have hlz : g2 < w5.heap.size := HZ5.out.lt
  have hgl : w.heap.size ≤ g2 := by have := HLT.out; omega
  have HMZ : Hid (Tn (w5.setRow g2 (tnC (untT e x) (.slice q n d))) g2 (untT e x) (.slice q n d)) := Lib.hid (Mx.row HZ5.out)
  have HBZ : Hid (Below w.heap.size w (w5.setRow g2 (tnC (untT e x) (.slice q n d)))) := Lib.hid (below_setRow8 (below_step HB.out hb25) _ _ hgl)
  have HIZ : Hid (Gw encI (w5.setRow g2 (tnC (untT e x) (.slice q n d))) w.heap.size (.slice q n d) (rowI e.ins)) := Lib.hid ((Gw.isrow HO5.out HZ5.out HBL5.out).mono (by have h1 := HBL5.out; have h2 := HLT.out; omega))
  refine wp_store_row 42 _ _ rfl g2 (tnC (untT e x) (.slice q n d)) rfl rfl 42 _ HZ5.out (tnC_sizeOf (untT e x) _ rfl) ((tnC_size _ _ rfl).trans (tnC_size (untT e x) _ rfl).symm) (tnC_one _ _ _ _) ?_
  generalize World.setRow _ _ _ = wZ at *
  first
    | refine hK.out _ _ ?_
    | (go_wp2_with fail; refine hK.out _ _ ?_)
  clear hK K hHeld
  go_wp2
  refine bodyPost_ret (HMZ.out.res1 rfl rfl _ rfl) rfl ?_
  exact ⟨_, rfl, HIZ.out, HBZ.out⟩
end Go.Proofs.Ytieednadbcghjaa

namespace Go.Proofs.Ytieednadbcghjaa
set_option linter.unusedVariables false
open Go.RowKit Go.Lib

theorem built_tn0 : Try.prog.built 42 [] = some (tnC zeroT (.slice none 0 0)) := by kernel_rfl
def KtQ (w : World) (s : Value) (r : Pt × Bool) (e : Ending) (w' : World) : Prop := ∃ u, e = .returned (.tuple #[tnV r.1 u, .bool r.2]) ∧ Is w' u r.1.ins ∧ Fr w s u ∧ Below w.heap.size w w'
def KtG (w : World) (r : Pt × Bool) (e : Ending) (w' : World) : Prop := ∃ u, e = .returned (.tuple #[tnV r.1 u, .bool r.2]) ∧ Gw encI w' w.heap.size u r.1.ins ∧ Below w.heap.size w w'
theorem KtG.q {w w' : World} {x : Pt × Bool} {e : Ending} (h : KtG w x e w') (s : Value) : KtQ w s x e w' := by
  obtain ⟨u, h1, h2, h3⟩ := h
  exact ⟨u, h1, h2.is, h2.fr (Nat.le_refl _), h3⟩
set_option maxRecDepth 100000 in
set_option maxHeartbeats 2000000 in
theorem rsamet19_any (e : Pt) (s u : Value) (w : World) (h : Is w s e.ins) (h' : Is w u e.ins) (hd : dok e.dg) (hn : e.ins.length ≤ 2097152) :
    Calls Try.prog 14 #[tnV e s, tnV e u] w fun r w' => r = .returned (.bool true) ∧ Below w.heap.size w w' := by
  obtain ⟨w0, w2, g1, h0, h2, hg1, hB⟩ := box2 w (tnC e s) (tnC e u) 42 42
  have HE : Hid (Tn w2 w.heap.size e s) := Lib.hid hB.a
  have HZ : Hid (Tn w2 g1 e u) := Lib.hid hB.z
  have HB := Lib.hid hB.le
  obtain ⟨p, c, rfl, hs, _⟩ := h.later hB.le
  obtain ⟨p2, c2, rfl, hs2, _⟩ := h'.later hB.le
  have HIN := Lib.hid (rints_any p p2 e.ins.length c e.ins.length c2 e.ins w2 hs hs2 (by omega))
  have HD := Lib.hid hd
  obtain ⟨e0, e1, e2, cs⟩ := HE.out.cells hd.1
  obtain ⟨z0, z1, z2, zs⟩ := HZ.out.cells hd.1
  have hde := fun W => dig_refl e.dg hd W
  have hle := fun W => loc_eq e.seg e.off e.len W
  obtain ⟨m, hm⟩ : ∃ m, e.ins.length = m := ⟨_, rfl⟩
  rw [hm] at HIN cs zs
  have HL1 := Lib.hid (HE.out.dig hd.1)
  have HL2 := Lib.hid (HZ.out.dig hd.1)
  have HL3 := Lib.hid (HE.out.loc hd.1)
  have HL4 := Lib.hid (HZ.out.loc hd.1)
  unfold tnV
  generalize hMC : tnC e (Value.slice p e.ins.length c) = MC at *
  generalize hMZ : tnC e (Value.slice p2 e.ins.length c2) = MZ at *
  generalize lcA e.seg e.off e.len = LC at *
  generalize bcs e.dg = DG at *
  rw [hm] at hMC hMZ
  clear hMC hMZ hs hs2 h h' hd hB hm hn
  go_enter Try.func14, Try.ntmps14
  go_wp2_with (first
    | (refine wpList_ld rfl 29 _ rfl _ rfl _ HL1.out ?_)
    | (refine wpList_ld rfl 29 _ rfl _ rfl _ HL2.out ?_)
    | (refine wpList_wanted (by rfl) fun K hK => wp_ld 29 _ rfl _ rfl _ HL1.out (hK _ _ ?_); clear hK K)
    | (refine wpList_wanted (by rfl) fun K hK => wp_ld 29 _ rfl _ rfl _ HL2.out (hK _ _ ?_); clear hK K)
    | (refine wpList_wanted (by rfl) fun K hK => wp_ld 31 _ rfl _ rfl _ HL3.out (hK _ _ ?_); clear hK K)
    | (refine wpList_wanted (by rfl) fun K hK => wp_ld 31 _ rfl _ rfl _ HL4.out (hK _ _ ?_); clear hK K)
    | (go_at_call 35; refine HIN.out.mono ?_; rintro r w3 ⟨rfl, nq, rfl⟩))
  go_ret
  exact ⟨rfl, below_drewN HB.out nq⟩
theorem tnC_lay {w W : World} {x : Pt} {s : Value} {b : Nat} (hb : w.heap.size = b) (h : (w.alloc (.cells (tnC zeroT (.slice none 0 0)) 42)).setRow b (tnC x s) = W) : Tn W b x s ∧ Below w.heap.size w W := by
  subst hb
  rw [← h]
  exact ⟨Mx.row (show Tn (w.alloc (.cells (tnC zeroT (.slice none 0 0)) 42)) w.heap.size zeroT (.slice none 0 0) from heap_alloc_new _ _), below_setRow8 ((Below.refl _ _).alloc (Nat.le_refl _) _) _ _ (Nat.le_refl _)⟩
structure Td (W : World) (b : Nat) (x : Pt) (s : Value) : Prop where
  m : Tn W b x s
  i : Is W s x.ins
  d : dok x.dg
theorem Td.later {W V : World} {b : Nat} {x : Pt} {s : Value} (h : Td W b x s) (hb : Below W.heap.size W V) : Td V b x s := ⟨h.m.later hb, h.i.later hb, h.d⟩
end Go.Proofs.Ytieednadbcghjaa

namespace Go.Proofs.Ytieednadbcghjaa
set_option linter.unusedVariables false
open Go.RowKit Go.Lib
set_option maxRecDepth 100000 in
set_option maxHeartbeats 1000000 in
theorem rkeept19_any (e : Pt) (s : Value) (p2 : Option Addr) (m2 c2 : Nat) (B : List Int) (w : World) (h : Is w s e.ins) (hs2 : Gs encI w p2 m2 B) (hd : dok e.dg) (hn : e.ins.length ≤ 2097152) (hm2 : m2 ≤ 2097152) :
    Calls Try.prog 32 #[tnV e s, .slice p2 m2 c2] w fun r w' => KtG w (keepT e B) r w' := by
  obtain ⟨w0, w2, g1, h0, h2, hg1, hB⟩ := box2 w (tnC e s) (tnC zeroT (.slice none 0 0)) 42 42
  have HE : Hid (Tn w2 w.heap.size e s) := Lib.hid hB.a
  have HZ : Hid (Tn w2 g1 zeroT (.slice none 0 0)) := Lib.hid hB.z
  have HB := Lib.hid hB.le
  have HLT := Lib.hid hB.lt
  obtain ⟨p, c, rfl, hs, _⟩ := h.later hB.le
  have HBO := Lib.hid (rboth19_any p e.ins.length c e.ins p2 m2 c2 B w2 hs (hs2.later hB.le) hn hm2)
  have HIN := Lib.hid fun W (hW : Below w2.heap.size w2 W) => rin19_any p2 m2 c2 B e.seg W ((hs2.later hB.le).later hW) hm2
  have HD := Lib.hid hd
  have HBL := Lib.hid (bothI_length e.ins B)
  obtain ⟨e0, e1, e2, cs⟩ := HE.out.cells hd.1
  obtain ⟨m, hm⟩ : ∃ m, e.ins.length = m := ⟨_, rfl⟩
  rw [hm] at HBO cs HBL
  have HR : Hid (keepT e B = _) := Lib.hid (by unfold keepT; rfl)
  obtain ⟨Y, hY⟩ : ∃ Y, bothI e.ins B = Y := ⟨_, rfl⟩
  rw [hY] at HBO HR HBL
  have HYY := Lib.hid hY
  have hnil := len_nil (L := Y)
  have HNIL := Lib.hid hnil
  have hmm : m ≤ 2097152 := by omega
  rw [tnZero] at h2
  unfold tnV
  generalize hMC : tnC e (Value.slice p e.ins.length c) = MC at *
  rw [hm] at hMC
  clear hMC hs hs2 h hd hB hm hY hnil hn
  go_enter Try.func32, Try.ntmps32
  go_upto_region 2 with (go_at_call 45; refine HBO.out.mono ?_; rintro r w3 ⟨v, rfl, ho3, hb3⟩)
  have HO3 := Lib.hid ho3
  have HB3 := Lib.hid hb3
  obtain ⟨q, d, hv, _⟩ := ho3.open
  obtain ⟨n, hnn⟩ : ∃ n, Y.length = n := ⟨_, rfl⟩
  rw [hnn] at hv HNIL HBL
  subst hv
  have HE3 := Lib.hid (HE.out.later hb3)
  have HZ3 := Lib.hid (HZ.out.later hb3)
  have hnl : n ≤ 2097152 := by have := HBL.out; omega
  have HIN3 := Lib.hid (HIN.out w3 hb3)
  obtain ⟨f0, f1, f2, fs⟩ := HE3.out.cells HD.out.1
  have hfr := Mx.frozen HE3.out 37
  have HLT3 : Hid (w.heap.size < g1 ∧ g1 < w3.heap.size ∧ w2.heap.size ≤ w3.heap.size ∧ g1 < w2.heap.size) := Lib.hid (by have h1 := HLT.out; have h2 := hb3.size; omega)
  clear ho3 hb3 hnn e0 e1 e2 cs
  by_cases hin : e.seg ∈ B
  · have hdi : decide (e.seg ∈ B) = true := by simpa using hin
    rw [hdi] at HIN3
    have HINB := Lib.hid hin
    clear hin hdi
    by_cases hk : e.gone = false
    · have HK := Lib.hid hk
      rw [hk] at f1
      have HRA : Hid (keepT e B = ({ e with ins := Y }, true)) := Lib.hid (by rw [HR.out, if_pos ⟨HINB.out, Or.inl HK.out⟩])
      clear hk
      have HE4 : Hid (Tn (w3.setCell ⟨w.heap.size, 37, none⟩ (.slice q n d)) w.heap.size { e with ins := Y } (.slice q n d)) := Lib.hid (Mx.setLast HE3.out HD.out.1 4 (.slice q n d))
      have HZ4 : Hid (Tn (w3.setCell ⟨w.heap.size, 37, none⟩ (.slice q n d)) g1 zeroT (.slice none 0 0)) := Lib.hid (Mx.other HZ3.out _ _ (by have := HLT3.out; show g1 ≠ w.heap.size; omega))
      have HK4 : Hid (∀ b, b ≠ w.heap.size → (w3.setCell ⟨w.heap.size, 37, none⟩ (.slice q n d)).heap[b]? = w3.heap[b]?) := Lib.hid fun b hb => heap_setCell_other w3 ⟨w.heap.size, 37, none⟩ b _ hb
      have HB4 : Hid (Below w.heap.size w (w3.setCell ⟨w.heap.size, 37, none⟩ (.slice q n d))) := Lib.hid ((below_step HB.out HB3.out).setCell (Nat.le_refl _) _)
      go_upto_region 4 with (go_at_call 46; refine HIN3.out.mono ?_; rintro r w4 ⟨rfl, rfl⟩)
      generalize World.setCell _ _ _ = w5 at *
      go_wp2_with (first
        | (refine wpList_ld rfl 42 _ rfl _ rfl _ (HE4.out.load HD.out.1) ?_)
        | (refine wpList_store_row rfl 42 _ _ rfl g1 (tnC { e with ins := Y } (.slice q n d)) rfl rfl 42 _ HZ4.out (tnC_sizeOf { e with ins := Y } _ HD.out.1) ((tnC_size _ _ rfl).trans (tnC_size { e with ins := Y } _ HD.out.1).symm) (tnC_one _ _ _ _) ?_; generalize hw6 : World.setRow _ _ _ = w6))
      have HM6 : Tn w6 g1 { e with ins := Y } (.slice q n d) := by rw [← hw6]; exact Mx.row HZ4.out
      refine bodyPost_ret (HM6.res2 HD.out.1 rfl _ rfl) rfl ?_
      refine ⟨_, by rw [HRA.out]; rfl, ?_, by rw [← hw6]; exact below_setRow8 HB4.out _ _ (by have := HLT3.out; omega)⟩
      rw [HRA.out]
      exact Gw.mono (B := w2.heap.size) (HO3.out.iskeep fun b hb => by rw [← hw6, setRow_other _ _ _ _ (by have := HLT3.out; omega)]; exact HK4.out b (by have := HLT3.out; omega)) (by have := HLT3.out; omega)
    · have HK : Hid (¬ e.gone = false) := Lib.hid hk
      have hkt : e.gone = true := by simpa using hk
      rw [hkt] at f1
      by_cases hy : (0 : Int) < (n : Int)
      · have HRA : Hid (keepT e B = ({ e with ins := Y }, true)) := Lib.hid (by rw [HR.out, if_pos ⟨HINB.out, Or.inr (fun h => by have := HNIL.out.1 h; omega)⟩])
        clear hk
        have HE4 : Hid (Tn (w3.setCell ⟨w.heap.size, 37, none⟩ (.slice q n d)) w.heap.size { e with ins := Y } (.slice q n d)) := Lib.hid (Mx.setLast HE3.out HD.out.1 4 (.slice q n d))
        have HZ4 : Hid (Tn (w3.setCell ⟨w.heap.size, 37, none⟩ (.slice q n d)) g1 zeroT (.slice none 0 0)) := Lib.hid (Mx.other HZ3.out _ _ (by have := HLT3.out; show g1 ≠ w.heap.size; omega))
        have HK4 : Hid (∀ b, b ≠ w.heap.size → (w3.setCell ⟨w.heap.size, 37, none⟩ (.slice q n d)).heap[b]? = w3.heap[b]?) := Lib.hid fun b hb => heap_setCell_other w3 ⟨w.heap.size, 37, none⟩ b _ hb
        have HB4 : Hid (Below w.heap.size w (w3.setCell ⟨w.heap.size, 37, none⟩ (.slice q n d))) := Lib.hid ((below_step HB.out HB3.out).setCell (Nat.le_refl _) _)
        go_upto_region 4 with (go_at_call 46; refine HIN3.out.mono ?_; rintro r w4 ⟨rfl, rfl⟩)
        generalize World.setCell _ _ _ = w5 at *
        go_wp2_with (first
          | (refine wpList_ld rfl 42 _ rfl _ rfl _ (HE4.out.load HD.out.1) ?_)
          | (refine wpList_store_row rfl 42 _ _ rfl g1 (tnC { e with ins := Y } (.slice q n d)) rfl rfl 42 _ HZ4.out (tnC_sizeOf { e with ins := Y } _ HD.out.1) ((tnC_size _ _ rfl).trans (tnC_size { e with ins := Y } _ HD.out.1).symm) (tnC_one _ _ _ _) ?_; generalize hw6 : World.setRow _ _ _ = w6))
        have HM6 : Tn w6 g1 { e with ins := Y } (.slice q n d) := by rw [← hw6]; exact Mx.row HZ4.out
        refine bodyPost_ret (HM6.res2 HD.out.1 rfl _ rfl) rfl ?_
        refine ⟨_, by rw [HRA.out]; rfl, ?_, by rw [← hw6]; exact below_setRow8 HB4.out _ _ (by have := HLT3.out; omega)⟩
        rw [HRA.out]
        exact Gw.mono (B := w2.heap.size) (HO3.out.iskeep fun b hb => by rw [← hw6, setRow_other _ _ _ _ (by have := HLT3.out; omega)]; exact HK4.out b (by have := HLT3.out; omega)) (by have := HLT3.out; omega)
      · have HY0 : Hid (Y = []) := Lib.hid (HNIL.out.2 (by omega))
        have HRC : Hid (keepT e B = (zeroT, false)) := Lib.hid (by rw [HR.out, if_neg (fun h => h.2.elim HK.out (fun h2 => h2 HY0.out)), if_neg (fun h => h HY0.out)])
        clear hk
        have HBU := Lib.hid built_tn0
        go_upto_region 7 with (go_at_call 46; refine HIN3.out.mono ?_; rintro r w4 ⟨rfl, rfl⟩)
        go_wp2_with (first
          | (refine wpList_build_is rfl 42 _ rfl (tnC zeroT (.slice none 0 0)) ?_ ?_; focus (first | (simp only [List.map_toArray, List.map_nil]; exact HBU.out) | (simp only [Array.map_empty]; exact HBU.out) | (simp; exact HBU.out)))
          | (refine wpList_store_row rfl 42 _ _ rfl g1 (tnC zeroT (.slice none 0 0)) rfl rfl 42 _ HZ3.out (tnC_sizeOf zeroT _ rfl) rfl (tnC_one _ _ _ _) ?_; generalize hw6 : World.setRow _ _ _ = w6))
        have HM6 : Tn w6 g1 zeroT (.slice none 0 0) := by rw [← hw6]; exact Mx.row HZ3.out
        refine bodyPost_ret (HM6.res2 rfl rfl _ rfl) rfl ?_
        refine ⟨_, by rw [HRC.out]; rfl, ?_, by rw [← hw6]; exact below_setRow8 (below_step HB.out HB3.out) _ _ (by have := HLT3.out; omega)⟩
        rw [HRC.out]
        exact Gw.nil _ _ _
  · have hdi : decide (e.seg ∈ B) = false := by simpa using hin
    rw [hdi] at HIN3
    have HINB := Lib.hid hin
    clear hin hdi
    by_cases hy : (0 : Int) < (n : Int)
    · have HRB : Hid (keepT e B = (⟨e.nm, dz32, true, 0, 0, 0, Y⟩, true)) := Lib.hid (by rw [HR.out, if_neg (fun h => HINB.out h.1), if_pos (fun h => by have := HNIL.out.1 h; omega)])
      have HBU := Lib.hid (built_un3 e.nm Y q n d)
      have HLD := Lib.hid (HE3.out.dig HD.out.1)
      go_upto_region 6 with (go_at_call 46; refine HIN3.out.mono ?_; rintro r w4 ⟨rfl, rfl⟩)
      go_wp2_with (first
        | (refine wpList_ld rfl 29 _ rfl _ rfl _ HLD.out ?_)
        | (refine wpList_build_is rfl 42 _ rfl (tnC ⟨e.nm, dz32, true, 0, 0, 0, Y⟩ (.slice q n d)) ?_ ?_; focus (first | exact HBU.out | (simp only [List.map_toArray, List.map_cons, List.map_nil]; exact HBU.out)))
        | (refine wpList_store_row rfl 42 _ _ rfl g1 (tnC ⟨e.nm, dz32, true, 0, 0, 0, Y⟩ (.slice q n d)) rfl rfl 42 _ HZ3.out (tnC_sizeOf ⟨e.nm, dz32, true, 0, 0, 0, Y⟩ _ rfl) ((tnC_size _ _ rfl).trans (tnC_size ⟨e.nm, dz32, true, 0, 0, 0, Y⟩ _ rfl).symm) (tnC_one _ _ _ _) ?_; generalize hw6 : World.setRow _ _ _ = w6))
      have HM6 : Tn w6 g1 ⟨e.nm, dz32, true, 0, 0, 0, Y⟩ (.slice q n d) := by rw [← hw6]; exact Mx.row HZ3.out
      refine bodyPost_ret (HM6.res2 rfl rfl _ rfl) rfl ?_
      refine ⟨_, by rw [HRB.out]; rfl, ?_, by rw [← hw6]; exact below_setRow8 (below_step HB.out HB3.out) _ _ (by have := HLT3.out; omega)⟩
      rw [HRB.out]
      exact Gw.mono (B := w2.heap.size) (HO3.out.iskeep fun b hb => by rw [← hw6, setRow_other _ _ _ _ (by have := HLT3.out; omega)]) (by have := HLT3.out; omega)
    · have HY0 : Hid (Y = []) := Lib.hid (HNIL.out.2 (by omega))
      have HRC : Hid (keepT e B = (zeroT, false)) := Lib.hid (by rw [HR.out, if_neg (fun h => HINB.out h.1), if_neg (fun h => h HY0.out)])
      have HBU := Lib.hid built_tn0
      go_upto_region 7 with (go_at_call 46; refine HIN3.out.mono ?_; rintro r w4 ⟨rfl, rfl⟩)
      go_wp2_with (first
        | (refine wpList_build_is rfl 42 _ rfl (tnC zeroT (.slice none 0 0)) ?_ ?_; focus (first | (simp only [List.map_toArray, List.map_nil]; exact HBU.out) | (simp only [Array.map_empty]; exact HBU.out) | (simp; exact HBU.out)))
        | (refine wpList_store_row rfl 42 _ _ rfl g1 (tnC zeroT (.slice none 0 0)) rfl rfl 42 _ HZ3.out (tnC_sizeOf zeroT _ rfl) rfl (tnC_one _ _ _ _) ?_; generalize hw6 : World.setRow _ _ _ = w6))
      have HM6 : Tn w6 g1 zeroT (.slice none 0 0) := by rw [← hw6]; exact Mx.row HZ3.out
      refine bodyPost_ret (HM6.res2 rfl rfl _ rfl) rfl ?_
      refine ⟨_, by rw [HRC.out]; rfl, ?_, by rw [← hw6]; exact below_setRow8 (below_step HB.out HB3.out) _ _ (by have := HLT3.out; omega)⟩
      rw [HRC.out]
      exact Gw.nil _ _ _
end Go.Proofs.Ytieednadbcghjaa

namespace Go.Proofs.Ytieednadbcghjaa
set_option linter.unusedVariables false
open Go.RowKit Go.Lib

theorem getT_cons (x : Pt) (M : List Pt) (d : ByteArray) : getT (x :: M) d = if x.nm = d then some x else getT M d := rfl
theorem getT_append (l m : List Pt) (d : ByteArray) : getT (l ++ m) d = match getT l d with | some x => some x | none => getT m d := by
  induction l with
  | nil => rfl
  | cons y l ih =>
    rw [List.cons_append, getT_cons, getT_cons]
    by_cases h : y.nm = d
    · rw [if_pos h, if_pos h]
    · rw [if_neg h, if_neg h]; exact ih
theorem getT_take {L : List Pt} {k : Nat} {x : Pt} (h : L[k]? = some x) (d : ByteArray) : getT (L.take (k + 1)) d = match getT (L.take k) d with | some y => some y | none => if x.nm = d then some x else none := by
  obtain ⟨h2, h3⟩ := List.getElem?_eq_some_iff.1 h
  rw [List.take_succ_eq_append_getElem h2, getT_append, h3]
  rfl
theorem getT_upto {L : List Pt} {k : Nat} {d : ByteArray} {x : Pt} (h : getT (L.take k) d = some x) : getT L d = some x := by
  conv => lhs; rw [← List.take_append_drop k L, getT_append, h]
/-- what Get answers -/
def GetTQ (w : World) (L : List Tx) (r : Pt × Bool) (e : Ending) (w' : World) : Prop :=
  ∃ u, e = .returned (.tuple #[tnV r.1 u, .bool r.2]) ∧ ((∃ x ∈ L, x.e = r.1 ∧ u = x.s) ∨ u = .slice none 0 0 ∧ r.1 = zeroT) ∧ Below w.heap.size w w'
set_option maxRecDepth 100000 in
set_option maxHeartbeats 2000000 in
theorem rget21_any (p : Option Addr) (n c : Nat) (L : List Tx) (d : ByteArray) (w : World) (h : Gs encTn w p n L) (hn : n ≤ 2097152) :
    Calls Try.prog 13 #[.slice p n c, .string d] w fun e w' => GetTQ w L (getTR (ptL L) d) e w' := by
  obtain ⟨wB, hwB⟩ : ∃ W, w.alloc (.cells (tnC zeroT (.slice none 0 0)) 42) = W := ⟨_, rfl⟩
  have hbB : Below w.heap.size w wB := by rw [← hwB]; exact (Below.refl _ _).alloc (Nat.le_refl _) _
  have hz : Tn wB w.heap.size zeroT (.slice none 0 0) := by rw [← hwB]; exact heap_alloc_new _ _
  have HB := Lib.hid hbB
  have HZ := Lib.hid hz
  have H := Lib.hid (h.later hbB)
  have HLL : Hid ((ptL L).length = n) := Lib.hid (by rw [ptL_length, h.len])
  rw [tnZero] at hwB
  clear h hbB hz
  go_enter Try.func13, Try.ntmps13
  go_wp2
  clear hwB
  go_loopw [6] (fun j wr => ∃ k : Nat, k ≤ n ∧ j = .int .i64 (k : Int) ∧ Hid (getT ((ptL L).take k) d = none) ∧ wr = wB) (fun j _ => n - (intOf j).toNat)
  case atStart => exact ⟨0, by omega, rfl, Lib.hid rfl, rfl⟩
  case round =>
    obtain ⟨k, hkn, rfl, hm, hwr⟩ := hrel
    subst hwr
    by_cases hlt : k < n
    · obtain ⟨b1, off, y, rfl, hy1, hy3, hr⟩ := H.out.tn k hlt
      have c0 := (tn_cells hr).1
      have HLY := Lib.hid (tn_load hr)
      have HT := Lib.hid (getT_take (ptL_get hy1) d)
      have HY := Lib.hid hy3
      have hki : (k : Int) < (n : Int) := by omega
      have hk0 : (0 : Int) ≤ (k : Int) := by omega
      obtain ⟨ny, hny⟩ : ∃ s, y.e.nm = s := ⟨_, rfl⟩
      rw [hny] at c0 HT
      clear hr hy1 hy3 hny
      by_cases hxd : ny = d
      · have hq := sq_true hxd
        have HF : Hid (getTR (ptL L) d = (y.e, true)) := Lib.hid (by
          have h1 : getT ((ptL L).take (k + 1)) d = some y.e := by rw [HT.out, hm.out]; dsimp only; rw [if_pos hxd]
          unfold getTR
          rw [getT_upto h1])
        clear hxd
        go_wp2_with (first
          | (refine wpList_ld rfl 42 _ rfl _ rfl _ HLY.out ?_)
          | (refine wpList_store_row rfl 42 _ _ rfl w.heap.size (tnC y.e y.s) rfl rfl 42 _ HZ.out (tnC_sizeOf y.e _ y.hd) ((tnC_size _ _ rfl).trans (tnC_size y.e _ y.hd).symm) (tnC_one _ _ _ _) ?_; generalize hw6 : World.setRow _ _ _ = w6))
        have HM6 : Tn w6 w.heap.size y.e y.s := by rw [← hw6]; exact Mx.row HZ.out
        refine bodyPost_ret (HM6.res2 y.hd rfl _ rfl) rfl ?_
        rw [HF.out]
        exact ⟨_, rfl, Or.inl ⟨y, HY.out, rfl, rfl⟩, by rw [← hw6]; exact below_setRow8 HB.out _ _ (Nat.le_refl _)⟩
      · have hq := sq_false hxd
        have HN2 : Hid (getT ((ptL L).take (k + 1)) d = none) := Lib.hid (by rw [HT.out, hm.out]; dsimp only; rw [if_neg hxd])
        clear hxd
        go_wp2
        exact ⟨⟨k + 1, by omega, by go_num, HN2, by first | rfl | trivial⟩, by simp [intOf] <;> omega⟩
    · obtain rfl : k = n := by omega
      have HF : Hid (getTR (ptL L) d = (zeroT, false)) := Lib.hid (by
        have h1 := hm.out
        rw [List.take_of_length_le (by rw [HLL.out]; exact Nat.le_refl _)] at h1
        unfold getTR
        rw [h1])
      have HBU := Lib.hid built_tn0
      go_wp2_with (first
        | (refine wpList_build_is rfl 42 _ rfl (tnC zeroT (.slice none 0 0)) ?_ ?_; focus (first | (simp only [List.map_toArray, List.map_nil]; exact HBU.out) | (simp only [Array.map_empty]; exact HBU.out) | (simp; exact HBU.out)))
        | (refine wpList_store_row rfl 42 _ _ rfl w.heap.size (tnC zeroT (.slice none 0 0)) rfl rfl 42 _ HZ.out (tnC_sizeOf zeroT _ rfl) rfl (tnC_one _ _ _ _) ?_; generalize hw6 : World.setRow _ _ _ = w6))
      have HM6 : Tn w6 w.heap.size zeroT (.slice none 0 0) := by rw [← hw6]; exact Mx.row HZ.out
      refine bodyPost_ret (HM6.res2 rfl rfl _ rfl) rfl ?_
      rw [HF.out]
      exact ⟨_, rfl, Or.inr ⟨rfl, rfl⟩, by rw [← hw6]; exact below_setRow8 HB.out _ _ (Nat.le_refl _)⟩
set_option maxRecDepth 100000 in
set_option maxHeartbeats 2000000 in
theorem rsame21_any (p q : Option Addr) (n c m c' : Nat) (L M : List Tx) (w : World) (h : Gs encTn w p n L) (h' : Gs encTn w q m M) (he : ptL L = ptL M) (hi : ∀ x ∈ L, Is w x.s x.e.ins) (hi' : ∀ x ∈ M, Is w x.s x.e.ins) (hk : ∀ x ∈ L, dok x.e.dg) (hb : ∀ x ∈ L, x.e.ins.length ≤ 2097152) (hn : n ≤ 2097152) :
    Calls Try.prog 22 #[.slice p n c, .slice q m c'] w fun e w' => e = .returned (.bool true) ∧ Below w.heap.size w w' := by
  obtain rfl : n = m := by rw [← h.len, ← h'.len, ← ptL_length, ← ptL_length, he]
  have H := Lib.hid h
  have H' := Lib.hid h'
  have HE := Lib.hid he
  have HI := Lib.hid hi
  have HI' := Lib.hid hi'
  have HK := Lib.hid hk
  have HBD := Lib.hid hb
  have e1 : (((n : Nat) : Int) != (n : Int)) = false := by simp
  clear h h' he hi hi' hk hb
  go_enter Try.func22, Try.ntmps22
  go_wp2
  go_loopw [5] (fun j wr => ∃ k : Nat, k ≤ n ∧ j = .int .i64 (k : Int) ∧ Hid (Below w.heap.size w wr)) (fun j _ => n - (intOf j).toNat)
  case atStart => exact ⟨0, by omega, rfl, Lib.hid (Below.refl _ _)⟩
  case round =>
    obtain ⟨k, hkn, rfl, HB⟩ := hrel
    by_cases hlt : k < n
    · obtain ⟨b1, off, y, rfl, hy1, hy3, hr⟩ := (H.out.later HB.out).tn k hlt
      obtain ⟨b2, off2, z, rfl, hz1, hz3, hr2⟩ := (H'.out.later HB.out).tn k hlt
      have hyz : z.e = y.e := by
        have h1 := ptL_get hy1
        have h2 := ptL_get hz1
        rw [← HE.out, h1] at h2
        exact (Option.some.inj h2).symm
      have HL1 : Hid (∀ W, Below wr.heap.size wr W → (Instr.loadAt 42 (.pointer (some ⟨b1, off + k * 38, none⟩))).run Try.prog W = .ok (.agg (tnC y.e y.s)) W) := Lib.hid fun W hW => tn_load (en_range hr hW)
      have HL2 : Hid (∀ W, Below wr.heap.size wr W → (Instr.loadAt 42 (.pointer (some ⟨b2, off2 + k * 38, none⟩))).run Try.prog W = .ok (.agg (tnC z.e z.s)) W) := Lib.hid fun W hW => tn_load (en_range hr2 hW)
      have HSM := Lib.hid fun W (hW : Below wr.heap.size wr W) => rsamet19_any y.e y.s z.s W ((HI.out y hy3).later (below_step HB.out hW)) (by have h1 := (HI'.out z hz3).later (below_step HB.out hW); rw [hyz] at h1; exact h1) (HK.out y hy3) (HBD.out y hy3)
      rw [hyz] at HL2
      have hki : (k : Int) < (n : Int) := by omega
      have hk0 : (0 : Int) ≤ (k : Int) := by omega
      have hbe : Below wr.heap.size wr wr := Below.refl _ _
      unfold tnV at HSM
      generalize tnC y.e y.s = ME at *
      generalize tnC y.e z.s = MZ at *
      clear hr hr2 hy1 hy3 hz1 hz3 hyz
      go_upto_region 6 with fail
      refine wp_region_held_drew (S := (fun W : World => Below wr.heap.size wr W)) (by kernel_rfl) (show Below _ _ (World.drew wr) from hbe.drew) (fun hHeld => ?_)
      refine take_at 0 (v := ?vv1) rfl (by kernel_rfl) (by kernel_rfl) (by kernel_rfl) (fun _ _ _ h => h) (Or.inl ⟨by rfl, ?hy1⟩) (by assumption) ?rest1
      case hy1 => intro w hSw; (try dsimp only at hSw); go_simp; (try with_reducible rfl)
      (try simp only [Act.put, List.setIfInBounds_toArray, List.set_cons_zero, List.set_cons_succ])
      refine take_at 1 (v := ?vv2) rfl (by kernel_rfl) (by kernel_rfl) (by kernel_rfl) (fun _ _ _ h => h) (Or.inl ⟨by rfl, ?hy2⟩) (by assumption) ?rest2
      case hy2 => intro w hSw; (try dsimp only at hSw); go_simp; (try with_reducible rfl)
      (try simp only [Act.put, List.setIfInBounds_toArray, List.set_cons_zero, List.set_cons_succ])
      refine take_at 2 (v := ?vv3) rfl (by kernel_rfl) (by kernel_rfl) (by kernel_rfl) (fun _ _ _ h => h) (Or.inl ⟨by rfl, ?hy3⟩) (by assumption) ?rest3
      case hy3 => intro w hSw; (try dsimp only at hSw); go_simp; (try with_reducible rfl)
      (try simp only [Act.put, List.setIfInBounds_toArray, List.set_cons_zero, List.set_cons_succ])
      refine take_at 3 rfl (by kernel_rfl) (by kernel_rfl) (by kernel_rfl) (fun _ _ _ h => h) (yieldsIf_ld (by rfl) 42 (.tmp 19) rfl (.pointer (some ⟨b1, off + k * 38, none⟩)) rfl (.agg ME) (fun W hW => HL1.out W hW)) (by assumption) ?_
      (try simp only [Act.put, List.setIfInBounds_toArray, List.set_cons_zero, List.set_cons_succ])
      refine take_at 4 (v := ?vv5) rfl (by kernel_rfl) (by kernel_rfl) (by kernel_rfl) (fun _ _ _ h => h) (Or.inl ⟨by rfl, ?hy5⟩) (by assumption) ?rest5
      case hy5 => intro w hSw; (try dsimp only at hSw); go_simp; (try with_reducible rfl)
      (try simp only [Act.put, List.setIfInBounds_toArray, List.set_cons_zero, List.set_cons_succ])
      refine take_at 5 (v := ?vv6) rfl (by kernel_rfl) (by kernel_rfl) (by kernel_rfl) (fun _ _ _ h => h) (Or.inl ⟨by rfl, ?hy6⟩) (by assumption) ?rest6
      case hy6 => intro w hSw; (try dsimp only at hSw); go_simp; (try with_reducible rfl)
      (try simp only [Act.put, List.setIfInBounds_toArray, List.set_cons_zero, List.set_cons_succ])
      refine take_at 6 (v := ?vv7) rfl (by kernel_rfl) (by kernel_rfl) (by kernel_rfl) (fun _ _ _ h => h) (Or.inl ⟨by rfl, ?hy7⟩) (by assumption) ?rest7
      case hy7 => intro w hSw; (try dsimp only at hSw); go_simp; (try with_reducible rfl)
      (try simp only [Act.put, List.setIfInBounds_toArray, List.set_cons_zero, List.set_cons_succ])
      refine take_at 7 rfl (by kernel_rfl) (by kernel_rfl) (by kernel_rfl) (fun _ _ _ h => h) (yieldsIf_ld (by rfl) 42 (.tmp 23) rfl (.pointer (some ⟨b2, off2 + k * 38, none⟩)) rfl (.agg MZ) (fun W hW => HL2.out W hW)) (by assumption) ?_
      (try simp only [Act.put, List.setIfInBounds_toArray, List.set_cons_zero, List.set_cons_succ])
      refine ready_at 8 rfl (by kernel_rfl) (fun K hK => ?_)
      go_simp
      refine (HSM.out _ hHeld).mono ?_
      rintro r w3 ⟨rfl, hb3⟩
      have hB3 := below_step hHeld hb3
      clear hHeld
      first
        | refine hK.out _ _ ?hS9 (fun hHeld => ?rest9)
        | (go_wp2_with fail; refine hK.out _ _ ?hS9 (fun hHeld => ?rest9))
      case hS9 => exact hB3
      clear hK K
      (try simp only [Act.put, List.setIfInBounds_toArray, List.set_cons_zero, List.set_cons_succ])
      refine take_at 9 (v := ?vv10) rfl (by kernel_rfl) (by kernel_rfl) (by kernel_rfl) (fun _ _ _ h => h) (Or.inl ⟨by rfl, ?hy10⟩) (by assumption) ?rest10
      case hy10 => intro w hSw; (try dsimp only at hSw); go_simp; (try with_reducible rfl)
      (try simp only [Act.put, List.setIfInBounds_toArray, List.set_cons_zero, List.set_cons_succ])
      refine wpAnyH_done (by kernel_rfl) ?_ _
      have HB3 := Lib.hid (below_step HB.out hHeld)
      clear hHeld
      go_wp2
      exact ⟨⟨k + 1, by omega, by go_num, HB3⟩, by simp [intOf] <;> omega⟩
    · obtain rfl : k = n := by omega
      go_wp2
      go_ret
      exact ⟨rfl, HB.out⟩
end Go.Proofs.Ytieednadbcghjaa

namespace Go.Proofs.Ytieednadbcghjaa
set_option linter.unusedVariables false
open Go.RowKit Go.Lib

/-- '[]TagEntry{x}', at one operation -/
theorem wp_build_tn {o : Oper} {a : Act} {w : World} {K : Act → World → Prop} {Q : Exit → Act → World → Prop} (t : TypeId) (x : Nat) (ho : o.op = .buildSlice t 1 #[(0, .tmp x)])
    (hu : Try.prog.underlying t = some (.slice 42)) (q : Tx) (hx : a.eval (.tmp x) = .agg (tnC q.e q.s))
    (h : K (a.put o.dst (.slice (some ⟨w.heap.size, 0, none⟩) 1 1)) (w.alloc (.cells (tnC q.e q.s) 42))) : o.wp Try.prog a w K Q := by
  obtain ⟨i, hi, hzz⟩ := Option.map_eq_some_iff.1 infoTn
  simp only [Prod.mk.injEq] at hzz
  obtain ⟨hz, hsz, _⟩ := hzz
  have hsz' : i.size = 38 := hsz
  refine wp_buildSlice t 42 1 _ ho (tnC q.e q.s) i _ hu hi hz (by rw [hsz']; decide) (by rw [hsz']; decide) ?_ h
  rw [hsz']
  have hf := Great.fill_whole (s := 38) (by decide) [.agg (tnC q.e q.s)] ((Array.range (1 * 38)).map (tzero.cells[· % tzero.cells.size]!)) (by
    intro v hv
    rw [List.mem_singleton] at hv
    subst hv
    exact tnC_size q.e q.s q.hd) (by simp)
  have e : (#[(0, Operand.tmp x)].map fun (p : Nat × Operand) => (p.1, a.eval p.2)).toList = [((0 : Nat), Value.agg (tnC q.e q.s))] := by
    simp [hx]
  rw [e]
  refine (Eq.trans ?_ hf).trans ?_
  · rfl
  · simp [Value.cells]
theorem wpList_build_tn {ops : Array Oper} {rest : List Oper} {o : Oper} {a : Act} {w : World} {Q : Exit → Act → World → Prop} (hg : o.guard = none) (t : TypeId) (x : Nat) (ho : o.op = .buildSlice t 1 #[(0, .tmp x)])
    (hu : Try.prog.underlying t = some (.slice 42)) (q : Tx) (hx : a.eval (.tmp x) = .agg (tnC q.e q.s))
    (h : wpList Try.prog ops Q rest (a.put o.dst (.slice (some ⟨w.heap.size, 0, none⟩) 1 1)) (w.alloc (.cells (tnC q.e q.s) 42))) : wpList Try.prog ops Q (o :: rest) a w :=
  wpList_plain hg fun _ hK => wp_build_tn t x ho hu q hx (hK _ _ h)
theorem Gs.oneTn (w : World) (q : Tx) : Gs encTn (w.alloc (.cells (tnC q.e q.s) 42)) (some ⟨w.heap.size, 0, none⟩) 1 [q] := Gs.one encTn w q _ (by rw [q.fC]) _ _
theorem setTB_drop {L : List Pt} {k : Nat} {x : Pt} (h : L[k]? = some x) (e : Pt) (t : Bool) : setTB e (L.drop k) t = (if t = false ∧ nlt x.nm e.nm = false then [e] else []) ++ ((if x.nm = e.nm then [] else [x]) ++ setTB e (L.drop (k + 1)) (t || !nlt x.nm e.nm)) := by
  obtain ⟨h2, h3⟩ := List.getElem?_eq_some_iff.1 h
  rw [List.drop_eq_getElem_cons h2, h3]
  rfl
def SetTQ (w : World) (L : List Tx) (X : Tx) (e : Ending) (w' : World) : Prop := ∃ v o, e = .returned v ∧ ptL o = setT (ptL L) X.e ∧ Gw encTn w' w.heap.size v o ∧ (∀ x ∈ o, x ∈ L ∨ x = X) ∧ Below w.heap.size w w'
def NewTQ (w : World) (L : List Tx) (e : Ending) (w' : World) : Prop := ∃ v o, e = .returned v ∧ ptL o = newT (ptL L) ∧ Gw encTn w' w.heap.size v o ∧ (∀ x ∈ o, x ∈ L) ∧ Below w.heap.size w w'
/-- amid Set's loop -/
structure SeT (w W : World) (L : List Tx) (X : Tx) (B k : Nat) (tb : Bool) (v : Value) (o : List Tx) : Prop where
  gw : Gw encTn W B v o
  eq : ptL o ++ setTB X.e ((ptL L).drop k) tb = setT (ptL L) X.e
  me : ∀ x ∈ o, x ∈ L ∨ x = X
  le : Below w.heap.size w W
theorem SeT.len {w W : World} {L : List Tx} {X : Tx} {B k : Nat} {tb : Bool} {v : Value} {o : List Tx} (h : SeT w W L X B k tb v o) : o.length ≤ L.length + 1 := by
  have h1 := setT_length (ptL L) X.e
  rw [← h.eq, List.length_append, ptL_length, ptL_length] at h1
  omega
theorem below_appT {w W V : World} {B : Nat} {v : Value} {o : List Tx} (hb : Below w.heap.size w W) (hg : Gw encTn W B v o) (hB : w.heap.size ≤ B) (h : W.grownBy V v.ownBlock) : Below w.heap.size w V :=
  below_new_gw hb (hg.mono hB) h hb.size
set_option maxRecDepth 100000 in
set_option maxHeartbeats 4000000 in
theorem rset21_any (p : Option Addr) (n c : Nat) (L : List Tx) (X : Tx) (w : World) (h : Gs encTn w p n L) (hn : n ≤ 2097152) :
    Calls Try.prog 26 #[.slice p n c, tnV X.e X.s] w fun e w' => SetTQ w L X e w' := by
  obtain ⟨wB, hwB⟩ : ∃ W, w.alloc (.cells (tnC X.e X.s) 42) = W := ⟨_, rfl⟩
  have hbB : Below w.heap.size w wB := by rw [← hwB]; exact (Below.refl _ _).alloc (Nat.le_refl _) _
  have hmE : Tn wB w.heap.size X.e X.s := by rw [← hwB]; exact heap_alloc_new _ _
  have HB := Lib.hid hbB
  have HLX := Lib.hid fun W (hW : Below wB.heap.size wB W) => (hmE.later hW).load X.hd
  have HNX := Lib.hid fun W (hW : Below wB.heap.size wB W) => ((hmE.later hW).cells X.hd).1
  have H := Lib.hid (h.later hbB)
  have HLL : Hid ((ptL L).length = n) := Lib.hid (by rw [ptL_length, h.len])
  have HL0 : Hid (L.length = n) := Lib.hid h.len
  have HSI : Hid (SeT wB wB L X wB.heap.size 0 false (.slice none 0 0) []) := Lib.hid ⟨Gw.nil _ _ _, by simp [ptL, setT], (fun x hx => by cases hx), Below.refl _ _⟩
  unfold tnV
  generalize hME : tnC X.e X.s = ME at *
  have HME := Lib.hid hME
  clear h hbB hmE hME
  go_enter Try.func26, Try.ntmps26
  go_wp2
  clear hwB
  go_loopw [5, 6, 7] (fun v t j wr => ∃ (k : Nat) (tb : Bool) (q : Option Addr) (m c' : Nat) (o : List Tx), k ≤ n ∧ j = .int .i64 (k : Int) ∧ t = .bool tb ∧ v = .slice q m c' ∧ Hid (SeT wB wr L X wB.heap.size k tb (.slice q m c') o)) (fun _ _ j _ => n - (intOf j).toNat)
  case atStart => exact ⟨0, false, none, 0, 0, [], by omega, rfl, rfl, rfl, HSI⟩
  case round =>
    obtain ⟨k, tb, q, m, c', o, hkn, rfl, rfl, rfl, HI⟩ := hrel
    by_cases hlt : k < n
    · obtain ⟨b1, off, y, rfl, hy1, hy3, hr⟩ := (H.out.later HI.out.le).tn k hlt
      have HY := Lib.hid hy3
      have HSB := Lib.hid (setTB_drop (ptL_get hy1) X.e tb)
      have HRW : Hid (∀ W, Below wB.heap.size wB W → W.rangeAt b1 (off + k * 38) (mixL y.e.a y.e.dg (y.e.t y.s))) := Lib.hid fun W hW => by
        obtain ⟨b2, off2, z, hp2, hz1, _, hr2⟩ := (H.out.later hW).tn k hlt
        simp only [Option.some.injEq, Addr.mk.injEq, and_true] at hp2
        obtain ⟨rfl, rfl⟩ := hp2
        rw [hy1] at hz1
        obtain rfl := Option.some.inj hz1
        exact hr2
      have HLY := Lib.hid fun W (hW : Below wB.heap.size wB W) => tn_load (HRW.out W hW)
      have HC := Lib.hid fun W (hW : Below wB.heap.size wB W) => And.intro (tn_cells (HRW.out W hW)).1 (HNX.out W hW)
      have hki : (k : Int) < (n : Int) := by omega
      have hk0 : (0 : Int) ≤ (k : Int) := by omega
      obtain ⟨ny, hny⟩ : ∃ s, y.e.nm = s := ⟨_, rfl⟩
      obtain ⟨nX, hnX⟩ : ∃ s, X.e.nm = s := ⟨_, rfl⟩
      rw [hny] at HSB
      rw [hnX] at HSB
      simp only [hny, hnX] at HC
      obtain ⟨MY, hMY⟩ : ∃ M, tnC y.e y.s = M := ⟨_, rfl⟩
      have HMY := Lib.hid hMY
      rw [hMY] at HLY
      have HBL : Hid (Below wB.heap.size wB wr) := Lib.hid HI.out.le
      have HGW := Lib.hid HI.out.gw
      obtain ⟨c0, cX⟩ := HC.out wr HBL.out
      clear hr hy1 hy3 hny hnX hMY
      unfold nlt at HSB
      obtain ⟨lt, hlt2⟩ : ∃ b, Op.bytesLess ny.toList nX.toList = b := ⟨_, rfl⟩
      rw [hlt2] at HSB
      cases tb with
      | true =>
        clear hlt2
        have HEQ0 : Hid (ptL o ++ ((if ny = nX then [] else [y.e]) ++ setTB X.e ((ptL L).drop (k + 1)) true) = setT (ptL L) X.e) := Lib.hid (by
          have h1 := HI.out.eq
          rw [HSB.out, if_neg (fun h => by cases h.1), List.nil_append] at h1
          exact h1)
        have HME0 := Lib.hid HI.out.me
        go_upto_region 6 with fail
        go_quiet (fail)
        have HGQ := Lib.hid (HGW.out.later (below_drewN (Below.refl _ _) nq))
        have HBQ := Lib.hid (below_step HBL.out (below_drewN (Below.refl _ _) nq))
        clear c0 cX
        generalize World.drewN wr nq = wq at *
        obtain ⟨d0, dX⟩ := HC.out _ HBQ.out
        by_cases hne : ny = nX
        · have hq := sq_true hne
          have HE2 : Hid (ptL o ++ setTB X.e ((ptL L).drop (k + 1)) true = setT (ptL L) X.e) := Lib.hid (by have h1 := HEQ0.out; rw [if_pos hne, List.nil_append] at h1; exact h1)
          clear hne
          go_upto_region 9 with fail
          go_quiet (fail)
          have HIN : Hid (SeT wB (World.drewN wq nq) L X wB.heap.size (k + 1) true _ o) := Lib.hid ⟨HGQ.out.later (below_drewN (Below.refl _ _) nq), HE2.out, HME0.out, below_step HBQ.out (below_drewN (Below.refl _ _) nq)⟩
          generalize World.drewN wq nq = wd at *
          go_wp2
          exact ⟨⟨k + 1, _, _, _, _, _, by omega, by go_num, rfl, rfl, HIN⟩, by simp [intOf] <;> omega⟩
        · have hq := sq_false hne
          have HE2 : Hid (ptL (o ++ [y]) ++ setTB X.e ((ptL L).drop (k + 1)) true = setT (ptL L) X.e) := Lib.hid (by have h1 := HEQ0.out; rw [if_neg hne] at h1; rw [ptL_append, List.append_assoc]; exact h1)
          have HOL2 : Hid ((o).length + 1 ≤ 2097216) := Lib.hid (by
            have h1 := setT_length (ptL L) X.e
            rw [← HE2.out, List.length_append, ptL_length, ptL_length, List.length_append, List.length_singleton, HL0.out] at h1
            omega)
          clear hne
          go_upto_region 9 with fail
          go_quiet (fail)
          have HGD := Lib.hid (HGQ.out.later (below_drewN (Below.refl _ _) nq))
          have HBD := Lib.hid (below_step HBQ.out (below_drewN (Below.refl _ _) nq))
          have HLYD := Lib.hid (HLY.out _ HBD.out)
          generalize World.drewN wq nq = wd at *
          go_wp2_with (first
                  | (refine wpList_ld rfl 42 _ rfl _ rfl _ HLYD.out ?_)
                  | (refine wpList_build_tn rfl 22 42 rfl Try.underlying22 y (by rw [HMY.out]; rfl) ?_)
                  | (refine wpList_append_gen encTn rfl _ _ 22 rfl Try.underlying22 tzero 104 infoTn tzero_size (by decide) wB.heap.size _ o rfl (HGD.out.alloc _) _ 1 1 [y] rfl (Gs.oneTn _ y) (fun h => by cases h) HOL2.out (by have h1 := HBD.out.size; rw [World.size_alloc]; omega) ?_; intro v9 w9 ho9 hg9; have HO9 := Lib.hid ho9; have HB9 := Lib.hid (below_appT (HBD.out.alloc HBD.out.size _) (HGD.out.alloc _) (Nat.le_refl _) hg9); obtain ⟨p9, c9, hv9, _⟩ := ho9.open; obtain ⟨m9, hm9⟩ : ∃ x, List.length (o ++ [y]) = x := ⟨_, rfl⟩; rw [hm9] at hv9; subst hv9; clear ho9 hg9 hm9))
          have HIN : Hid (SeT wB w9 L X wB.heap.size (k + 1) true _ (o ++ [y])) := Lib.hid ⟨HO9.out, HE2.out, fun x hx => by
            rcases List.mem_append.1 hx with h1 | h1
            · exact HME0.out x h1
            · rw [List.mem_singleton] at h1
              rw [h1]; exact Or.inl HY.out, HB9.out⟩
          exact ⟨⟨k + 1, _, _, _, _, _, by omega, by go_num, rfl, rfl, HIN⟩, by simp [intOf] <;> omega⟩
      | false =>
        cases lt with
        | true =>
          have HEQ0 : Hid (ptL o ++ ((if ny = nX then [] else [y.e]) ++ setTB X.e ((ptL L).drop (k + 1)) false) = setT (ptL L) X.e) := Lib.hid (by
            have h1 := HI.out.eq
            rw [HSB.out, if_neg (fun h => by cases h.2), List.nil_append] at h1
            exact h1)
          have HME0 := Lib.hid HI.out.me
          go_upto_region 6 with fail
          go_quiet (fail)
          have HGQ := Lib.hid (HGW.out.later (below_drewN (Below.refl _ _) nq))
          have HBQ := Lib.hid (below_step HBL.out (below_drewN (Below.refl _ _) nq))
          clear c0 cX hlt2
          generalize World.drewN wr nq = wq at *
          obtain ⟨d0, dX⟩ := HC.out _ HBQ.out
          by_cases hne : ny = nX
          · have hq := sq_true hne
            have HE2 : Hid (ptL o ++ setTB X.e ((ptL L).drop (k + 1)) false = setT (ptL L) X.e) := Lib.hid (by have h1 := HEQ0.out; rw [if_pos hne, List.nil_append] at h1; exact h1)
            clear hne
            go_upto_region 9 with fail
            go_quiet (fail)
            have HIN : Hid (SeT wB (World.drewN wq nq) L X wB.heap.size (k + 1) false _ o) := Lib.hid ⟨HGQ.out.later (below_drewN (Below.refl _ _) nq), HE2.out, HME0.out, below_step HBQ.out (below_drewN (Below.refl _ _) nq)⟩
            generalize World.drewN wq nq = wd at *
            go_wp2
            exact ⟨⟨k + 1, _, _, _, _, _, by omega, by go_num, rfl, rfl, HIN⟩, by simp [intOf] <;> omega⟩
          · have hq := sq_false hne
            have HE2 : Hid (ptL (o ++ [y]) ++ setTB X.e ((ptL L).drop (k + 1)) false = setT (ptL L) X.e) := Lib.hid (by have h1 := HEQ0.out; rw [if_neg hne] at h1; rw [ptL_append, List.append_assoc]; exact h1)
            have HOL2 : Hid ((o).length + 1 ≤ 2097216) := Lib.hid (by
              have h1 := setT_length (ptL L) X.e
              rw [← HE2.out, List.length_append, ptL_length, ptL_length, List.length_append, List.length_singleton, HL0.out] at h1
              omega)
            clear hne
            go_upto_region 9 with fail
            go_quiet (fail)
            have HGD := Lib.hid (HGQ.out.later (below_drewN (Below.refl _ _) nq))
            have HBD := Lib.hid (below_step HBQ.out (below_drewN (Below.refl _ _) nq))
            have HLYD := Lib.hid (HLY.out _ HBD.out)
            generalize World.drewN wq nq = wd at *
            go_wp2_with (first
                    | (refine wpList_ld rfl 42 _ rfl _ rfl _ HLYD.out ?_)
                    | (refine wpList_build_tn rfl 22 42 rfl Try.underlying22 y (by rw [HMY.out]; rfl) ?_)
                    | (refine wpList_append_gen encTn rfl _ _ 22 rfl Try.underlying22 tzero 104 infoTn tzero_size (by decide) wB.heap.size _ o rfl (HGD.out.alloc _) _ 1 1 [y] rfl (Gs.oneTn _ y) (fun h => by cases h) HOL2.out (by have h1 := HBD.out.size; rw [World.size_alloc]; omega) ?_; intro v9 w9 ho9 hg9; have HO9 := Lib.hid ho9; have HB9 := Lib.hid (below_appT (HBD.out.alloc HBD.out.size _) (HGD.out.alloc _) (Nat.le_refl _) hg9); obtain ⟨p9, c9, hv9, _⟩ := ho9.open; obtain ⟨m9, hm9⟩ : ∃ x, List.length (o ++ [y]) = x := ⟨_, rfl⟩; rw [hm9] at hv9; subst hv9; clear ho9 hg9 hm9))
            have HIN : Hid (SeT wB w9 L X wB.heap.size (k + 1) false _ (o ++ [y])) := Lib.hid ⟨HO9.out, HE2.out, fun x hx => by
              rcases List.mem_append.1 hx with h1 | h1
              · exact HME0.out x h1
              · rw [List.mem_singleton] at h1
                rw [h1]; exact Or.inl HY.out, HB9.out⟩
            exact ⟨⟨k + 1, _, _, _, _, _, by omega, by go_num, rfl, rfl, HIN⟩, by simp [intOf] <;> omega⟩
        | false =>
          have HEQ0 : Hid (ptL (o ++ [X]) ++ ((if ny = nX then [] else [y.e]) ++ setTB X.e ((ptL L).drop (k + 1)) true) = setT (ptL L) X.e) := Lib.hid (by
            have h1 := HI.out.eq
            rw [HSB.out, if_pos ⟨rfl, rfl⟩] at h1
            rw [ptL_append, List.append_assoc]
            exact h1)
          have HOL1 : Hid (o.length + 1 ≤ 2097216) := Lib.hid (by have := HI.out.len; rw [HL0.out] at this; omega)
          have HME1 : Hid (∀ x ∈ o ++ [X], x ∈ L ∨ x = X) := Lib.hid (fun x hx => by
            rcases List.mem_append.1 hx with h1 | h1
            · exact HI.out.me x h1
            · rw [List.mem_singleton] at h1
              exact Or.inr h1)
          go_upto_region 6 with fail
          go_quiet (fail)
          have HGQ := Lib.hid (HGW.out.later (below_drewN (Below.refl _ _) nq))
          have HBQ := Lib.hid (below_step HBL.out (below_drewN (Below.refl _ _) nq))
          have HLXW := Lib.hid (HLX.out _ HBQ.out)
          clear c0 cX hlt2
          generalize World.drewN wr nq = wq at *
          go_upto_region 9 with (first
          | (refine wpList_ld rfl 42 _ rfl _ rfl _ HLXW.out ?_)
          | (refine wpList_build_tn rfl 22 27 rfl Try.underlying22 X (by rw [HME.out]; rfl) ?_)
          | (refine wpList_append_gen encTn rfl _ _ 22 rfl Try.underlying22 tzero 104 infoTn tzero_size (by decide) wB.heap.size _ o rfl (HGQ.out.alloc _) _ 1 1 [X] rfl (Gs.oneTn _ X) (fun h => by cases h) HOL1.out (by have h1 := HBQ.out.size; rw [World.size_alloc]; omega) ?_; intro v8 w8 ho8 hg8; have HO8 := Lib.hid ho8; have HB8 := Lib.hid (below_appT (HBQ.out.alloc HBQ.out.size _) (HGQ.out.alloc _) (Nat.le_refl _) hg8); obtain ⟨p8, c8, hv8, _⟩ := ho8.open; obtain ⟨m8, hm8⟩ : ∃ x, List.length (o ++ [X]) = x := ⟨_, rfl⟩; rw [hm8] at hv8; subst hv8; clear ho8 hg8 hm8))
          obtain ⟨d0, dX⟩ := HC.out _ HB8.out
          by_cases hne : ny = nX
          · have hq := sq_true hne
            have HE2 : Hid (ptL (o ++ [X]) ++ setTB X.e ((ptL L).drop (k + 1)) true = setT (ptL L) X.e) := Lib.hid (by have h1 := HEQ0.out; rw [if_pos hne, List.nil_append] at h1; exact h1)
            clear hne
            go_quiet (fail)
            have HIN : Hid (SeT wB (World.drewN w8 nq) L X wB.heap.size (k + 1) true _ (o ++ [X])) := Lib.hid ⟨HO8.out.later (below_drewN (Below.refl _ _) nq), HE2.out, HME1.out, below_step HB8.out (below_drewN (Below.refl _ _) nq)⟩
            generalize World.drewN w8 nq = wd at *
            go_wp2
            exact ⟨⟨k + 1, _, _, _, _, _, by omega, by go_num, rfl, rfl, HIN⟩, by simp [intOf] <;> omega⟩
          · have hq := sq_false hne
            have HE2 : Hid (ptL ((o ++ [X]) ++ [y]) ++ setTB X.e ((ptL L).drop (k + 1)) true = setT (ptL L) X.e) := Lib.hid (by have h1 := HEQ0.out; rw [if_neg hne] at h1; rw [ptL_append, List.append_assoc]; exact h1)
            have HOL2 : Hid (((o ++ [X])).length + 1 ≤ 2097216) := Lib.hid (by
              have h1 := setT_length (ptL L) X.e
              rw [← HE2.out, List.length_append, ptL_length, ptL_length, List.length_append, List.length_singleton, HL0.out] at h1
              omega)
            clear hne
            go_quiet (fail)
            have HGD := Lib.hid (HO8.out.later (below_drewN (Below.refl _ _) nq))
            have HBD := Lib.hid (below_step HB8.out (below_drewN (Below.refl _ _) nq))
            have HLYD := Lib.hid (HLY.out _ HBD.out)
            generalize World.drewN w8 nq = wd at *
            go_wp2_with (first
                    | (refine wpList_ld rfl 42 _ rfl _ rfl _ HLYD.out ?_)
                    | (refine wpList_build_tn rfl 22 42 rfl Try.underlying22 y (by rw [HMY.out]; rfl) ?_)
                    | (refine wpList_append_gen encTn rfl _ _ 22 rfl Try.underlying22 tzero 104 infoTn tzero_size (by decide) wB.heap.size _ (o ++ [X]) rfl (HGD.out.alloc _) _ 1 1 [y] rfl (Gs.oneTn _ y) (fun h => by cases h) HOL2.out (by have h1 := HBD.out.size; rw [World.size_alloc]; omega) ?_; intro v9 w9 ho9 hg9; have HO9 := Lib.hid ho9; have HB9 := Lib.hid (below_appT (HBD.out.alloc HBD.out.size _) (HGD.out.alloc _) (Nat.le_refl _) hg9); obtain ⟨p9, c9, hv9, _⟩ := ho9.open; obtain ⟨m9, hm9⟩ : ∃ x, List.length ((o ++ [X]) ++ [y]) = x := ⟨_, rfl⟩; rw [hm9] at hv9; subst hv9; clear ho9 hg9 hm9))
            have HIN : Hid (SeT wB w9 L X wB.heap.size (k + 1) true _ ((o ++ [X]) ++ [y])) := Lib.hid ⟨HO9.out, HE2.out, fun x hx => by
              rcases List.mem_append.1 hx with h1 | h1
              · exact HME1.out x h1
              · rw [List.mem_singleton] at h1
                rw [h1]; exact Or.inl HY.out, HB9.out⟩
            exact ⟨⟨k + 1, _, _, _, _, _, by omega, by go_num, rfl, rfl, HIN⟩, by simp [intOf] <;> omega⟩
    · obtain rfl : k = n := by omega
      have HO : Hid (ptL o ++ (if tb then [] else [X.e]) = setT (ptL L) X.e) := Lib.hid (by
        have h1 := HI.out.eq
        rw [List.drop_of_length_le (by rw [HLL.out]; exact Nat.le_refl _)] at h1
        exact h1)
      have HOL : Hid (o.length + 1 ≤ 2097216) := Lib.hid (by have := HI.out.len; rw [HL0.out] at this; omega)
      have HLXW := Lib.hid (HLX.out wr HI.out.le)
      cases tb with
      | true =>
        go_wp2
        go_ret
        refine ⟨_, o, rfl, by simpa using HO.out, HI.out.gw.mono HB.out.size, HI.out.me, below_step HB.out HI.out.le⟩
      | false =>
        go_wp2_with (first
          | (refine wpList_ld rfl 42 _ rfl _ rfl _ HLXW.out ?_)
          | (refine wpList_build_tn rfl 22 48 rfl Try.underlying22 X (by rw [HME.out]; rfl) ?_)
          | (refine wpList_append_gen encTn rfl _ _ 22 rfl Try.underlying22 tzero 104 infoTn tzero_size (by decide) wB.heap.size _ o rfl (HI.out.gw.alloc _) _ 1 1 [X] rfl (Gs.oneTn _ X) (fun h => by cases h) HOL.out (by have h1 := HI.out.le.size; rw [World.size_alloc]; omega) ?_; intro v8 w8 ho8 hg8; have HO8 := Lib.hid ho8; have HB8 := Lib.hid (below_appT (HI.out.le.alloc HI.out.le.size (.cells (tnC X.e X.s) 42)) (HI.out.gw.alloc _) (Nat.le_refl _) hg8); clear ho8 hg8))
        go_ret
        refine ⟨_, o ++ [X], rfl, ?_, HO8.out.mono HB.out.size, fun x hx => ?_, below_step HB.out HB8.out⟩
        · rw [ptL_append, show ptL [X] = [X.e] from rfl]
          simpa using HO.out
        · rcases List.mem_append.1 hx with h1 | h1
          · exact HI.out.me x h1
          · rw [List.mem_singleton] at h1
            exact Or.inr h1
set_option maxRecDepth 100000 in
set_option maxHeartbeats 1000000 in
theorem rnew21_any (p : Option Addr) (n c : Nat) (L : List Tx) (w : World) (h : Gs encTn w p n L) (hn : n ≤ 2097152) :
    Calls Try.prog 7 #[.slice p n c] w fun e w' => NewTQ w L e w' := by
  have H := Lib.hid h
  have HLL : Hid ((ptL L).length = n) := Lib.hid (by rw [ptL_length, h.len])
  have HS := Lib.hid fun (q : Option Addr) (m d : Nat) (M : List Tx) (X : Tx) W (hW : Gs encTn W q m M) (hm : m ≤ 2097152) => rset21_any q m d M X W hW hm
  clear h
  go_enter Try.func7, Try.ntmps7
  go_wp2
  go_loopw [3, 4] (fun v j wr => ∃ (k : Nat) (q : Option Addr) (m d : Nat) (o : List Tx), k ≤ n ∧ j = .int .i64 (k : Int) ∧ v = .slice q m d ∧ Hid (ptL o = newT ((ptL L).take k)) ∧ Hid (Gw encTn wr w.heap.size (.slice q m d) o) ∧ Hid (∀ x ∈ o, x ∈ L) ∧ Hid (Below w.heap.size w wr)) (fun _ j _ => n - (intOf j).toNat)
  case atStart => exact ⟨0, none, 0, 0, [], by omega, rfl, rfl, Lib.hid rfl, Lib.hid (Gw.nil _ _ _), Lib.hid (fun x hx => by cases hx), Lib.hid (Below.refl _ _)⟩
  case round =>
    obtain ⟨k, q, m, d, o, hkn, rfl, rfl, HE, HO, HM, HB⟩ := hrel
    by_cases hlt : k < n
    · obtain ⟨b1, off, y, rfl, hy1, hy3, hr⟩ := (H.out.later HB.out).tn k hlt
      have HY := Lib.hid hy3
      have hmm : m ≤ 2097152 := by
        have h1 := newT_length ((ptL L).take k)
        rw [← HE.out, ptL_length, HO.out.len, List.length_take, HLL.out] at h1
        omega
      have HSC := Lib.hid (HS.out q m d o y wr HO.out.gs hmm)
      have HLY := Lib.hid (tn_load hr)
      have HT : Hid (setT (ptL o) y.e = newT ((ptL L).take (k + 1))) := Lib.hid (by
        obtain ⟨h2, h3⟩ := List.getElem?_eq_some_iff.1 (ptL_get hy1)
        rw [List.take_succ_eq_append_getElem h2, h3, newT_snoc, HE.out])
      have hki : (k : Int) < (n : Int) := by omega
      have hk0 : (0 : Int) ≤ (k : Int) := by omega
      unfold tnV at HSC
      generalize tnC y.e y.s = MY at *
      clear hr hy1 hy3 hmm
      go_wp2_with (first
        | (refine wpList_ld rfl 42 _ rfl _ rfl _ HLY.out ?_)
        | (go_at_call 26; refine HSC.out.mono ?_; rintro e w2 ⟨v2, o2, rfl, he2, ho2, hm2, hb2⟩; obtain ⟨q2, d2, hv2, _⟩ := ho2.open; obtain ⟨n2, hn2⟩ : ∃ x, o2.length = x := ⟨_, rfl⟩; rw [hn2] at hv2; subst hv2; have HE2 := Lib.hid (he2.trans HT.out); have HO2 := Lib.hid (ho2.mono HB.out.size); have HM2 : Hid (∀ x ∈ o2, x ∈ L) := (Lib.hid (fun x hx => (hm2 x hx).elim (HM.out x) (fun h => by rw [h]; exact HY.out))); have HB2 := Lib.hid (below_step HB.out hb2); clear he2 ho2 hm2 hb2 hn2))
      exact ⟨⟨k + 1, q2, n2, d2, o2, by omega, by go_num, rfl, HE2, HO2, HM2, HB2⟩, by simp [intOf] <;> omega⟩
    · obtain rfl : k = n := by omega
      have HF : Hid (ptL o = newT (ptL L)) := Lib.hid (by have h1 := HE.out; rwa [List.take_of_length_le (by rw [HLL.out]; exact Nat.le_refl _)] at h1)
      go_wp2
      go_ret
      exact ⟨_, o, rfl, HF.out, HO.out, HM.out, HB.out⟩
end Go.Proofs.Ytieednadbcghjaa

namespace Go.Proofs.Ytieednadbcghjaa
set_option linter.unusedVariables false
open Go.RowKit Go.Lib

/-- a row of numbers of the call's own outlives an append to a row of names' entries of its own -/
theorem Gw.besideTn {W W' : World} {B B' : Nat} {s v : Value} {I : List Int} {o : List Tx} (h : Gw encI W B s I) (hv : Gw encTn W B' v o) (hg : W.grownBy W' v.ownBlock) : Gw encI W' B s I := by
  refine h.kept hg fun b hb e => ?_
  obtain ⟨_, h2⟩ := h
  obtain ⟨_, h3⟩ := hv
  rcases h2 with ⟨h4, _⟩ | ⟨g, cap, cur, h4, _, h5, _⟩
  · rw [h4] at hb; cases hb
  · rcases h3 with ⟨h6, _⟩ | ⟨g', cap', cur', h6, _, h7, _⟩
    · rw [h6] at e; cases e
    · rw [h4] at hb
      rw [h6] at e
      simp only [Value.ownBlock, Option.some.injEq] at hb e
      subst hb
      subst e
      rw [h5] at h7
      simp only [Option.some.injEq, Obj.cells.injEq] at h7
      exact absurd h7.2.1 (by decide)
theorem keepTs_take {L : List Pt} {k : Nat} {x : Pt} (h : L[k]? = some x) (b : List Int) : keepTs (L.take (k + 1)) b = keepTs (L.take k) b ++ if (keepT x b).2 then [(keepT x b).1] else [] := by
  obtain ⟨h2, h3⟩ := List.getElem?_eq_some_iff.1 h
  rw [List.take_succ_eq_append_getElem h2, h3]
  unfold keepTs
  rw [List.flatMap_append]
  simp
theorem keepT_dok21 {e : Pt} (h : dok e.dg) (B : List Int) : dok (keepT e B).1.dg := by
  unfold keepT
  split
  · exact h
  · split
    · exact dz32_ok
    · exact dz32_ok
theorem gwTn_open {W : World} {B : Nat} {v : Value} {o : List Tx} (h : Gw encTn W B v o) : ∃ q d, v = .slice q o.length d ∧ o.length ≤ d ∧ d ≤ maxLen ∧ (q = none → d = 0) ∧ ∀ b off, q = some ⟨b, off, none⟩ → B ≤ b := by
  obtain ⟨_, h2⟩ := h
  rcases h2 with ⟨h4, h0⟩ | ⟨g, cap, cur, h4, hB, _, hn, hm, _⟩
  · exact ⟨none, 0, by rw [h4, h0], by omega, by unfold maxLen; decide, fun _ => rfl, (fun b off e => by cases e)⟩
  · refine ⟨_, cap, h4, hn, hm, (fun e => by cases e), fun b off e => ?_⟩
    simp only [Option.some.injEq, Addr.mk.injEq] at e
    omega
def KepTQ (w : World) (L : List Tx) (B : List Int) (e : Ending) (w' : World) : Prop := ∃ v o, e = .returned v ∧ ptL o = keepTs (ptL L) B ∧ Gw encTn w' w.heap.size v o ∧ (∀ x ∈ o, dok x.e.dg ∧ Gw encI w' w.heap.size x.s x.e.ins) ∧ Below w.heap.size w w'
set_option maxRecDepth 100000 in
set_option maxHeartbeats 2000000 in
theorem rkeep21_any (p : Option Addr) (n c : Nat) (L : List Tx) (p2 : Option Addr) (m2 c2 : Nat) (B : List Int) (w : World) (h : Gs encTn w p n L) (hi : ∀ x ∈ L, Is w x.s x.e.ins) (hk : ∀ x ∈ L, dok x.e.dg) (hb : ∀ x ∈ L, x.e.ins.length ≤ 2097152) (hs2 : Gs encI w p2 m2 B) (hm2 : m2 ≤ 2097152) (hn : n ≤ 2097152) :
    Calls Try.prog 11 #[.slice p n c, .slice p2 m2 c2] w fun e w' => KepTQ w L B e w' := by
  have H := Lib.hid h
  have HK := Lib.hid hk
  have HLL : Hid ((ptL L).length = n) := Lib.hid (by rw [ptL_length, h.len])
  have HKC := Lib.hid fun (x : Tx) (hx : x ∈ L) W (hW : Below w.heap.size w W) => rkeept19_any x.e x.s p2 m2 c2 B W ((hi x hx).later hW) (hs2.later hW) (hk x hx) (hb x hx) hm2
  clear h hk hi hb hs2
  go_enter Try.func11, Try.ntmps11
  go_wp2
  go_loopw [5, 6] (fun v j wr => ∃ (k : Nat) (q : Option Addr) (m d : Nat) (o : List Tx), k ≤ n ∧ j = .int .i64 (k : Int) ∧ v = .slice q m d ∧ Hid (ptL o = keepTs ((ptL L).take k) B) ∧ Hid (Gw encTn wr w.heap.size (.slice q m d) o) ∧ Hid (∀ x ∈ o, dok x.e.dg ∧ Gw encI wr w.heap.size x.s x.e.ins) ∧ Hid (Below w.heap.size w wr)) (fun _ j _ => n - (intOf j).toNat)
  case atStart => exact ⟨0, none, 0, 0, [], by omega, rfl, rfl, Lib.hid rfl, Lib.hid (Gw.nil _ _ _), Lib.hid (fun x hx => by cases hx), Lib.hid (Below.refl _ _)⟩
  case round =>
    obtain ⟨k, q, m, d, o, hkn, rfl, rfl, HE, HO, HM, HB⟩ := hrel
    by_cases hlt : k < n
    · obtain ⟨b1, off, y, rfl, hy1, hy3, hr⟩ := (H.out.later HB.out).tn k hlt
      have HC := Lib.hid (HKC.out y hy3 wr HB.out)
      have HLY := Lib.hid (tn_load hr)
      have HT := Lib.hid (keepTs_take (ptL_get hy1) B)
      have HYD := Lib.hid (keepT_dok21 (HK.out y hy3) B)
      have HOL : Hid (o.length + 1 ≤ 2097216) := Lib.hid (by
        have h1 := keepTs_length ((ptL L).take k) B
        rw [← HE.out, ptL_length, List.length_take, HLL.out] at h1
        omega)
      have hki : (k : Int) < (n : Int) := by omega
      have hk0 : (0 : Int) ≤ (k : Int) := by omega
      obtain ⟨R, hR⟩ : ∃ R, keepT y.e B = R := ⟨_, rfl⟩
      rw [hR] at HC HT HYD
      obtain ⟨R, ok⟩ := R
      dsimp only at HC HT HYD
      unfold tnV at HC
      generalize tnC y.e y.s = MY at *
      clear hr hy1 hy3 hR
      go_upto_region 6 with (first
        | (refine wpList_ld rfl 42 _ rfl _ rfl _ HLY.out ?_)
        | (go_at_call 32; refine HC.out.mono ?_; rintro e w2 ⟨u2, rfl, hg2, hb2⟩; have HG2 := Lib.hid hg2; have HB2 := Lib.hid hb2; obtain ⟨q2, d2, hv2, _⟩ := hg2.open; subst hv2; clear hg2 hb2)
        | (refine wpList_store_row rfl 42 _ _ rfl w2.heap.size (tnC R _) rfl rfl 42 _ (heap_alloc_new _ _) (tnC_sizeOf R _ HYD.out.1) ((tnC_size zeroT _ rfl).trans (tnC_size R _ HYD.out.1).symm) (tnC_one _ _ _ _) ?_; generalize hv3 : World.setRow _ _ _ = w3))
      obtain ⟨he3, hb3⟩ := tnC_lay rfl hv3
      obtain ⟨g3, hg3⟩ : ∃ g, w2.heap.size = g := ⟨_, rfl⟩
      rw [hg3] at he3
      rw [hg3]
      obtain ⟨X, hX⟩ : ∃ X : Tx, X = ⟨R, q2, d2, HYD.out.1⟩ := ⟨_, rfl⟩
      have HXG : Hid (Gw encI w3 w.heap.size X.s X.e.ins) := Lib.hid (by rw [hX]; exact (HG2.out.later hb3).mono HB.out.size)
      have HXE : Hid (X.e = R) := Lib.hid (by rw [hX])
      have HXC : Hid (tnC R (.slice q2 R.ins.length d2) = tnC X.e X.s) := Lib.hid (by rw [hX]; rfl)
      have HO3 := Lib.hid (HO.out.later (below_step HB2.out hb3))
      have HM3 : Hid (∀ x ∈ o, dok x.e.dg ∧ Gw encI w3 w.heap.size x.s x.e.ins) := Lib.hid fun x hx => ⟨(HM.out x hx).1, (HM.out x hx).2.later (below_step HB2.out hb3)⟩
      have HB3 := Lib.hid (below_step HB.out (below_step HB2.out hb3))
      have HLV := Lib.hid (he3.load HYD.out.1)
      rw [HXC.out] at HLV
      clear he3 hb3 hv3 hg3 hX
      cases ok with
      | true =>
        have HE2 : Hid (ptL (o ++ [X]) = keepTs ((ptL L).take (k + 1)) B) := Lib.hid (by rw [HT.out, if_pos rfl, ptL_append, HE.out, ← HXE.out]; rfl)
        go_wp2_with (first
          | (refine wpList_ld rfl 42 _ rfl _ rfl _ HLV.out ?_)
          | (refine wpList_build_tn rfl 22 26 rfl Try.underlying22 X rfl ?_)
          | (refine wpList_append_gen encTn rfl _ _ 22 rfl Try.underlying22 tzero 104 infoTn tzero_size (by decide) w.heap.size _ o rfl (HO3.out.alloc _) _ 1 1 [X] rfl (Gs.oneTn _ X) (fun h => by cases h) HOL.out (by have h1 := HB3.out.size; rw [World.size_alloc]; omega) ?_; intro v8 w8 ho8 hg8; obtain ⟨p8, c8, hv8, _⟩ := ho8.open; obtain ⟨m8, hm8⟩ : ∃ x, (o ++ [X]).length = x := ⟨_, rfl⟩; rw [hm8] at hv8; subst hv8; have HO8 := Lib.hid ho8; have HB8 := Lib.hid (below_appT (HB3.out.alloc HB3.out.size (.cells (tnC X.e X.s) 42)) (HO3.out.alloc _) (Nat.le_refl _) hg8); have HM8 : Hid (∀ x ∈ o ++ [X], dok x.e.dg ∧ Gw encI w8 w.heap.size x.s x.e.ins) := (Lib.hid (fun x hx => (List.mem_append.1 hx).elim (fun h => ⟨(HM3.out x h).1, ((HM3.out x h).2.alloc _).besideTn (HO3.out.alloc _) hg8⟩) (fun h => (List.mem_singleton.1 h) ▸ ⟨(by rw [HXE.out]; exact HYD.out), (HXG.out.alloc _).besideTn (HO3.out.alloc _) hg8⟩))); clear ho8 hg8 hm8))
        exact ⟨⟨k + 1, p8, m8, c8, o ++ [X], by omega, by go_num, rfl, HE2, HO8, HM8, HB8⟩, by simp [intOf] <;> omega⟩
      | false =>
        have HE2 : Hid (ptL o = keepTs ((ptL L).take (k + 1)) B) := Lib.hid (by rw [HT.out, HE.out]; simp)
        go_wp2
        exact ⟨⟨k + 1, q, m, d, o, by omega, by go_num, rfl, HE2, HO3, HM3, HB3⟩, by simp [intOf] <;> omega⟩
    · obtain rfl : k = n := by omega
      have HF : Hid (ptL o = keepTs (ptL L) B) := Lib.hid (by have h1 := HE.out; rwa [List.take_of_length_le (by rw [HLL.out]; exact Nat.le_refl _)] at h1)
      go_wp2
      go_ret
      exact ⟨_, o, rfl, HF.out, HO.out, HM.out, HB.out⟩
/-- what Apply answers: the same row, or one of its own -/
def AppTQ (w : World) (p : Option Addr) (n c : Nat) (L : List Tx) (x : Wq) (e : Ending) (w' : World) : Prop :=
  ∃ q m d o, e = .returned (.slice q m d) ∧ ptL o = applyT (ptL L) x ∧ Gs encTn w' q m o ∧ ((q = p ∧ m = n) ∨ ∀ b off, q = some ⟨b, off, none⟩ → w.heap.size ≤ b) ∧ (∀ y ∈ o, y ∈ L ∨ dok y.e.dg ∧ Gw encI w' w.heap.size y.s y.e.ins) ∧ (q = none → d = 0 ∨ q = p ∧ d = c) ∧ Below w.heap.size w w'
set_option maxRecDepth 100000 in
set_option maxHeartbeats 2000000 in
theorem rapply21_any (p : Option Addr) (n c : Nat) (L : List Tx) (x : Wq) (w : World) (h : Gs encTn w p n L) (hi : ∀ y ∈ L, Is w y.s y.e.ins) (hk : ∀ y ∈ L, dok y.e.dg) (hb : ∀ y ∈ L, y.e.ins.length ≤ 2097151) (hx : dok x.dg) (hn : n ≤ 2097152) :
    Calls Try.prog 9 #[.slice p n c, x.v] w fun e w' => AppTQ w p n c L x e w' := by
  obtain ⟨wB, hwB⟩ : ∃ W, w.alloc (.cells (mixC x.a x.dg x.t) 33) = W := ⟨_, rfl⟩
  have hbB : Below w.heap.size w wB := by rw [← hwB]; exact (Below.refl _ _).alloc (Nat.le_refl _) _
  have hmW : Wm wB w.heap.size x := by rw [← hwB]; exact heap_alloc_new _ _
  have HB := Lib.hid hbB
  have HLW := Lib.hid fun W (hW : Below wB.heap.size wB W) => (hmW.later hW).load hx.1
  have HCW := Lib.hid fun W (hW : Below wB.heap.size wB W) => (hmW.later hW).cells5 hx.1
  have H := Lib.hid fun W (hW : Below wB.heap.size wB W) => (h.later hbB).later hW
  have HI := Lib.hid fun W (hW : Below wB.heap.size wB W) y (hy : y ∈ L) => ((hi y hy).later hbB).later hW
  have HK := Lib.hid hk
  have HBD := Lib.hid hb
  have HXD := Lib.hid hx
  have HG := Lib.hid (rget21_any p n c L x.nm wB (h.later hbB) hn)
  have HA : Hid (applyT (ptL L) x = _) := Lib.hid (by unfold applyT; rfl)
  have HDR : Hid (dok (getTR (ptL L) x.nm).1.dg) := Lib.hid (by
    unfold getTR
    cases hge : getT (ptL L) x.nm with
    | none => exact dz32_ok
    | some z =>
      obtain ⟨y, hy, e⟩ := List.mem_map.1 (getT_mem hge).1
      show dok z.dg
      rw [← e]
      exact hk y hy)
  have HIR : Hid ((getTR (ptL L) x.nm).1.ins.length ≤ 2097151) := Lib.hid (getTR_ins (k := 2097151) (fun z hz => by
    obtain ⟨y, hy, e⟩ := List.mem_map.1 hz
    rw [← e]
    exact hb y hy) x.nm)
  obtain ⟨R, hR⟩ : ∃ R, getTR (ptL L) x.nm = R := ⟨_, rfl⟩
  rw [hR] at HG HA HDR HIR
  obtain ⟨R, ok⟩ := R
  dsimp only at HA HDR HIR
  unfold Wq.v
  generalize hMX : mixC x.a x.dg x.t = MX at *
  have HMX := Lib.hid hMX
  clear h hi hk hb hx hbB hmW hR hMX
  obtain ⟨_, xn, _, _⟩ := HCW.out wB (Below.refl _ _)
  go_enter Try.func9, Try.ntmps9
  go_upto_region 2 with (first
    | (go_at_call 13; refine HG.out.mono ?_; rintro e w2 ⟨u2, rfl, ho2, hb2⟩; have HO2 := Lib.hid ho2; have u2is : ∃ (q : Option Addr) (n d : Nat), u2 = .slice q n d := ho2.elim (fun ⟨y, _, _, h⟩ => ⟨_, _, _, h⟩) (fun h => ⟨_, _, _, h.1⟩); obtain ⟨uq, un, ud, hu2⟩ := u2is; subst hu2; have HB2 := Lib.hid hb2; clear ho2 hb2)
    | (refine wpList_store_row rfl 42 _ _ rfl w2.heap.size (tnC R (.slice uq un ud)) rfl rfl 42 _ (heap_alloc_new _ _) (tnC_sizeOf R _ HDR.out.1) ((tnC_size zeroT _ rfl).trans (tnC_size R _ HDR.out.1).symm) (tnC_one _ _ _ _) ?_; generalize hv3 : World.setRow _ _ _ = w3))
  obtain ⟨he3, hb3⟩ := tnC_lay rfl hv3
  obtain ⟨g3, hg3⟩ : ∃ g, w2.heap.size = g := ⟨_, rfl⟩
  rw [hg3] at he3
  rw [hg3]
  have HI2 : Hid (Is w3 (.slice uq un ud) R.ins) := Lib.hid (by
    rcases HO2.out with ⟨y, hy, h1, h2⟩ | ⟨h1, h2⟩
    · have h3 := HI.out w3 (below_step HB2.out hb3) y hy
      rw [h1, ← h2] at h3
      exact h3
    · have h3 := Is.nil w3
      have h4 : R = zeroT := h2
      rw [h1, h4]
      exact h3)
  have HB3 := Lib.hid (below_step HB2.out hb3)
  have HLV := Lib.hid fun W (hW : Below w3.heap.size w3 W) => (he3.later hW).load HDR.out.1
  have HLX := Lib.hid (HLW.out w3 HB3.out)
  obtain ⟨x0, _, _, _⟩ := HCW.out w3 HB3.out
  have HPU := Lib.hid (rtag19_any R (.slice uq un ud) x w3 HI2.out HDR.out HXD.out (by have := HIR.out; omega))
  have HDE := Lib.hid (runt19_any R (.slice uq un ud) x w3 HI2.out HDR.out HXD.out (by have := HIR.out; omega))
  have HST := Lib.hid fun (X : Tx) W (hW : Below w3.heap.size w3 W) (hX : dok X.e.dg) => rset21_any p n c L X W (H.out W (below_step HB3.out hW)) hn
  have HLV3 := Lib.hid (HLV.out w3 (Below.refl _ _))
  unfold tnV Wq.v at HPU HDE
  rw [HMX.out] at HPU HDE
  generalize tnC R (.slice uq un ud) = MR at *
  clear he3 hb3 hv3 hg3 xn
  by_cases h3 : x.k = 3
  · have HAP : Hid (applyT (ptL L) x = setT (ptL L) (tagT R x)) := Lib.hid (by rw [HA.out, if_pos h3])
    have ht1 : (x.k == 3) = true := by simpa using h3
    clear h3
    go_wp2_with (first
      | (refine wpList_ld rfl 42 _ rfl _ rfl _ HLV3.out ?_)
      | (refine wpList_ld rfl 33 _ rfl _ rfl _ HLX.out ?_)
      | (go_at_call 29; refine HPU.out.mono ?_; rintro e w4 ⟨u4, rfl, hg4, hb4⟩; obtain ⟨X, hX1, hX2, _⟩ := hg4.is.tx (e := tagT R x) (HXD.out).1; have HG4 := Lib.hid hg4; have HB4 := Lib.hid hb4; have HX1 := Lib.hid hX1; have HX2 := Lib.hid hX2; have HSC := (Lib.hid (HST.out X w4 hb4 (by rw [hX1]; exact HXD.out))); rw [show tnV X.e X.s = tnV (tagT R x) u4 by rw [hX1, hX2]] at HSC; unfold tnV at HSC; clear hg4 hb4 hX1 hX2)
      | (go_at_call 26; refine HSC.out.mono ?_; rintro e w5 ⟨v5, o5, rfl, he5, ho5, hm5, hb5⟩; have HO5 := Lib.hid ho5; have HE5 := Lib.hid he5; have HM5 := Lib.hid hm5; have HB5 := Lib.hid hb5; clear he5 ho5 hm5 hb5))
    go_ret
    have hB05 : Below w.heap.size w w4 := below_step HB.out (below_step HB3.out HB4.out)
    obtain ⟨q5, d5, hv5, _, _, hp5, hbl5⟩ := gwTn_open HO5.out
    subst hv5
    exact ⟨q5, o5.length, d5, o5, rfl, by rw [HE5.out, HX1.out, HAP.out], HO5.out.gs, Or.inr (fun b off e => Nat.le_trans hB05.size (hbl5 b off e)), fun y hy => (HM5.out y hy).elim Or.inl (fun h => Or.inr (by rw [h, HX1.out, HX2.out]; exact ⟨HXD.out, (HG4.out.later HB5.out).mono (Nat.le_trans HB.out.size (below_step HB3.out (Below.refl _ _)).size)⟩)), fun h => Or.inl (hp5 h), below_step hB05 HB5.out⟩
  · have ht1 : (x.k == 3) = false := by simpa using h3
    rw [if_neg h3] at HA
    clear h3
    have hend : ¬ (x.k = 4 ∧ ok = true) → Hid (AppTQ w p n c L x (.returned (.slice p n c)) w3) := fun hno => Lib.hid ⟨p, n, c, L, rfl, by rw [HA.out, if_neg hno], H.out w3 HB3.out, Or.inl ⟨rfl, rfl⟩, fun y hy => Or.inl hy, fun _ => Or.inr ⟨rfl, rfl⟩, below_step HB.out HB3.out⟩
    by_cases h5 : x.k = 4
    · have ht5 : (x.k == 4) = true := by simpa using h5
      cases ok with
      | true =>
        have HAP : Hid (applyT (ptL L) x = setT (ptL L) (untT R x)) := Lib.hid (by rw [HA.out, if_pos ⟨h5, rfl⟩])
        clear h5 hend
        go_wp2_with (first
          | (refine wpList_ld rfl 42 _ rfl _ rfl _ HLV3.out ?_)
          | (refine wpList_ld rfl 33 _ rfl _ rfl _ HLX.out ?_)
          | (go_at_call 30; refine HDE.out.mono ?_; rintro e w4 ⟨u4, rfl, hg4, hb4⟩; obtain ⟨X, hX1, hX2, _⟩ := hg4.is.tx (e := untT R x) (dz32_ok).1; have HG4 := Lib.hid hg4; have HB4 := Lib.hid hb4; have HX1 := Lib.hid hX1; have HX2 := Lib.hid hX2; have HSC := (Lib.hid (HST.out X w4 hb4 (by rw [hX1]; exact dz32_ok))); rw [show tnV X.e X.s = tnV (untT R x) u4 by rw [hX1, hX2]] at HSC; unfold tnV at HSC; clear hg4 hb4 hX1 hX2)
          | (go_at_call 26; refine HSC.out.mono ?_; rintro e w5 ⟨v5, o5, rfl, he5, ho5, hm5, hb5⟩; have HO5 := Lib.hid ho5; have HE5 := Lib.hid he5; have HM5 := Lib.hid hm5; have HB5 := Lib.hid hb5; clear he5 ho5 hm5 hb5))
        go_ret
        have hB05 : Below w.heap.size w w4 := below_step HB.out (below_step HB3.out HB4.out)
        obtain ⟨q5, d5, hv5, _, _, hp5, hbl5⟩ := gwTn_open HO5.out
        subst hv5
        exact ⟨q5, o5.length, d5, o5, rfl, by rw [HE5.out, HX1.out, HAP.out], HO5.out.gs, Or.inr (fun b off e => Nat.le_trans hB05.size (hbl5 b off e)), fun y hy => (HM5.out y hy).elim Or.inl (fun h => Or.inr (by rw [h, HX1.out, HX2.out]; exact ⟨dz32_ok, (HG4.out.later HB5.out).mono (Nat.le_trans HB.out.size (below_step HB3.out (Below.refl _ _)).size)⟩)), fun h => Or.inl (hp5 h), below_step hB05 HB5.out⟩
      | false =>
        have HEND := hend (fun h => by cases h.2)
        clear h5 hend
        go_wp2
        go_ret
        exact HEND.out
    · have ht5 : (x.k == 4) = false := by simpa using h5
      have HEND := hend (fun h => h5 h.1)
      clear h5 hend
      go_wp2
      go_ret
      exact HEND.out
end Go.Proofs.Ytieednadbcghjaa
