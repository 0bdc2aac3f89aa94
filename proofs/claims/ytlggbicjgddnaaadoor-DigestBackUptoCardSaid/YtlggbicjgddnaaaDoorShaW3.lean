/- The walk of mixed. -/
import Derived.Test.YtlggbicjgddnaaaDoorShaW2
namespace Go.Proofs.YtlggbicjgddnaaaDoor
set_option linter.unusedVariables false
open Go.RowKit Go.Lib

/-- the constants lie where they do -/
def Kw (w : World) : Prop := ∀ j, j < 64 → w.cell? ⟨1, j, none⟩ = some (.int .u32 ((kS.getD j 0 : Nat) : Int))
theorem Kw.later {w w' : World} {B : Nat} (h : Kw w) (hb : Below B w w') (hB : 1 < B) : Kw w' := fun j hj => by rw [hb.cell (by exact hB)]; exact h j hj
theorem Kw.pos {w : World} (h : Kw w) : 1 < w.heap.size := World.block_lt_of_cell? w _ (h 0 (by decide))

theorem size8w : (Tryd.prog.info? 80).map (·.size) = some 8 := by kernel_rfl
theorem St.list_length (s : St) : s.list.length = 8 := rfl
theorem bigS1_q (x : Nat) (w : World) (hx : x < 4294967296) : Calls Tryd.prog 66 #[.int .u32 (x : Int)] w fun e w' => e = .returned (.int .u32 ((sS1 x : Nat) : Int)) ∧ w' = w := (bigS1_any x w hx).mono fun _ _ ⟨h1, h2⟩ => ⟨h1, h2.symm⟩
theorem bigS0_q (x : Nat) (w : World) (hx : x < 4294967296) : Calls Tryd.prog 67 #[.int .u32 (x : Int)] w fun e w' => e = .returned (.int .u32 ((sS0 x : Nat) : Int)) ∧ w' = w := (bigS0_any x w hx).mono fun _ _ ⟨h1, h2⟩ => ⟨h1, h2.symm⟩

theorem lay_row {w1 w2 : World} {old : Array Value} {t : TypeId} {l : List Nat} (h : (w1.alloc (.cells old t)).setRow w1.heap.size (ucs l) = w2) : w2.heap.size = w1.heap.size + 1 ∧ Uw w2 w1.heap.size t l ∧ Below w1.heap.size w1 w2 := by
  subst h
  refine ⟨by simp, setRow_heap _ _ _ _ _ _ (heap_alloc_new _ _), below_setRow ((Below.refl _ _).alloc (Nat.le_refl _) _) _ _ (Nat.le_refl _)⟩

theorem eight {we : World} {V : Nat} {t : TypeId} {l : List Nat} (hv : Uw we V t l) (hl : l.length = 8) (y7 y6 y5 y4 y3 y2 y1 y0 : Nat) {W : World}
    (hW : W = (((((((we.setCell ⟨V, 7, none⟩ (.int .u32 (y7 : Int))).setCell ⟨V, 6, none⟩ (.int .u32 (y6 : Int))).setCell ⟨V, 5, none⟩ (.int .u32 (y5 : Int))).setCell ⟨V, 4, none⟩ (.int .u32 (y4 : Int))).setCell ⟨V, 3, none⟩ (.int .u32 (y3 : Int))).setCell ⟨V, 2, none⟩ (.int .u32 (y2 : Int))).setCell ⟨V, 1, none⟩ (.int .u32 (y1 : Int))).setCell ⟨V, 0, none⟩ (.int .u32 (y0 : Int))) :
    Uw W V t [y0, y1, y2, y3, y4, y5, y6, y7] ∧ (∀ b t' l', b ≠ V → Uw we b t' l' → Uw W b t' l') ∧ (∀ B w0, B ≤ V → Below B w0 we → Below B w0 W) := by
  subst hW
  refine ⟨?_, fun b t' l' hb h => ?_, fun B w0 hB h => ?_⟩
  · have h1 := (((((((hv.set 7 y7).set 6 y6).set 5 y5).set 4 y4).set 3 y3).set 2 y2).set 1 y1).set 0 y0
    match l, hl with
    | [a, b, c, d, e, f, g, h], _ => exact h1
  · exact (((((((h.other _ _ hb).other _ _ hb).other _ _ hb).other _ _ hb).other _ _ hb).other _ _ hb).other _ _ hb).other _ _ hb
  · exact (((((((h.setCell (p := ⟨V, 7, none⟩) hB _).setCell (p := ⟨V, 6, none⟩) hB _).setCell (p := ⟨V, 5, none⟩) hB _).setCell (p := ⟨V, 4, none⟩) hB _).setCell (p := ⟨V, 3, none⟩) hB _).setCell (p := ⟨V, 2, none⟩) hB _).setCell (p := ⟨V, 1, none⟩) hB _).setCell (p := ⟨V, 0, none⟩) hB _
theorem plus_set (x s : St) (k : Nat) (hk : k < 8) : ((x.plus s).list.take k ++ x.list.drop k).set k ((x.list.getD k 0 + s.list.getD k 0) % 4294967296) = (x.plus s).list.take (k + 1) ++ x.list.drop (k + 1) := by
  match k, hk with
  | 0, _ => rfl
  | 1, _ => rfl
  | 2, _ => rfl
  | 3, _ => rfl
  | 4, _ => rfl
  | 5, _ => rfl
  | 6, _ => rfl
  | 7, _ => rfl
theorem plus_get (x s : St) (k : Nat) (hk : k < 8) : ((x.plus s).list.take k ++ x.list.drop k).getD k 0 = x.list.getD k 0 := by
  match k, hk with
  | 0, _ => rfl
  | 1, _ => rfl
  | 2, _ => rfl
  | 3, _ => rfl
  | 4, _ => rfl
  | 5, _ => rfl
  | 6, _ => rfl
  | 7, _ => rfl
theorem plus_len (x s : St) (k : Nat) (hk : k ≤ 8) : ((x.plus s).list.take k ++ x.list.drop k).length = 8 := by
  simp [St.list_length]; omega

theorem not_nums (x : Nat) (h : x < 4294967296) : bits BinOp.xor IntKind.u32 IntKind.u32.max (x : Int) = ((4294967295 - x : Nat) : Int) := by
  have e1 : BitVec.ofInt 32 IntKind.u32.max = BitVec.allOnes 32 := by decide
  show IntKind.u32.wrap ((BitVec.ofInt 32 IntKind.u32.max ^^^ BitVec.ofInt 32 (x : Int)).toNat : Int) = _
  rw [e1, BitVec.allOnes_xor, BitVec.toNat_not, ofInt_u32 x h, IntKind.wrap_u32']
  omega
theorem sch1_nums (e f g : Nat) (be : e < 4294967296) (bf : f < 4294967296) (bg : g < 4294967296) : bits BinOp.xor IntKind.u32 (bits BinOp.and IntKind.u32 (e : Int) (f : Int)) (bits BinOp.and IntKind.u32 (bits BinOp.xor IntKind.u32 IntKind.u32.max (e : Int)) (g : Int)) = ((sch1 e f g : Nat) : Int) := by
  rw [not_nums e be, u32_and_nat _ _ be bf, u32_and_nat _ _ (by omega) bg, u32_xor_nat _ _ (and32 _ be) (and32 _ (by omega))]
  rfl
theorem smaj_nums (a b c : Nat) (ba : a < 4294967296) (bb : b < 4294967296) (bc : c < 4294967296) : bits BinOp.xor IntKind.u32 (bits BinOp.xor IntKind.u32 (bits BinOp.and IntKind.u32 (a : Int) (b : Int)) (bits BinOp.and IntKind.u32 (a : Int) (c : Int))) (bits BinOp.and IntKind.u32 (b : Int) (c : Int)) = ((smaj a b c : Nat) : Int) := by
  rw [u32_and_nat _ _ ba bb, u32_and_nat _ _ ba bc, u32_and_nat _ _ bb bc, u32_xor_nat _ _ (and32 _ ba) (and32 _ ba), u32_xor_nat _ _ (xor32 (and32 _ ba) (and32 _ ba)) (and32 _ bb)]
  rfl
theorem t1_nums (a b c d e f g h k w : Nat) (be : e < 4294967296) (bf : f < 4294967296) (bg : g < 4294967296) :
    ((h : Int) + ((sS1 e : Nat) : Int) + bits BinOp.xor IntKind.u32 (bits BinOp.and IntKind.u32 (e : Int) (f : Int)) (bits BinOp.and IntKind.u32 (bits BinOp.xor IntKind.u32 IntKind.u32.max (e : Int)) (g : Int)) + (k : Int) + (w : Int)) % 4294967296 = ((st1 k w ⟨a, b, c, d, e, f, g, h⟩ : Nat) : Int) := by
  rw [sch1_nums e f g be bf bg]
  have e1 : st1 k w ⟨a, b, c, d, e, f, g, h⟩ = (h + sS1 e + sch1 e f g + k + w) % 4294967296 := rfl
  rw [e1]
  omega
theorem t2_nums (a b c d e f g h : Nat) (ba : a < 4294967296) (bb : b < 4294967296) (bc : c < 4294967296) :
    (((sS0 a : Nat) : Int) + bits BinOp.xor IntKind.u32 (bits BinOp.xor IntKind.u32 (bits BinOp.and IntKind.u32 (a : Int) (b : Int)) (bits BinOp.and IntKind.u32 (a : Int) (c : Int))) (bits BinOp.and IntKind.u32 (b : Int) (c : Int))) % 4294967296 = ((st2 ⟨a, b, c, d, e, f, g, h⟩ : Nat) : Int) := by
  rw [smaj_nums a b c ba bb bc]
  have e1 : st2 ⟨a, b, c, d, e, f, g, h⟩ = (sS0 a + smaj a b c) % 4294967296 := rfl
  rw [e1]
  omega
theorem uw8 {w : World} {V a b c d e f g h : Nat} {t : TypeId} (hv : Uw w V t (St.mk a b c d e f g h).list) :
    w.cell? ⟨V, 0, none⟩ = some (.int .u32 (a : Int)) ∧ w.cell? ⟨V, 1, none⟩ = some (.int .u32 (b : Int)) ∧ w.cell? ⟨V, 2, none⟩ = some (.int .u32 (c : Int)) ∧ w.cell? ⟨V, 3, none⟩ = some (.int .u32 (d : Int)) ∧
    w.cell? ⟨V, 4, none⟩ = some (.int .u32 (e : Int)) ∧ w.cell? ⟨V, 5, none⟩ = some (.int .u32 (f : Int)) ∧ w.cell? ⟨V, 6, none⟩ = some (.int .u32 (g : Int)) ∧ w.cell? ⟨V, 7, none⟩ = some (.int .u32 (h : Int)) :=
  ⟨hv.cell 0 (by rw [St.list_length]; decide), hv.cell 1 (by rw [St.list_length]; decide), hv.cell 2 (by rw [St.list_length]; decide), hv.cell 3 (by rw [St.list_length]; decide),
   hv.cell 4 (by rw [St.list_length]; decide), hv.cell 5 (by rw [St.list_length]; decide), hv.cell 6 (by rw [St.list_length]; decide), hv.cell 7 (by rw [St.list_length]; decide)⟩

set_option maxRecDepth 100000 in
theorem mixed_any (s : St) (p : Option Addr) (n cap : Nat) (zs : List Int) (w : World) (hs : s.ok) (hn : n = 64) (h : Bs w p n zs) (hc : n ≤ cap) (hm : cap ≤ maxLen) (hK : Kw w) :
    Calls Tryd.prog 51 #[.agg (ucs s.list), .slice p n cap] w fun e w' => e = .returned (.agg (ucs (mixB kS s zs).list)) ∧ Below w.heap.size w w' := by
  subst hn
  have H := Lib.hid h
  have HK := Lib.hid hK
  have HM := Lib.hid hm
  have HC := Lib.hid hc
  have HS := Lib.hid hs
  have hpos := hK.pos
  clear h hK hm hc hs
  have he : ucs s.list = #[.int .u32 (s.a : Int), .int .u32 (s.b : Int), .int .u32 (s.c : Int), .int .u32 (s.d : Int), .int .u32 (s.e : Int), .int .u32 (s.f : Int), .int .u32 (s.g : Int), .int .u32 (s.h : Int)] := rfl
  rw [he]
  have HE := Lib.hid he
  clear he
  go_enter Tryd.func51, Tryd.ntmps51
  go_wp2_with fail
  refine (schedule_any _ _ zs _ (H.out.later (((Below.refl _ _).alloc (Nat.le_refl _) _).alloc (by simp) _)) HC.out HM.out).mono ?_
  rintro e w1 ⟨rfl, hb1⟩
  have hU0 : Uw w1 w.heap.size 80 s.list := by
    refine Uw.later (w := (w.alloc _).alloc _) ?_ hb1
    exact heap_alloc2_old _ _ _
  have hU1 : Uw w1 (w.heap.size + 1) 80 (List.replicate 8 0) := by
    refine Uw.later (w := (w.alloc _).alloc _) ?_ hb1
    exact heap_alloc2_new _ _ _
  have hB1 : Below w.heap.size w w1 := below_step (((Below.refl _ _).alloc (Nat.le_refl _) _).alloc (by simp) _) hb1
  have HU0 := Lib.hid hU0
  have HU1 := Lib.hid hU1
  have HB1 := Lib.hid hB1
  have hl : (sched (wds zs 16) 48).length = 64 := by rw [sched_length, wds_length]
  have HL := Lib.hid hl
  have HZ1 : Hid ((Tryd.prog.info? 97).map (·.size) = some (ucs (sched (wds zs 16) 48)).size) := Lib.hid (by rw [ucs_size, hl]; exact size64)
  have HZ8 : Hid ((Tryd.prog.info? 80).map (·.size) = some (ucs s.list).size) := Lib.hid (by rw [ucs_size]; exact size8w)
  have HSL := Lib.hid (sched_lt (wds_lt (zs := zs) H.out.byte 16) 48)
  have HMW : Hid (mixB kS s zs = (mixN kS (sched (wds zs 16) 48) s 64).plus s) := Lib.hid rfl
  have HT : Hid (w.heap.size + 2 ≤ w1.heap.size) := Lib.hid (by have := hb1.size; simpa using this)
  clear hU0 hU1 hB1 hb1 hl
  generalize sched (wds zs 16) 48 = ws at *
  go_wp2_with (first
    | (refine wpList_store_row rfl 97 _ _ rfl w1.heap.size _ rfl rfl 97 _ (heap_alloc_new _ _) HZ1.out ?_ (ucs_one _) ?_; (rw [ucs_size, HL.out]; rfl); generalize hw2 : World.setRow _ _ _ = w2; obtain ⟨hs2, hu2, hb2⟩ := lay_row hw2; have HU2 := Lib.hid hu2; have HS2 := Lib.hid hs2; have HB2 := Lib.hid hb2; have HU0b := Lib.hid (HU0.out.later hb2); clear hs2 hu2 hb2 hw2)
    | (refine wpList_load_row rfl 80 _ rfl w.heap.size rfl 80 _ (0, 0) _ HU0b.out Tryd.underlying80 rfl HZ8.out ?_)
    | (refine wpList_store_row rfl 80 _ _ rfl w2.heap.size _ rfl rfl 80 _ (heap_alloc_new _ _) HZ8.out ?_ (ucs_one _) ?_; rfl; generalize hw3 : World.setRow _ _ _ = w3; obtain ⟨hs3, hu3, hb3⟩ := lay_row hw3; have HU3 := Lib.hid hu3; have HS3 := Lib.hid hs3; have HB3 := Lib.hid hb3; clear hs3 hu3 hb3 hw3))
  have HU3' : Hid (Uw w3 w2.heap.size 80 (mixN kS ws s 0).list) := HU3
  have HU2' := Lib.hid (HU2.out.later HB3.out)
  have HU0' := Lib.hid (HU0b.out.later HB3.out)
  have HU1' := Lib.hid ((HU1.out.later HB2.out).later HB3.out)
  have HB' := Lib.hid (below_step (below_step HB1.out HB2.out) HB3.out)
  have HV : Hid (w2.heap.size = w1.heap.size + 1) := HS2
  generalize w2.heap.size = V at *
  generalize w1.heap.size = T at *
  generalize w3 = wl at *
  clear HU0 HU1 HB1 HU2 HB2 HU0b HU3 HB3 HS2
  go_loopw [14] (fun i wr => ∃ k : Nat, k ≤ 64 ∧ i = .int .i64 k ∧ Hid (Uw wr V 80 (mixN kS ws s k).list) ∧ Hid (Uw wr T 97 ws) ∧ Hid (Uw wr w.heap.size 80 s.list) ∧ Hid (Uw wr (w.heap.size + 1) 80 (List.replicate 8 0)) ∧ Hid (Below w.heap.size w wr)) (fun i _ => 64 - (intOf i).toNat)
  case atStart => exact ⟨0, by omega, rfl, HU3', HU2', HU0', HU1', HB'⟩
  case round =>
    clear HU3' HU2' HU0' HU1' HB' HS3
    obtain ⟨k, hk, rfl, hv, hw, hs0, hs1, hbl⟩ := hrel
    by_cases hlt : k < 64
    · obtain ⟨x, hx⟩ : ∃ x, mixN kS ws s k = x := ⟨_, rfl⟩
      have hok : x.ok := by rw [← hx]; exact mixN_ok _ _ HS.out _
      rw [hx] at hv
      have HX : Hid (mixN kS ws s (k + 1) = rnd (kS.getD k 0) (ws.getD k 0) x) := Lib.hid (by rw [← hx]; rfl)
      clear hx
      obtain ⟨xa, xb, xc, xd, xe, xf, xg, xh⟩ := x
      obtain ⟨ba, bb, bc, bd, be, bf, bg, bh⟩ := hok
      obtain ⟨c0, c1, c2, c3, c4, c5, c6, c7⟩ := uw8 hv.out
      have ck := (HK.out.later hbl.out hpos) k hlt
      have cw := hw.out.cell k (by rw [HL.out]; exact hlt)
      have bk := kS_lt k
      have bw := HSL.out k
      generalize kS.getD k 0 = kk at *
      generalize ws.getD k 0 = ww at *
      simp only at ba bb bc bd be bf bg bh
      have HT1 := Lib.hid (t1_nums xa xb xc xd xe xf xg xh kk ww be bf bg)
      have HT2 := Lib.hid (t2_nums xa xb xc xd xe xf xg xh ba bb bc)
      have ht1 : st1 kk ww ⟨xa, xb, xc, xd, xe, xf, xg, xh⟩ < 4294967296 := m32 _
      have ht2 : st2 ⟨xa, xb, xc, xd, xe, xf, xg, xh⟩ < 4294967296 := m32 _
      have HR : Hid (rnd kk ww ⟨xa, xb, xc, xd, xe, xf, xg, xh⟩ = ⟨(st1 kk ww ⟨xa, xb, xc, xd, xe, xf, xg, xh⟩ + st2 ⟨xa, xb, xc, xd, xe, xf, xg, xh⟩) % 4294967296, xa, xb, xc, (xd + st1 kk ww ⟨xa, xb, xc, xd, xe, xf, xg, xh⟩) % 4294967296, xe, xf, xg⟩) := Lib.hid rfl
      rw [HR.out] at HX
      go_wp2
      go_quiet ((go_at_call 66; refine Calls.quiet_of_same (bigS1_q _ _ be)))
      have hq1 := Lib.hid (below_drewN (Below.refl wr.heap.size wr) nq)
      generalize wr.drewN nq = wd at *
      clear c0 c1 c2 c3 c4 c5 c6 c7 ck cw nq
      obtain ⟨c0, c1, c2, c3, c4, c5, c6, c7⟩ := uw8 (hv.out.later hq1.out)
      go_wp2
      rw [HT1.out]
      generalize st1 kk ww ⟨xa, xb, xc, xd, xe, xf, xg, xh⟩ = y1 at *
      go_quiet ((go_at_call 67; refine Calls.quiet_of_same (bigS0_q _ _ ba)))
      have hq2 := Lib.hid (below_step hq1.out (below_drewN (Below.refl wd.heap.size wd) nq))
      generalize wd.drewN nq = we at *
      clear c0 c1 c2 c3 c4 c5 c6 c7 nq hq1
      rw [HT2.out]
      generalize st2 ⟨xa, xb, xc, xd, xe, xf, xg, xh⟩ = y2 at *
      have hv2 := Lib.hid (hv.out.later hq2.out)
      obtain ⟨c0, c1, c2, c3, c4, c5, c6, c7⟩ := uw8 hv2.out
      have f0 := hv2.out.frozen 0
      have f1 := hv2.out.frozen 1
      have f2 := hv2.out.frozen 2
      have f3 := hv2.out.frozen 3
      have f4 := hv2.out.frozen 4
      have f5 := hv2.out.frozen 5
      have f6 := hv2.out.frozen 6
      have f7 := hv2.out.frozen 7
      clear HT1 HT2 HR
      go_wp2
      have hx4 : ((xd : Int) + (y1 : Int)) % 4294967296 = (((xd + y1) % 4294967296 : Nat) : Int) := by omega
      have hx0 : ((y1 : Int) + (y2 : Int)) % 4294967296 = (((y1 + y2) % 4294967296 : Nat) : Int) := by omega
      rw [hx4, hx0]
      obtain ⟨g1, g2, g3⟩ := eight hv2.out rfl xg xf xe ((xd + y1) % 4294967296) xc xb xa ((y1 + y2) % 4294967296) rfl
      have hV := HV.out
      have hT := HT.out
      refine ⟨⟨k + 1, by omega, by go_num, Lib.hid ?_, Lib.hid (g2 _ _ _ (by omega) (hw.out.later hq2.out)), Lib.hid (g2 _ _ _ (by omega) (hs0.out.later hq2.out)), Lib.hid (g2 _ _ _ (by omega) (hs1.out.later hq2.out)), Lib.hid (g3 _ _ (by omega) (below_step hbl.out hq2.out))⟩, by simp [intOf]; omega⟩
      rw [HX.out]
      exact g1
    · obtain rfl : k = 64 := by omega
      generalize mixN kS ws s 64 = x at *
      go_wp2
      go_loopw [93] (fun i wr => ∃ k : Nat, k ≤ 8 ∧ i = .int .i64 k ∧ Hid (Uw wr V 80 ((x.plus s).list.take k ++ x.list.drop k)) ∧ Hid (Uw wr w.heap.size 80 s.list) ∧ Hid (Uw wr (w.heap.size + 1) 80 (List.replicate 8 0)) ∧ Hid (Below w.heap.size w wr)) (fun i _ => 8 - (intOf i).toNat)
      case atStart => exact ⟨0, by omega, rfl, hv, hs0, hs1, hbl⟩
      case round =>
        clear hv hs0 hs1 hbl hw
        obtain ⟨k, hk, rfl, hv, hs0, hs1, hbl⟩ := hrel
        by_cases hlt : k < 8
        · have cv := hv.out.cell k (by rw [plus_len _ _ _ hk]; exact hlt)
          have cs := hs0.out.cell k hlt
          have fv := hv.out.frozen k
          rw [plus_get _ _ _ hlt] at cv
          have HX := Lib.hid (plus_set x s k hlt)
          generalize x.list.getD k 0 = y1 at *
          generalize s.list.getD k 0 = y2 at *
          go_wp2
          go_region
          go_wp2
          have hx : ((y1 : Int) + (y2 : Int)) % 4294967296 = (((y1 + y2) % 4294967296 : Nat) : Int) := by omega
          rw [hx]
          have hV := HV.out
          have hT := HT.out
          have h1 := hv.out.set k ((y1 + y2) % 4294967296)
          rw [HX.out] at h1
          refine ⟨?_, by simp [intOf]; omega⟩
          first
            | exact ⟨k + 1, by omega, by go_num, Lib.hid h1, Lib.hid (hs0.out.other _ _ (by show w.heap.size ≠ V; omega)), Lib.hid (hs1.out.other _ _ (by show w.heap.size + 1 ≠ V; omega)), Lib.hid ((hbl.out.setCell (p := ⟨V, k, none⟩) (by show w.heap.size ≤ V; omega) _).drew)⟩
            | ((repeat apply Exists.intro); refine ⟨?rel, rfl⟩; exact ⟨k + 1, by omega, by go_num, Lib.hid h1, Lib.hid (hs0.out.other _ _ (by show w.heap.size ≠ V; omega)), Lib.hid (hs1.out.other _ _ (by show w.heap.size + 1 ≠ V; omega)), Lib.hid ((hbl.out.setCell (p := ⟨V, k, none⟩) (by show w.heap.size ≤ V; omega) _).drew)⟩)
        · obtain rfl : k = 8 := by omega
          have HE : Hid ((x.plus s).list.take 8 ++ x.list.drop 8 = (x.plus s).list) := Lib.hid rfl
          rw [HE.out] at hv
          have HZ : Hid ((Tryd.prog.info? 80).map (·.size) = some (ucs (x.plus s).list).size) := Lib.hid (by rw [ucs_size]; exact size8w)
          have HZ2 : Hid ((ucs (List.replicate 8 0)).size = (ucs (x.plus s).list).size) := Lib.hid (by rw [ucs_size, ucs_size, List.length_replicate, St.list_length])
          clear HE
          generalize x.plus s = y at *
          go_wp2_with (first
            | (refine wpList_load_row rfl 80 _ rfl V rfl 80 _ (0, 0) _ hv.out Tryd.underlying80 rfl HZ.out ?_)
            | (refine wpList_store_row rfl 80 _ _ rfl (w.heap.size + 1) _ rfl rfl 80 _ hs1.out HZ.out HZ2.out (ucs_one _) ?_))
          refine bodyPost_ret (Uw.results hs1.out.row rfl _ rfl _ Tryd.underlying80 rfl size8w) rfl ⟨by rw [HMW.out], below_setRow hbl.out _ _ (Nat.le_succ _)⟩
end Go.Proofs.YtlggbicjgddnaaaDoor
