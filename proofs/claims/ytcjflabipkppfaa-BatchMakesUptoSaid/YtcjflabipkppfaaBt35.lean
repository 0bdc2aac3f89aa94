/- Layer 15, the program: length, commitOf; Layer 15, the program: Size -/
import Derived.Test.YtcjflabipkppfaaBt24
import Derived.Test.YtcjflabipkppfaaBt32
import Derived.Test.YtcjflabipkppfaaBt34
set_option linter.unusedSimpArgs false
set_option linter.unusedVariables false
namespace Go.Proofs.Ytcjflabipkppfaa
set_option linter.unusedVariables false
open Go.RowKit Go.Lib

theorem makeN_num_length (r : Rc) (s : Int) : (makeN (r.num s)).length = (makeN r).length := by
  unfold makeN
  rw [rightN_num]
  split
  · rw [frmN_length, frmN_length]; rfl
  · rfl
theorem framesN_len_succ {l : List Rc} {k : Nat} {r : Rc} (hr : l[k]? = some r) : (framesN (l.take (k + 1)) 0).length = (framesN (l.take k) 0).length + (makeN r).length := by
  rw [framesN_succ hr, List.length_append, makeN_num_length]
theorem framesN_len_take (l : List Rc) (k : Nat) : (framesN (l.take k) 0).length ≤ (framesN l 0).length := by
  have h := framesN_append (l.take k) (l.drop k) 0
  rw [List.take_append_drop] at h
  rw [h, List.length_append]
  omega

set_option maxRecDepth 100000 in
set_option maxHeartbeats 2000000 in
theorem length_any (x : Rq) (w : World) (hx : x.Fit w) (hn : x.n ≤ 2097152) (hz : 0 ≤ x.Z ∧ x.Z ≤ 140737488355328) : Calls Try.prog 17 #[.agg (mixC x.a x.dg x.z)] w fun e w' => e = .returned (.int .i64 (x.Z + (makeN x.rc).length)) ∧ Below w.heap.size w w' := by
  obtain ⟨wA, hA, hm, hb, _⟩ := box_rec w x hx.dg.1
  have HB := Lib.hid hb
  have HRA := Lib.hid hm
  have HXD := Lib.hid hx.dg.1
  have HCS := Lib.hid fun W (hW : Below w.heap.size w W) => csize_ok x W (hx.later hW) hn
  have HML := Lib.hid (makeN_length hx.ok)
  have HSS := Lib.hid fun W (hW : Below wA.heap.size wA W) => (show W.cell? ⟨w.heap.size, 37, none⟩ = some (.int .i64 x.Z) ∧ W.rangeAt w.heap.size 0 (mixL x.a x.dg x.z) from ⟨((hm.later hW).cells hx.dg.1).2.2.2.2.2, Mx.range (hm.later hW)⟩)
  have HLZ : Hid ((Try.prog.info? 42).map (·.size) = some (mixL x.a x.dg x.z).length) := Lib.hid (by rw [mixL_length, HXD.out]; exact size38)
  obtain ⟨F, hF⟩ : ∃ F, (makeN x.rc).length = F := ⟨_, rfl⟩
  rw [hF] at HML HCS ⊢
  unfold Rq.v mixC at HCS
  unfold mixC at hA ⊢
  generalize mixL x.a x.dg x.z = L at *
  obtain ⟨Z, hZ⟩ : ∃ Z, x.Z = Z := ⟨_, rfl⟩
  rw [hZ] at hz HSS ⊢
  have hml := HML.out
  have hwz : IntKind.i64.wrap (Z + (F : Int)) = Z + F := by simp [IntKind.wrap, IntKind.bits, IntKind.signed]; omega
  have hwz2 : wrap64 (Z + (F : Int)) = Z + F := by unfold wrap64; omega
  clear hb hm hx hF hZ
  go_enter Try.func17, Try.ntmps17
  go_upto_region 1 with fail
  refine wp_region_held_drew (S := (fun W => W.cell? ⟨w.heap.size, 37, none⟩ = some (.int .i64 Z) ∧ W.rangeAt w.heap.size 0 L)) (by kernel_rfl) (HSS.out _ (Below.refl _ _).drew) (fun hHeld => ?_)
  refine take_at 0 (v := ?vv1) rfl (by kernel_rfl) (by kernel_rfl) (by kernel_rfl) (fun _ _ _ h => h) (Or.inl ⟨by rfl, ?hy1⟩) (by assumption) ?rest1
  case hy1 => intro w hSw; (try dsimp only at hSw); go_simp; (try with_reducible rfl)
  (try simp only [Act.put, List.setIfInBounds_toArray, List.set_cons_zero, List.set_cons_succ])
  refine take_at 1 (v := ?vv2) rfl (by kernel_rfl) (by kernel_rfl) (by kernel_rfl) (fun _ _ _ h => h) (Or.inl ⟨by rfl, ?hy2⟩) (by assumption) ?rest2
  case hy2 => intro w hSw; (try dsimp only at hSw); go_simp; (try with_reducible rfl)
  (try simp only [Act.put, List.setIfInBounds_toArray, List.set_cons_zero, List.set_cons_succ])
  refine take_at 2 rfl (by kernel_rfl) (by kernel_rfl) (by kernel_rfl) (fun _ _ _ h => h) (yieldsIf_load_mid (by rfl) _ _ rfl _ _ rfl _ _ (fun _ h => h.2) Try.underlying42 rfl HLZ.out) (by assumption) ?_
  (try simp only [Act.put, List.setIfInBounds_toArray, List.set_cons_zero, List.set_cons_succ])
  refine ready_at 3 rfl (by kernel_rfl) (fun K hK => ?_)
  go_simp
  refine (HCS.out _ (below_step HB.out (Below.refl _ _).drew)).mono ?_
  rintro e w4 ⟨rfl, hb4⟩
  have HB4 : Hid (Below wA.heap.size wA w4) := Lib.hid (below_step (Below.refl wA.heap.size wA).drew hb4)
  have KB := Lib.hid (HSS.out _ HB4.out)
  clear hb4
  first
    | refine hK.out _ _ ?hS4 (fun hHeld => ?rest4)
    | (go_wp2_with fail; refine hK.out _ _ ?hS4 (fun hHeld => ?rest4))
  case hS4 => exact KB.out
  clear hK K
  (try simp only [Act.put, List.setIfInBounds_toArray, List.set_cons_zero, List.set_cons_succ])
  refine take_at 4 (v := ?vv5) rfl (by kernel_rfl) (by kernel_rfl) (by kernel_rfl) (fun _ _ _ h => h) (Or.inl ⟨by rfl, ?hy5⟩) (by assumption) ?rest5
  case hy5 => intro w hSw; (try dsimp only at hSw); go_simp; (try with_reducible rfl)
  (try simp only [Act.put, List.setIfInBounds_toArray, List.set_cons_zero, List.set_cons_succ])
  refine take_at 5 (v := ?vv6) rfl (by kernel_rfl) (by kernel_rfl) (by kernel_rfl) (fun _ _ _ h => h) (Or.inl ⟨by rfl, ?hy6⟩) (by assumption) ?rest6
  case hy6 => intro w hSw; (try dsimp only at hSw); go_simp; (try with_reducible rfl)
  (try simp only [Act.put, List.setIfInBounds_toArray, List.set_cons_zero, List.set_cons_succ])
  refine wpAnyH_done (by kernel_rfl) ?_ _
  go_wp2
  go_ret
  exact ⟨rfl, below_step HB.out HB4.out⟩

/- a region's orders, one after the other -/
theorem take1 {P : Program} {md : Region.Mode} {l tl : List Oper} {Q : Exit → Act → World → Prop} (i : Nat) {oi : Oper} {v : Value} {fuel : Nat} {listed : Array Bool} {a : Act} {w : World} (hl : l.drop i = oi :: tl)
    (hs : Region.noSelect l.toArray = true) (hf : Region.free md l.toArray listed i = true) (hr : (Region.ready md l.toArray listed).contains i = true)
    (hQ : ∀ c a w, Q (.panic c) (a.put oi.dst v) w → Q (.panic c) a w) (hy : Yields P l.toArray oi v a)
    (h : wpAny P md l.toArray Q fuel (listed.setIfInBounds i true) (a.put oi.dst v) w) : wpAny P md l.toArray Q (fuel + 1) listed a w :=
  wpAny_take (getElem?_of_drop hl) hs hf hr hQ hy h
theorem all1 {P : Program} {md : Region.Mode} {l tl : List Oper} {Q : Exit → Act → World → Prop} (i : Nat) {oi : Oper} {fuel : Nat} {listed : Array Bool} {a : Act} {w : World} {rs : List Nat} (hl : l.drop i = oi :: tl)
    (h : ∀ K' : Act → World → Prop, Shut (∀ a w, wpAny P md l.toArray Q fuel (listed.setIfInBounds i true) a w → K' a w) → if Region.wanted oi (yielded l.toArray a.tmps) = true then Oper.wp P oi a w K' Q else K' (a.put oi.dst undef) w)
    (hs : AllReady P md l.toArray Q fuel listed a w rs) : AllReady P md l.toArray Q fuel listed a w (i :: rs) :=
  AllReady.cons (getElem?_of_drop hl) h hs

/-- what commitOf answers: the commit, or none -/
def cofQ (l : List Rc) : Rq := if wrongN l = 0 then cmQ 0 l.length (framesN l 0).length else rq0
set_option maxRecDepth 100000 in
set_option maxHeartbeats 4000000 in
theorem commitOf_any (p : Option Addr) (n c : Nat) (L : List Rx) (w : World) (h : Gs encRc w p n L) (hf : ∀ x ∈ L, x.1.Fit w ∧ x.1.n ≤ 1048576) (hn : n ≤ 1048576) (hz : (framesN (rcL L) 0).length ≤ 2097152) :
    Calls Try.prog 16 #[.slice p n c] w fun e w' => e = .returned (.tuple #[(cofQ (rcL L)).v, .int .i64 (wrongN (rcL L))]) ∧ Below w.heap.size w w' := by
  have H := Lib.hid h
  have HF := Lib.hid hf
  have HLR : Hid ((rcL L).length = n) := Lib.hid (by rw [rcL_length, h.len])
  have HW := Lib.hid fun V (hV : Below w.heap.size w V) => cwrong_any p n c L V (h.later hV) (fun x hx => ⟨(hf x hx).1.later hV, (hf x hx).2⟩) hn
  have HLT := Lib.hid fun k => Nat.le_trans (framesN_len_take (rcL L) k) hz
  have HQ : Hid (cofQ (rcL L) = if wrongN (rcL L) = 0 then cmQ 0 n (framesN (rcL L) 0).length else rq0) := Lib.hid (by unfold cofQ; rw [HLR.out])
  obtain ⟨wA, hA⟩ : ∃ W, w.alloc (.cells (mixC rq0.a rq0.dg rq0.z) 42) = W := ⟨_, rfl⟩
  have HA : Hid (Rm wA w.heap.size rq0) := Lib.hid (by rw [← hA]; exact Rm.new w rq0)
  have HBA : Hid (Below w.heap.size w wA) := Lib.hid (by rw [← hA]; exact (Below.refl _ _).alloc (Nat.le_refl _) _)
  generalize cofQ (rcL L) = CQ at *
  obtain ⟨R, hR⟩ : ∃ R, wrongN (rcL L) = R := ⟨_, rfl⟩
  rw [hR] at HW HQ ⊢
  have HNE := Lib.hid fun (h0 : R = 0) => (wrongN_zero (hR.trans h0)).1
  clear h hf hR hz
  rw [rq0C] at hA
  by_cases hr : R = 0
  · subst hr
    rw [if_pos rfl] at HQ
    have h0 : 0 < n := by
      have h1 := HNE.out rfl
      rw [← HLR.out]
      exact List.length_pos_iff.2 h1
    obtain ⟨b, off, rfl, _⟩ := H.out.ptr 0 h0
    clear h0
    go_enter Try.func16, Try.ntmps16
    go_upto_region 4 with (go_at_call 27; refine (HW.out _ HBA.out).mono ?_; rintro e w1 ⟨rfl, hb1⟩; have HB1 := Lib.hid (below_step HBA.out hb1); have HA1 := Lib.hid (HA.out.later hb1); clear hb1)
    obtain ⟨g, hg⟩ : ∃ g, w1.heap.size = g := ⟨_, rfl⟩
    have HGW : Hid (w.heap.size < g) := Lib.hid (by rw [← hg]; exact Mx.lt HA1.out)
    have HNW : Hid (∀ Z : Obj, (w1.alloc Z).heap[g]? = some Z) := Lib.hid fun Z => by rw [← hg]; exact heap_alloc_new _ _
    have hg' := Lib.hid hg
    go_wp2_with (first
      | (refine wpList_build_is rfl 42 _ rfl (mixC (cmQ 0 n 0).a (cmQ 0 n 0).dg (cmQ 0 n 0).z) ?_ ?_; focus kernel_rfl)
      | (refine wpList_store_row rfl 42 _ _ rfl g _ rfl rfl 42 _ (HNW.out _) (Rq.sizeOf (cmQ 0 n 0) rfl) (Rq.sizes rq0 (cmQ 0 n 0) rfl rfl) (cmQ 0 n 0).one ?_; generalize hw2 : World.setRow _ _ _ = w2))
    have HR2 : Hid (Rm w2 g (cmQ 0 n 0)) := Lib.hid (by rw [← hw2]; exact Mx.row (show Rm (w1.alloc (.cells (mixC rq0.a rq0.dg rq0.z) 42)) g rq0 from HNW.out _))
    have HB2 : Hid (Below w.heap.size w w2) := Lib.hid (by rw [← hw2]; exact below_setRow8 (HB1.out.alloc HB1.out.size _) _ _ (Nat.le_of_lt HGW.out))
    have HA2 : Hid (Rm w2 w.heap.size rq0) := Lib.hid (Mx.keep (Mx.later HA1.out ((Below.refl _ _).alloc (Nat.le_refl _) _)) (keep_row hw2 _ (Nat.ne_of_lt HGW.out)))
    clear hw2 hg
    go_loopw [19] (fun i wr => ∃ k : Nat, k ≤ n ∧ i = .int .i64 (k : Int) ∧ Hid (Rm wr g (cmQ 0 n (framesN ((rcL L).take k) 0).length)) ∧ Hid (Rm wr w.heap.size rq0) ∧ Hid (Below w.heap.size w wr)) (fun i _ => n - (intOf i).toNat)
    case atStart => exact ⟨0, by omega, rfl, Lib.hid (by simpa [framesN] using HR2.out), HA2, HB2⟩
    case round =>
      obtain ⟨k, hk, rfl, HRM, HRA, HB⟩ := hrel
      by_cases hlt : k < n
      · obtain ⟨x, hLk, hRk, hxm, _, hrng⟩ := (H.out.later HB.out).recAt k hlt
        have hki : (k : Int) < (n : Int) := by omega
        have HRG := Lib.hid (rec_load hrng)
        have HXD := Lib.hid x.2
        have HFX := Lib.hid fun V (hV : Below w.heap.size w V) => (HF.out x hxm).1.later hV
        have HFN := Lib.hid (HF.out x hxm).2
        have HSC := Lib.hid (framesN_len_succ hRk)
        have HLK := Lib.hid (HLT.out (k + 1))
        obtain ⟨G, hG⟩ : ∃ G, wr.heap.size = G := ⟨_, rfl⟩
        have HGG : Hid (g < G ∧ w.heap.size < G) := Lib.hid (by rw [← hG]; exact ⟨Mx.lt HRM.out, Mx.lt HRA.out⟩)
        have HNG : Hid (∀ Z : Obj, (wr.alloc Z).heap[G]? = some Z) := Lib.hid fun Z => by rw [← hG]; exact heap_alloc_new _ _
        have HBN : Hid (∀ Z : Obj, Below wr.heap.size wr (wr.alloc Z)) := Lib.hid fun Z => (Below.refl _ _).alloc (Nat.le_refl _) _
        have HCS := Lib.hid fun W (hW : Below w.heap.size w W) => csize_ok x.1 W (HFX.out W hW) (by have := HFN.out; omega)
        obtain ⟨F, hF⟩ : ∃ F, (makeN x.1.rc).length = F := ⟨_, rfl⟩
        rw [hF] at HCS HSC
        obtain ⟨z, hz⟩ : ∃ z, (framesN ((rcL L).take k) 0).length = z := ⟨_, rfl⟩
        rw [hz] at HRM HSC
        rw [HSC.out] at HLK
        obtain ⟨zf, hzf⟩ : ∃ m, z + F = m := ⟨_, rfl⟩
        rw [hzf] at HLK HSC
        have hzb := HLK.out
        have hwz : IntKind.i64.wrap ((z : Int) + (F : Int)) = (zf : Int) := by simp [IntKind.wrap, IntKind.bits, IntKind.signed]; omega
        have hwz2 : wrap64 ((z : Int) + (F : Int)) = (zf : Int) := by unfold wrap64; omega
        clear hrng hLk hRk hxm hF hz
        go_upto_region 8 with (first
          | (refine wpList_ld rfl _ _ rfl _ rfl _ HRG.out ?_)
          | (refine wpList_store_row rfl 42 _ _ rfl G _ rfl rfl 42 _ (HNG.out _) (Rq.sizeOf x.1 HXD.out) (Rq.sizes rq0 x.1 rfl HXD.out) x.1.one ?_; generalize hw3 : World.setRow _ _ _ = w3))
        have HX3 : Hid (Rm w3 G x.1) := Lib.hid (by rw [← hw3]; exact Mx.row (show Rm (wr.alloc (.cells (mixC rq0.a rq0.dg rq0.z) 42)) G rq0 from HNG.out _))
        have HB3 : Hid (Below w.heap.size w w3) := Lib.hid (by rw [← hw3]; exact below_setRow8 (HB.out.alloc HB.out.size _) _ _ (Nat.le_of_lt HGG.out.2))
        have HM3 : Hid (Rm w3 g (cmQ 0 n z)) := Lib.hid (Mx.keep (Mx.later HRM.out (HBN.out _)) (keep_row hw3 _ (Nat.ne_of_lt HGG.out.1)))
        have HZ3 : Hid (Rm w3 w.heap.size rq0) := Lib.hid (Mx.keep (Mx.later HRA.out (HBN.out _)) (keep_row hw3 _ (Nat.ne_of_lt HGG.out.2)))
        have HLX := Lib.hid fun W (hW : Below w3.heap.size w3 W) => (HX3.out.later hW).load HXD.out
        have cz3 := ((HM3.out.later (Below.refl _ _).drew).cells rfl).2.2.2.2.2
        simp only [cmQ] at cz3
        clear hw3 hG
        refine wp_region_any (by kernel_rfl) ?_
        (try (change wpAny _ _ _ _ _ _ _ (World.drew _)))
        refine take1 0 (v := ?va1) rfl (by kernel_rfl) (by kernel_rfl) (by kernel_rfl) (fun _ _ _ h => h) (Or.inl ⟨by rfl, ?ya1⟩) ?ra1
        case ya1 => intro w; go_simp; (try with_reducible rfl)
        (try simp only [Act.put, List.setIfInBounds_toArray, List.set_cons_zero, List.set_cons_succ])
        refine wpAny_ready (rs := [1, 2]) (by kernel_rfl) (by simp) (all1 1 rfl (fun K hK => ?oa) (all1 2 rfl (fun K hK => ?ob) AllReady.nil))
        case oa =>
          go_simp
          first
            | refine hK.out _ _ ?_
            | (go_wp2_with fail; refine hK.out _ _ ?_)
          clear hK K
          (try simp only [Act.put, List.setIfInBounds_toArray, List.set_cons_zero, List.set_cons_succ])
          refine wpAny_ready (rs := [2]) (by kernel_rfl) (by simp) (all1 2 rfl (fun K hK => ?_) AllReady.nil)
          rw [if_pos (by rfl)]
          refine wp_ld 42 _ rfl _ rfl _ (HLX.out _ (Below.refl _ _).drew) ?_
          first
            | refine hK.out _ _ ?_
            | (go_wp2_with fail; refine hK.out _ _ ?_)
          clear hK K
          (try simp only [Act.put, List.setIfInBounds_toArray, List.set_cons_zero, List.set_cons_succ])
          refine wpAny_ready (rs := [3]) (by kernel_rfl) (by simp) (all1 3 rfl (fun K hK => ?_) AllReady.nil)
          go_simp
          refine (HCS.out _ (below_step HB3.out (Below.refl _ _).drew)).mono ?_
          rintro e w4 ⟨rfl, hb4⟩
          have HB4 : Hid (Below w3.heap.size w3 w4) := Lib.hid (below_step (Below.refl w3.heap.size w3).drew hb4)
          have HM4 := Lib.hid (HM3.out.later HB4.out)
          have HZ4 := Lib.hid (HZ3.out.later HB4.out)
          have cz4 := (HM4.out.cells rfl).2.2.2.2.2
          have fz4 := Mx.frozen HM4.out 37
          simp only [cmQ] at cz4
          clear hb4
          first
            | refine hK.out _ _ ?_
            | (go_wp2_with fail; refine hK.out _ _ ?_)
          clear hK K
          (try simp only [Act.put, List.setIfInBounds_toArray, List.set_cons_zero, List.set_cons_succ])
          refine take1 4 (v := ?va2) rfl (by kernel_rfl) (by kernel_rfl) (by kernel_rfl) (fun _ _ _ h => h) (Or.inl ⟨by rfl, ?ya2⟩) ?ra2
          case ya2 => intro w; go_simp; (try with_reducible rfl)
          (try simp only [Act.put, List.setIfInBounds_toArray, List.set_cons_zero, List.set_cons_succ])
          refine take1 5 (v := ?va3) rfl (by kernel_rfl) (by kernel_rfl) (by kernel_rfl) (fun _ _ _ h => h) (Or.inl ⟨by rfl, ?ya3⟩) ?ra3
          case ya3 => intro w; go_simp; (try with_reducible rfl)
          (try simp only [Act.put, List.setIfInBounds_toArray, List.set_cons_zero, List.set_cons_succ])
          refine wpAny_ready (rs := [6]) (by kernel_rfl) (by simp) (all1 6 rfl (fun K hK => ?_) AllReady.nil)
          go_simp
          first
            | refine hK.out _ _ ?_
            | (go_wp2_with fail; refine hK.out _ _ ?_)
          clear hK K
          (try simp only [Act.put, List.setIfInBounds_toArray, List.set_cons_zero, List.set_cons_succ])
          refine wpAny_done (by kernel_rfl) ?_ _
          have HM5 := Lib.hid (HM4.out.setZ rfl (zf : Int))
          have HZ5 := Lib.hid (HZ4.out.other ⟨g, 37, none⟩ (.int .i64 (zf : Int)) (Nat.ne_of_lt HGW.out))
          have HB5 : Hid (Below w.heap.size w (w4.setCell ⟨g, 37, none⟩ (.int .i64 (zf : Int)))) := Lib.hid ((below_step HB3.out HB4.out).setCell (p := ⟨g, 37, none⟩) (Nat.le_of_lt HGW.out) _)
          go_wp2
          exact ⟨⟨k + 1, by omega, by go_num, Lib.hid (by rw [HSC.out]; exact HM5.out), HZ5, HB5⟩, by simp [intOf] <;> omega⟩
        case ob =>
          rw [if_pos (by rfl)]
          refine wp_ld 42 _ rfl _ rfl _ (HLX.out _ (Below.refl _ _).drew) ?_
          first
            | refine hK.out _ _ ?_
            | (go_wp2_with fail; refine hK.out _ _ ?_)
          clear hK K
          (try simp only [Act.put, List.setIfInBounds_toArray, List.set_cons_zero, List.set_cons_succ])
          refine wpAny_ready (rs := [1, 3]) (by kernel_rfl) (by simp) (all1 1 rfl (fun K hK => ?oc) (all1 3 rfl (fun K hK => ?od) AllReady.nil))
          case oc =>
            go_simp
            first
              | refine hK.out _ _ ?_
              | (go_wp2_with fail; refine hK.out _ _ ?_)
            clear hK K
            (try simp only [Act.put, List.setIfInBounds_toArray, List.set_cons_zero, List.set_cons_succ])
            refine wpAny_ready (rs := [3]) (by kernel_rfl) (by simp) (all1 3 rfl (fun K hK => ?_) AllReady.nil)
            go_simp
            refine (HCS.out _ (below_step HB3.out (Below.refl _ _).drew)).mono ?_
            rintro e w4 ⟨rfl, hb4⟩
            have HB4 : Hid (Below w3.heap.size w3 w4) := Lib.hid (below_step (Below.refl w3.heap.size w3).drew hb4)
            have HM4 := Lib.hid (HM3.out.later HB4.out)
            have HZ4 := Lib.hid (HZ3.out.later HB4.out)
            have cz4 := (HM4.out.cells rfl).2.2.2.2.2
            have fz4 := Mx.frozen HM4.out 37
            simp only [cmQ] at cz4
            clear hb4
            first
              | refine hK.out _ _ ?_
              | (go_wp2_with fail; refine hK.out _ _ ?_)
            clear hK K
            (try simp only [Act.put, List.setIfInBounds_toArray, List.set_cons_zero, List.set_cons_succ])
            refine take1 4 (v := ?va4) rfl (by kernel_rfl) (by kernel_rfl) (by kernel_rfl) (fun _ _ _ h => h) (Or.inl ⟨by rfl, ?ya4⟩) ?ra4
            case ya4 => intro w; go_simp; (try with_reducible rfl)
            (try simp only [Act.put, List.setIfInBounds_toArray, List.set_cons_zero, List.set_cons_succ])
            refine take1 5 (v := ?va5) rfl (by kernel_rfl) (by kernel_rfl) (by kernel_rfl) (fun _ _ _ h => h) (Or.inl ⟨by rfl, ?ya5⟩) ?ra5
            case ya5 => intro w; go_simp; (try with_reducible rfl)
            (try simp only [Act.put, List.setIfInBounds_toArray, List.set_cons_zero, List.set_cons_succ])
            refine wpAny_ready (rs := [6]) (by kernel_rfl) (by simp) (all1 6 rfl (fun K hK => ?_) AllReady.nil)
            go_simp
            first
              | refine hK.out _ _ ?_
              | (go_wp2_with fail; refine hK.out _ _ ?_)
            clear hK K
            (try simp only [Act.put, List.setIfInBounds_toArray, List.set_cons_zero, List.set_cons_succ])
            refine wpAny_done (by kernel_rfl) ?_ _
            have HM5 := Lib.hid (HM4.out.setZ rfl (zf : Int))
            have HZ5 := Lib.hid (HZ4.out.other ⟨g, 37, none⟩ (.int .i64 (zf : Int)) (Nat.ne_of_lt HGW.out))
            have HB5 : Hid (Below w.heap.size w (w4.setCell ⟨g, 37, none⟩ (.int .i64 (zf : Int)))) := Lib.hid ((below_step HB3.out HB4.out).setCell (p := ⟨g, 37, none⟩) (Nat.le_of_lt HGW.out) _)
            go_wp2
            exact ⟨⟨k + 1, by omega, by go_num, Lib.hid (by rw [HSC.out]; exact HM5.out), HZ5, HB5⟩, by simp [intOf] <;> omega⟩
          case od =>
            go_simp
            refine (HCS.out _ (below_step HB3.out (Below.refl _ _).drew)).mono ?_
            rintro e w4 ⟨rfl, hb4⟩
            have HB4 : Hid (Below w3.heap.size w3 w4) := Lib.hid (below_step (Below.refl w3.heap.size w3).drew hb4)
            have HM4 := Lib.hid (HM3.out.later HB4.out)
            have HZ4 := Lib.hid (HZ3.out.later HB4.out)
            have cz4 := (HM4.out.cells rfl).2.2.2.2.2
            have fz4 := Mx.frozen HM4.out 37
            simp only [cmQ] at cz4
            clear hb4
            first
              | refine hK.out _ _ ?_
              | (go_wp2_with fail; refine hK.out _ _ ?_)
            clear hK K
            (try simp only [Act.put, List.setIfInBounds_toArray, List.set_cons_zero, List.set_cons_succ])
            refine wpAny_ready (rs := [1]) (by kernel_rfl) (by simp) (all1 1 rfl (fun K hK => ?_) AllReady.nil)
            go_simp
            first
              | refine hK.out _ _ ?_
              | (go_wp2_with fail; refine hK.out _ _ ?_)
            clear hK K
            (try simp only [Act.put, List.setIfInBounds_toArray, List.set_cons_zero, List.set_cons_succ])
            refine take1 4 (v := ?va6) rfl (by kernel_rfl) (by kernel_rfl) (by kernel_rfl) (fun _ _ _ h => h) (Or.inl ⟨by rfl, ?ya6⟩) ?ra6
            case ya6 => intro w; go_simp; (try with_reducible rfl)
            (try simp only [Act.put, List.setIfInBounds_toArray, List.set_cons_zero, List.set_cons_succ])
            refine take1 5 (v := ?va7) rfl (by kernel_rfl) (by kernel_rfl) (by kernel_rfl) (fun _ _ _ h => h) (Or.inl ⟨by rfl, ?ya7⟩) ?ra7
            case ya7 => intro w; go_simp; (try with_reducible rfl)
            (try simp only [Act.put, List.setIfInBounds_toArray, List.set_cons_zero, List.set_cons_succ])
            refine wpAny_ready (rs := [6]) (by kernel_rfl) (by simp) (all1 6 rfl (fun K hK => ?_) AllReady.nil)
            go_simp
            first
              | refine hK.out _ _ ?_
              | (go_wp2_with fail; refine hK.out _ _ ?_)
            clear hK K
            (try simp only [Act.put, List.setIfInBounds_toArray, List.set_cons_zero, List.set_cons_succ])
            refine wpAny_done (by kernel_rfl) ?_ _
            have HM5 := Lib.hid (HM4.out.setZ rfl (zf : Int))
            have HZ5 := Lib.hid (HZ4.out.other ⟨g, 37, none⟩ (.int .i64 (zf : Int)) (Nat.ne_of_lt HGW.out))
            have HB5 : Hid (Below w.heap.size w (w4.setCell ⟨g, 37, none⟩ (.int .i64 (zf : Int)))) := Lib.hid ((below_step HB3.out HB4.out).setCell (p := ⟨g, 37, none⟩) (Nat.le_of_lt HGW.out) _)
            go_wp2
            exact ⟨⟨k + 1, by omega, by go_num, Lib.hid (by rw [HSC.out]; exact HM5.out), HZ5, HB5⟩, by simp [intOf] <;> omega⟩
      · obtain rfl : k = n := by omega
        rw [show (rcL L).take k = rcL L from List.take_of_length_le (by rw [HLR.out]; exact Nat.le_refl _)] at HRM
        have HLZ := Lib.hid (HLT.out k)
        rw [show (rcL L).take k = rcL L from List.take_of_length_le (by rw [HLR.out]; exact Nat.le_refl _)] at HLZ
        obtain ⟨z, hz⟩ : ∃ z, (framesN (rcL L) 0).length = z := ⟨_, rfl⟩
        rw [hz] at HRM HLZ HQ
        have HFT : Hid (∀ W, (cmQ 0 k z).Fit W) := Lib.hid fun W => cmQ_fit (by omega) (by omega) (by have := HLZ.out; omega) W
        have HRG := Lib.hid fun W => cright_ok (cmQ 0 k z) W (HFT.out W) (Nat.zero_le _)
        rw [cmQ_rc, commit_right (by omega) (by have := HLZ.out; omega)] at HRG
        have HLC : Hid ((Try.prog.info? 42).map (·.size) = some (mixL (cmQ 0 k z).a (cmQ 0 k z).dg (cmQ 0 k z).z).length) := Lib.hid (by rw [mixL_length]; exact size38)
        obtain ⟨C, hC⟩ : ∃ C, cmQ 0 k z = C := ⟨_, rfl⟩
        have HCD : Hid (C.dg.length = 32) := Lib.hid (by rw [← hC]; rfl)
        rw [hC] at HRM HRG HLC HQ
        have HSS := Lib.hid fun W (hW : Below wr.heap.size wr W) => Mx.range (HRM.out.later hW)
        have HMC := Lib.hid (show (mixL C.a C.dg C.z).toArray = mixC C.a C.dg C.z from rfl)
        unfold Rq.v mixC at HRG
        have HRK := Lib.hid fun W (h : Rm W g C) => Mx.range h
        obtain ⟨LC, hLC⟩ : ∃ l, mixL C.a C.dg C.z = l := ⟨_, rfl⟩
        rw [hLC] at HSS HMC HRG HLC HRK
        clear hz hC hLC hlt
        go_upto_region 10 with fail
        refine wp_region_held_drew (S := (fun W => W.rangeAt g 0 LC)) (by kernel_rfl) (HSS.out _ (Below.refl _ _).drew) (fun hHeld => ?_)
        refine take_at 0 rfl (by kernel_rfl) (by kernel_rfl) (by kernel_rfl) (fun _ _ _ h => h) (yieldsIf_load_mid (by rfl) _ _ rfl _ _ rfl _ _ (fun _ h => h) Try.underlying42 rfl HLC.out) (by assumption) ?_
        (try simp only [Act.put, List.setIfInBounds_toArray, List.set_cons_zero, List.set_cons_succ])
        refine take_at 1 rfl (by kernel_rfl) (by kernel_rfl) (by kernel_rfl) (fun _ _ _ h => h) (yieldsIf_load_mid (by rfl) _ _ rfl _ _ rfl _ _ (fun _ h => h) Try.underlying42 rfl HLC.out) (by assumption) ?_
        (try simp only [Act.put, List.setIfInBounds_toArray, List.set_cons_zero, List.set_cons_succ])
        refine ready_at 2 rfl (by kernel_rfl) (fun K hK => ?_)
        go_simp
        refine (HRG.out _).mono ?_
        rintro e w4 ⟨rfl, hb4⟩
        have HB4 : Hid (Below wr.heap.size wr w4) := Lib.hid (below_step (Below.refl wr.heap.size wr).drew hb4)
        have HM4 := Lib.hid (HRM.out.later HB4.out)
        have HZ4 := Lib.hid (HRA.out.later HB4.out)
        clear hb4
        first
          | refine hK.out _ _ ?hS9 (fun hHeld => ?rest9)
          | (go_wp2_with fail; refine hK.out _ _ ?hS9 (fun hHeld => ?rest9))
        case hS9 => exact HSS.out _ HB4.out
        clear hK K
        (try simp only [Act.put, List.setIfInBounds_toArray, List.set_cons_zero, List.set_cons_succ])
        refine ready_at 3 rfl (by kernel_rfl) (fun K hK => ?_)
        rw [if_pos (by rfl)]
        rw [HMC.out]
        refine wp_store_row 42 _ _ rfl w.heap.size _ rfl rfl 42 _ HZ4.out (Rq.sizeOf C HCD.out) (Rq.sizes rq0 C rfl HCD.out) (Rq.one C) ?_
        generalize hwZ : World.setRow _ _ _ = wZ
        have HZ : Hid (Rm wZ w.heap.size C) := Lib.hid (by rw [← hwZ]; exact HZ4.out.row)
        have HZB : Hid (Below w.heap.size w wZ) := Lib.hid (by rw [← hwZ]; exact below_setRow8 (below_step HB.out HB4.out) _ _ (Nat.le_refl _))
        have HM5 : Hid (Rm wZ g C) := Lib.hid (Mx.keep HM4.out (keep_row hwZ _ (Nat.ne_of_gt HGW.out)))
        clear hwZ
        refine hK.out _ _ ?hS10 (fun hHeld => ?rest10)
        case hS10 => exact HRK.out _ HM5.out
        clear hK K
        (try simp only [Act.put, List.setIfInBounds_toArray, List.set_cons_zero, List.set_cons_succ])
        refine take_at 4 (v := ?vv11) rfl (by kernel_rfl) (by kernel_rfl) (by kernel_rfl) (fun _ _ _ h => h) (Or.inl ⟨by rfl, ?hy11⟩) (by assumption) ?rest11
        case hy11 => intro w hSw; (try dsimp only at hSw); go_simp; (try with_reducible rfl)
        (try simp only [Act.put, List.setIfInBounds_toArray, List.set_cons_zero, List.set_cons_succ])
        refine wpAnyH_done (by kernel_rfl) ?_ _
        go_wp2
        refine bodyPost_ret (HZ.out.res2 HCD.out rfl _ rfl) rfl ?_
        exact ⟨by rw [HQ.out]; rfl, HZB.out⟩
  · rw [if_neg hr] at HQ
    have hne : (R != 0) = true := by simpa using hr
    go_enter Try.func16, Try.ntmps16
    go_wp2_with (first
      | (go_at_call 27; refine (HW.out _ HBA.out).mono ?_; rintro e w1 ⟨rfl, hb1⟩; have HB1 := Lib.hid (below_step HBA.out hb1); have HA1 := Lib.hid (HA.out.later hb1); clear hb1)
      | (refine wpList_build_is rfl 42 _ rfl (mixC rq0.a rq0.dg rq0.z) ?_ ?_; focus kernel_rfl)
      | (refine wpList_store_row rfl 42 _ _ rfl w.heap.size _ rfl rfl 42 _ HA1.out (Rq.sizeOf rq0 rfl) (Rq.sizes rq0 rq0 rfl rfl) rq0.one ?_; generalize hwZ : World.setRow _ _ _ = wZ; have HZ : Hid (Rm wZ w.heap.size rq0) := Lib.hid (by rw [← hwZ]; exact HA1.out.row); have HZB : Hid (Below w.heap.size w wZ) := Lib.hid (by rw [← hwZ]; exact below_setRow8 HB1.out _ _ (Nat.le_refl _)); clear hwZ))
    refine bodyPost_ret (HZ.out.res2 rfl rfl _ rfl) rfl ?_
    exact ⟨by rw [HQ.out]; rfl, HZB.out⟩
end Go.Proofs.Ytcjflabipkppfaa

namespace Go.Proofs.Ytcjflabipkppfaa
set_option linter.unusedVariables false
open Go.RowKit Go.Lib

theorem cofQ_fit {l : List Rc} (W : World) (hn : l.length ≤ 1048576) (hz : (framesN l 0).length ≤ 2097152) : (cofQ l).Fit W := by
  unfold cofQ
  split
  · exact cmQ_fit (by omega) (by omega) (by omega) W
  · exact rq0_fit W
theorem cofQ_n (l : List Rc) : (cofQ l).n = 0 := by
  unfold cofQ
  split <;> rfl
theorem cofQ_Z {l : List Rc} (hz : (framesN l 0).length ≤ 2097152) : 0 ≤ (cofQ l).Z ∧ (cofQ l).Z ≤ 140737488355328 := by
  unfold cofQ
  split
  · show (0 : Int) ≤ ((framesN l 0).length : Int) ∧ ((framesN l 0).length : Int) ≤ _
    omega
  · show (0 : Int) ≤ 0 ∧ (0 : Int) ≤ _
    omega
theorem cofQ_len {l : List Rc} (h : wrongN l = 0) : (cofQ l).Z + ((makeN (cofQ l).rc).length : Int) = ((batN l 0).length : Int) := by
  unfold cofQ
  rw [if_pos h, cmQ_rc]
  have e := makeN_num_length (commitN 0 l.length (framesN l 0).length) (0 + l.length)
  unfold batN
  rw [List.length_append]
  show ((framesN l 0).length : Int) + _ = _
  have e2 : (commitN 0 l.length (framesN l 0).length).num (0 + l.length) = commitN (0 + l.length) l.length (framesN l 0).length := rfl
  rw [e2] at e
  rw [e]
  omega

set_option maxRecDepth 100000 in
set_option maxHeartbeats 2000000 in
theorem cbsize_ok : cbSizeOk := by
  intro p n c L w h hpc hnc hf hn hz
  have hl : (rcL L).length ≤ 1048576 := by rw [rcL_length, h.len]; exact hn
  have HC := Lib.hid (commitOf_any p n c L w h hf hn hz)
  have HFT := Lib.hid fun W => cofQ_fit (l := rcL L) W hl hz
  have HLN := Lib.hid fun W => length_any (cofQ (rcL L)) W (HFT.out W) (by rw [cofQ_n]; exact Nat.zero_le _) (cofQ_Z hz)
  have HLE := Lib.hid fun h0 => cofQ_len (l := rcL L) h0
  have HBZ : Hid (bzN (rcL L) = if wrongN (rcL L) = 0 then ((batN (rcL L) 0).length : Int) else 0) := Lib.hid rfl
  generalize bzN (rcL L) = BZ at *
  generalize batN (rcL L) 0 = BT at *
  obtain ⟨C, hC⟩ : ∃ C, cofQ (rcL L) = C := ⟨_, rfl⟩
  rw [hC] at HC HFT HLN HLE
  unfold Rq.v at HC
  have HCD : Hid (C.dg.length = 32) := Lib.hid (HFT.out default).dg.1
  obtain ⟨R, hR⟩ : ∃ R, wrongN (rcL L) = R := ⟨_, rfl⟩
  rw [hR] at HC HLE HBZ
  obtain ⟨S, hS⟩ : ∃ S, C.Z + ((makeN C.rc).length : Int) = S := ⟨_, rfl⟩
  rw [hS] at HLN HLE
  clear h hpc hnc hf hz hl hC hR hS
  go_enter Try.func10, Try.ntmps10
  go_upto_region 2 with (first
    | (go_at_call 16; refine HC.out.mono ?_; rintro e w1 ⟨rfl, hb1⟩; have HB1 := Lib.hid hb1; clear hb1)
    | (refine wpList_store_row rfl 42 _ _ rfl w1.heap.size _ rfl rfl 42 _ (heap_alloc_new _ _) (Rq.sizeOf C HCD.out) (Rq.sizes rq0 C rfl HCD.out) C.one ?_; generalize hw2 : World.setRow _ _ _ = w2))
  have HR2 : Hid (Rm w2 w1.heap.size C) := Lib.hid (by rw [← hw2]; exact Mx.row (show Rm (w1.alloc (.cells (mixC rq0.a rq0.dg rq0.z) 42)) w1.heap.size rq0 from heap_alloc_new _ _))
  have HB12 : Hid (Below w1.heap.size w1 w2) := Lib.hid (by rw [← hw2]; exact below_setRow8 ((Below.refl _ _).alloc (Nat.le_refl _) _) _ _ (Nat.le_refl _))
  have HB2 : Hid (Below w.heap.size w w2) := Lib.hid (below_step HB1.out HB12.out)
  clear hw2
  by_cases hr : R = 0
  · subst hr
    rw [if_pos rfl] at HBZ
    go_wp2_with (first
      | (refine wpList_ld rfl _ _ rfl _ rfl _ (HR2.out.load HCD.out) ?_)
      | (go_at_call 17; refine (HLN.out _).mono ?_; rintro e w3 ⟨rfl, hb3⟩; have HB3 := Lib.hid (below_step HB2.out hb3); clear hb3))
    go_ret
    exact ⟨by rw [HBZ.out, ← HLE.out (by first | rfl | trivial)]; rfl, HB3.out⟩
  · rw [if_neg hr] at HBZ
    have hne : (R != 0) = true := by simpa using hr
    go_wp2
    go_ret
    exact ⟨by rw [HBZ.out]; rfl, HB2.out⟩
end Go.Proofs.Ytcjflabipkppfaa
