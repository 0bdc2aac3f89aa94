/- Layer 12, the reference: change; Layer 12, the reference: Power; Layer 12, the reference: Crash; Layer 12, the reference: Image -/
import Derived.Test.YtncbgddgkpaoeaaGreatDd18
import Derived.Test.YtncbgddgkpaoeaaGreatDd29
import Derived.Test.YtncbgddgkpaoeaaGreatDd30
import Derived.Test.YtncbgddgkpaoeaaGreatDd36
import Derived.Deep.DeepCutAuto
set_option linter.unusedSimpArgs false
set_option linter.unusedVariables false
namespace Go.Proofs.YtncbgddgkpaoeaaGreat
set_option linter.unusedVariables false
open Go.RowKit Go.Lib

/-- the reference's disk behind a change of its names -/
def chD (d : Dk) (c : Cg) : Dk := { d with F := doP diskP d.F c, K := tidyK d.K (idsP (doP diskP d.F c)), last := if errP diskP d.F c = 0 ∧ c.k = 1 then d.last + 1 else d.last }
set_option maxRecDepth 100000 in
set_option maxHeartbeats 2000000 in
theorem rchange12_any {w : World} {D : Nat} {d : Dk} {x : Fo} {p : Option Addr} {n c : Nat} {L : List Kr} (h : Rx w D d x p n c L) (hF : d.F.ok) (hn : n ≤ 2097152) (g : Cg) (hc : g.ok) (hF2 : (doP diskP d.F g).ok) (hl2 : (idsP (doP diskP d.F g)).length ≤ 1048576) (hlast : 0 ≤ d.last ∧ d.last ≤ 1048576) :
    Calls Tryz.prog 73 #[.pointer (some ⟨D, 0, none⟩), g.v] w fun e w' => e = .returned (.int .i64 (errP diskP d.F g)) ∧ Rw w' D (chD d g) ∧ Kp D D w w' := by
  have HX := Lib.hid h
  have HDO := Lib.hid fun W hW => rdo_any x g W hW (by rw [h.fd]; exact hF) hc
  rw [h.fd] at HDO
  have HTD := Lib.hid fun W (e : Dk) (y : Fo) p n c L (hx : Rx W D e y p n c L) (hf : e.F = doP diskP d.F g) (hn : n ≤ 2097152) => rtidy12_any hx (by rw [hf]; exact hF2) hn (by rw [hf]; exact hl2)
  obtain ⟨px, lx, cx, qx, mx, dx, Lx, Mx⟩ := x
  obtain ⟨ck, ca, cb, ci⟩ := g
  unfold chD
  obtain ⟨er, her⟩ : ∃ e, errP diskP d.F ⟨ck, ca, cb, ci⟩ = e := ⟨_, rfl⟩
  obtain ⟨F', hF'⟩ : ∃ e, doP diskP d.F ⟨ck, ca, cb, ci⟩ = e := ⟨_, rfl⟩
  rw [her, hF'] at HDO
  rw [hF'] at HTD
  rw [her, hF']
  unfold Fo.v at HDO
  unfold Cg.v at HDO ⊢
  dsimp only at HDO ⊢
  obtain ⟨lst, hlst⟩ : ∃ v, (if er = 0 ∧ ck = 1 then d.last + 1 else d.last) = v := ⟨_, rfl⟩
  rw [hlst]
  have HLST := Lib.hid hlst
  clear hlst
  obtain ⟨wA, hA⟩ : ∃ A, w.alloc (.cells #[.int .i64 ck, .string ca, .string cb, .int .i64 ci] 106) = A := ⟨_, rfl⟩
  obtain ⟨G0, hG0⟩ : ∃ G, w.heap.size = G := ⟨_, rfl⟩
  have HG0 := Lib.hid hG0
  have HBA : Hid (Below w.heap.size w wA) := Lib.hid (by rw [← hA]; exact (Below.refl _ _).alloc (Nat.le_refl _) _)
  have HWA : Hid (w.heap.size ≤ wA.heap.size) := Lib.hid HBA.out.size
  have HXA := Lib.hid (h.later HBA.out)
  have HC : Hid (Cgw wA G0 ⟨ck, ca, cb, ci⟩) := Lib.hid (by rw [← hA, ← hG0]; exact heap_alloc_new _ _)
  have HD0 : Hid (Below wA.heap.size wA wA.drew) := Lib.hid ((Below.refl _ _).drew)
  have HD1 : Hid (Below wA.heap.size wA (wA.drew.alloc (.cells #[.slice none 0 0, .slice none 0 0] 64))) := Lib.hid (HD0.out.alloc HD0.out.size _)
  have HZa : Hid (Fw (wA.drew.alloc (.cells #[.slice none 0 0, .slice none 0 0] 64)) wA.heap.size fo0) := Lib.hid (heap_alloc_new wA.drew _)
  have HK : Hid (∀ W, Below wA.heap.size wA W → W.cell? ⟨D, 2, none⟩ = some (.slice px lx cx) ∧ W.cell? ⟨D, 3, none⟩ = some (.slice qx mx dx) ∧ W.cell? ⟨G0, 0, none⟩ = some (.int .i64 ck) ∧ W.cell? ⟨G0, 1, none⟩ = some (.string ca) ∧ W.cell? ⟨G0, 2, none⟩ = some (.string cb) ∧ W.cell? ⟨G0, 3, none⟩ = some (.int .i64 ci)) := Lib.hid fun W hW => by
    obtain ⟨_, _, c2, c3, _⟩ := (HXA.out.later hW).b.cells
    exact ⟨c2, c3, (HC.out.later hW).cells⟩
  have HFA := Lib.hid fun W (hW : Below wA.heap.size wA W) => HXA.out.f.later hW
  have k1 := HK.out _ (Below.refl _ _)
  have k0 := HK.out _ HD0.out
  have k0b := HK.out _ HD1.out
  have HN := Lib.hid hn
  clear h hF hc her hF' hF2 hl2 hn
  go_enter Tryz.func73, Tryz.ntmps73
  go_wp2_with fail
  clear hA hG0
  go_upto_region 1 with fail
  go_cut [5, 6] (fun f e wx => ∃ (G : Nat) (y : Fo), f = .pointer (some ⟨G, 0, none⟩) ∧ e = .int .i64 er ∧ Hid (Fw wx G y) ∧ Hid (Fo.fit wx y) ∧ Hid (y.fd = F') ∧ Hid (Below wA.heap.size wA wx) ∧ Hid (wA.heap.size ≤ G))
  case first =>
    go_region_held3 (fun W => W.cell? ⟨D, 2, none⟩ = some (.slice px lx cx) ∧ W.cell? ⟨D, 3, none⟩ = some (.slice qx mx dx) ∧ W.cell? ⟨G0, 0, none⟩ = some (.int .i64 ck) ∧ W.cell? ⟨G0, 1, none⟩ = some (.string ca) ∧ W.cell? ⟨G0, 2, none⟩ = some (.string cb) ∧ W.cell? ⟨G0, 3, none⟩ = some (.int .i64 ci)) (first | exact k0 | exact k1 | exact k0b | exact k2 | exact k2b | exact k2c | exact k2d) (first
      | (go_at_call 95; refine (HDO.out _ (by first | exact HFA.out _ HD0.out | exact HFA.out _ HD1.out)).mono ?_; rintro e w2 ⟨⟨yp, yn, yc, yq, ym, yd, yL, yM⟩, rfl, hf2, hy2, hb2⟩; have HF2 := Lib.hid hf2; have HY2 := Lib.hid hy2; have HB2 : Hid (Below wA.heap.size wA w2) := Lib.hid (by first | exact below_step HD0.out hb2 | exact below_step HD1.out hb2); have k2 := HK.out _ HB2.out; have HB2b := Lib.hid (HB2.out.alloc HB2.out.size (.cells #[.slice none 0 0, .slice none 0 0] 64)); have k2b := HK.out _ HB2b.out; have k2c := HK.out _ (HB2.out.alloc HB2.out.size (.cells #[.slice yp yn yc, .slice yq ym yd] 64)); have k2d := HK.out _ ((HB2.out.setCell (p := ⟨wA.heap.size, 0, none⟩) (Nat.le_refl _) (.slice yp yn yc)).setCell (p := ⟨wA.heap.size, 1, none⟩) (Nat.le_refl _) (.slice yq ym yd)); (try (have HZ2 := Lib.hid (HZa.out.later hb2); obtain ⟨z0, z1⟩ := HZ2.out.cells; have f0 := HZ2.out.frozen 0; have f1 := HZ2.out.frozen 1)); clear hf2 hy2 hb2))
    all_goals (go_wp2_with fail)
    all_goals go_meet
    all_goals (first
      | exact ⟨_, ⟨yp, yn, yc, yq, ym, yd, yL, yM⟩, rfl, rfl, Lib.hid (heap_alloc_new _ _), Lib.hid (HF2.out.later ((Below.refl _ _).alloc (Nat.le_refl _) _)), HY2, Lib.hid (HB2.out.alloc HB2.out.size _), Lib.hid HB2.out.size⟩
      | exact ⟨_, ⟨yp, yn, yc, yq, ym, yd, yL, yM⟩, rfl, rfl, Lib.hid (cells2_storedF HZ2.out _ _), Lib.hid (HF2.out.stored HZ2.out.sl2 (stored2_keepF _ _ _ _)), HY2, Lib.hid ((HB2.out.setCell (p := ⟨wA.heap.size, 0, none⟩) (Nat.le_refl _) _).setCell (p := ⟨wA.heap.size, 1, none⟩) (Nat.le_refl _) _), Lib.hid (Nat.le_refl _)⟩)
  case rest =>
    obtain ⟨G, ⟨yp, yn, yc, yq, ym, yd, yL, yM⟩, rfl, rfl, HY, HFY, HYF, HB4, HAG⟩ := hcut
    have HX4 := Lib.hid (HXA.out.later HB4.out)
    have HB5 := Lib.hid (below_step HBA.out HB4.out)
    obtain ⟨i0, i1⟩ := HY.out.cells
    obtain ⟨_, _, c2, c3, _⟩ := HX4.out.b.cells
    have f2 := HX4.out.b.frozen 2
    have f3 := HX4.out.b.frozen 3
    have hgk := (HC.out.later HB4.out).cells.1
    obtain ⟨wS, hS⟩ : ∃ W, (wc.setCell ⟨D, 2, none⟩ (.slice yp yn yc)).setCell ⟨D, 3, none⟩ (.slice yq ym yd) = W := ⟨_, rfl⟩
    have hKS : Kp D D wc wS := by rw [← hS]; exact ((Kp.refl D D wc).setD _ _).setD _ _
    have HSB : Hid (Rb wS D d ⟨yp, yn, yc, yq, ym, yd, yL, yM⟩ p n c) := Lib.hid (by rw [← hS]; exact HX4.out.b.setNames ⟨yp, yn, yc, yq, ym, yd, yL, yM⟩)
    have HKS := Lib.hid hKS
    have HRS : Hid (Rx wS D { d with F := F' } ⟨yp, yn, yc, yq, ym, yd, yL, yM⟩ p n c L) := Lib.hid (by
      have hnx := HX4.out.b.nix
      exact { HX4.out with b := HSB.out, f := HFY.out.kp hKS hnx hnx, fd := HYF.out, s := HX4.out.s.apart hKS (fun a ha => by have := HX4.out.sp a ha; omega), i := fun y hy => (HX4.out.i y hy).kp hKS hnx hnx })
    have HKA : Hid (Kp D D w wS) := Lib.hid ((Kp.of_below HB5.out).trans hKS)
    have hdg : wS.cell? ⟨G0, 0, none⟩ = some (.int .i64 ck) := by
      rw [World.cell?_of_block (w := wc) (a := ⟨G0, 0, none⟩) (hKS.block G0 (World.block_lt_of_cell? wc _ hgk) (fun e => ?_) (fun e => ?_))]
      · exact hgk
      · have h1 := HX.out.b.lt; have h2 := HG0.out; omega
      · have h1 := HX.out.b.lt; have h2 := HG0.out; omega
    clear HK k0 k1 k0b HD0 HD1 HZa HFA HDO hKS
    have HN2 := HN.out
    by_cases he : er = 0
    · subst he
      by_cases hk1 : ck = 1
      · subst hk1
        obtain ⟨_, _, _, _, _, c5, _⟩ := HRS.out.b.cells
        dsimp only at c5
        have f5 := HRS.out.b.frozen 5
        obtain ⟨hl0, hl1⟩ := hlast
        have hwr : IntKind.i64.wrap (d.last + 1) = d.last + 1 := by rw [IntKind.wrap_i64]; omega
        obtain ⟨wT, hT⟩ : ∃ W, wS.setCell ⟨D, 5, none⟩ (.int .i64 (d.last + 1)) = W := ⟨_, rfl⟩
        have hKT : Kp D D wS wT := by rw [← hT]; exact Kp.of_set _ _ _ _
        have HRT : Hid (Rx wT D { d with F := F', last := d.last + 1 } ⟨yp, yn, yc, yq, ym, yd, yL, yM⟩ p n c L) := Lib.hid (HRS.out.own hKT (by rw [← hT]; exact HRS.out.b.setLast (d.last + 1)) rfl rfl)
        have HKT := Lib.hid (HKA.out.trans hKT)
        have HTI := Lib.hid (HTD.out _ _ _ _ _ _ _ HRT.out rfl HN2)
        clear hKT
        generalize hLs : d.last = la at *
        go_wp2_with (go_at_call 74; refine HTI.out.mono ?_; rintro e w7 ⟨rfl, hw7, hk7⟩; have HW7 := Lib.hid hw7; have HK7 := Lib.hid hk7; clear hw7 hk7)
        go_ret
        refine ⟨rfl, ?_, HKT.out.trans HK7.out⟩
        have hh : la + 1 = lst := by simpa using HLST.out
        rw [← hh]
        exact HW7.out
      · have q : (ck == 1) = false := by simpa using hk1
        have HTI := Lib.hid (HTD.out _ _ _ _ _ _ _ HRS.out rfl HN2)
        have HNK := Lib.hid hk1
        clear hk1
        go_wp2_with (go_at_call 74; refine HTI.out.mono ?_; rintro e w7 ⟨rfl, hw7, hk7⟩; have HW7 := Lib.hid hw7; have HK7 := Lib.hid hk7; clear hw7 hk7)
        go_ret
        refine ⟨rfl, ?_, HKA.out.trans HK7.out⟩
        have hh := HLST.out
        rw [if_neg (fun e => HNK.out e.2)] at hh
        rw [← hh]
        exact HW7.out
    · have q : (er == 0) = false := by simpa using he
      have HTI := Lib.hid (HTD.out _ _ _ _ _ _ _ HRS.out rfl HN2)
      have HNK := Lib.hid he
      clear he
      go_wp2_with (go_at_call 74; refine HTI.out.mono ?_; rintro e w7 ⟨rfl, hw7, hk7⟩; have HW7 := Lib.hid hw7; have HK7 := Lib.hid hk7; clear hw7 hk7)
      go_ret
      refine ⟨rfl, ?_, HKA.out.trans HK7.out⟩
      have hh := HLST.out
      rw [if_neg (fun e => HNK.out e.1)] at hh
      rw [← hh]
      exact HW7.out
end Go.Proofs.YtncbgddgkpaoeaaGreat

namespace Go.Proofs.YtncbgddgkpaoeaaGreat
set_option linter.unusedVariables false
open Go.RowKit Go.Lib

theorem chD_create {m : Nat} {d : Dk} (ho : d.Ok m) (s : ByteArray) (hf : ¬ d.lf ≤ (d.K.length : Int)) : createP d s = (chD d ⟨1, s, ⟨#[]⟩, d.last + 1⟩, errP diskP d.F ⟨1, s, ⟨#[]⟩, d.last + 1⟩) := by
  unfold createP chD
  rw [if_neg hf]
  by_cases he : errP diskP d.F ⟨1, s, ⟨#[]⟩, d.last + 1⟩ = 0
  · have hF : doP diskP d.F ⟨1, s, ⟨#[]⟩, d.last + 1⟩ = ⟨d.F.l, d.F.p ++ [⟨1, s, ⟨#[]⟩, d.last + 1⟩]⟩ := by unfold doP; rw [if_pos he]
    have hids := ids_new d.F ⟨1, s, ⟨#[]⟩, d.last + 1⟩ rfl (fun i hi => by have := ho.low i hi; show i < d.last + 1; omega)
    rw [if_pos he, if_pos ⟨he, rfl⟩, he]
    congr 1
    have hk : tidyK d.K (idsP (doP diskP d.F ⟨1, s, ⟨#[]⟩, d.last + 1⟩)) = d.K ++ [⟨d.last + 1, fi0⟩] := by
      rw [hF, hids]
      show tidyK d.K (idsP d.F ++ [d.last + 1]) = _
      rw [← ho.ids]
      exact tidy_more ho.rises (by rw [ho.ids]; exact fun hm => by have := ho.low _ hm; omega)
    rw [hk]
  · have hF : doP diskP d.F ⟨1, s, ⟨#[]⟩, d.last + 1⟩ = d.F := by unfold doP; rw [if_neg he]
    rw [if_neg he, if_neg (fun h => he h.1), hF]
    congr 1
    have hk : tidyK d.K (idsP d.F) = d.K := by rw [← ho.ids]; exact tidy_self ho.rises
    rw [hk]
theorem chD_ren {m : Nat} {d : Dk} (ho : d.Ok m) (c : Cg) (hc : c.k ≠ 1) : renP d c = (chD d c, errP diskP d.F c) := by
  unfold renP chD
  rw [if_neg (fun h => hc h.2), ids_do d.F c hc]
  have hk : tidyK d.K (idsP d.F) = d.K := by rw [← ho.ids]; exact tidy_self ho.rises
  rw [hk]
/-- what change asks of a change -/
theorem chg_room {m : Nat} {d : Dk} (ho : d.Ok m) (hm : m ≤ 1048573) (c : Cg) (hc : c.ok) (hid : c.k = 1 → c.id = d.last + 1) : (doP diskP d.F c).ok ∧ (idsP (doP diskP d.F c)).length ≤ 1048576 := by
  have hl : (idsP d.F).length = d.K.length := by rw [← ho.ids]; simp [idK]
  have hF := ho.fd (by omega)
  have hlen := ho.len
  have hids : (idsP d.F).length ≤ m := by have := ho.klen; omega
  by_cases he : errP diskP d.F c = 0
  · have hd : doP diskP d.F c = ⟨d.F.l, d.F.p ++ [c]⟩ := by unfold doP; rw [if_pos he]
    refine ⟨?_, ?_⟩
    · rw [hd]
      refine ⟨hF.1, fun y hy => ?_, ?_⟩
      · rcases List.mem_append.1 hy with hy | hy
        · exact hF.2.1 y hy
        · obtain rfl := List.mem_singleton.1 hy; exact hc
      · show d.F.l.length + (d.F.p ++ [c]).length ≤ 1048576
        rw [List.length_append]
        simp
        omega
    · by_cases hk : c.k = 1
      · rw [hd, ids_new d.F c hk (fun i hi => by have := ho.low i hi; rw [hid hk]; omega), List.length_append]
        simp
        omega
      · rw [ids_do d.F c hk]; omega
  · have hd : doP diskP d.F c = d.F := by unfold doP; rw [if_neg he]
    rw [hd]
    exact ⟨hF, by omega⟩

/-- the files' row makes nothing of a change of fuse, calls, power -/
theorem Rx.cell4 {w : World} {D : Nat} {d : Dk} {x : Fo} {p : Option Addr} {n c : Nat} {L : List Kr} (h : Rx w D d x p n c L) : d.K.length = n := by
  rw [← h.k, List.length_map, h.s.1]

theorem ids_len_sub {l m : List Int} (hl : irises l) (h : ∀ i ∈ l, i ∈ m) : l.length ≤ m.length := nodup_len (irises_nodup hl) h

set_option maxRecDepth 100000 in
set_option maxHeartbeats 4000000 in
theorem rpower12_any {w : World} {D m : Nat} {d : Dk} {x : Fo} {p : Option Addr} {n c : Nat} {L : List Kr} (h : Rx w D d x p n c L) (ho : d.Ok m) (hm : m ≤ 1048572) (k : Int) (hk : 1 ≤ k ∧ k ≤ 7) (s t : ByteArray) (hs : s.size ≤ 1048576) (ht : t.size ≤ 1048576)
    (bp : Option Addr) (bl bc : Nat) (bs : List Int) (nn : Int) (hb : Bs w bp bl bs) (hbp : bp = none → bc = 0) (hble : bl ≤ bc) (hbc : bc ≤ maxLen) (hbl : bl ≤ 2097152) (hin : InI nn) :
    Calls Tryz.prog 39 #[.pointer (some ⟨D, 0, none⟩), .int .i64 k, .string s, .string t, .slice bp bl bc, .int .i64 nn] w fun e w' =>
      e = .returned (.int .i64 (powP d fun d => effP d ⟨k, s, t, bs, nn⟩).2) ∧ Rw w' D (powP d fun d => effP d ⟨k, s, t, bs, nn⟩).1 ∧ Kp D D w w' := by
  obtain ⟨c0, c1, c2, c3, c4, c5, c6, c7, c8⟩ := h.b.cells
  have f5 := h.b.frozen 5
  have f6 := h.b.frozen 6
  have f7 := h.b.frozen 7
  have f8 := h.b.frozen 8
  have HX := Lib.hid h
  obtain ⟨R, hR⟩ : ∃ R, powP d (fun d => effP d ⟨k, s, t, bs, nn⟩) = R := ⟨_, rfl⟩
  have HR := Lib.hid hR
  rw [hR]
  by_cases hdown : downP d = true
  · have HP : Hid (R = (offP d, 11)) := Lib.hid (by rw [← hR]; unfold powP; rw [if_pos hdown])
    obtain ⟨R1, R2⟩ := R
    obtain ⟨rfl, rfl⟩ := Prod.mk.inj HP.out
    dsimp only
    obtain ⟨wS, hS⟩ : ∃ W, w.setCell ⟨D, 6, none⟩ (.bool true) = W := ⟨_, rfl⟩
    have HK : Hid (Kp D D w wS) := Lib.hid (by rw [← hS]; exact Kp.of_set _ _ _ _)
    have HRS : Hid (Rx wS D (offP d) x p n c L) := Lib.hid (h.own HK.out (by rw [← hS]; exact h.b.setOff true) rfl rfl)
    obtain ⟨of, hof⟩ : ∃ b, d.off = b := ⟨_, rfl⟩
    obtain ⟨fu, hfu⟩ : ∃ b, d.fuse = b := ⟨_, rfl⟩
    unfold downP at hdown
    rw [hof, hfu] at hdown
    rw [hof] at c6
    rw [hfu] at c7
    clear h hb hR HR HP hof hfu
    cases of with
    | true =>
      go_enter Tryz.func39, Tryz.ntmps39
      go_wp2
      go_ret
      exact ⟨rfl, ⟨_, _, _, _, _, HRS.out⟩, HK.out⟩
    | false =>
      have hfz : fu = 0 := by simpa using hdown
      subst hfz
      go_enter Tryz.func39, Tryz.ntmps39
      go_wp2
      go_ret
      exact ⟨rfl, ⟨_, _, _, _, _, HRS.out⟩, HK.out⟩
  · have hup : downP d = false := by simpa using hdown
    have hoff : d.off = false := by unfold downP at hup; cases h : d.off <;> simp_all
    have hfu0 : ¬ d.fuse = 0 := by unfold downP at hup; simp_all
    have HP : Hid (R = effP (tickP d) ⟨k, s, t, bs, nn⟩) := Lib.hid (by rw [← hR]; unfold powP; rw [if_neg hdown])
    have HTK : Hid ((tickP d).Ok (m + 1)) := Lib.hid (tick_ok ho)
    obtain ⟨fu, hfu⟩ : ∃ b, d.fuse = b := ⟨_, rfl⟩
    obtain ⟨cl, hcl⟩ : ∃ b, d.calls = b := ⟨_, rfl⟩
    have hcl0 := ho.calls0
    have hcl1 := ho.calls
    have hfi := ho.fuse
    rw [hcl] at c8 hcl0 hcl1
    rw [hfu] at c7 hfu0 hfi
    rw [hoff] at c6
    unfold InI at hfi
    have hne : (fu == 0) = false := by simpa using hfu0
    obtain ⟨fv, hfv⟩ : ∃ v, (if 0 < fu then fu - 1 else fu) = v := ⟨_, rfl⟩
    have HFV := Lib.hid hfv
    have HCL := Lib.hid hcl
    have HFU := Lib.hid hfu
    have HX0 := Lib.hid h.b.nix
    clear h hR HR hdown hup hoff hfu0 hfv hcl hfu
    go_enter Tryz.func39, Tryz.ntmps39
    go_upto_if 31 with fail
    go_cut [12] (fun r wx => r = .int .i64 0 ∧ Hid (Rx wx D { d with fuse := fv } x p n c L) ∧ Hid (Kp D D w wx))
    case first =>
      by_cases hpos : 0 < fu
      · have hw : IntKind.i64.wrap (fu - 1) = fu - 1 := by rw [IntKind.wrap_i64]; omega
        have hv : fv = fu - 1 := by rw [← HFV.out, if_pos hpos]
        go_wp2_with fail
        go_meet
        have hK : Kp D D w (w.setCell ⟨D, 7, none⟩ (.int .i64 (fu - 1))) := Kp.of_set _ _ _ _
        exact ⟨rfl, Lib.hid (HX.out.own hK (by rw [hv]; exact HX.out.b.setFuse (fu - 1)) rfl rfl), Lib.hid hK⟩
      · have hv : fv = fu := by rw [← HFV.out, if_neg hpos]
        go_wp2_with fail
        go_meet
        exact ⟨rfl, Lib.hid (HX.out.own (Kp.refl _ _ _) (HX.out.b.as rfl rfl rfl rfl (by show fv = d.fuse; rw [hv, HFU.out]) rfl) rfl rfl), Lib.hid (Kp.refl _ _ _)⟩
    case rest =>
      obtain ⟨rfl, HX4, HK4⟩ := hcut
      have e8 := HX4.out.b.cells.2.2.2.2.2.2.2.2
      dsimp only at e8
      rw [HCL.out] at e8
      have g8 := HX4.out.b.frozen 8
      have hw8 : IntKind.i64.wrap (cl + 1) = cl + 1 := by rw [IntKind.wrap_i64]; omega
      obtain ⟨wT, hT⟩ : ∃ W, wc.setCell ⟨D, 8, none⟩ (.int .i64 (cl + 1)) = W := ⟨_, rfl⟩
      have HKT : Hid (Kp D D w wT) := Lib.hid (HK4.out.trans (by rw [← hT]; exact Kp.of_set _ _ _ _))
      have HRT : Hid (Rx wT D (tickP d) x p n c L) := Lib.hid (by
        have hb : Rb wT D (tickP d) x p n c := by
          rw [← hT]
          exact (HX4.out.b.setCalls (cl + 1)).as rfl rfl rfl rfl (by show (if 0 < d.fuse then d.fuse - 1 else d.fuse) = fv; rw [HFU.out, HFV.out]) (by show d.calls + 1 = cl + 1; rw [HCL.out])
        exact HX4.out.own (by rw [← hT]; exact Kp.of_set _ _ _ _) hb rfl rfl)
      generalize tickP d = T at *
      have HN := Lib.hid (show n ≤ 1048576 by have := HRT.out.cell4; have := HTK.out.klen; omega)
      have HON := Lib.hid (fun (j : Int) => HRT.out)
      clear hfi hcl0 hcl1 HFV HCL HFU HX hne c0 c1 c2 c3 c4 c5 c6 c7 c8 f5 f6 f7 f8
      obtain ⟨c0, c1, c2, c3, c4, c5, c6, c7, c8⟩ := HRT.out.b.cells
      by_cases h1 : k = 1
      · subst h1
        have HE : Hid (R = createP T s) := Lib.hid HP.out
        have hkl := HRT.out.cell4
        go_wp2
        go_quiet (fail)
        generalize hw8 : wT.drewN nq = w8
        have HRT8 : Hid (Rx w8 D T x p n c L) := Lib.hid (HRT.out.later (by rw [← hw8]; exact below_drewN (Below.refl _ _) _))
        have HK8 : Hid (Kp D D w w8) := Lib.hid (HKT.out.then_below (by rw [← hw8]; exact below_drewN (Below.refl _ _) _))
        clear hw8
        by_cases hlf : T.lf ≤ (n : Int)
        · have HEE : Hid (R = (T, 8)) := Lib.hid (by rw [HE.out]; unfold createP; rw [if_pos (by rw [hkl]; exact hlf)])
          obtain ⟨R1, R2⟩ := R
          obtain ⟨rfl, rfl⟩ := Prod.mk.inj HEE.out
          try dsimp only
          clear hb HP HE HEE
          go_wp2
          go_ret
          exact ⟨rfl, ⟨_, _, _, _, _, HRT8.out⟩, HK8.out⟩
        · have hl0 := HTK.out.last0
          have hl1 := HTK.out.last
          have hok := chg_ok (k := 1) (i := T.last + 1) (by omega) hs (show (⟨#[]⟩ : ByteArray).size ≤ 1048576 by decide) (by unfold InI; omega)
          have hrm := chg_room HTK.out (by omega) ⟨1, s, ⟨#[]⟩, T.last + 1⟩ hok (fun _ => rfl)
          have HC := Lib.hid (rchange12_any HRT8.out (HTK.out.fd (by omega)) (Nat.le_trans HN.out (by omega)) ⟨1, s, ⟨#[]⟩, T.last + 1⟩ hok hrm.1 hrm.2 ⟨HTK.out.last0, by have := HTK.out.last; omega⟩)
          have HEE : Hid (R = (chD T ⟨1, s, ⟨#[]⟩, T.last + 1⟩, errP diskP T.F ⟨1, s, ⟨#[]⟩, T.last + 1⟩)) := Lib.hid (HE.out.trans (chD_create HTK.out s (by rw [hkl]; exact hlf)))
          obtain ⟨d0, d1, d2, d3, d4, d5, d6, d7, d8⟩ := HRT8.out.b.cells
          have hwl : IntKind.i64.wrap (T.last + 1) = T.last + 1 := by rw [IntKind.wrap_i64]; omega
          have q1 : chD T ⟨1, s, ⟨#[]⟩, T.last + 1⟩ = R.1 := by rw [HEE.out]
          have q2 : errP diskP T.F ⟨1, s, ⟨#[]⟩, T.last + 1⟩ = R.2 := by rw [HEE.out]
          unfold Cg.v at HC
          dsimp only at HC
          rw [q1, q2] at HC
          clear q1 q2
          clear hb HP HE HEE hok hrm hl0 hl1
          generalize hTl : T.last = tl at *
          go_wp2_with (go_at_call 73; refine HC.out.mono ?_; rintro e w9 ⟨rfl, hw9, hk9⟩; have HW9 := Lib.hid hw9; have HK9 := Lib.hid hk9; clear hw9 hk9)
          go_ret
          exact ⟨rfl, HW9.out, HK8.out.trans HK9.out⟩
      have k1 : (k == 1) = false := by simpa using h1
      by_cases h5 : k = 5
      · subst h5
        have hok := chg_ok (k := 2) (i := 0) (by omega) hs ht (by unfold InI; omega)
        have hrm := chg_room HTK.out (by omega) ⟨2, s, t, 0⟩ hok (fun e => absurd (show (2 : Int) = 1 from e) (by decide))
        have HC := Lib.hid (rchange12_any HRT.out (HTK.out.fd (by omega)) (Nat.le_trans HN.out (by omega)) ⟨2, s, t, 0⟩ hok hrm.1 hrm.2 ⟨HTK.out.last0, by have := HTK.out.last; omega⟩)
        have HE : Hid (R = (chD T ⟨2, s, t, 0⟩, errP diskP T.F ⟨2, s, t, 0⟩)) := Lib.hid (HP.out.trans (chD_ren HTK.out ⟨2, s, t, 0⟩ (show (2 : Int) ≠ 1 by decide)))
        have q1 : chD T ⟨2, s, t, 0⟩ = R.1 := by rw [HE.out]
        have q2 : errP diskP T.F ⟨2, s, t, 0⟩ = R.2 := by rw [HE.out]
        unfold Cg.v at HC
        dsimp only at HC
        rw [q1, q2] at HC
        clear q1 q2
        clear hb HP HE hok hrm c0 c1 c2 c3 c4 c5 c6 c7 c8
        go_wp2_with (go_at_call 73; refine HC.out.mono ?_; rintro e w9 ⟨rfl, hw9, hk9⟩; have HW9 := Lib.hid hw9; have HK9 := Lib.hid hk9; clear hw9 hk9)
        go_ret
        exact ⟨rfl, HW9.out, HKT.out.trans HK9.out⟩
      have k5 : (k == 5) = false := by simpa using h5
      by_cases h6 : k = 6
      · subst h6
        have hok := chg_ok (k := 3) (i := 0) (by omega) hs (show (⟨#[]⟩ : ByteArray).size ≤ 1048576 by decide) (by unfold InI; omega)
        have hrm := chg_room HTK.out (by omega) ⟨3, s, ⟨#[]⟩, 0⟩ hok (fun e => absurd (show (3 : Int) = 1 from e) (by decide))
        have HC := Lib.hid (rchange12_any HRT.out (HTK.out.fd (by omega)) (Nat.le_trans HN.out (by omega)) ⟨3, s, ⟨#[]⟩, 0⟩ hok hrm.1 hrm.2 ⟨HTK.out.last0, by have := HTK.out.last; omega⟩)
        have HE : Hid (R = (chD T ⟨3, s, ⟨#[]⟩, 0⟩, errP diskP T.F ⟨3, s, ⟨#[]⟩, 0⟩)) := Lib.hid (HP.out.trans (chD_ren HTK.out ⟨3, s, ⟨#[]⟩, 0⟩ (show (3 : Int) ≠ 1 by decide)))
        have q1 : chD T ⟨3, s, ⟨#[]⟩, 0⟩ = R.1 := by rw [HE.out]
        have q2 : errP diskP T.F ⟨3, s, ⟨#[]⟩, 0⟩ = R.2 := by rw [HE.out]
        unfold Cg.v at HC
        dsimp only at HC
        rw [q1, q2] at HC
        clear q1 q2
        clear hb HP HE hok hrm c0 c1 c2 c3 c4 c5 c6 c7 c8
        go_wp2_with (go_at_call 73; refine HC.out.mono ?_; rintro e w9 ⟨rfl, hw9, hk9⟩; have HW9 := Lib.hid hw9; have HK9 := Lib.hid hk9; clear hw9 hk9)
        go_ret
        exact ⟨rfl, HW9.out, HKT.out.trans HK9.out⟩
      have k6 : (k == 6) = false := by simpa using h6
      by_cases h7 : k = 7
      · subst h7
        have HE : Hid (R = syncDirP T) := Lib.hid HP.out
        have HFK := Lib.hid (HTK.out.fd (show m + 1 ≤ 1048575 by omega))
        have HNW := Lib.hid (rfnow_any x wT HRT.out.f (by rw [HRT.out.fd]; exact HFK.out))
        rw [HRT.out.fd] at HNW
        have HSO : Hid ((syncQ T.F).ok) := Lib.hid (syncQ_ok HFK.out)
        have HIL : Hid ((idsP (syncQ T.F)).length ≤ 1048576) := Lib.hid (by
          have h1 := ids_len_sub (idsP_rises (syncQ T.F)) (ids_sync T.F)
          have h2 : (idsP T.F).length = T.K.length := by rw [← HTK.out.ids]; simp [idK]
          have h3 := HTK.out.klen
          omega)
        have HTI := Lib.hid fun W (y : Fo) (hx : Rx W D { T with F := syncQ T.F } y p n c L) => rtidy12_any hx HSO.out (Nat.le_trans HN.out (by omega)) HIL.out
        have g2 := HRT.out.b.frozen 2
        have g3 := HRT.out.b.frozen 3
        unfold syncDirP at HE
        obtain ⟨px, lx, cx, qx, mx, dx, Lx, Mx⟩ := x
        unfold Fo.v at HNW
        dsimp only at HNW c2 c3
        have HE1 : Hid (({ ({ T with F := syncQ T.F } : Dk) with K := tidyK T.K (idsP (syncQ T.F)) } : Dk) = R.1) := Lib.hid (by rw [HE.out])
        have q2 : (0 : Int) = R.2 := by rw [HE.out]
        have Q2 := Lib.hid q2
        clear hb HP HE q2 c0 c1 c4 c5 c6 c7 c8
        go_wp2_with (first
          | (go_at_call 34; refine HNW.out.mono ?_; rintro e w8 ⟨v8, rfl, ho8, hb8⟩; obtain ⟨p8, c9, hv8, hl8, _, hg8, hpn8⟩ := ho8.open; subst hv8; have HR8 := Lib.hid (HRT.out.later hb8); have HB8 := Lib.hid hb8; have HG8 := Lib.hid hg8; have HP8 := Lib.hid hpn8; have HL8 := Lib.hid hl8; obtain ⟨_, _, e2, e3, _⟩ := HR8.out.b.cells; have i2 := HR8.out.b.frozen 2; have i3 := HR8.out.b.frozen 3; clear ho8 hb8 hg8 hpn8 hl8)
          | (go_at_call 74; (obtain ⟨wS, hS⟩ : ∃ W, (w8.setCell ⟨D, 2, none⟩ (.slice p8 (nowQ T.F).length c9)).setCell ⟨D, 3, none⟩ (.slice none 0 0) = W := ⟨_, rfl⟩; rw [hS]; have hKS : Kp D D w8 wS := (by rw [← hS]; exact ((Kp.refl D D w8).setD _ _).setD _ _); have hnx := HR8.out.b.nix; have hxS : Rx wS D { T with F := syncQ T.F } ⟨p8, (nowQ T.F).length, c9, none, 0, 0, nowQ T.F, []⟩ p n c L := { HR8.out with b := (by rw [← hS]; exact HR8.out.b.setNames ⟨p8, (nowQ T.F).length, c9, none, 0, 0, nowQ T.F, []⟩), f := Fo.fit.kp (x := ⟨p8, (nowQ T.F).length, c9, none, 0, 0, nowQ T.F, []⟩) ⟨HG8.out, HP8.out, HL8.out, ⟨rfl, Or.inl rfl⟩, fun _ => rfl, Nat.le_refl _⟩ hKS hnx hnx, fd := rfl, s := HR8.out.s.apart hKS (fun a ha => by have := HR8.out.sp a ha; omega), i := fun y hy => (HR8.out.i y hy).kp hKS hnx hnx }; refine (HTI.out wS _ hxS).mono ?_; rintro e w9 ⟨rfl, hw9, hk9⟩; have HW9 := Lib.hid hw9; have HK9 := Lib.hid (((HKT.out.then_below HB8.out).trans hKS).trans hk9); clear hw9 hk9 hxS hKS hnx hS)))
        go_ret
        exact ⟨ret_int Q2.out, by rw [← HE1.out]; exact HW9.out, HK9.out⟩
      have k7 : (k == 7) = false := by simpa using h7
      by_cases h2 : k = 2
      · subst h2
        have HO := Lib.hid (ron12_app HRT.out HTK.out (by omega) s bp bl bc bs nn (hb.kp HKT.out HX0.out HX0.out) hbp hble hbc hbl hin)
        have HE : Hid (R = editP T s (appX T bs)) := Lib.hid HP.out
        rw [← HE.out] at HO
        clear hb HP HE c0 c1 c2 c3 c4 c5 c6 c7 c8
        go_wp2_with (go_at_call 75; refine HO.out.mono ?_; rintro e w9 ⟨rfl, hw9, hk9⟩; have HW9 := Lib.hid hw9; have HK9 := Lib.hid hk9; clear hw9 hk9)
        go_ret
        exact ⟨rfl, HW9.out, HKT.out.trans HK9.out⟩
      by_cases h3 : k = 3
      · subst h3
        have HO := Lib.hid (ron12_cut HRT.out HTK.out (by omega) s bp bl bc bs nn (hb.kp HKT.out HX0.out HX0.out) hbp hble hbc hbl hin)
        have HE : Hid (R = editP T s (cutX nn)) := Lib.hid HP.out
        rw [← HE.out] at HO
        clear hb HP HE c0 c1 c2 c3 c4 c5 c6 c7 c8
        go_wp2_with (go_at_call 75; refine HO.out.mono ?_; rintro e w9 ⟨rfl, hw9, hk9⟩; have HW9 := Lib.hid hw9; have HK9 := Lib.hid hk9; clear hw9 hk9)
        go_ret
        exact ⟨rfl, HW9.out, HKT.out.trans HK9.out⟩
      have h4 : k = 4 := by omega
      · subst h4
        have HO := Lib.hid (ron12_syn HRT.out HTK.out (by omega) s bp bl bc bs nn (hb.kp HKT.out HX0.out HX0.out) hbp hble hbc hbl hin)
        have HE : Hid (R = editP T s (synX)) := Lib.hid HP.out
        rw [← HE.out] at HO
        clear hb HP HE c0 c1 c2 c3 c4 c5 c6 c7 c8
        go_wp2_with (go_at_call 75; refine HO.out.mono ?_; rintro e w9 ⟨rfl, hw9, hk9⟩; have HW9 := Lib.hid hw9; have HK9 := Lib.hid hk9; clear hw9 hk9)
        go_ret
        exact ⟨rfl, HW9.out, HKT.out.trans HK9.out⟩
end Go.Proofs.YtncbgddgkpaoeaaGreat

namespace Go.Proofs.YtncbgddgkpaoeaaGreat
set_option linter.unusedVariables false
open Go.RowKit Go.Lib

def chK : List Kt → List Int → Nat → List Int
  | _, ch, 0 => ch
  | [], ch, _ + 1 => ch
  | k :: K, ch, j + 1 => chK K (restP k.x ch) j
theorem cr_take : ∀ (K : List Kt) (ch : List Int) (j : Nat), j < K.length →
    (crK K ch).take (j + 1) = (crK K ch).take j ++ [⟨(K.getD j kt0).id, crashP (K.getD j kt0).x (chK K ch j)⟩] ∧ chK K ch (j + 1) = restP (K.getD j kt0).x (chK K ch j)
  | [], ch, j, h => absurd h (Nat.not_lt_zero _)
  | k :: K, ch, 0, _ => ⟨rfl, by show chK K (restP k.x ch) 0 = _; cases K <;> rfl⟩
  | k :: K, ch, j + 1, h => by
    obtain ⟨h1, h2⟩ := cr_take K (restP k.x ch) j (by simpa using h)
    refine ⟨?_, h2⟩
    show (⟨k.id, crashP k.x ch⟩ :: crK K (restP k.x ch)).take (j + 1 + 1) = (⟨k.id, crashP k.x ch⟩ :: crK K (restP k.x ch)).take (j + 1) ++ _
    rw [List.take_succ_cons, List.take_succ_cons, h1]
    rfl
theorem cr_length (K : List Kt) (ch : List Int) : (crK K ch).length = K.length := by
  have := congrArg List.length (idK_cr K ch)
  simpa [idK] using this
/-- a file whose bytes are the call's own, with nothing pending -/
def Kb (w : World) (B : Nat) (y : Kr) : Prop := Ob w B 5 (.slice y.x.p y.x.n y.x.c) y.x.zs ∧ y.x.q = none ∧ y.x.m = 0 ∧ y.x.d = 0 ∧ y.x.L = []
theorem Kb.fit {w : World} {B : Nat} {y : Kr} (h : Kb w B y) : Ni.fit w y.x := by
  obtain ⟨h0, h1, h2, h3, h4⟩ := h
  obtain ⟨p, c, hv, hl, _, hb, hp⟩ := h0.open
  simp only [Value.slice.injEq] at hv
  obtain ⟨e1, e2, e3⟩ := hv
  refine ⟨by rw [e1, e2]; exact hb, by rw [e1, e3]; exact hp, by rw [e2, e3]; exact hl, ?_, fun _ => h3, by rw [h2]; exact Nat.zero_le _⟩
  rw [h1, h2, h4]
  exact ⟨rfl, by simp, Or.inl rfl⟩
theorem Kb.later {w w' : World} {B : Nat} {y : Kr} (h : Kb w B y) (hb : Below w.heap.size w w') : Kb w' B y := ⟨h.1.later hb, h.2⟩
theorem inode_ne : 73 ≠ encR.t := by decide
theorem grownG_other {α : Type} {E : Ec α} {w w' : World} {B k : Nat} {v : Value} {L : List α} {cs : Array Value} {t : TypeId} {fr : Nat × Nat} (ho : Gw E w B v L) (hg : w.grownBy w' v.ownBlock) (hb : w.heap[k]? = some (.cells cs t fr)) (hne : t ≠ E.t) : w'.heap[k]? = some (.cells cs t fr) := by
  rw [hg.block k (Array.getElem?_eq_some_iff.1 hb).1 (fun e => ?_)]
  · exact hb
  · rcases ho.2 with ⟨rfl, _⟩ | ⟨g, cap', cur', rfl, _, hg', _⟩
    · cases e
    · obtain rfl : k = g := by simpa [Value.ownBlock] using e
      rw [hb] at hg'
      simp only [Option.some.injEq, Obj.cells.injEq] at hg'
      exact hne hg'.2.1
theorem row2k {w : World} {g : Nat} {a0 a1 : Value} {t : TypeId} (h : w.heap[g]? = some (.cells #[a0, a1] t (0, 0))) : w.cell? ⟨g, 0, none⟩ = some a0 ∧ w.cell? ⟨g, 1, none⟩ = some a1 :=
  ⟨by rw [cell_of_row _ _ _ _ _ _ h]; rfl, by rw [cell_of_row _ _ _ _ _ _ h]; rfl⟩
theorem kept_ne : encR.t ≠ 5 := by decide
theorem Kb.grown {w w' : World} {B B' : Nat} {y : Kr} {v : Value} {L : List Kr} (h : Kb w B y) (ho : Gw encR w B' v L) (hg : w.grownBy w' v.ownBlock) : Kb w' B y := ⟨h.1.grownG kept_ne ho hg, h.2⟩

set_option maxRecDepth 100000 in
set_option maxHeartbeats 4000000 in
theorem rcrash12_any {w : World} {D m : Nat} {d : Dk} {x : Fo} {p : Option Addr} {n c : Nat} {L : List Kr} (h : Rx w D d x p n c L) (ho : d.Ok m) (hm : m ≤ 1048573)
    (bp : Option Addr) (bl bc : Nat) (ch : List Int) (hb : Bs w bp bl ch) (hbp : bp = none → bc = 0) (hble : bl ≤ bc) (hbl : bl ≤ 2097152) :
    Calls Tryz.prog 40 #[.pointer (some ⟨D, 0, none⟩), .slice bp bl bc] w fun e w' => e = .returned (.tuple #[]) ∧ Rw w' D (crashD d ch) ∧ Kp D D w w' := by
  have HX := Lib.hid h
  have HKL := Lib.hid h.cell4
  have HOK := Lib.hid fun y (hy : y ∈ L) => h.ok ho (by omega) y hy
  have HFK := Lib.hid (ho.fd (show m ≤ 1048575 by omega))
  have HIL : Hid (∀ q, (idsP (crashQ d.F q)).length ≤ 1048576) := Lib.hid fun q => by
    have h1 := ids_len_sub (idsP_rises (crashQ d.F q)) (ids_crash d.F q)
    have h2 : (idsP d.F).length = d.K.length := by rw [← ho.ids]; simp [idK]
    have h3 := ho.klen
    omega
  have hn : n ≤ 1048576 := by have h1 := ho.klen; have h2 := h.cell4; omega
  have hby := hb.byte
  have HBYT := Lib.hid hb.byte
  have HRD : Hid (crashD d ch = { ({ ({ ({ d with K := crK d.K ch.tail, F := crashQ d.F (ch.headD 0).toNat } : Dk) with K := tidyK (crK d.K ch.tail) (idsP (crashQ d.F (ch.headD 0).toNat)) } : Dk) with off := false } : Dk) with fuse := -1 }) := Lib.hid rfl
  obtain ⟨c0, c1, c2, c3, c4, c5, c6, c7, c8⟩ := h.b.cells
  have HBL := Lib.hid hb.len
  have HBB := Lib.hid hb
  clear h hb ho
  go_enter Tryz.func40, Tryz.ntmps40
  go_upto_if 11 with fail
  go_cut [1, 4] (fun cc nv wx => ∃ (pc : Option Addr) (nc ec : Nat), cc = .slice pc nc ec ∧ nv = .int .i64 (ch.headD 0) ∧ wx = w ∧ Hid (Bs w pc nc ch.tail) ∧ Hid ((pc = none → ec = 0) ∧ nc ≤ ec ∧ nc ≤ 2097152))
  case first =>
    cases ch with
    | nil =>
      obtain rfl : bl = 0 := by have := HBL.out; simpa using this.symm
      go_wp2_with fail
      go_meet
      exact ⟨bp, 0, bc, rfl, rfl, rfl, Lib.hid HBB.out, Lib.hid ⟨hbp, hble, by omega⟩⟩
    | cons z zs =>
      have hbl1 : bl = zs.length + 1 := by have := HBL.out; simpa using this.symm
      have hz := HBYT.out 0
      simp only [List.getD_cons_zero] at hz
      obtain ⟨p', hsl, hbs', hpn'⟩ := HBB.out.slice_from (P := Tryz.prog) 32 5 Tryz.underlying32 (fun _ => by kernel_rfl) bc 1 hble (by omega)
      obtain ⟨b, o, rfl, hcb⟩ : ∃ b o, bp = some ⟨b, o, none⟩ ∧ ∀ j, j < bl → w.cell? ⟨b, o + j, none⟩ = some (.int .u8 ((z :: zs).getD j 0)) := by
        rcases HBB.out.2.2 with h0 | h0
        · omega
        · exact h0
      have hc0 : w.cell? ⟨b, o, none⟩ = some (.int .u8 z) := hcb 0 (by omega)
      have hb0 : (0 : Int) < (bl : Int) := by omega
      rw [show (((1 : Nat) : Int)) = 1 from rfl] at hsl
      have HBL1 := Lib.hid hbl1
      clear hbl1
      have hwz : IntKind.i64.wrap z = z := by rw [IntKind.wrap_i64]; omega
      have HS' := Lib.hid hbs'
      have HP' := Lib.hid (hpn' hbp)
      clear hbs' hpn' hcb
      go_wp2_with fail
      go_meet
      exact ⟨p', bl - 1, bc - 1, rfl, rfl, rfl, Lib.hid HS'.out, Lib.hid ⟨HP'.out, by omega, by omega⟩⟩
  case rest =>
    obtain ⟨pc, nc, ec, rfl, rfl, rfl, HCH, HCR⟩ := hcut
    have hq : 0 ≤ ch.headD 0 ∧ ch.headD 0 < 256 := by
      cases ch with
      | nil => simp
      | cons z zs => have := HBYT.out 0; simpa using this
    obtain ⟨q, hqq⟩ : ∃ q, ch.headD 0 = q := ⟨_, rfl⟩
    obtain ⟨cu, hcu⟩ : ∃ q, ch.tail = q := ⟨_, rfl⟩
    rw [hqq, hcu] at HRD
    rw [hqq] at hq ⊢
    rw [hcu] at HCH
    clear HBYT hby HBL HBB hbp hble hbl hqq hcu
    clear c0 c1 c2 c3 c4 c5 c6 c7 c8
    go_wp2_with fail
    go_loopw [1, 5, 6] (fun cc v i wr => ∃ (j : Nat) (T : List Kr) (pk : Option Addr) (nk ek : Nat), j ≤ n ∧ i = .int .i64 (j : Int) ∧ cc = .slice pk nk ek ∧ Hid (Gw encR wr wc.heap.size v T) ∧ Hid (T.map Kr.kt = (crK d.K cu).take j) ∧ Hid (∀ y ∈ T, Kb wr wc.heap.size y) ∧ Hid (Bs wc pk nk (chK d.K cu j)) ∧ Hid ((pk = none → ek = 0) ∧ nk ≤ ek ∧ nk ≤ 2097152) ∧ Hid (Below wc.heap.size wc wr)) (fun _ _ i _ => n - (intOf i).toNat)
    case atStart => exact ⟨0, [], pc, nc, ec, Nat.zero_le _, rfl, rfl, Lib.hid (Gw.nil _ _ _), Lib.hid rfl, Lib.hid (fun y hy => by cases hy), Lib.hid (by cases d.K <;> exact HCH.out), HCR, Lib.hid (Below.refl _ _)⟩
    case round =>
      obtain ⟨j, T, pk, nk, ek, hj, rfl, rfl, HO, HT, HTB, HC, HCK, HB⟩ := hrel
      obtain ⟨_, _, _, _, d4, _⟩ := (HX.out.later HB.out).b.cells
      by_cases hlt : j < n
      · have hkn : (j : Int) < (n : Int) := by omega
        have hk0 : (0 : Int) ≤ (j : Int) := by omega
        obtain ⟨b, off, hpp, k0, k1, k2⟩ := (HX.out.later HB.out).s.kr j hlt
        subst hpp
        have HLM : Hid (L.getD j kr0 ∈ L) := Lib.hid (kr_mem (by rw [HX.out.s.len]; exact hlt))
        have HFI := Lib.hid ((HX.out.i _ HLM.out).later HB.out)
        have HFO := Lib.hid (HOK.out _ HLM.out)
        have hct := cr_take d.K cu j (by rw [HKL.out]; exact hlt)
        have hkt : d.K.getD j kt0 = (L.getD j kr0).kt := by
          rw [← HX.out.k, List.getD_eq_getElem?_getD, List.getElem?_map, List.getD_eq_getElem?_getD]
          rw [List.getElem?_eq_getElem (by rw [HX.out.s.len]; exact hlt)]
          rfl
        rw [hkt] at hct
        have HCT := Lib.hid hct
        have HCO := Lib.hid (rcrash_own (L.getD j kr0).x pk nk ek (chK d.K cu j) wr HFI.out HFO.out (HC.out.later HB.out) HCK.out.1 HCK.out.2.1 HCK.out.2.2)
        have HKR : Hid (∀ W, Below wr.heap.size wr W → W.cell? ⟨D, 4, none⟩ = some (.slice (some ⟨b, off, none⟩) n c) ∧ W.cell? ⟨b, off + j * 3, none⟩ = some (.int .i64 (L.getD j kr0).id)) := Lib.hid fun W hW => by
          have hx := (HX.out.later HB.out).later hW
          obtain ⟨_, _, _, _, e4, _⟩ := hx.b.cells
          obtain ⟨b2, off2, hp2, e0, _, _⟩ := hx.s.kr j hlt
          simp only [Option.some.injEq, Addr.mk.injEq, and_true] at hp2
          obtain ⟨rfl, rfl⟩ := hp2
          exact ⟨e4, e0⟩
        clear hct hkt HLM
        have HKI : Hid (∀ W, Below wc.heap.size wc W → W.cell? ⟨b, off + j * 3, none⟩ = some (.int .i64 (L.getD j kr0).id)) := Lib.hid fun W hW => by
          obtain ⟨b2, off2, hp2, e0, _, _⟩ := (HX.out.later hW).s.kr j hlt
          simp only [Option.some.injEq, Addr.mk.injEq, and_true] at hp2
          obtain ⟨rfl, rfl⟩ := hp2
          exact e0
        generalize L.getD j kr0 = y at *
        obtain ⟨yi, yp, yn, yc, yq, ym, yd, yz, yL⟩ := y
        unfold Kr.kt at HCT
        unfold Ni.v at HCO
        dsimp only at k0 k1 k2 HFI HFO HCT HCO HKR HKI
        have HCL : Hid ((crashP (Ni.fi ⟨yp, yn, yc, yq, ym, yd, yz, yL⟩) (chK d.K cu j)).l = []) := Lib.hid rfl
        generalize crashP (Ni.fi ⟨yp, yn, yc, yq, ym, yd, yz, yL⟩) (chK d.K cu j) = CP at *
        generalize restP (Ni.fi ⟨yp, yn, yc, yq, ym, yd, yz, yL⟩) (chK d.K cu j) = RP at *
        go_wp2_with (go_at_call 76; refine HCO.out.mono ?_; rintro e w5 ⟨p1, c1, p', n', c', rfl, ho5, hs5, hp5, hl5, hm5, hb5⟩; have hBX : Below w5.heap.size w5 (w5.alloc (.cells #[.slice p1 CP.b.length c1, .slice none 0 0] 73)) := (Below.refl _ _).alloc (Nat.le_refl _) _; have HIX : Hid ((w5.alloc (.cells #[.slice p1 CP.b.length c1, .slice none 0 0] 73)).heap[w5.heap.size]? = some (.cells #[.slice p1 CP.b.length c1, .slice none 0 0] 73 (0, 0))) := Lib.hid (heap_alloc_new _ _); have HRX := Lib.hid (below_step hb5 hBX); have HB5 := Lib.hid (below_step HB.out (below_step hb5 hBX)); have HO5 := Lib.hid ((ho5.mono HB.out.size).later hBX); have HS5 := Lib.hid (hs5 _ HC.out); have HL5 := Lib.hid (And.intro hp5 (And.intro hl5 hm5)); clear ho5 hs5 hp5 hl5 hm5 hb5)
        generalize hX : w5.alloc (.cells #[.slice p1 CP.b.length c1, .slice none 0 0] 73) = wX at *
        have HKK : Hid (∀ W, Below wX.heap.size wX W → W.cell? ⟨D, 4, none⟩ = some (.slice (some ⟨b, off, none⟩) n c) ∧ W.cell? ⟨b, off + j * 3, none⟩ = some (.int .i64 yi) ∧ W.cell? ⟨w5.heap.size, 0, none⟩ = some (.slice p1 CP.b.length c1) ∧ W.cell? ⟨w5.heap.size, 1, none⟩ = some (.slice none 0 0)) := Lib.hid fun W hW => by
          obtain ⟨e4, e0⟩ := HKR.out W (below_step HRX.out hW)
          have hr : W.heap[w5.heap.size]? = some (.cells #[.slice p1 CP.b.length c1, .slice none 0 0] 73 (0, 0)) := by rw [hW.block _ (Array.getElem?_eq_some_iff.1 HIX.out).1]; exact HIX.out
          exact ⟨e4, e0, by rw [cell_of_row _ _ _ _ _ _ hr]; rfl, by rw [cell_of_row _ _ _ _ _ _ hr]; rfl⟩
        have HKD : Hid (∀ W, Below wc.heap.size wc W → W.cell? ⟨D, 4, none⟩ = some (.slice (some ⟨b, off, none⟩) n c)) := Lib.hid fun W hW => (HX.out.later hW).b.cells.2.2.2.2.1
        have HTL : Hid (T.length = j) := Lib.hid (by
          have := congrArg List.length HT.out
          rw [List.length_map, List.length_take, cr_length, HKL.out] at this
          omega)
        have HQ0 : Hid (Below wX.heap.size wX (wX.alloc (.cells #[.int .i64 yi, .slice p1 CP.b.length c1, .slice none 0 0] 85)).drew) := Lib.hid (((Below.refl _ _).alloc (Nat.le_refl _) _).drew)
        have HGC1 : Hid (Gs encR (wX.alloc (.cells #[.int .i64 yi, .slice p1 CP.b.length c1, .slice none 0 0] 85)).drew (some ⟨wX.heap.size, 0, none⟩) 1 [⟨yi, ⟨p1, CP.b.length, c1, none, 0, 0, CP.b, []⟩⟩]) := Lib.hid ((Gs.one encR wX ⟨yi, ⟨p1, CP.b.length, c1, none, 0, 0, CP.b, []⟩⟩ _ rfl _ _).later (Below.refl _ _).drew)
        have HOX := Lib.hid ((HO.out.later HRX.out).later HQ0.out)
        have HBQ := Lib.hid (below_step HB5.out HQ0.out)
        have k0 := Lib.hid (HKK.out _ (Below.refl _ _))
        have k1 := Lib.hid (HKK.out _ (Below.refl _ _).drew)
        have k2 := Lib.hid (HKK.out _ HQ0.out)
        have hcx := HKK.out _ (Below.refl _ _)
        go_region_held3 (fun W => W.cell? ⟨D, 4, none⟩ = some (.slice (some ⟨b, off, none⟩) n c) ∧ W.cell? ⟨b, off + j * 3, none⟩ = some (.int .i64 yi) ∧ W.cell? ⟨w5.heap.size, 0, none⟩ = some (.slice p1 CP.b.length c1) ∧ W.cell? ⟨w5.heap.size, 1, none⟩ = some (.slice none 0 0)) (first | with_reducible exact k0.out | with_reducible exact k1.out | with_reducible exact k2.out | with_reducible exact k3.out | with_reducible exact k0.out) (first
          | (refine step_append_gen encR rfl (.tmp 41) (.tmp 52) 81 rfl Tryz.underlying81 (.agg #[.int .i64 0, .slice none 0 0, .slice none 0 0]) 56 infoR rfl (by decide) wc.heap.size _ T rfl HOX.out _ 1 1 [⟨yi, ⟨p1, CP.b.length, c1, none, 0, 0, CP.b, []⟩⟩] rfl HGC1.out (fun h => by cases h) (by rw [HTL.out]; omega) HBQ.out.size ?_; intro v6 w6 ho6 hg6; have HO6 := Lib.hid ho6; have HG6 := Lib.hid hg6; have HB6 := Lib.hid (below_new_gw HBQ.out HOX.out hg6 HBQ.out.size); have HI6 : w6.heap[w5.heap.size]? = some (.cells #[.slice p1 CP.b.length c1, .slice none 0 0] 73 (0, 0)) := grownG_other HOX.out hg6 (by rw [HQ0.out.block _ (Array.getElem?_eq_some_iff.1 HIX.out).1]; exact HIX.out) inode_ne; have k3 := Lib.hid (And.intro (HKD.out _ HB6.out) (And.intro (HKI.out _ HB6.out) (row2k HI6))); clear ho6 hg6 HI6))
        have HT6 : Hid ((T ++ [(⟨yi, ⟨p1, CP.b.length, c1, none, 0, 0, CP.b, []⟩⟩ : Kr)]).map Kr.kt = (crK d.K cu).take (j + 1)) := Lib.hid (by
          rw [List.map_append, HT.out, HCT.out.1]
          congr 1
          show [(⟨yi, ⟨CP.b, []⟩⟩ : Kt)] = [⟨yi, CP⟩]
          rw [← HCL.out])
        have HTB6 : Hid (∀ y ∈ T ++ [(⟨yi, ⟨p1, CP.b.length, c1, none, 0, 0, CP.b, []⟩⟩ : Kr)], Kb w6 wc.heap.size y) := Lib.hid fun y hy => by
          rcases List.mem_append.1 hy with hy | hy
          · exact (((HTB.out y hy).later HRX.out).later HQ0.out).grown HOX.out HG6.out
          · obtain rfl := List.mem_singleton.1 hy
            exact Kb.grown (⟨HO5.out.later HQ0.out, rfl, rfl, rfl, rfl⟩ : Kb _ _ _) HOX.out HG6.out
        have HC6 : Hid (Bs wc p' n' (chK d.K cu (j + 1))) := Lib.hid (by rw [HCT.out.2]; exact HS5.out)
        clear k0 k1 k2 k3 hcx hX
        go_wp2
        refine ⟨?_, by simp [intOf] <;> omega⟩
        first
          | exact ⟨j + 1, _, p', n', c', by omega, by go_num, rfl, HO6, HT6, HTB6, HC6, HL5, HB6⟩
          | ((repeat apply Exists.intro); refine ⟨?_, rfl⟩; exact ⟨j + 1, _, p', n', c', by omega, by go_num, rfl, HO6, HT6, HTB6, HC6, HL5, HB6⟩)
      · obtain rfl : j = n := by omega
        obtain ⟨q1, cp, hv, hlc, _, hgs, hpn⟩ := HO.out.open
        have hab := HO.out
        subst hv
        have HAB := Lib.hid (Gw.above hab)
        have HTT : Hid (T.map Kr.kt = crK d.K cu) := Lib.hid (by rw [HT.out, List.take_of_length_le (by rw [cr_length, HKL.out]; exact Nat.le_refl _)])
        have HTN : Hid (T.length ≤ 2097152) := Lib.hid (by
          have := congrArg List.length HTT.out
          rw [List.length_map, cr_length, HKL.out] at this
          omega)
        have hxr := HX.out.later HB.out
        have fz4 := hxr.b.frozen 4
        obtain ⟨_, _, d2, d3, _⟩ := hxr.b.cells
        obtain ⟨wS, hS⟩ : ∃ W, wr.setCell ⟨D, 4, none⟩ (.slice q1 T.length cp) = W := ⟨_, rfl⟩
        have hKS : Kp D D wr wS := by rw [← hS]; exact Kp.of_set _ _ _ _
        have HKS := Lib.hid ((Kp.of_below HB.out).trans hKS)
        have hlt := HX.out.b.lt
        have hxS : Rx wS D { d with K := crK d.K cu } x q1 T.length cp T :=
          { b := by rw [← hS]; exact hxr.b.setFiles q1 T.length cp
            f := hxr.f.kp hKS hxr.b.nix hxr.b.nix
            fd := hxr.fd
            s := hgs.apart hKS (fun a ha => by have := HAB.out a ha; omega)
            k := HTT.out
            i := fun y hy => (HTB.out y hy).fit.kp hKS hxr.b.nix hxr.b.nix
            pn := hpn
            le := hlc
            sp := fun a ha => by have := HAB.out a ha; omega }
        have HXS := Lib.hid hxS
        obtain ⟨_, _, s2, s3, _⟩ := hxS.b.cells
        have HBH := Lib.hid (rbehind_any x q wS hxS.f (by rw [hxS.fd]; exact HFK.out) (by unfold InI; omega))
        rw [hxS.fd] at HBH
        have HTI := Lib.hid fun W (y : Fo) (hx : Rx W D { d with K := crK d.K cu, F := crashQ d.F q.toNat } y q1 T.length cp T) => rtidy12_any hx (crashQ_ok HFK.out q.toNat) HTN.out (HIL.out q.toNat)
        obtain ⟨px, lx, cx, qx, mx, dx, Lx, Mx⟩ := x
        unfold Fo.v at HBH
        dsimp only at HBH d2 d3 s2 s3
        clear hab hgs hpn hlc hxr hKS hxS hlt d4
        go_wp2_with (first
          | (go_at_call 68; refine HBH.out.mono ?_; rintro e w8 ⟨v8, rfl, ho8, hb8⟩; obtain ⟨p8, c9, hv8, hl8, _, hg8, hpn8⟩ := ho8.open; subst hv8; have HR8 := Lib.hid (HXS.out.later hb8); have HB8 := Lib.hid hb8; have HG8 := Lib.hid hg8; have HP8 := Lib.hid hpn8; have HL8 := Lib.hid hl8; obtain ⟨_, _, e2, e3, _⟩ := HR8.out.b.cells; have i2 := HR8.out.b.frozen 2; have i3 := HR8.out.b.frozen 3; clear ho8 hb8 hg8 hpn8 hl8)
          | (go_at_call 74; obtain ⟨wQ, hQ⟩ : ∃ W, (w8.setCell ⟨D, 2, none⟩ (.slice p8 (behP d.F q.toNat).length c9)).setCell ⟨D, 3, none⟩ (.slice none 0 0) = W := ⟨_, rfl⟩; rw [hQ]; have hKQ : Kp D D w8 wQ := (by rw [← hQ]; exact ((Kp.refl D D w8).setD _ _).setD _ _); have hnx := HR8.out.b.nix; have hxQ : Rx wQ D { d with K := crK d.K cu, F := crashQ d.F q.toNat } ⟨p8, (behP d.F q.toNat).length, c9, none, 0, 0, behP d.F q.toNat, []⟩ q1 T.length cp T := { HR8.out with b := (by rw [← hQ]; exact HR8.out.b.setNames ⟨p8, (behP d.F q.toNat).length, c9, none, 0, 0, behP d.F q.toNat, []⟩), f := Fo.fit.kp (x := ⟨p8, (behP d.F q.toNat).length, c9, none, 0, 0, behP d.F q.toNat, []⟩) ⟨HG8.out, HP8.out, HL8.out, ⟨rfl, Or.inl rfl⟩, fun _ => rfl, Nat.le_refl _⟩ hKQ hnx hnx, fd := rfl, s := HR8.out.s.apart hKQ (fun a ha => by have := HR8.out.sp a ha; omega), i := fun y hy => (HR8.out.i y hy).kp hKQ hnx hnx }; refine (HTI.out wQ _ hxQ).mono ?_; rintro e w9 ⟨rfl, hw9, hk9⟩; have HK9 := Lib.hid (((HKS.out.then_below HB8.out).trans hKQ).trans hk9); obtain ⟨x9, p9, n9, k9, L9, hx9⟩ := hw9; have HX9 := Lib.hid hx9; obtain ⟨_, _, _, _, _, _, g6, g7, _⟩ := hx9.b.cells; have i6 := hx9.b.frozen 6; have i7 := hx9.b.frozen 7; clear hk9 hxQ hKQ hnx hQ hx9))
        first | go_end0 | (refine bodyPost_ret (results_none rfl _ _ _) rfl ?_)
        have hk1 : Kp D D w9 (w9.setCell ⟨D, 6, none⟩ (.bool false)) := Kp.of_set _ _ _ _
        have h1 := HX9.out.own hk1 (HX9.out.b.setOff false) rfl rfl
        have hk2 : Kp D D (w9.setCell ⟨D, 6, none⟩ (.bool false)) ((w9.setCell ⟨D, 6, none⟩ (.bool false)).setCell ⟨D, 7, none⟩ (.int .i64 (-1))) := Kp.of_set _ _ _ _
        have h2 := h1.own hk2 (h1.b.setFuse (-1)) rfl rfl
        exact ⟨rfl, by rw [HRD.out]; exact ⟨_, _, _, _, _, h2⟩, (HK9.out.trans hk1).trans hk2⟩
end Go.Proofs.YtncbgddgkpaoeaaGreat

namespace Go.Proofs.YtncbgddgkpaoeaaGreat
set_option linter.unusedVariables false
open Go.RowKit Go.Lib

set_option maxRecDepth 100000 in
set_option maxHeartbeats 2000000 in
theorem rimage12_any {w : World} {D m : Nat} {d : Dk} {x : Fo} {p : Option Addr} {n c : Nat} {L : List Kr} (h : Rx w D d x p n c L) (ho : d.Ok m) (hm : m ≤ 1048575) :
    Calls Tryz.prog 42 #[.pointer (some ⟨D, 0, none⟩)] w fun e w' => ∃ p k c L, e = .returned (.slice p k c) ∧ Gs encF w' p k L ∧ L.map Fx.pr = imageP d ∧ (∀ y ∈ L, Bs w' y.p y.n y.zs) ∧ Below w.heap.size w w' := by
  obtain ⟨_, _, c2, c3, _, _, _, _, _⟩ := h.b.cells
  have HX := Lib.hid h
  have HID := Lib.hid (rbehind_any x 0 w h.f (by rw [h.fd]; exact ho.fd hm) (by unfold InI; omega))
  rw [h.fd, show behP d.F (0 : Int).toNat = d.F.l from baseP_self ho.rise] at HID
  unfold Fo.v at HID
  have hn : n ≤ 2097152 := by have := (h.len ho).1; omega
  have hl : d.F.l.length ≤ 1048576 := by have := ho.len; omega
  have HSTP := Lib.hid fun k hk => image_step (d := d) (k := k) hk
  have HIML : Hid ((imageP d).length = d.F.l.length) := Lib.hid (by simp [imageP])
  generalize imageP d = IM at *
  generalize hI : d.F.l = I at *
  clear h ho hI
  go_enter Tryz.func42, Tryz.ntmps42
  go_wp2_with (go_at_call 68; refine HID.out.mono ?_; rintro e w2 ⟨v2, rfl, ho2, hb2⟩; obtain ⟨p2, c2', hv2, hl2, hm2, hg2, hpn2⟩ := ho2.open; subst hv2; have HB2 := Lib.hid hb2; have HO2 := Lib.hid ho2; clear ho2 hb2 hl2 hm2 hg2 hpn2)
  obtain ⟨l, hl'⟩ : ∃ l, I.length = l := ⟨_, rfl⟩
  have HLE := Lib.hid hl'
  rw [hl'] at HO2 hl
  simp only [hl']
  clear c2 c3 hl'
  go_loopw [3, 5] (fun v i wr => ∃ (j : Nat) (T : List Fx), j ≤ l ∧ i = .int .i64 (j : Int) ∧ Hid (Gw encF wr w.heap.size v T) ∧ Hid (T.map Fx.pr = IM.take j) ∧ Hid (∀ y ∈ T, Bs w y.p y.n y.zs) ∧ Hid (Below w.heap.size w wr) ∧ Hid (Gw encN wr w.heap.size (.slice p2 l c2') I)) (fun _ i _ => l - (intOf i).toNat)
  case atStart => exact ⟨0, [], Nat.zero_le _, rfl, Lib.hid (Gw.nil _ _ _), Lib.hid rfl, Lib.hid (fun y hy => by cases hy), HB2, HO2⟩
  case round =>
    obtain ⟨j, T, hj, rfl, HO, HT, HFT, HB, HGI⟩ := hrel
    clear HB2 HO2
    by_cases hlt : j < l
    · obtain ⟨b', off, rfl, c0, c1⟩ := HGI.out.gs.nd j hlt
      have hkn : (j : Int) < (l : Int) := by omega
      have hk0 : (0 : Int) ≤ (j : Int) := by omega
      have HBR : Hid (Below wr.heap.size wr wr.drew) := Lib.hid ((Below.refl _ _).drew)
      have HBD := Lib.hid (below_step HB.out HBR.out)
      have HTL : Hid (T.length = j) := Lib.hid (by
        have := congrArg List.length HT.out
        rw [List.length_map, List.length_take, HIML.out, HLE.out] at this
        omega)
      have HST := Lib.hid (HSTP.out j (by rw [HLE.out]; exact hlt))
      have HGD : Hid (∀ W, Gw encN W w.heap.size (.slice (some ⟨b', off, none⟩) l c2') I → W.cell? ⟨b', off + j * 2, none⟩ = some (.string (I.getD j nd0).s) ∧ W.cell? ⟨b', off + j * 2 + 1, none⟩ = some (.int .i64 (I.getD j nd0).id)) := Lib.hid fun W hW => by
        obtain ⟨b2, off2, hp, x0, x1⟩ := hW.gs.nd j hlt
        simp only [Option.some.injEq, Addr.mk.injEq, and_true] at hp
        obtain ⟨rfl, rfl⟩ := hp
        exact ⟨x0, x1⟩
      have HGC : Hid (∀ W, Below wr.heap.size wr W → W.cell? ⟨b', off + j * 2, none⟩ = some (.string (I.getD j nd0).s) ∧ W.cell? ⟨b', off + j * 2 + 1, none⟩ = some (.int .i64 (I.getD j nd0).id)) := Lib.hid fun W hW => HGD.out W (HGI.out.later hW)
      have HGT := Lib.hid (rget12_any (HX.out.later HBD.out) hn (I.getD j nd0).id)
      clear c0 c1
      generalize I.getD j nd0 = nd at *
      obtain ⟨ns, ni⟩ := nd
      dsimp only at HGD HGC HGT HST
      generalize atK d.K ni = Z at *
      have k0 := HGC.out _ (Below.refl _ _)
      have k1 := HGC.out _ HBR.out
      have HOD := Lib.hid (HO.out.later HBR.out)
      have hfd := fieldV0
      go_wp2_with fail
      go_region_held3 (fun W => W.cell? ⟨b', off + j * 2, none⟩ = some (.string ns) ∧ W.cell? ⟨b', off + j * 2 + 1, none⟩ = some (.int .i64 ni)) (first | exact k0 | exact k1 | exact k5 | exact kC | exact k6) (first
        | (go_at_call 78; refine HGT.out.mono ?_; rintro e5 w5 ⟨y, rfl, hm5, _, hyf, hb5⟩; obtain ⟨yp, yn, yc, yq, ym, yd, yz, yL⟩ := y; unfold Ni.v; dsimp only; have HFY : Hid (Ni.fit w ⟨yp, yn, yc, yq, ym, yd, yz, yL⟩) := Lib.hid (by rcases hm5 with e | ⟨z, hz, e⟩ <;> first | (rw [e]; exact ni0_fit w) | (rw [← e]; exact HX.out.i z hz)); have HYF := Lib.hid hyf; have HB5 := Lib.hid (below_step HBD.out hb5); have HBR5 := Lib.hid (below_step HBR.out hb5); have HO5 := Lib.hid (HOD.out.later hb5); have k5 := HGC.out _ HBR5.out; obtain ⟨wC, hwC⟩ : ∃ W, w5.alloc (.cells #[.string ns, .slice yp yn yc] 68) = W := ⟨_, rfl⟩; obtain ⟨GC, hGC⟩ : ∃ G, w5.heap.size = G := ⟨_, rfl⟩; have HBC : Hid (Below w5.heap.size w5 wC) := Lib.hid (by rw [← hwC]; exact (Below.refl _ _).alloc (Nat.le_refl _) _); have HGC1 : Hid (Gs encF wC (some ⟨GC, 0, none⟩) 1 [⟨ns, yp, yn, yc, yz⟩]) := Lib.hid (by rw [← hwC, ← hGC]; exact Gs.one encF _ ⟨ns, yp, yn, yc, yz⟩ _ rfl _ _); have HOC := Lib.hid (HO5.out.later HBC.out); have HBX := Lib.hid (below_step HB5.out HBC.out); have HGIC := Lib.hid (HGI.out.later (below_step HBR5.out HBC.out)); have kC := HGD.out _ HGIC.out; clear hm5 hyf hb5)
        | (refine step_append_gen encF rfl (.tmp 17) (.tmp 32) 24 rfl Tryz.underlying24 (.agg #[.string ⟨#[]⟩, .slice none 0 0]) 40 infoF rfl (by decide) w.heap.size _ T rfl HOC.out _ 1 1 [⟨ns, yp, yn, yc, yz⟩] rfl HGC1.out (fun h => by cases h) (by rw [HTL.out]; omega) HBX.out.size ?_; intro v6 w6 ho6 hg6; have HO6 := Lib.hid ho6; have HB6 := Lib.hid (below_new_gw HBX.out HOC.out hg6 HBX.out.size); have HGI6 := Lib.hid (HGIC.out.aside HOC.out named_ne hg6); have k6 := HGD.out _ HGI6.out; clear ho6 hg6))
      have HT6 : Hid ((T ++ [(⟨ns, yp, yn, yc, yz⟩ : Fx)]).map Fx.pr = IM.take (j + 1)) := Lib.hid (by
        rw [List.map_append, HT.out, HST.out, ← HYF.out]; rfl)
      have HF6 : Hid (∀ y ∈ T ++ [(⟨ns, yp, yn, yc, yz⟩ : Fx)], Bs w y.p y.n y.zs) := Lib.hid fun y hy => by
        rcases List.mem_append.1 hy with hy | hy
        · exact HFT.out y hy
        · obtain rfl := List.mem_singleton.1 hy
          exact HFY.out.1
      clear k0 k1 k5 kC k6 hwC hGC hfd
      go_wp2
      refine ⟨?_, by simp [intOf] <;> omega⟩
      first
        | exact ⟨j + 1, _, by omega, by go_num, HO6, HT6, HF6, HB6, HGI6⟩
        | ((repeat apply Exists.intro); refine ⟨?_, rfl⟩; exact ⟨j + 1, _, by omega, by go_num, HO6, HT6, HF6, HB6, HGI6⟩)
    · obtain rfl : j = l := by omega
      obtain ⟨q, cp, hv, hlc, _, hgs, hpn⟩ := HO.out.open
      subst hv
      have HGS := Lib.hid hgs
      have HT6 : Hid (T.map Fx.pr = IM) := Lib.hid (by rw [HT.out]; exact List.take_of_length_le (by rw [HIML.out, HLE.out]; exact Nat.le_refl _))
      clear hgs hpn hlc
      go_wp2
      go_ret
      exact ⟨q, _, cp, T, rfl, HGS.out, HT6.out, fun y hy => (HFT.out y hy).later HB.out, HB.out⟩
end Go.Proofs.YtncbgddgkpaoeaaGreat
