/- Rows of words in memory; the walk of schedule. -/
import Derived.Test.YtlggbicjgddnaaaDoorShaW1
import Derived.Laws.Rows
import Derived.Deep.MidRow
import Derived.Test.YtlggbicjgddnaaaDoorReg
namespace Go.Proofs.YtlggbicjgddnaaaDoor
set_option linter.unusedVariables false
open Go.RowKit Go.Lib

def uv (x : Nat) : Value := .int .u32 (x : Int)
def ucs (l : List Nat) : Array Value := (l.map uv).toArray
/-- block b is a row of these words -/
def Uw (w : World) (b : Nat) (t : TypeId) (l : List Nat) : Prop := w.heap[b]? = some (.cells (ucs l) t (0, 0))

theorem ucs_size (l : List Nat) : (ucs l).size = l.length := by simp [ucs]
theorem Uw.cell {w : World} {b : Nat} {t : TypeId} {l : List Nat} (h : Uw w b t l) (j : Nat) (hj : j < l.length) : w.cell? ⟨b, j, none⟩ = some (.int .u32 ((l.getD j 0 : Nat) : Int)) := by
  rw [cell_of_row w b j _ t _ h]
  simp [ucs, hj, uv, List.getD_eq_getElem?_getD]
theorem Uw.frozen {w : World} {b : Nat} {t : TypeId} {l : List Nat} (h : Uw w b t l) (j : Nat) : w.frozen? ⟨b, j, none⟩ = false := frozen_of_row w b j _ t h
theorem Uw.set {w : World} {b : Nat} {t : TypeId} {l : List Nat} (h : Uw w b t l) (j x : Nat) : Uw (w.setCell ⟨b, j, none⟩ (.int .u32 (x : Int))) b t (l.set j x) := by
  unfold Uw
  rw [heap_setCell_same w b j _ t _ h]
  simp [ucs, List.map_set, uv]
theorem Uw.lt {w : World} {b : Nat} {t : TypeId} {l : List Nat} (h : Uw w b t l) : b < w.heap.size := (Array.getElem?_eq_some_iff.1 h).1
theorem Uw.keep {w w' : World} {b : Nat} {t : TypeId} {l : List Nat} (h : Uw w b t l) (e : w'.heap[b]? = w.heap[b]?) : Uw w' b t l := e.trans h
theorem Uw.later {w w' : World} {b : Nat} {t : TypeId} {l : List Nat} (h : Uw w b t l) (hb : Below w.heap.size w w') : Uw w' b t l := h.keep (hb.block b h.lt)
theorem Uw.other {w : World} {b : Nat} {t : TypeId} {l : List Nat} (h : Uw w b t l) (a : Addr) (v : Value) (hne : b ≠ a.block) : Uw (w.setCell a v) b t l := h.keep (heap_setCell_other w a b v hne)

theorem Uw.row {w : World} {g : Nat} {t : TypeId} {l l' : List Nat} (h : Uw w g t l) : Uw (w.setRow g (ucs l')) g t l' := setRow_heap w g _ _ t _ h
theorem Uw.rowOther {w : World} {g b : Nat} {t : TypeId} {l : List Nat} (h : Uw w b t l) (cs : Array Value) (hne : b ≠ g) : Uw (w.setRow g cs) b t l := h.keep (setRow_other w g b cs hne)
theorem ucs_one (l : List Nat) : (ucs l).all (·.oneCell') = true := all_oneCell_toArray (fun v hv => by
  obtain ⟨x, _, rfl⟩ := List.mem_map.1 hv
  rfl)
theorem Uw.results {P : Program} {fn : Func} {p : Tmp} {ty : TypeId} {w : World} {g : Nat} {t : TypeId} {l : List Nat} (hg : Uw w g t l) (h : fn.results = #[.cell p ty]) (tmps : Array Value)
    (hp : tmps.getD p undef = .pointer (some ⟨g, 0, none⟩)) (d : TypeDesc) (hu : P.underlying ty = some d) (hd : (match d with | .struct _ | .array _ _ => true | _ => false) = true) (hi : (P.info? ty).map (·.size) = some l.length) :
    (results fn tmps).run P w = .ok (.agg (ucs l)) w := results_cell_row h tmps w g t _ _ d hp hg hu hd (by rw [ucs_size]; exact hi)
theorem below_setRow {B : Nat} {w w' : World} (h : Below B w w') (g : Nat) (cs : Array Value) (hB : B ≤ g) : Below B w (w'.setRow g cs) :=
  h.trans ⟨rfl, rfl, rfl, by simp, fun k hk => setRow_other w' g k cs (by omega)⟩

theorem size64 : (Tryd.prog.info? 97).map (·.size) = some 64 := by kernel_rfl

theorem set_mid {l : List Nat} (m x : Nat) (k : Nat) (hl : l.length = k) (hm : 0 < m) : (l ++ List.replicate m 0).set k x = (l ++ [x]) ++ List.replicate (m - 1) 0 := by
  obtain ⟨m, rfl⟩ : ∃ j, m = j + 1 := ⟨m - 1, by omega⟩
  subst hl
  rw [List.set_append_right _ _ (Nat.le_refl _), Nat.sub_self, List.replicate_succ, List.set_cons_zero, List.append_assoc]
  rfl
theorem wd_part (zs : List Int) (k : Nat) : wd ((zs.drop (4 * k)).take 4) 0 = wd zs k := by
  simp [wd, List.getD_eq_getElem?_getD, List.getElem?_drop, List.getElem?_take]

theorem getD_app {l r : List Nat} {j : Nat} (h : j < l.length) : (l ++ r).getD j 0 = l.getD j 0 := by simp [List.getD_eq_getElem?_getD, List.getElem?_append, h]

theorem idx_back (k n : Nat) (N : Int) (hN : N = (n : Int)) (h : n ≤ k) (h2 : k < 64 + n) : ∃ j : Nat, j = k - n ∧ (j : Int) < 64 ∧ Hid (IntKind.i64.wrap ((k : Int) - N) = (j : Int)) :=
  ⟨k - n, rfl, by omega, Lib.hid (by rw [IntKind.wrap_i64]; omega)⟩

set_option maxRecDepth 100000 in
theorem schedule_any (p : Option Addr) (cap : Nat) (zs : List Int) (w : World) (h : Bs w p 64 zs) (hc : 64 ≤ cap) (hm : cap ≤ maxLen) :
    Calls Tryd.prog 65 #[.slice p 64 cap] w fun e w' => e = .returned (.agg (ucs (sched (wds zs 16) 48))) ∧ Below w.heap.size w w' := by
  have H := Lib.hid h
  have HC := Lib.hid hc
  clear h hc
  go_enter Tryd.func65, Tryd.ntmps65
  go_wp2
  go_loopw [4, 6] (fun _ i wr => ∃ k : Nat, k ≤ 16 ∧ i = .int .i64 k ∧ Hid (Uw wr (w.heap.size + 1) 97 (wds zs k ++ List.replicate (64 - k) 0)) ∧ Hid (Uw wr w.heap.size 97 (List.replicate 64 0)) ∧ Hid (Below w.heap.size w wr)) (fun _ i _ => 16 - (intOf i).toNat)
  case atStart =>
    refine ⟨0, by omega, rfl, Lib.hid ?_, Lib.hid ?_, Lib.hid (((Below.refl _ _).alloc (Nat.le_refl _) _).alloc (by simp) _)⟩
    · exact heap_alloc2_new _ _ _
    · exact heap_alloc2_old _ _ _
  case round =>
    obtain ⟨k, hk, rfl, hu, hr, hbl⟩ := hrel
    by_cases hlt : k < 16
    · obtain ⟨b, off, rfl⟩ : ∃ b off, p = some ⟨b, off, none⟩ := by
        rcases H.out.2.2 with h0 | ⟨b, off, rfl, _⟩
        · omega
        · exact ⟨b, off, rfl⟩
      have c := hu.out.cell k (by simp [wds_length]; omega)
      have f := hu.out.frozen k
      have HB := Lib.hid ((H.out.later hbl.out).window (4 * k) 4 (by omega))
      have hc := HC.out
      have HX := Lib.hid (wd_part zs k)
      go_wp2_with (go_at_call 75; refine (word_any _ _ _ _ _ ?_ HB.out).mono ?_; omega; rintro e w' ⟨rfl, q, rfl⟩; rw [HX.out])
      refine ⟨⟨k + 1, by omega, by go_num, Lib.hid ?_, Lib.hid ?_, Lib.hid ?_⟩, by simp [intOf]; omega⟩
      · have h1 := (((hu.out.later ((below_drewN (Below.refl _ _) q))).set k (wd zs k)))
        rw [set_mid (64 - k) (wd zs k) k (wds_length _ _) (by omega), ← wds_succ] at h1
        exact h1
      · exact (hr.out.later (below_drewN (Below.refl _ _) q)).other _ _ (by simp)
      · exact (below_drewN hbl.out q).setCell (p := ⟨w.heap.size + 1, k, none⟩) (by simp) _
    · obtain rfl : k = 16 := by omega
      go_wp2
      go_loopw [5] (fun i wr => ∃ k : Nat, 16 ≤ k ∧ k ≤ 64 ∧ i = .int .i64 k ∧ Hid (Uw wr (w.heap.size + 1) 97 (sched (wds zs 16) (k - 16) ++ List.replicate (64 - k) 0)) ∧ Hid (Uw wr w.heap.size 97 (List.replicate 64 0)) ∧ Hid (Below w.heap.size w wr)) (fun i _ => 64 - (intOf i).toNat)
      case atStart => exact ⟨16, by omega, by omega, rfl, hu, hr, hbl⟩
      case round =>
        obtain ⟨k, hk0, hk, rfl, hu, hr, hbl⟩ := hrel
        by_cases hlt : k < 64
        · have hl : (sched (wds zs 16) (k - 16)).length = k := by rw [sched_length, wds_length]; omega
          obtain ⟨j2, e2, l2, w2⟩ := idx_back k 2 2 rfl (by omega) (by omega)
          obtain ⟨j7, e7, l7, w7⟩ := idx_back k 7 7 rfl (by omega) (by omega)
          obtain ⟨j15, e15, l15, w15⟩ := idx_back k 15 15 rfl (by omega) (by omega)
          obtain ⟨j16, e16, l16, w16⟩ := idx_back k 16 16 rfl (by omega) (by omega)
          have c2 := hu.out.cell j2 (by simp [hl]; omega)
          have c7 := hu.out.cell j7 (by simp [hl]; omega)
          have c15 := hu.out.cell j15 (by simp [hl]; omega)
          have c16 := hu.out.cell j16 (by simp [hl]; omega)
          have ck := hu.out.cell k (by simp [hl]; omega)
          have fk := hu.out.frozen k
          rw [getD_app (by omega)] at c2 c7 c15 c16
          have hsl := sched_lt (wds_lt (zs := zs) H.out.byte 16) (k - 16)
          have HX : Hid (snx (sched (wds zs 16) (k - 16)) = (ss1 ((sched (wds zs 16) (k - 16)).getD j2 0) + (sched (wds zs 16) (k - 16)).getD j7 0 + ss0 ((sched (wds zs 16) (k - 16)).getD j15 0) + (sched (wds zs 16) (k - 16)).getD j16 0) % 4294967296) := Lib.hid (by unfold snx; rw [hl, ← e2, ← e7, ← e15, ← e16])
          have HL := Lib.hid hl
          have b2 := hsl j2
          have b7 := hsl j7
          have b15 := hsl j15
          have b16 := hsl j16
          generalize (sched (wds zs 16) (k - 16)).getD j2 0 = a2 at *
          generalize (sched (wds zs 16) (k - 16)).getD j7 0 = a7 at *
          generalize (sched (wds zs 16) (k - 16)).getD j15 0 = a15 at *
          generalize (sched (wds zs 16) (k - 16)).getD j16 0 = a16 at *
          have n2 : Hid ((⟨w.heap.size + 1, k, none⟩ : Addr) ≠ ⟨w.heap.size + 1, j2, none⟩) := Lib.hid (by intro h; injection h; omega)
          have n7 : Hid ((⟨w.heap.size + 1, k, none⟩ : Addr) ≠ ⟨w.heap.size + 1, j7, none⟩) := Lib.hid (by intro h; injection h; omega)
          have n15 : Hid ((⟨w.heap.size + 1, k, none⟩ : Addr) ≠ ⟨w.heap.size + 1, j15, none⟩) := Lib.hid (by intro h; injection h; omega)
          have n16 : Hid ((⟨w.heap.size + 1, k, none⟩ : Addr) ≠ ⟨w.heap.size + 1, j16, none⟩) := Lib.hid (by intro h; injection h; omega)
          clear hsl hl e2 e7 e15 e16
          have w2 := w2.out
          have w7 := w7.out
          have w15 := w15.out
          have w16 := w16.out
          go_wp2
          go_region_held3 (fun W => W.cell? ⟨w.heap.size + 1, j2, none⟩ = some (.int .u32 (a2 : Int)) ∧ W.cell? ⟨w.heap.size + 1, j7, none⟩ = some (.int .u32 (a7 : Int)) ∧ W.cell? ⟨w.heap.size + 1, j15, none⟩ = some (.int .u32 (a15 : Int)) ∧ W.cell? ⟨w.heap.size + 1, j16, none⟩ = some (.int .u32 (a16 : Int))) (first | exact ⟨c2, c7, c15, c16⟩ | exact ⟨(World.cell?_setCell_other _ _ _ _ n2.out).trans c2, (World.cell?_setCell_other _ _ _ _ n7.out).trans c7, (World.cell?_setCell_other _ _ _ _ n15.out).trans c15, (World.cell?_setCell_other _ _ _ _ n16.out).trans c16⟩) (first
            | (go_at_call 77; refine (smallS0_any _ _ b15).mono ?_; rintro e w' ⟨rfl, rfl⟩)
            | (go_at_call 76; refine (smallS1_any _ _ b2).mono ?_; rintro e w' ⟨rfl, rfl⟩))
          go_wp2
          refine ⟨?_, by simp [intOf]; omega⟩
          (repeat apply Exists.intro)
          refine ⟨?rel, rfl⟩
          case rel =>
            refine ⟨k + 1, by omega, by omega, by go_num, Lib.hid ?_, Lib.hid ?_, Lib.hid ?_⟩
            · have hv : ((((((ss1 a2 : Nat) : Int) + (a7 : Int)) % 4294967296 + ((ss0 a15 : Nat) : Int)) % 4294967296 + (a16 : Int)) % 4294967296) = ((snx (sched (wds zs 16) (k - 16)) : Nat) : Int) := by rw [HX.out]; omega
              rw [hv]
              have h1 := hu.out.set k (snx (sched (wds zs 16) (k - 16)))
              rw [set_mid (64 - k) _ k HL.out (by omega)] at h1
              rw [show k + 1 - 16 = (k - 16) + 1 by omega, show 64 - (k + 1) = 64 - k - 1 by omega]
              exact h1
            · exact hr.out.other _ _ (by simp)
            · exact (hbl.out.setCell (p := ⟨w.heap.size + 1, k, none⟩) (by simp) _).drew
        · obtain rfl : k = 64 := by omega
          have hl : (sched (wds zs 16) 48).length = 64 := by rw [sched_length, wds_length]
          have HE : Hid ((sched (wds zs 16) (64 - 16) ++ List.replicate (64 - 64) 0) = sched (wds zs 16) 48) := Lib.hid (by simp)
          rw [HE.out] at hu
          have hz1 : (Tryd.prog.info? 97).map (·.size) = some (ucs (sched (wds zs 16) 48)).size := by rw [ucs_size, hl]; exact size64
          have hz2 : (ucs (List.replicate 64 0)).size = (ucs (sched (wds zs 16) 48)).size := by rw [ucs_size, ucs_size, hl, List.length_replicate]
          have HZ1 := Lib.hid hz1
          have HZ2 := Lib.hid hz2
          clear hz1 hz2 hl HE
          go_wp2_with (first
            | (refine wpList_load_row rfl 97 _ rfl (w.heap.size + 1) rfl 97 _ (0, 0) _ hu.out Tryd.underlying97 rfl HZ1.out ?_)
            | (refine wpList_store_row rfl 97 _ _ rfl w.heap.size _ rfl rfl 97 _ hr.out HZ1.out HZ2.out (ucs_one _) ?_))
          refine bodyPost_ret (Uw.results hr.out.row rfl _ rfl _ Tryd.underlying97 rfl (by rw [sched_length, wds_length]; exact size64)) rfl ⟨rfl, below_setRow hbl.out _ _ (Nat.le_refl _)⟩
end Go.Proofs.YtlggbicjgddnaaaDoor
