/- Layer 19, the reference: small facts of two blocks, places and digests; Layer 19, the reference: Same; entries that a call answers with a second result; blocks of entries; Layer 19, the reference: Keep, KeepTag, Same, SameTag. (gen_entc.py); Layer 19, the reference: SameTag; names' entries that a call answers with a second result; Layer 19, the reference: KeepTag, SameTag. (gen_entc.py); The refer -/
import Derived.Test.YtpfbfhigelbfcaaGreatSc1
import Derived.Test.YtpfbfhigelbfcaaGreatSc3
import Derived.Test.YtpfbfhigelbfcaaGreatSc6
import Derived.Test.YtpfbfhigelbfcaaGreatSc11
import Derived.Test.YtpfbfhigelbfcaaGreatSc12
import Derived.Test.YtpfbfhigelbfcaaGreatSc13
import Derived.Test.YtpfbfhigelbfcaaGreatSc14
import Derived.Test.YtpfbfhigelbfcaaGreatSc15
set_option linter.unusedSimpArgs false
set_option linter.unusedVariables false
namespace Go.Proofs.YtpfbfhigelbfcaaGreat
open Go.RowKit Go.Lib
/-- a row of the call's own that lies from block B on outlives whatever turns blocks below B -/
theorem Gw.iskeep {W W' : World} {B : Nat} {v : Value} {L : List Int} (h : Gw encI W B v L) (hk : ∀ b, B ≤ b → W'.heap[b]? = W.heap[b]?) : Gw encI W' B v L := by
  obtain ⟨hl, h2⟩ := h
  refine ⟨hl, ?_⟩
  rcases h2 with h2 | ⟨b, cap, cur, hv, hb, hgb, r⟩
  · exact Or.inl h2
  · exact Or.inr ⟨b, cap, cur, hv, hb, by rw [hk b hb]; exact hgb, r⟩
structure Bx2 (w w2 : World) (ca cz : Array Value) (ta tz : TypeId) (g1 : Nat) : Prop where
  a : w2.heap[w.heap.size]? = some (.cells ca ta (0, 0))
  z : w2.heap[g1]? = some (.cells cz tz (0, 0))
  le : Below w.heap.size w w2
  lt : w.heap.size < g1 ∧ g1 < w2.heap.size
theorem box2 (w : World) (ca cz : Array Value) (ta tz : TypeId) : ∃ w0 w2 g1, w.alloc (.cells ca ta) = w0 ∧ w0.alloc (.cells cz tz) = w2 ∧ w0.heap.size = g1 ∧ Bx2 w w2 ca cz ta tz g1 := by
  refine ⟨_, _, _, rfl, rfl, rfl, ?_⟩
  have b0 : Below w.heap.size w (w.alloc (.cells ca ta)) := (Below.refl _ _).alloc (Nat.le_refl _) _
  have b1 : Below (w.alloc (.cells ca ta)).heap.size (w.alloc (.cells ca ta)) ((w.alloc (.cells ca ta)).alloc (.cells cz tz)) := (Below.refl _ _).alloc (Nat.le_refl _) _
  have h0 := heap_alloc_new w (.cells ca ta)
  exact ⟨obj_later h0 b1, heap_alloc_new _ _, below_step b0 b1, by simp⟩
theorem len_nil {L : List Int} : L = [] ↔ ¬ (0 : Int) < (L.length : Int) := by
  cases L <;> simp <;> omega
theorem dig_refl (l : List Int) (h : dok l) (W : World) : (Op.equalIn 10000 35 (.agg (bcs l)) (.agg (bcs l))).run Tryz.prog W = .ok true W := by
  rw [digest_eq l l h h]; simp
theorem dz32_ok : dok dz32 := ⟨rfl, fun j => by
  unfold dz32
  by_cases hj : j < 32
  · rw [List.getD_eq_getElem?_getD, List.getElem?_replicate_of_lt hj]; simp
  · rw [List.getD_eq_getElem?_getD, List.getElem?_eq_none (by simp; omega)]; simp⟩
theorem built_en0 : Tryz.prog.built 59 [] = some (enC zeroE (.slice none 0 0)) := by kernel_rfl
def KeQ (w : World) (s : Value) (r : Pe × Bool) (e : Ending) (w' : World) : Prop := ∃ u, e = .returned (.tuple #[enV r.1 u, .bool r.2]) ∧ Is w' u r.1.ins ∧ Fr w s u ∧ Below w.heap.size w w'
def KeG (w : World) (r : Pe × Bool) (e : Ending) (w' : World) : Prop := ∃ u, e = .returned (.tuple #[enV r.1 u, .bool r.2]) ∧ Gw encI w' w.heap.size u r.1.ins ∧ Below w.heap.size w w'
theorem KeG.q {w w' : World} {x : Pe × Bool} {e : Ending} (h : KeG w x e w') (s : Value) : KeQ w s x e w' := by
  obtain ⟨u, h1, h2, h3⟩ := h
  exact ⟨u, h1, h2.is, h2.fr (Nat.le_refl _), h3⟩
theorem enC_lay {w W : World} {x : Pe} {s : Value} {b : Nat} (hb : w.heap.size = b) (h : (w.alloc (.cells (enC zeroE (.slice none 0 0)) 59)).setRow b (enC x s) = W) : Em W b x s ∧ Below w.heap.size w W := by
  subst hb
  rw [← h]
  exact ⟨Mx.row (show Em (w.alloc (.cells (enC zeroE (.slice none 0 0)) 59)) w.heap.size zeroE (.slice none 0 0) from heap_alloc_new _ _), below_setRow8 ((Below.refl _ _).alloc (Nat.le_refl _) _) _ _ (Nat.le_refl _)⟩
/-- an entry in a block, and its slice -/
structure Ed (W : World) (b : Nat) (x : Pe) (s : Value) : Prop where
  m : Em W b x s
  i : Is W s x.ins
  d : dok x.dg
theorem Ed.later {W V : World} {b : Nat} {x : Pe} {s : Value} (h : Ed W b x s) (hb : Below W.heap.size W V) : Ed V b x s := ⟨h.m.later hb, h.i.later hb, h.d⟩
theorem built_tn0 : Tryz.prog.built 64 [] = some (tnC zeroT (.slice none 0 0)) := by kernel_rfl
def KtQ (w : World) (s : Value) (r : Pt × Bool) (e : Ending) (w' : World) : Prop := ∃ u, e = .returned (.tuple #[tnV r.1 u, .bool r.2]) ∧ Is w' u r.1.ins ∧ Fr w s u ∧ Below w.heap.size w w'
def KtG (w : World) (r : Pt × Bool) (e : Ending) (w' : World) : Prop := ∃ u, e = .returned (.tuple #[tnV r.1 u, .bool r.2]) ∧ Gw encI w' w.heap.size u r.1.ins ∧ Below w.heap.size w w'
theorem KtG.q {w w' : World} {x : Pt × Bool} {e : Ending} (h : KtG w x e w') (s : Value) : KtQ w s x e w' := by
  obtain ⟨u, h1, h2, h3⟩ := h
  exact ⟨u, h1, h2.is, h2.fr (Nat.le_refl _), h3⟩
theorem tnC_lay {w W : World} {x : Pt} {s : Value} {b : Nat} (hb : w.heap.size = b) (h : (w.alloc (.cells (tnC zeroT (.slice none 0 0)) 64)).setRow b (tnC x s) = W) : Tn W b x s ∧ Below w.heap.size w W := by
  subst hb
  rw [← h]
  exact ⟨Mx.row (show Tn (w.alloc (.cells (tnC zeroT (.slice none 0 0)) 64)) w.heap.size zeroT (.slice none 0 0) from heap_alloc_new _ _), below_setRow8 ((Below.refl _ _).alloc (Nat.le_refl _) _) _ _ (Nat.le_refl _)⟩
structure Td (W : World) (b : Nat) (x : Pt) (s : Value) : Prop where
  m : Tn W b x s
  i : Is W s x.ins
  d : dok x.dg
theorem Td.later {W V : World} {b : Nat} {x : Pt} {s : Value} (h : Td W b x s) (hb : Below W.heap.size W V) : Td V b x s := ⟨h.m.later hb, h.i.later hb, h.d⟩
set_option maxRecDepth 100000 in
theorem built_wdE32 (k z seg off len : Int) (a0 a1 a2 a3 a4 a5 a6 a7 a8 a9 a10 a11 a12 a13 a14 a15 a16 a17 a18 a19 a20 a21 a22 a23 a24 a25 a26 a27 a28 a29 a30 a31 : Int) : Tryz.prog.built 39 [(0, .int .i64 k), (2, .agg (bcs [a0, a1, a2, a3, a4, a5, a6, a7, a8, a9, a10, a11, a12, a13, a14, a15, a16, a17, a18, a19, a20, a21, a22, a23, a24, a25, a26, a27, a28, a29, a30, a31])), (4, .int .i64 z), (5, .agg (lcA seg off len))] = some (mixC [.int .i64 k, .int .u64 0] [a0, a1, a2, a3, a4, a5, a6, a7, a8, a9, a10, a11, a12, a13, a14, a15, a16, a17, a18, a19, a20, a21, a22, a23, a24, a25, a26, a27, a28, a29, a30, a31] [.string ⟨#[]⟩, .int .i64 z, .int .i64 seg, .int .i64 off, .int .i64 len]) := by kernel_rfl
theorem built_wdE (e : Pe) (h : e.dg.length = 32) : Tryz.prog.built 39 [(0, .int .i64 e.k), (2, .agg (bcs e.dg)), (4, .int .i64 e.z), (5, .agg (lcA e.seg e.off e.len))] = some (mixC (wordE e).a (wordE e).dg (wordE e).t) := by
  have he := list32S h
  obtain ⟨l, hl⟩ : ∃ l, e.dg = l := ⟨_, rfl⟩
  unfold wordE Wq.a Wq.t
  rw [hl] at he ⊢
  rw [he]
  exact built_wdE32 _ _ _ _ _ (l.getD 0 0) (l.getD 1 0) (l.getD 2 0) (l.getD 3 0) (l.getD 4 0) (l.getD 5 0) (l.getD 6 0) (l.getD 7 0) (l.getD 8 0) (l.getD 9 0) (l.getD 10 0) (l.getD 11 0) (l.getD 12 0) (l.getD 13 0) (l.getD 14 0) (l.getD 15 0) (l.getD 16 0) (l.getD 17 0) (l.getD 18 0) (l.getD 19 0) (l.getD 20 0) (l.getD 21 0) (l.getD 22 0) (l.getD 23 0) (l.getD 24 0) (l.getD 25 0) (l.getD 26 0) (l.getD 27 0) (l.getD 28 0) (l.getD 29 0) (l.getD 30 0) (l.getD 31 0)
set_option maxRecDepth 100000 in
theorem built_wdN32 (k seg off len : Int) (nm : ByteArray) (a0 a1 a2 a3 a4 a5 a6 a7 a8 a9 a10 a11 a12 a13 a14 a15 a16 a17 a18 a19 a20 a21 a22 a23 a24 a25 a26 a27 a28 a29 a30 a31 : Int) : Tryz.prog.built 39 [(0, .int .i64 k), (2, .agg (bcs [a0, a1, a2, a3, a4, a5, a6, a7, a8, a9, a10, a11, a12, a13, a14, a15, a16, a17, a18, a19, a20, a21, a22, a23, a24, a25, a26, a27, a28, a29, a30, a31])), (3, .string nm), (5, .agg (lcA seg off len))] = some (mixC [.int .i64 k, .int .u64 0] [a0, a1, a2, a3, a4, a5, a6, a7, a8, a9, a10, a11, a12, a13, a14, a15, a16, a17, a18, a19, a20, a21, a22, a23, a24, a25, a26, a27, a28, a29, a30, a31] [.string nm, .int .i64 0, .int .i64 seg, .int .i64 off, .int .i64 len]) := by kernel_rfl
theorem built_wdN (e : Pt) (h : e.dg.length = 32) : Tryz.prog.built 39 [(0, .int .i64 (if e.gone then 4 else 3)), (2, .agg (bcs e.dg)), (3, .string e.nm), (5, .agg (lcA e.seg e.off e.len))] = some (mixC (wordT e).a (wordT e).dg (wordT e).t) := by
  have he := list32S h
  obtain ⟨l, hl⟩ : ∃ l, e.dg = l := ⟨_, rfl⟩
  unfold wordT Wq.a Wq.t
  rw [hl] at he ⊢
  rw [he]
  exact built_wdN32 _ _ _ _ _ (l.getD 0 0) (l.getD 1 0) (l.getD 2 0) (l.getD 3 0) (l.getD 4 0) (l.getD 5 0) (l.getD 6 0) (l.getD 7 0) (l.getD 8 0) (l.getD 9 0) (l.getD 10 0) (l.getD 11 0) (l.getD 12 0) (l.getD 13 0) (l.getD 14 0) (l.getD 15 0) (l.getD 16 0) (l.getD 17 0) (l.getD 18 0) (l.getD 19 0) (l.getD 20 0) (l.getD 21 0) (l.getD 22 0) (l.getD 23 0) (l.getD 24 0) (l.getD 25 0) (l.getD 26 0) (l.getD 27 0) (l.getD 28 0) (l.getD 29 0) (l.getD 30 0) (l.getD 31 0)
/-- what lives among the first k entries -/
def hE (L : List Pe) (s : Int) (k : Nat) : List Wq := (((L.take k).filter (hereE s)).map wordE).foldl putW []
def hT (o : List Wq) (M : List Pt) (s : Int) (k : Nat) : List Wq := (((M.take k).filter (hereT s)).map wordT).foldl putW o
/-- amid Here's loops -/
structure HeI (w W : World) (ws : List Wq) (v : Value) (o : List Wx) : Prop where
  gw : Gw encWd W w.heap.size v o
  eq : wxL o = ws
  le : Below w.heap.size w W
theorem HeI.len {w W : World} {ws : List Wq} {v : Value} {o : List Wx} (h : HeI w W ws v o) : o.length = ws.length := by rw [← h.eq, wxL_length]
/-- amid the sum of a segment -/
structure LdI (w W : World) (G : Nat) (x y z : Int) (B : Nat) (v u : Value) (o : List Wx) (ls : List (Int × Int × Int)) : Prop where
  m : Lm W G x y z
  o : Gw encWd W B v o
  g : Gw encLo W w.heap.size u ls
  le : Below w.heap.size w W
theorem LdI.drew {w W : World} {G : Nat} {x y z : Int} {B : Nat} {v u : Value} {o : List Wx} {ls : List (Int × Int × Int)} (h : LdI w W G x y z B v u o ls) : LdI w W.drew G x y z B v u o ls :=
  ⟨h.m.later (Below.refl _ _).drew, h.o.later (Below.refl _ _).drew, h.g.later (Below.refl _ _).drew, h.le.drew⟩
theorem LdI.set {w W : World} {G : Nat} {x y z : Int} {B : Nat} {v u : Value} {o : List Wx} {ls : List (Int × Int × Int)} (h : LdI w W G x y z B v u o ls) (hG : w.heap.size ≤ G) (hB : G < B) (hu : ∀ b, u.ownBlock = some b → b ≠ G) (t : Int) : LdI w (W.setCell ⟨G, 2, none⟩ (.int .i64 t)) G x y t B v u o ls :=
  ⟨h.m.set2 t, h.o.setOther (fun b hb => by have := (Gw.own_lt h.o hb).1; omega), h.g.setOther hu, h.le.setCell hG _⟩
theorem getE_cons (x : Pe) (M : List Pe) (d : List Int) : getE (x :: M) d = if x.dg = d then some x else getE M d := rfl
theorem getE_append (l m : List Pe) (d : List Int) : getE (l ++ m) d = match getE l d with | some x => some x | none => getE m d := by
  induction l with
  | nil => rfl
  | cons y l ih =>
    rw [List.cons_append, getE_cons, getE_cons]
    by_cases h : y.dg = d
    · rw [if_pos h, if_pos h]
    · rw [if_neg h, if_neg h]; exact ih
theorem getE_take {L : List Pe} {k : Nat} {x : Pe} (h : L[k]? = some x) (d : List Int) : getE (L.take (k + 1)) d = match getE (L.take k) d with | some y => some y | none => if x.dg = d then some x else none := by
  obtain ⟨h2, h3⟩ := List.getElem?_eq_some_iff.1 h
  rw [List.take_succ_eq_append_getElem h2, getE_append, h3]
  rfl
theorem getE_upto {L : List Pe} {k : Nat} {d : List Int} {x : Pe} (h : getE (L.take k) d = some x) : getE L d = some x := by
  conv => lhs; rw [← List.take_append_drop k L, getE_append, h]
/-- what Get answers -/
def GetQ (w : World) (L : List Ex) (r : Pe × Bool) (e : Ending) (w' : World) : Prop :=
  ∃ u, e = .returned (.tuple #[enV r.1 u, .bool r.2]) ∧ ((∃ x ∈ L, x.e = r.1 ∧ u = x.s) ∨ u = .slice none 0 0 ∧ r.1 = zeroE) ∧ Below w.heap.size w w'
set_option maxRecDepth 100000 in
set_option maxHeartbeats 2000000 in
theorem rget20_any (p : Option Addr) (n c : Nat) (L : List Ex) (d : List Int) (w : World) (h : Gs encEn w p n L) (hk : ∀ x ∈ L, dok x.e.dg) (hd : dok d) (hn : n ≤ 2097152) :
    Calls Tryz.prog 24 #[.slice p n c, .agg (bcs d)] w fun e w' => GetQ w L (getR (peL L) d) e w' := by
  obtain ⟨w0, wB, g1, hw0, hwB, hg1, hX⟩ := box2 w (bcs d) (enC zeroE (.slice none 0 0)) 35 59
  have HB := Lib.hid hX.le
  have HLT := Lib.hid hX.lt
  have HLD : Hid (∀ W, Below wB.heap.size wB W → (Instr.loadAt 35 (.pointer (some ⟨w.heap.size, 0, none⟩))).run Tryz.prog W = .ok (.agg (bcs d)) W) := Lib.hid fun W hW => Yw.load (show Yw W w.heap.size 35 d from obj_later hX.a hW) hd.1
  have HZ := Lib.hid fun W (hW : Below wB.heap.size wB W) => (obj_later hX.z hW : Em W g1 zeroE (.slice none 0 0))
  have H := Lib.hid (h.later hX.le)
  have HK := Lib.hid hk
  have HD := Lib.hid hd
  have HLL : Hid ((peL L).length = n) := Lib.hid (by rw [peL_length, h.len])
  rw [enZero] at hwB
  generalize hM : bcs d = M at *
  have HM := Lib.hid hM
  clear h hk hd hX hM
  go_enter Tryz.func24, Tryz.ntmps24
  go_wp2
  clear hw0 hwB hg1
  go_loopw [6] (fun j wr => ∃ k : Nat, k ≤ n ∧ j = .int .i64 (k : Int) ∧ Hid (getE ((peL L).take k) d = none) ∧ Hid (Below wB.heap.size wB wr)) (fun j _ => n - (intOf j).toNat)
  case atStart => exact ⟨0, by omega, rfl, Lib.hid rfl, Lib.hid (Below.refl _ _)⟩
  case round =>
    obtain ⟨k, hkn, rfl, hm, hb⟩ := hrel
    by_cases hlt : k < n
    · obtain ⟨b1, off, y, rfl, hy1, hy3, hr⟩ := (H.out.later hb.out).en k hlt
      have HL1 : Hid (∀ W, (∃ m, W = wr.drewN m) → (Instr.loadAt 35 (.pointer (some ⟨b1, off + k * 38, none⟩))).run Tryz.prog W = .ok (.agg (bcs y.e.dg)) W) := Lib.hid (by rintro W ⟨m, rfl⟩; exact en_dig (en_range hr (below_drewN (Below.refl _ _) _)))
      have HL2 : Hid (∀ W, (∃ m, W = wr.drewN m) → (Instr.loadAt 35 (.pointer (some ⟨w.heap.size, 0, none⟩))).run Tryz.prog W = .ok (.agg M) W) := Lib.hid (by rintro W ⟨m, rfl⟩; exact HLD.out _ (hb.out.trans (below_drewN ((Below.refl _ _)) _)))
      have HLW : Hid (∀ W, Below wr.heap.size wr W → (Instr.loadAt 59 (.pointer (some ⟨b1, off + k * 38, none⟩))).run Tryz.prog W = .ok (.agg (enC y.e y.s)) W) := Lib.hid fun W hW => en_load (en_range hr hW)
      have heq := fun W => digest_eq y.e.dg d (HK.out y hy3) HD.out W
      have HT := Lib.hid (getE_take (peL_get hy1) d)
      have HY := Lib.hid hy3
      have hki : (k : Int) < (n : Int) := by omega
      have hk0 : (0 : Int) ≤ (k : Int) := by omega
      obtain ⟨d1, hd1⟩ : ∃ d, y.e.dg = d := ⟨_, rfl⟩
      rw [hd1] at HL1 heq HT
      rw [HM.out] at heq
      clear hr hy1 hy3 hd1
      go_wp2
      refine wp_region_quiet_lit (by kernel_rfl) (by kernel_rfl) ?_
      repeat (first | (refine quiet_want rfl fun K hK => quiet_load 35 _ rfl _ rfl _ (HL1).out (hK _ ?_); clear hK K) | (refine quiet_want rfl fun K hK => quiet_load 35 _ rfl _ rfl _ (HL2).out (hK _ ?_); clear hK K) | (quiet_step (fail)))
      refine wpQuiet_nil ?_
      intro wd hw'
      obtain ⟨nq, hwd⟩ := hw'
      have hbd : Below wr.heap.size wr wd := by rw [hwd]; exact below_drewN (Below.refl _ _) _
      have HB2 : Hid (Below wB.heap.size wB wd) := Lib.hid (below_step hb.out hbd)
      have HLY := Lib.hid (HLW.out wd hbd)
      have HZD := Lib.hid (HZ.out wd HB2.out)
      clear hwd hbd heq
      by_cases hxd : d1 = d
      · have hT : decide (d1 = d) = true := by simpa using hxd
        have HF : Hid (getR (peL L) d = (y.e, true)) := Lib.hid (by
          have h1 : getE ((peL L).take (k + 1)) d = some y.e := by rw [HT.out, hm.out]; dsimp only; rw [if_pos hxd]
          unfold getR
          rw [getE_upto h1])
        go_wp2_with (first
          | (refine wpList_ld rfl 59 _ rfl _ rfl _ HLY.out ?_)
          | (refine wpList_store_row rfl 59 _ _ rfl g1 (enC y.e y.s) rfl rfl 59 _ HZD.out (enC_sizeOf y.e _ y.hd) ((enC_size _ _ rfl).trans (enC_size y.e _ y.hd).symm) (enC_one _ _ _ _) ?_; generalize hw6 : World.setRow _ _ _ = w6))
        have HM6 : Em w6 g1 y.e y.s := by rw [← hw6]; exact Mx.row HZD.out
        refine bodyPost_ret (HM6.res2 y.hd rfl _ rfl) rfl ?_
        rw [HF.out]
        exact ⟨_, rfl, Or.inl ⟨y, HY.out, rfl, rfl⟩, by rw [← hw6]; exact below_setRow8 (below_step HB.out HB2.out) _ _ (by have := HLT.out; omega)⟩
      · have hT : decide (d1 = d) = false := by simpa using hxd
        have HN2 : Hid (getE ((peL L).take (k + 1)) d = none) := Lib.hid (by rw [HT.out, hm.out]; dsimp only; rw [if_neg hxd])
        go_wp2
        exact ⟨⟨k + 1, by omega, by go_num, HN2, HB2⟩, by simp [intOf] <;> omega⟩
    · obtain rfl : k = n := by omega
      have HF : Hid (getR (peL L) d = (zeroE, false)) := Lib.hid (by
        have h1 := hm.out
        rw [List.take_of_length_le (by rw [HLL.out]; exact Nat.le_refl _)] at h1
        unfold getR
        rw [h1])
      have HZD := Lib.hid (HZ.out wr hb.out)
      have HBU := Lib.hid built_en0
      go_wp2_with (first
        | (refine wpList_build_is rfl 59 _ rfl (enC zeroE (.slice none 0 0)) ?_ ?_; focus (first | (simp only [List.map_toArray, List.map_nil]; exact HBU.out) | (simp only [Array.map_empty]; exact HBU.out) | (simp; exact HBU.out)))
        | (refine wpList_store_row rfl 59 _ _ rfl g1 (enC zeroE (.slice none 0 0)) rfl rfl 59 _ HZD.out (enC_sizeOf zeroE _ rfl) rfl (enC_one _ _ _ _) ?_; generalize hw6 : World.setRow _ _ _ = w6))
      have HM6 : Em w6 g1 zeroE (.slice none 0 0) := by rw [← hw6]; exact Mx.row HZD.out
      refine bodyPost_ret (HM6.res2 rfl rfl _ rfl) rfl ?_
      rw [HF.out]
      exact ⟨_, rfl, Or.inr ⟨rfl, rfl⟩, by rw [← hw6]; exact below_setRow8 (below_step HB.out hb.out) _ _ (by have := HLT.out; omega)⟩
def NewQ (w : World) (L : List Ex) (e : Ending) (w' : World) : Prop := ∃ v o, e = .returned v ∧ peL o = newE (peL L) ∧ Gw encEn w' w.heap.size v o ∧ (∀ x ∈ o, x ∈ L) ∧ Below w.heap.size w w'
/-- amid Set's loop -/
structure SeI (w W : World) (L : List Ex) (X : Ex) (B k : Nat) (tb : Bool) (v : Value) (o : List Ex) : Prop where
  gw : Gw encEn W B v o
  eq : peL o ++ setB X.e ((peL L).drop k) tb = setE (peL L) X.e
  me : ∀ x ∈ o, x ∈ L ∨ x = X
  le : Below w.heap.size w W
theorem SeI.len {w W : World} {L : List Ex} {X : Ex} {B k : Nat} {tb : Bool} {v : Value} {o : List Ex} (h : SeI w W L X B k tb v o) : o.length ≤ L.length + 1 := by
  have h1 := setE_length (peL L) X.e
  rw [← h.eq, List.length_append, peL_length, peL_length] at h1
  omega
/-- a row of numbers of the call's own outlives an append to a row of entries of its own -/
theorem Gw.besideEn {W W' : World} {B B' : Nat} {s v : Value} {I : List Int} {o : List Ex} (h : Gw encI W B s I) (hv : Gw encEn W B' v o) (hg : W.grownBy W' v.ownBlock) : Gw encI W' B s I := by
  refine h.kept hg fun b hb e => ?_
  obtain ⟨_, h2⟩ := h
  obtain ⟨_, h3⟩ := hv
  rcases h2 with ⟨h4, _⟩ | ⟨g, cap, cur, h4, _, h5, _⟩
  · rw [h4] at hb; cases hb
  · rcases h3 with ⟨h6, _⟩ | ⟨g', cap', cur', h6, _, h7, _⟩
    · rw [h6] at e; cases e
    · rw [h4] at hb
      rw [h6] at e
      simp only [Value.ownBlock, Option.some.injEq] at hb e
      subst hb
      subst e
      rw [h5] at h7
      simp only [Option.some.injEq, Obj.cells.injEq] at h7
      exact absurd h7.2.1 (by decide)
theorem keepE_dok20 {e : Pe} (h : dok e.dg) (B : List Int) : dok (keepE e B).1.dg := by
  unfold keepE
  split
  · exact h
  · split
    · exact h
    · exact dz32_ok
theorem gwEn_open {W : World} {B : Nat} {v : Value} {o : List Ex} (h : Gw encEn W B v o) : ∃ q d, v = .slice q o.length d ∧ o.length ≤ d ∧ d ≤ maxLen ∧ (q = none → d = 0) ∧ ∀ b off, q = some ⟨b, off, none⟩ → B ≤ b := by
  obtain ⟨_, h2⟩ := h
  rcases h2 with ⟨h4, h0⟩ | ⟨g, cap, cur, h4, hB, _, hn, hm, _⟩
  · exact ⟨none, 0, by rw [h4, h0], by omega, by unfold maxLen; decide, fun _ => rfl, (fun b off e => by cases e)⟩
  · refine ⟨_, cap, h4, hn, hm, (fun e => by cases e), fun b off e => ?_⟩
    simp only [Option.some.injEq, Addr.mk.injEq] at e
    omega
def KepQ (w : World) (L : List Ex) (B : List Int) (e : Ending) (w' : World) : Prop := ∃ v o, e = .returned v ∧ peL o = keepR (peL L) B ∧ Gw encEn w' w.heap.size v o ∧ (∀ x ∈ o, dok x.e.dg ∧ Gw encI w' w.heap.size x.s x.e.ins) ∧ Below w.heap.size w w'
/-- what Apply answers: the same row, or one of its own -/
def AppQ (w : World) (p : Option Addr) (n c : Nat) (L : List Ex) (x : Wq) (e : Ending) (w' : World) : Prop :=
  ∃ q m d o, e = .returned (.slice q m d) ∧ peL o = applyE (peL L) x ∧ Gs encEn w' q m o ∧ ((q = p ∧ m = n) ∨ ∀ b off, q = some ⟨b, off, none⟩ → w.heap.size ≤ b) ∧ (∀ y ∈ o, y ∈ L ∨ dok y.e.dg ∧ Gw encI w' w.heap.size y.s y.e.ins) ∧ (q = none → d = 0 ∨ q = p ∧ d = c) ∧ Below w.heap.size w w'
theorem getT_cons (x : Pt) (M : List Pt) (d : ByteArray) : getT (x :: M) d = if x.nm = d then some x else getT M d := rfl
theorem getT_append (l m : List Pt) (d : ByteArray) : getT (l ++ m) d = match getT l d with | some x => some x | none => getT m d := by
  induction l with
  | nil => rfl
  | cons y l ih =>
    rw [List.cons_append, getT_cons, getT_cons]
    by_cases h : y.nm = d
    · rw [if_pos h, if_pos h]
    · rw [if_neg h, if_neg h]; exact ih
theorem getT_take {L : List Pt} {k : Nat} {x : Pt} (h : L[k]? = some x) (d : ByteArray) : getT (L.take (k + 1)) d = match getT (L.take k) d with | some y => some y | none => if x.nm = d then some x else none := by
  obtain ⟨h2, h3⟩ := List.getElem?_eq_some_iff.1 h
  rw [List.take_succ_eq_append_getElem h2, getT_append, h3]
  rfl
theorem getT_upto {L : List Pt} {k : Nat} {d : ByteArray} {x : Pt} (h : getT (L.take k) d = some x) : getT L d = some x := by
  conv => lhs; rw [← List.take_append_drop k L, getT_append, h]
/-- what Get answers -/
def GetTQ (w : World) (L : List Tx) (r : Pt × Bool) (e : Ending) (w' : World) : Prop :=
  ∃ u, e = .returned (.tuple #[tnV r.1 u, .bool r.2]) ∧ ((∃ x ∈ L, x.e = r.1 ∧ u = x.s) ∨ u = .slice none 0 0 ∧ r.1 = zeroT) ∧ Below w.heap.size w w'
set_option maxRecDepth 100000 in
set_option maxHeartbeats 2000000 in
theorem rget21_any (p : Option Addr) (n c : Nat) (L : List Tx) (d : ByteArray) (w : World) (h : Gs encTn w p n L) (hn : n ≤ 2097152) :
    Calls Tryz.prog 26 #[.slice p n c, .string d] w fun e w' => GetTQ w L (getTR (ptL L) d) e w' := by
  obtain ⟨wB, hwB⟩ : ∃ W, w.alloc (.cells (tnC zeroT (.slice none 0 0)) 64) = W := ⟨_, rfl⟩
  have hbB : Below w.heap.size w wB := by rw [← hwB]; exact (Below.refl _ _).alloc (Nat.le_refl _) _
  have hz : Tn wB w.heap.size zeroT (.slice none 0 0) := by rw [← hwB]; exact heap_alloc_new _ _
  have HB := Lib.hid hbB
  have HZ := Lib.hid hz
  have H := Lib.hid (h.later hbB)
  have HLL : Hid ((ptL L).length = n) := Lib.hid (by rw [ptL_length, h.len])
  rw [tnZero] at hwB
  clear h hbB hz
  go_enter Tryz.func26, Tryz.ntmps26
  go_wp2
  clear hwB
  go_loopw [6] (fun j wr => ∃ k : Nat, k ≤ n ∧ j = .int .i64 (k : Int) ∧ Hid (getT ((ptL L).take k) d = none) ∧ wr = wB) (fun j _ => n - (intOf j).toNat)
  case atStart => exact ⟨0, by omega, rfl, Lib.hid rfl, rfl⟩
  case round =>
    obtain ⟨k, hkn, rfl, hm, hwr⟩ := hrel
    subst hwr
    by_cases hlt : k < n
    · obtain ⟨b1, off, y, rfl, hy1, hy3, hr⟩ := H.out.tn k hlt
      have c0 := (tn_cells hr).1
      have HLY := Lib.hid (tn_load hr)
      have HT := Lib.hid (getT_take (ptL_get hy1) d)
      have HY := Lib.hid hy3
      have hki : (k : Int) < (n : Int) := by omega
      have hk0 : (0 : Int) ≤ (k : Int) := by omega
      obtain ⟨ny, hny⟩ : ∃ s, y.e.nm = s := ⟨_, rfl⟩
      rw [hny] at c0 HT
      clear hr hy1 hy3 hny
      by_cases hxd : ny = d
      · have hq := sq_true hxd
        have HF : Hid (getTR (ptL L) d = (y.e, true)) := Lib.hid (by
          have h1 : getT ((ptL L).take (k + 1)) d = some y.e := by rw [HT.out, hm.out]; dsimp only; rw [if_pos hxd]
          unfold getTR
          rw [getT_upto h1])
        clear hxd
        go_wp2_with (first
          | (refine wpList_ld rfl 64 _ rfl _ rfl _ HLY.out ?_)
          | (refine wpList_store_row rfl 64 _ _ rfl w.heap.size (tnC y.e y.s) rfl rfl 64 _ HZ.out (tnC_sizeOf y.e _ y.hd) ((tnC_size _ _ rfl).trans (tnC_size y.e _ y.hd).symm) (tnC_one _ _ _ _) ?_; generalize hw6 : World.setRow _ _ _ = w6))
        have HM6 : Tn w6 w.heap.size y.e y.s := by rw [← hw6]; exact Mx.row HZ.out
        refine bodyPost_ret (HM6.res2 y.hd rfl _ rfl) rfl ?_
        rw [HF.out]
        exact ⟨_, rfl, Or.inl ⟨y, HY.out, rfl, rfl⟩, by rw [← hw6]; exact below_setRow8 HB.out _ _ (Nat.le_refl _)⟩
      · have hq := sq_false hxd
        have HN2 : Hid (getT ((ptL L).take (k + 1)) d = none) := Lib.hid (by rw [HT.out, hm.out]; dsimp only; rw [if_neg hxd])
        clear hxd
        go_wp2
        exact ⟨⟨k + 1, by omega, by go_num, HN2, by first | rfl | trivial⟩, by simp [intOf] <;> omega⟩
    · obtain rfl : k = n := by omega
      have HF : Hid (getTR (ptL L) d = (zeroT, false)) := Lib.hid (by
        have h1 := hm.out
        rw [List.take_of_length_le (by rw [HLL.out]; exact Nat.le_refl _)] at h1
        unfold getTR
        rw [h1])
      have HBU := Lib.hid built_tn0
      go_wp2_with (first
        | (refine wpList_build_is rfl 64 _ rfl (tnC zeroT (.slice none 0 0)) ?_ ?_; focus (first | (simp only [List.map_toArray, List.map_nil]; exact HBU.out) | (simp only [Array.map_empty]; exact HBU.out) | (simp; exact HBU.out)))
        | (refine wpList_store_row rfl 64 _ _ rfl w.heap.size (tnC zeroT (.slice none 0 0)) rfl rfl 64 _ HZ.out (tnC_sizeOf zeroT _ rfl) rfl (tnC_one _ _ _ _) ?_; generalize hw6 : World.setRow _ _ _ = w6))
      have HM6 : Tn w6 w.heap.size zeroT (.slice none 0 0) := by rw [← hw6]; exact Mx.row HZ.out
      refine bodyPost_ret (HM6.res2 rfl rfl _ rfl) rfl ?_
      rw [HF.out]
      exact ⟨_, rfl, Or.inr ⟨rfl, rfl⟩, by rw [← hw6]; exact below_setRow8 HB.out _ _ (Nat.le_refl _)⟩
/-- '[]TagEntry{x}', at one operation -/
theorem wp_build_tn {o : Oper} {a : Act} {w : World} {K : Act → World → Prop} {Q : Exit → Act → World → Prop} (t : TypeId) (x : Nat) (ho : o.op = .buildSlice t 1 #[(0, .tmp x)])
    (hu : Tryz.prog.underlying t = some (.slice 64)) (q : Tx) (hx : a.eval (.tmp x) = .agg (tnC q.e q.s))
    (h : K (a.put o.dst (.slice (some ⟨w.heap.size, 0, none⟩) 1 1)) (w.alloc (.cells (tnC q.e q.s) 64))) : o.wp Tryz.prog a w K Q := by
  obtain ⟨i, hi, hzz⟩ := Option.map_eq_some_iff.1 infoTn
  simp only [Prod.mk.injEq] at hzz
  obtain ⟨hz, hsz, _⟩ := hzz
  have hsz' : i.size = 38 := hsz
  refine wp_buildSlice t 64 1 _ ho (tnC q.e q.s) i _ hu hi hz (by rw [hsz']; decide) (by rw [hsz']; decide) ?_ h
  rw [hsz']
  have hf := Great.fill_whole (s := 38) (by decide) [.agg (tnC q.e q.s)] ((Array.range (1 * 38)).map (tzero.cells[· % tzero.cells.size]!)) (by
    intro v hv
    rw [List.mem_singleton] at hv
    subst hv
    exact tnC_size q.e q.s q.hd) (by simp)
  have e : (#[(0, Operand.tmp x)].map fun (p : Nat × Operand) => (p.1, a.eval p.2)).toList = [((0 : Nat), Value.agg (tnC q.e q.s))] := by
    simp [hx]
  rw [e]
  refine (Eq.trans ?_ hf).trans ?_
  · rfl
  · simp [Value.cells]
theorem wpList_build_tn {ops : Array Oper} {rest : List Oper} {o : Oper} {a : Act} {w : World} {Q : Exit → Act → World → Prop} (hg : o.guard = none) (t : TypeId) (x : Nat) (ho : o.op = .buildSlice t 1 #[(0, .tmp x)])
    (hu : Tryz.prog.underlying t = some (.slice 64)) (q : Tx) (hx : a.eval (.tmp x) = .agg (tnC q.e q.s))
    (h : wpList Tryz.prog ops Q rest (a.put o.dst (.slice (some ⟨w.heap.size, 0, none⟩) 1 1)) (w.alloc (.cells (tnC q.e q.s) 64))) : wpList Tryz.prog ops Q (o :: rest) a w :=
  wpList_plain hg fun _ hK => wp_build_tn t x ho hu q hx (hK _ _ h)
theorem Gs.oneTn (w : World) (q : Tx) : Gs encTn (w.alloc (.cells (tnC q.e q.s) 64)) (some ⟨w.heap.size, 0, none⟩) 1 [q] := Gs.one encTn w q _ (by rw [q.fC]) _ _
def NewTQ (w : World) (L : List Tx) (e : Ending) (w' : World) : Prop := ∃ v o, e = .returned v ∧ ptL o = newT (ptL L) ∧ Gw encTn w' w.heap.size v o ∧ (∀ x ∈ o, x ∈ L) ∧ Below w.heap.size w w'
/-- amid Set's loop -/
structure SeT (w W : World) (L : List Tx) (X : Tx) (B k : Nat) (tb : Bool) (v : Value) (o : List Tx) : Prop where
  gw : Gw encTn W B v o
  eq : ptL o ++ setTB X.e ((ptL L).drop k) tb = setT (ptL L) X.e
  me : ∀ x ∈ o, x ∈ L ∨ x = X
  le : Below w.heap.size w W
theorem SeT.len {w W : World} {L : List Tx} {X : Tx} {B k : Nat} {tb : Bool} {v : Value} {o : List Tx} (h : SeT w W L X B k tb v o) : o.length ≤ L.length + 1 := by
  have h1 := setT_length (ptL L) X.e
  rw [← h.eq, List.length_append, ptL_length, ptL_length] at h1
  omega
theorem below_appT {w W V : World} {B : Nat} {v : Value} {o : List Tx} (hb : Below w.heap.size w W) (hg : Gw encTn W B v o) (hB : w.heap.size ≤ B) (h : W.grownBy V v.ownBlock) : Below w.heap.size w V :=
  below_new_gw hb (hg.mono hB) h hb.size
/-- a row of numbers of the call's own outlives an append to a row of names' entries of its own -/
theorem Gw.besideTn {W W' : World} {B B' : Nat} {s v : Value} {I : List Int} {o : List Tx} (h : Gw encI W B s I) (hv : Gw encTn W B' v o) (hg : W.grownBy W' v.ownBlock) : Gw encI W' B s I := by
  refine h.kept hg fun b hb e => ?_
  obtain ⟨_, h2⟩ := h
  obtain ⟨_, h3⟩ := hv
  rcases h2 with ⟨h4, _⟩ | ⟨g, cap, cur, h4, _, h5, _⟩
  · rw [h4] at hb; cases hb
  · rcases h3 with ⟨h6, _⟩ | ⟨g', cap', cur', h6, _, h7, _⟩
    · rw [h6] at e; cases e
    · rw [h4] at hb
      rw [h6] at e
      simp only [Value.ownBlock, Option.some.injEq] at hb e
      subst hb
      subst e
      rw [h5] at h7
      simp only [Option.some.injEq, Obj.cells.injEq] at h7
      exact absurd h7.2.1 (by decide)
theorem keepTs_take {L : List Pt} {k : Nat} {x : Pt} (h : L[k]? = some x) (b : List Int) : keepTs (L.take (k + 1)) b = keepTs (L.take k) b ++ if (keepT x b).2 then [(keepT x b).1] else [] := by
  obtain ⟨h2, h3⟩ := List.getElem?_eq_some_iff.1 h
  rw [List.take_succ_eq_append_getElem h2, h3]
  unfold keepTs
  rw [List.flatMap_append]
  simp
theorem keepT_dok21 {e : Pt} (h : dok e.dg) (B : List Int) : dok (keepT e B).1.dg := by
  unfold keepT
  split
  · exact h
  · split
    · exact dz32_ok
    · exact dz32_ok
theorem gwTn_open {W : World} {B : Nat} {v : Value} {o : List Tx} (h : Gw encTn W B v o) : ∃ q d, v = .slice q o.length d ∧ o.length ≤ d ∧ d ≤ maxLen ∧ (q = none → d = 0) ∧ ∀ b off, q = some ⟨b, off, none⟩ → B ≤ b := by
  obtain ⟨_, h2⟩ := h
  rcases h2 with ⟨h4, h0⟩ | ⟨g, cap, cur, h4, hB, _, hn, hm, _⟩
  · exact ⟨none, 0, by rw [h4, h0], by omega, by unfold maxLen; decide, fun _ => rfl, (fun b off e => by cases e)⟩
  · refine ⟨_, cap, h4, hn, hm, (fun e => by cases e), fun b off e => ?_⟩
    simp only [Option.some.injEq, Addr.mk.injEq] at e
    omega
def KepTQ (w : World) (L : List Tx) (B : List Int) (e : Ending) (w' : World) : Prop := ∃ v o, e = .returned v ∧ ptL o = keepTs (ptL L) B ∧ Gw encTn w' w.heap.size v o ∧ (∀ x ∈ o, dok x.e.dg ∧ Gw encI w' w.heap.size x.s x.e.ins) ∧ Below w.heap.size w w'
/-- what Apply answers: the same row, or one of its own -/
def AppTQ (w : World) (p : Option Addr) (n c : Nat) (L : List Tx) (x : Wq) (e : Ending) (w' : World) : Prop :=
  ∃ q m d o, e = .returned (.slice q m d) ∧ ptL o = applyT (ptL L) x ∧ Gs encTn w' q m o ∧ ((q = p ∧ m = n) ∨ ∀ b off, q = some ⟨b, off, none⟩ → w.heap.size ≤ b) ∧ (∀ y ∈ o, y ∈ L ∨ dok y.e.dg ∧ Gw encI w' w.heap.size y.s y.e.ins) ∧ (q = none → d = 0 ∨ q = p ∧ d = c) ∧ Below w.heap.size w w'
section
variable (Ix : World → (Nat → Prop) → (Nat → Prop) → Value → List Pe → Prop)
/-- an index that is made -/
def NewIQ (w : World) (N : Nat → Prop) (L : List Pe) (e : Ending) (w' : World) : Prop := ∃ v S F, e = .returned v ∧ Ix w' S F v (newE L) ∧ (∀ b, S b → w.heap.size ≤ b) ∧ (∀ b, F b → N b ∨ w.heap.size ≤ b) ∧ Below w.heap.size w w'
/-- an index that is turned -/
def OpQ (w : World) (S F : Nat → Prop) (v : Value) (L : List Pe) (e : Ending) (w' : World) : Prop := ∃ S' F', e = .returned (.tuple #[]) ∧ Ix w' S' F' v L ∧ Chg S w w' ∧ (∀ b, S' b → S b ∨ w.heap.size ≤ b) ∧ (∀ b, F' b → F b ∨ w.heap.size ≤ b)
end
def GetIQ (w : World) (F : Nat → Prop) (r : Pe × Bool) (e : Ending) (w' : World) : Prop := ∃ s, e = .returned (.tuple #[enV r.1 s, .bool r.2]) ∧ Is w' s r.1.ins ∧ (r.1.ins ≠ [] → ∀ b, s.ownBlock = some b → F b ∨ w.heap.size ≤ b) ∧ Below w.heap.size w w'
def RowIQ (w : World) (F : Nat → Prop) (L : List Pe) (e : Ending) (w' : World) : Prop := ∃ p n c Ls N, e = .returned (.slice p n c) ∧ peL Ls = L ∧ ReN w' N p n Ls ∧ (∀ b, N b → F b ∨ w.heap.size ≤ b) ∧ (p = none → c = 0) ∧ n ≤ c ∧ c ≤ maxLen ∧ Below w.heap.size w w'
/-- Ix w S F v L: in w, v is an index that holds L; its own blocks are those of S, what it reads besides lies in those of F -/
structure IdxOk (Ix : World → (Nat → Prop) → (Nat → Prop) → Value → List Pe → Prop) : Prop where
  keep : ∀ {w w' : World} {S F : Nat → Prop} {v : Value} {L : List Pe}, Ix w S F v L → (∀ b, S b ∨ F b → w'.heap[b]? = w.heap[b]?) → w.heap.size ≤ w'.heap.size → Ix w' S F v L
  lt : ∀ {w : World} {S F : Nat → Prop} {v : Value} {L : List Pe}, Ix w S F v L → ∀ b, S b ∨ F b → b < w.heap.size
  dis : ∀ {w : World} {S F : Nat → Prop} {v : Value} {L : List Pe}, Ix w S F v L → ∀ b, S b → ¬ F b
  ok : ∀ {w : World} {S F : Nat → Prop} {v : Value} {L : List Pe}, Ix w S F v L → rowE L ∧ ∀ x ∈ L, dok x.dg
  new : ∀ {w : World} {N : Nat → Prop} {p : Option Addr} {n c : Nat} {Ls : List Ex}, ReN w N p n Ls → (p = none → c = 0) → n ≤ c → c ≤ maxLen → n ≤ 1048576 → insLe (peL Ls) 2097151 → Calls Tryz.prog 40 #[.slice p n c] w fun e w' => NewIQ Ix w N (peL Ls) e w'
  apply : ∀ {w : World} {S F : Nat → Prop} {v : Value} {L : List Pe} (x : Wq), Ix w S F v L → dok x.dg → L.length ≤ 1048576 → insLe L 2097151 → Calls Tryz.prog 45 #[v, x.v] w fun e w' => OpQ Ix w S F v (applyE L x) e w'
  keepS : ∀ {w : World} {S F : Nat → Prop} {v u : Value} {L : List Pe} {B : List Int}, Ix w S F v L → Is w u B → (B ≠ [] → ∀ b, u.ownBlock = some b → ¬ S b) → B.length ≤ 2097152 → L.length ≤ 1048576 → insLe L 2097151 → Calls Tryz.prog 49 #[v, u] w fun e w' => OpQ Ix w S F v (keepR L B) e w'
  get : ∀ {w : World} {S F : Nat → Prop} {v : Value} {L : List Pe} (d : List Int), Ix w S F v L → dok d → Calls Tryz.prog 64 #[v, .agg (bcs d)] w fun e w' => GetIQ w F (getR L d) e w'
  row : ∀ {w : World} {S F : Nat → Prop} {v : Value} {L : List Pe}, Ix w S F v L → L.length ≤ 1048576 → Calls Tryz.prog 54 #[v] w fun e w' => RowIQ w F L e w'
  count : ∀ {w : World} {S F : Nat → Prop} {v : Value} {L : List Pe}, Ix w S F v L → L.length ≤ 1048576 → Calls Tryz.prog 66 #[v] w fun e w' => e = .returned (.tuple #[.int .i64 (cntE L : Int), .int .i64 (IntKind.i64.wrap (sumE L))]) ∧ Below w.heap.size w w'
theorem IdxOk.later {Ix : World → (Nat → Prop) → (Nat → Prop) → Value → List Pe → Prop} (hT : IdxOk Ix) {w w' : World} {S F : Nat → Prop} {v : Value} {L : List Pe} (h : Ix w S F v L) (hb : Below w.heap.size w w') : Ix w' S F v L :=
  hT.keep h (fun b hb2 => hb.block b (hT.lt h b hb2)) hb.size
theorem ReN.none (w : World) : ReN w (fun _ => False) none 0 [] := ⟨Gs.empty _ _ _, fun h => absurd rfl h, (fun x h => by cases h), (fun x h => by cases h), (fun x h => by cases h), fun b h => h.elim⟩
theorem wd_lay {w W : World} {x : Wq} {b : Nat} (hb : w.heap.size = b) (h : (w.alloc (.cells (mixC wq0.a wq0.dg wq0.t) 39)).setRow b (mixC x.a x.dg x.t) = W) : Wm W b x ∧ Below w.heap.size w W := by
  subst hb
  rw [← h]
  exact ⟨Mx.row (show Wm (w.alloc (.cells (mixC wq0.a wq0.dg wq0.t) 39)) w.heap.size wq0 from heap_alloc_new _ _), below_setRow8 ((Below.refl _ _).alloc (Nat.le_refl _) _) _ _ (Nat.le_refl _)⟩
end Go.Proofs.YtpfbfhigelbfcaaGreat

