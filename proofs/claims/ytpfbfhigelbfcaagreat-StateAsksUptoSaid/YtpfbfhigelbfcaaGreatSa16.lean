/- Layer 19, the reference: small facts of two blocks, places and digests; Layer 19, the reference: Same; entries that a call answers with a second result; blocks of entries; Layer 19, the reference: Keep, KeepTag, Same, SameTag. (gen_entc.py); Layer 19, the reference: SameTag; names' entries that a call answers with a second result; Layer 19, the reference: KeepTag, SameTag. (gen_entc.py); The refer -/
import Derived.Test.YtpfbfhigelbfcaaGreatSa1
import Derived.Test.YtpfbfhigelbfcaaGreatSa3
import Derived.Test.YtpfbfhigelbfcaaGreatSa6
import Derived.Test.YtpfbfhigelbfcaaGreatSa11
import Derived.Test.YtpfbfhigelbfcaaGreatSa12
import Derived.Test.YtpfbfhigelbfcaaGreatSa13
import Derived.Test.YtpfbfhigelbfcaaGreatSa14
import Derived.Test.YtpfbfhigelbfcaaGreatSa15
set_option linter.unusedSimpArgs false
set_option linter.unusedVariables false
namespace Go.Proofs.YtpfbfhigelbfcaaGreat
open Go.RowKit Go.Lib
/-- a row of the call's own that lies from block B on outlives whatever turns blocks below B -/
theorem Gw.iskeep {W W' : World} {B : Nat} {v : Value} {L : List Int} (h : Gw encI W B v L) (hk : ∀ b, B ≤ b → W'.heap[b]? = W.heap[b]?) : Gw encI W' B v L := by
  obtain ⟨hl, h2⟩ := h
  refine ⟨hl, ?_⟩
  rcases h2 with h2 | ⟨b, cap, cur, hv, hb, hgb, r⟩
  · exact Or.inl h2
  · exact Or.inr ⟨b, cap, cur, hv, hb, by rw [hk b hb]; exact hgb, r⟩
structure Bx2 (w w2 : World) (ca cz : Array Value) (ta tz : TypeId) (g1 : Nat) : Prop where
  a : w2.heap[w.heap.size]? = some (.cells ca ta (0, 0))
  z : w2.heap[g1]? = some (.cells cz tz (0, 0))
  le : Below w.heap.size w w2
  lt : w.heap.size < g1 ∧ g1 < w2.heap.size
theorem box2 (w : World) (ca cz : Array Value) (ta tz : TypeId) : ∃ w0 w2 g1, w.alloc (.cells ca ta) = w0 ∧ w0.alloc (.cells cz tz) = w2 ∧ w0.heap.size = g1 ∧ Bx2 w w2 ca cz ta tz g1 := by
  refine ⟨_, _, _, rfl, rfl, rfl, ?_⟩
  have b0 : Below w.heap.size w (w.alloc (.cells ca ta)) := (Below.refl _ _).alloc (Nat.le_refl _) _
  have b1 : Below (w.alloc (.cells ca ta)).heap.size (w.alloc (.cells ca ta)) ((w.alloc (.cells ca ta)).alloc (.cells cz tz)) := (Below.refl _ _).alloc (Nat.le_refl _) _
  have h0 := heap_alloc_new w (.cells ca ta)
  exact ⟨obj_later h0 b1, heap_alloc_new _ _, below_step b0 b1, by simp⟩
theorem len_nil {L : List Int} : L = [] ↔ ¬ (0 : Int) < (L.length : Int) := by
  cases L <;> simp <;> omega
theorem loc_eq (x y u : Int) (W : World) : (Op.equalIn 10000 37 (.agg (lcA x y u)) (.agg (lcA x y u))).run Tryz.prog W = .ok true W := by
  have u3 := Tryz.underlying3
  have a3 := Tryz.isAgg3
  have z3 := Tryz.sizeOf3
  have hS : Tryz.prog.underlying 37 = some (.struct (Tryz.prog.fieldsOf 37)) := by kernel_rfl
  have hp : Tryz.prog.stoodInHeld 37 = false := by kernel_rfl
  unfold lcA
  rw [show (10000 : Nat) = 9999 + 1 from rfl, run_equalIn_agg W 9999 37 _ _ hS hp]
  simp only [Program.fieldsOf, Tryz.underlying37]
  go_simp
theorem dig_refl (l : List Int) (h : dok l) (W : World) : (Op.equalIn 10000 35 (.agg (bcs l)) (.agg (bcs l))).run Tryz.prog W = .ok true W := by
  rw [digest_eq l l h h]; simp
theorem dz32_ok : dok dz32 := ⟨rfl, fun j => by
  unfold dz32
  by_cases hj : j < 32
  · rw [List.getD_eq_getElem?_getD, List.getElem?_replicate_of_lt hj]; simp
  · rw [List.getD_eq_getElem?_getD, List.getElem?_eq_none (by simp; omega)]; simp⟩
theorem built_en0 : Tryz.prog.built 59 [] = some (enC zeroE (.slice none 0 0)) := by kernel_rfl
def KeQ (w : World) (s : Value) (r : Pe × Bool) (e : Ending) (w' : World) : Prop := ∃ u, e = .returned (.tuple #[enV r.1 u, .bool r.2]) ∧ Is w' u r.1.ins ∧ Fr w s u ∧ Below w.heap.size w w'
def KeG (w : World) (r : Pe × Bool) (e : Ending) (w' : World) : Prop := ∃ u, e = .returned (.tuple #[enV r.1 u, .bool r.2]) ∧ Gw encI w' w.heap.size u r.1.ins ∧ Below w.heap.size w w'
theorem KeG.q {w w' : World} {x : Pe × Bool} {e : Ending} (h : KeG w x e w') (s : Value) : KeQ w s x e w' := by
  obtain ⟨u, h1, h2, h3⟩ := h
  exact ⟨u, h1, h2.is, h2.fr (Nat.le_refl _), h3⟩
set_option maxRecDepth 100000 in
set_option maxHeartbeats 2000000 in
theorem rsame19_any (e : Pe) (s u : Value) (w : World) (h : Is w s e.ins) (h' : Is w u e.ins) (hd : dok e.dg) (hn : e.ins.length ≤ 2097152) :
    Calls Tryz.prog 29 #[enV e s, enV e u] w fun r w' => r = .returned (.bool true) ∧ Below w.heap.size w w' := by
  obtain ⟨w0, w2, g1, h0, h2, hg1, hB⟩ := box2 w (enC e s) (enC e u) 59 59
  have HE : Hid (Em w2 w.heap.size e s) := Lib.hid hB.a
  have HZ : Hid (Em w2 g1 e u) := Lib.hid hB.z
  have HB := Lib.hid hB.le
  obtain ⟨p, c, rfl, hs, _⟩ := h.later hB.le
  obtain ⟨p2, c2, rfl, hs2, _⟩ := h'.later hB.le
  have HIN := Lib.hid (rints_any p p2 e.ins.length c e.ins.length c2 e.ins w2 hs hs2 (by omega))
  have HD := Lib.hid hd
  obtain ⟨e0, e1, e2, cs⟩ := HE.out.cells hd.1
  obtain ⟨z0, z1, z2, zs⟩ := HZ.out.cells hd.1
  have hde := fun W => dig_refl e.dg hd W
  have hle := fun W => loc_eq e.seg e.off e.len W
  obtain ⟨m, hm⟩ : ∃ m, e.ins.length = m := ⟨_, rfl⟩
  rw [hm] at HIN cs zs
  have HL1 := Lib.hid (HE.out.dig hd.1)
  have HL2 := Lib.hid (HZ.out.dig hd.1)
  have HL3 := Lib.hid (HE.out.loc hd.1)
  have HL4 := Lib.hid (HZ.out.loc hd.1)
  unfold enV
  generalize hMC : enC e (Value.slice p e.ins.length c) = MC at *
  generalize hMZ : enC e (Value.slice p2 e.ins.length c2) = MZ at *
  generalize lcA e.seg e.off e.len = LC at *
  generalize bcs e.dg = DG at *
  rw [hm] at hMC hMZ
  clear hMC hMZ hs hs2 h h' hd hB hm hn
  go_enter Tryz.func29, Tryz.ntmps29
  go_wp2_with (first
    | (refine wpList_ld rfl 35 _ rfl _ rfl _ HL1.out ?_)
    | (refine wpList_ld rfl 35 _ rfl _ rfl _ HL2.out ?_)
    | (refine wpList_wanted (by rfl) fun K hK => wp_ld 35 _ rfl _ rfl _ HL1.out (hK _ _ ?_); clear hK K)
    | (refine wpList_wanted (by rfl) fun K hK => wp_ld 35 _ rfl _ rfl _ HL2.out (hK _ _ ?_); clear hK K)
    | (refine wpList_wanted (by rfl) fun K hK => wp_ld 37 _ rfl _ rfl _ HL3.out (hK _ _ ?_); clear hK K)
    | (refine wpList_wanted (by rfl) fun K hK => wp_ld 37 _ rfl _ rfl _ HL4.out (hK _ _ ?_); clear hK K)
    | (go_at_call 68; refine HIN.out.mono ?_; rintro r w3 ⟨rfl, nq, rfl⟩))
  go_ret
  exact ⟨rfl, below_drewN HB.out nq⟩
theorem enC_lay {w W : World} {x : Pe} {s : Value} {b : Nat} (hb : w.heap.size = b) (h : (w.alloc (.cells (enC zeroE (.slice none 0 0)) 59)).setRow b (enC x s) = W) : Em W b x s ∧ Below w.heap.size w W := by
  subst hb
  rw [← h]
  exact ⟨Mx.row (show Em (w.alloc (.cells (enC zeroE (.slice none 0 0)) 59)) w.heap.size zeroE (.slice none 0 0) from heap_alloc_new _ _), below_setRow8 ((Below.refl _ _).alloc (Nat.le_refl _) _) _ _ (Nat.le_refl _)⟩
/-- an entry in a block, and its slice -/
structure Ed (W : World) (b : Nat) (x : Pe) (s : Value) : Prop where
  m : Em W b x s
  i : Is W s x.ins
  d : dok x.dg
theorem Ed.later {W V : World} {b : Nat} {x : Pe} {s : Value} (h : Ed W b x s) (hb : Below W.heap.size W V) : Ed V b x s := ⟨h.m.later hb, h.i.later hb, h.d⟩
theorem built_tn0 : Tryz.prog.built 64 [] = some (tnC zeroT (.slice none 0 0)) := by kernel_rfl
def KtQ (w : World) (s : Value) (r : Pt × Bool) (e : Ending) (w' : World) : Prop := ∃ u, e = .returned (.tuple #[tnV r.1 u, .bool r.2]) ∧ Is w' u r.1.ins ∧ Fr w s u ∧ Below w.heap.size w w'
def KtG (w : World) (r : Pt × Bool) (e : Ending) (w' : World) : Prop := ∃ u, e = .returned (.tuple #[tnV r.1 u, .bool r.2]) ∧ Gw encI w' w.heap.size u r.1.ins ∧ Below w.heap.size w w'
theorem KtG.q {w w' : World} {x : Pt × Bool} {e : Ending} (h : KtG w x e w') (s : Value) : KtQ w s x e w' := by
  obtain ⟨u, h1, h2, h3⟩ := h
  exact ⟨u, h1, h2.is, h2.fr (Nat.le_refl _), h3⟩
set_option maxRecDepth 100000 in
set_option maxHeartbeats 2000000 in
theorem rsamet19_any (e : Pt) (s u : Value) (w : World) (h : Is w s e.ins) (h' : Is w u e.ins) (hd : dok e.dg) (hn : e.ins.length ≤ 2097152) :
    Calls Tryz.prog 30 #[tnV e s, tnV e u] w fun r w' => r = .returned (.bool true) ∧ Below w.heap.size w w' := by
  obtain ⟨w0, w2, g1, h0, h2, hg1, hB⟩ := box2 w (tnC e s) (tnC e u) 64 64
  have HE : Hid (Tn w2 w.heap.size e s) := Lib.hid hB.a
  have HZ : Hid (Tn w2 g1 e u) := Lib.hid hB.z
  have HB := Lib.hid hB.le
  obtain ⟨p, c, rfl, hs, _⟩ := h.later hB.le
  obtain ⟨p2, c2, rfl, hs2, _⟩ := h'.later hB.le
  have HIN := Lib.hid (rints_any p p2 e.ins.length c e.ins.length c2 e.ins w2 hs hs2 (by omega))
  have HD := Lib.hid hd
  obtain ⟨e0, e1, e2, cs⟩ := HE.out.cells hd.1
  obtain ⟨z0, z1, z2, zs⟩ := HZ.out.cells hd.1
  have hde := fun W => dig_refl e.dg hd W
  have hle := fun W => loc_eq e.seg e.off e.len W
  obtain ⟨m, hm⟩ : ∃ m, e.ins.length = m := ⟨_, rfl⟩
  rw [hm] at HIN cs zs
  have HL1 := Lib.hid (HE.out.dig hd.1)
  have HL2 := Lib.hid (HZ.out.dig hd.1)
  have HL3 := Lib.hid (HE.out.loc hd.1)
  have HL4 := Lib.hid (HZ.out.loc hd.1)
  unfold tnV
  generalize hMC : tnC e (Value.slice p e.ins.length c) = MC at *
  generalize hMZ : tnC e (Value.slice p2 e.ins.length c2) = MZ at *
  generalize lcA e.seg e.off e.len = LC at *
  generalize bcs e.dg = DG at *
  rw [hm] at hMC hMZ
  clear hMC hMZ hs hs2 h h' hd hB hm hn
  go_enter Tryz.func30, Tryz.ntmps30
  go_wp2_with (first
    | (refine wpList_ld rfl 35 _ rfl _ rfl _ HL1.out ?_)
    | (refine wpList_ld rfl 35 _ rfl _ rfl _ HL2.out ?_)
    | (refine wpList_wanted (by rfl) fun K hK => wp_ld 35 _ rfl _ rfl _ HL1.out (hK _ _ ?_); clear hK K)
    | (refine wpList_wanted (by rfl) fun K hK => wp_ld 35 _ rfl _ rfl _ HL2.out (hK _ _ ?_); clear hK K)
    | (refine wpList_wanted (by rfl) fun K hK => wp_ld 37 _ rfl _ rfl _ HL3.out (hK _ _ ?_); clear hK K)
    | (refine wpList_wanted (by rfl) fun K hK => wp_ld 37 _ rfl _ rfl _ HL4.out (hK _ _ ?_); clear hK K)
    | (go_at_call 68; refine HIN.out.mono ?_; rintro r w3 ⟨rfl, nq, rfl⟩))
  go_ret
  exact ⟨rfl, below_drewN HB.out nq⟩
theorem tnC_lay {w W : World} {x : Pt} {s : Value} {b : Nat} (hb : w.heap.size = b) (h : (w.alloc (.cells (tnC zeroT (.slice none 0 0)) 64)).setRow b (tnC x s) = W) : Tn W b x s ∧ Below w.heap.size w W := by
  subst hb
  rw [← h]
  exact ⟨Mx.row (show Tn (w.alloc (.cells (tnC zeroT (.slice none 0 0)) 64)) w.heap.size zeroT (.slice none 0 0) from heap_alloc_new _ _), below_setRow8 ((Below.refl _ _).alloc (Nat.le_refl _) _) _ _ (Nat.le_refl _)⟩
structure Td (W : World) (b : Nat) (x : Pt) (s : Value) : Prop where
  m : Tn W b x s
  i : Is W s x.ins
  d : dok x.dg
theorem Td.later {W V : World} {b : Nat} {x : Pt} {s : Value} (h : Td W b x s) (hb : Below W.heap.size W V) : Td V b x s := ⟨h.m.later hb, h.i.later hb, h.d⟩
set_option maxRecDepth 100000 in
theorem built_wdE32 (k z seg off len : Int) (a0 a1 a2 a3 a4 a5 a6 a7 a8 a9 a10 a11 a12 a13 a14 a15 a16 a17 a18 a19 a20 a21 a22 a23 a24 a25 a26 a27 a28 a29 a30 a31 : Int) : Tryz.prog.built 39 [(0, .int .i64 k), (2, .agg (bcs [a0, a1, a2, a3, a4, a5, a6, a7, a8, a9, a10, a11, a12, a13, a14, a15, a16, a17, a18, a19, a20, a21, a22, a23, a24, a25, a26, a27, a28, a29, a30, a31])), (4, .int .i64 z), (5, .agg (lcA seg off len))] = some (mixC [.int .i64 k, .int .u64 0] [a0, a1, a2, a3, a4, a5, a6, a7, a8, a9, a10, a11, a12, a13, a14, a15, a16, a17, a18, a19, a20, a21, a22, a23, a24, a25, a26, a27, a28, a29, a30, a31] [.string ⟨#[]⟩, .int .i64 z, .int .i64 seg, .int .i64 off, .int .i64 len]) := by kernel_rfl
theorem built_wdE (e : Pe) (h : e.dg.length = 32) : Tryz.prog.built 39 [(0, .int .i64 e.k), (2, .agg (bcs e.dg)), (4, .int .i64 e.z), (5, .agg (lcA e.seg e.off e.len))] = some (mixC (wordE e).a (wordE e).dg (wordE e).t) := by
  have he := list32S h
  obtain ⟨l, hl⟩ : ∃ l, e.dg = l := ⟨_, rfl⟩
  unfold wordE Wq.a Wq.t
  rw [hl] at he ⊢
  rw [he]
  exact built_wdE32 _ _ _ _ _ (l.getD 0 0) (l.getD 1 0) (l.getD 2 0) (l.getD 3 0) (l.getD 4 0) (l.getD 5 0) (l.getD 6 0) (l.getD 7 0) (l.getD 8 0) (l.getD 9 0) (l.getD 10 0) (l.getD 11 0) (l.getD 12 0) (l.getD 13 0) (l.getD 14 0) (l.getD 15 0) (l.getD 16 0) (l.getD 17 0) (l.getD 18 0) (l.getD 19 0) (l.getD 20 0) (l.getD 21 0) (l.getD 22 0) (l.getD 23 0) (l.getD 24 0) (l.getD 25 0) (l.getD 26 0) (l.getD 27 0) (l.getD 28 0) (l.getD 29 0) (l.getD 30 0) (l.getD 31 0)
set_option maxRecDepth 100000 in
theorem built_wdN32 (k seg off len : Int) (nm : ByteArray) (a0 a1 a2 a3 a4 a5 a6 a7 a8 a9 a10 a11 a12 a13 a14 a15 a16 a17 a18 a19 a20 a21 a22 a23 a24 a25 a26 a27 a28 a29 a30 a31 : Int) : Tryz.prog.built 39 [(0, .int .i64 k), (2, .agg (bcs [a0, a1, a2, a3, a4, a5, a6, a7, a8, a9, a10, a11, a12, a13, a14, a15, a16, a17, a18, a19, a20, a21, a22, a23, a24, a25, a26, a27, a28, a29, a30, a31])), (3, .string nm), (5, .agg (lcA seg off len))] = some (mixC [.int .i64 k, .int .u64 0] [a0, a1, a2, a3, a4, a5, a6, a7, a8, a9, a10, a11, a12, a13, a14, a15, a16, a17, a18, a19, a20, a21, a22, a23, a24, a25, a26, a27, a28, a29, a30, a31] [.string nm, .int .i64 0, .int .i64 seg, .int .i64 off, .int .i64 len]) := by kernel_rfl
theorem built_wdN (e : Pt) (h : e.dg.length = 32) : Tryz.prog.built 39 [(0, .int .i64 (if e.gone then 4 else 3)), (2, .agg (bcs e.dg)), (3, .string e.nm), (5, .agg (lcA e.seg e.off e.len))] = some (mixC (wordT e).a (wordT e).dg (wordT e).t) := by
  have he := list32S h
  obtain ⟨l, hl⟩ : ∃ l, e.dg = l := ⟨_, rfl⟩
  unfold wordT Wq.a Wq.t
  rw [hl] at he ⊢
  rw [he]
  exact built_wdN32 _ _ _ _ _ (l.getD 0 0) (l.getD 1 0) (l.getD 2 0) (l.getD 3 0) (l.getD 4 0) (l.getD 5 0) (l.getD 6 0) (l.getD 7 0) (l.getD 8 0) (l.getD 9 0) (l.getD 10 0) (l.getD 11 0) (l.getD 12 0) (l.getD 13 0) (l.getD 14 0) (l.getD 15 0) (l.getD 16 0) (l.getD 17 0) (l.getD 18 0) (l.getD 19 0) (l.getD 20 0) (l.getD 21 0) (l.getD 22 0) (l.getD 23 0) (l.getD 24 0) (l.getD 25 0) (l.getD 26 0) (l.getD 27 0) (l.getD 28 0) (l.getD 29 0) (l.getD 30 0) (l.getD 31 0)
/-- what lives among the first k entries -/
def hE (L : List Pe) (s : Int) (k : Nat) : List Wq := (((L.take k).filter (hereE s)).map wordE).foldl putW []
def hT (o : List Wq) (M : List Pt) (s : Int) (k : Nat) : List Wq := (((M.take k).filter (hereT s)).map wordT).foldl putW o
/-- amid Here's loops -/
structure HeI (w W : World) (ws : List Wq) (v : Value) (o : List Wx) : Prop where
  gw : Gw encWd W w.heap.size v o
  eq : wxL o = ws
  le : Below w.heap.size w W
theorem HeI.len {w W : World} {ws : List Wq} {v : Value} {o : List Wx} (h : HeI w W ws v o) : o.length = ws.length := by rw [← h.eq, wxL_length]
/-- amid the sum of a segment -/
structure LdI (w W : World) (G : Nat) (x y z : Int) (B : Nat) (v u : Value) (o : List Wx) (ls : List (Int × Int × Int)) : Prop where
  m : Lm W G x y z
  o : Gw encWd W B v o
  g : Gw encLo W w.heap.size u ls
  le : Below w.heap.size w W
theorem LdI.drew {w W : World} {G : Nat} {x y z : Int} {B : Nat} {v u : Value} {o : List Wx} {ls : List (Int × Int × Int)} (h : LdI w W G x y z B v u o ls) : LdI w W.drew G x y z B v u o ls :=
  ⟨h.m.later (Below.refl _ _).drew, h.o.later (Below.refl _ _).drew, h.g.later (Below.refl _ _).drew, h.le.drew⟩
theorem LdI.set {w W : World} {G : Nat} {x y z : Int} {B : Nat} {v u : Value} {o : List Wx} {ls : List (Int × Int × Int)} (h : LdI w W G x y z B v u o ls) (hG : w.heap.size ≤ G) (hB : G < B) (hu : ∀ b, u.ownBlock = some b → b ≠ G) (t : Int) : LdI w (W.setCell ⟨G, 2, none⟩ (.int .i64 t)) G x y t B v u o ls :=
  ⟨h.m.set2 t, h.o.setOther (fun b hb => by have := (Gw.own_lt h.o hb).1; omega), h.g.setOther hu, h.le.setCell hG _⟩
theorem getE_cons (x : Pe) (M : List Pe) (d : List Int) : getE (x :: M) d = if x.dg = d then some x else getE M d := rfl
theorem getE_append (l m : List Pe) (d : List Int) : getE (l ++ m) d = match getE l d with | some x => some x | none => getE m d := by
  induction l with
  | nil => rfl
  | cons y l ih =>
    rw [List.cons_append, getE_cons, getE_cons]
    by_cases h : y.dg = d
    · rw [if_pos h, if_pos h]
    · rw [if_neg h, if_neg h]; exact ih
theorem getE_take {L : List Pe} {k : Nat} {x : Pe} (h : L[k]? = some x) (d : List Int) : getE (L.take (k + 1)) d = match getE (L.take k) d with | some y => some y | none => if x.dg = d then some x else none := by
  obtain ⟨h2, h3⟩ := List.getElem?_eq_some_iff.1 h
  rw [List.take_succ_eq_append_getElem h2, getE_append, h3]
  rfl
theorem getE_upto {L : List Pe} {k : Nat} {d : List Int} {x : Pe} (h : getE (L.take k) d = some x) : getE L d = some x := by
  conv => lhs; rw [← List.take_append_drop k L, getE_append, h]
/-- what Get answers -/
def GetQ (w : World) (L : List Ex) (r : Pe × Bool) (e : Ending) (w' : World) : Prop :=
  ∃ u, e = .returned (.tuple #[enV r.1 u, .bool r.2]) ∧ ((∃ x ∈ L, x.e = r.1 ∧ u = x.s) ∨ u = .slice none 0 0 ∧ r.1 = zeroE) ∧ Below w.heap.size w w'
set_option maxRecDepth 100000 in
set_option maxHeartbeats 2000000 in
theorem rget20_any (p : Option Addr) (n c : Nat) (L : List Ex) (d : List Int) (w : World) (h : Gs encEn w p n L) (hk : ∀ x ∈ L, dok x.e.dg) (hd : dok d) (hn : n ≤ 2097152) :
    Calls Tryz.prog 24 #[.slice p n c, .agg (bcs d)] w fun e w' => GetQ w L (getR (peL L) d) e w' := by
  obtain ⟨w0, wB, g1, hw0, hwB, hg1, hX⟩ := box2 w (bcs d) (enC zeroE (.slice none 0 0)) 35 59
  have HB := Lib.hid hX.le
  have HLT := Lib.hid hX.lt
  have HLD : Hid (∀ W, Below wB.heap.size wB W → (Instr.loadAt 35 (.pointer (some ⟨w.heap.size, 0, none⟩))).run Tryz.prog W = .ok (.agg (bcs d)) W) := Lib.hid fun W hW => Yw.load (show Yw W w.heap.size 35 d from obj_later hX.a hW) hd.1
  have HZ := Lib.hid fun W (hW : Below wB.heap.size wB W) => (obj_later hX.z hW : Em W g1 zeroE (.slice none 0 0))
  have H := Lib.hid (h.later hX.le)
  have HK := Lib.hid hk
  have HD := Lib.hid hd
  have HLL : Hid ((peL L).length = n) := Lib.hid (by rw [peL_length, h.len])
  rw [enZero] at hwB
  generalize hM : bcs d = M at *
  have HM := Lib.hid hM
  clear h hk hd hX hM
  go_enter Tryz.func24, Tryz.ntmps24
  go_wp2
  clear hw0 hwB hg1
  go_loopw [6] (fun j wr => ∃ k : Nat, k ≤ n ∧ j = .int .i64 (k : Int) ∧ Hid (getE ((peL L).take k) d = none) ∧ Hid (Below wB.heap.size wB wr)) (fun j _ => n - (intOf j).toNat)
  case atStart => exact ⟨0, by omega, rfl, Lib.hid rfl, Lib.hid (Below.refl _ _)⟩
  case round =>
    obtain ⟨k, hkn, rfl, hm, hb⟩ := hrel
    by_cases hlt : k < n
    · obtain ⟨b1, off, y, rfl, hy1, hy3, hr⟩ := (H.out.later hb.out).en k hlt
      have HL1 : Hid (∀ W, (∃ m, W = wr.drewN m) → (Instr.loadAt 35 (.pointer (some ⟨b1, off + k * 38, none⟩))).run Tryz.prog W = .ok (.agg (bcs y.e.dg)) W) := Lib.hid (by rintro W ⟨m, rfl⟩; exact en_dig (en_range hr (below_drewN (Below.refl _ _) _)))
      have HL2 : Hid (∀ W, (∃ m, W = wr.drewN m) → (Instr.loadAt 35 (.pointer (some ⟨w.heap.size, 0, none⟩))).run Tryz.prog W = .ok (.agg M) W) := Lib.hid (by rintro W ⟨m, rfl⟩; exact HLD.out _ (hb.out.trans (below_drewN ((Below.refl _ _)) _)))
      have HLW : Hid (∀ W, Below wr.heap.size wr W → (Instr.loadAt 59 (.pointer (some ⟨b1, off + k * 38, none⟩))).run Tryz.prog W = .ok (.agg (enC y.e y.s)) W) := Lib.hid fun W hW => en_load (en_range hr hW)
      have heq := fun W => digest_eq y.e.dg d (HK.out y hy3) HD.out W
      have HT := Lib.hid (getE_take (peL_get hy1) d)
      have HY := Lib.hid hy3
      have hki : (k : Int) < (n : Int) := by omega
      have hk0 : (0 : Int) ≤ (k : Int) := by omega
      obtain ⟨d1, hd1⟩ : ∃ d, y.e.dg = d := ⟨_, rfl⟩
      rw [hd1] at HL1 heq HT
      rw [HM.out] at heq
      clear hr hy1 hy3 hd1
      go_wp2
      refine wp_region_quiet_lit (by kernel_rfl) (by kernel_rfl) ?_
      repeat (first | (refine quiet_want rfl fun K hK => quiet_load 35 _ rfl _ rfl _ (HL1).out (hK _ ?_); clear hK K) | (refine quiet_want rfl fun K hK => quiet_load 35 _ rfl _ rfl _ (HL2).out (hK _ ?_); clear hK K) | (quiet_step (fail)))
      refine wpQuiet_nil ?_
      intro wd hw'
      obtain ⟨nq, hwd⟩ := hw'
      have hbd : Below wr.heap.size wr wd := by rw [hwd]; exact below_drewN (Below.refl _ _) _
      have HB2 : Hid (Below wB.heap.size wB wd) := Lib.hid (below_step hb.out hbd)
      have HLY := Lib.hid (HLW.out wd hbd)
      have HZD := Lib.hid (HZ.out wd HB2.out)
      clear hwd hbd heq
      by_cases hxd : d1 = d
      · have hT : decide (d1 = d) = true := by simpa using hxd
        have HF : Hid (getR (peL L) d = (y.e, true)) := Lib.hid (by
          have h1 : getE ((peL L).take (k + 1)) d = some y.e := by rw [HT.out, hm.out]; dsimp only; rw [if_pos hxd]
          unfold getR
          rw [getE_upto h1])
        go_wp2_with (first
          | (refine wpList_ld rfl 59 _ rfl _ rfl _ HLY.out ?_)
          | (refine wpList_store_row rfl 59 _ _ rfl g1 (enC y.e y.s) rfl rfl 59 _ HZD.out (enC_sizeOf y.e _ y.hd) ((enC_size _ _ rfl).trans (enC_size y.e _ y.hd).symm) (enC_one _ _ _ _) ?_; generalize hw6 : World.setRow _ _ _ = w6))
        have HM6 : Em w6 g1 y.e y.s := by rw [← hw6]; exact Mx.row HZD.out
        refine bodyPost_ret (HM6.res2 y.hd rfl _ rfl) rfl ?_
        rw [HF.out]
        exact ⟨_, rfl, Or.inl ⟨y, HY.out, rfl, rfl⟩, by rw [← hw6]; exact below_setRow8 (below_step HB.out HB2.out) _ _ (by have := HLT.out; omega)⟩
      · have hT : decide (d1 = d) = false := by simpa using hxd
        have HN2 : Hid (getE ((peL L).take (k + 1)) d = none) := Lib.hid (by rw [HT.out, hm.out]; dsimp only; rw [if_neg hxd])
        go_wp2
        exact ⟨⟨k + 1, by omega, by go_num, HN2, HB2⟩, by simp [intOf] <;> omega⟩
    · obtain rfl : k = n := by omega
      have HF : Hid (getR (peL L) d = (zeroE, false)) := Lib.hid (by
        have h1 := hm.out
        rw [List.take_of_length_le (by rw [HLL.out]; exact Nat.le_refl _)] at h1
        unfold getR
        rw [h1])
      have HZD := Lib.hid (HZ.out wr hb.out)
      have HBU := Lib.hid built_en0
      go_wp2_with (first
        | (refine wpList_build_is rfl 59 _ rfl (enC zeroE (.slice none 0 0)) ?_ ?_; focus (first | (simp only [List.map_toArray, List.map_nil]; exact HBU.out) | (simp only [Array.map_empty]; exact HBU.out) | (simp; exact HBU.out)))
        | (refine wpList_store_row rfl 59 _ _ rfl g1 (enC zeroE (.slice none 0 0)) rfl rfl 59 _ HZD.out (enC_sizeOf zeroE _ rfl) rfl (enC_one _ _ _ _) ?_; generalize hw6 : World.setRow _ _ _ = w6))
      have HM6 : Em w6 g1 zeroE (.slice none 0 0) := by rw [← hw6]; exact Mx.row HZD.out
      refine bodyPost_ret (HM6.res2 rfl rfl _ rfl) rfl ?_
      rw [HF.out]
      exact ⟨_, rfl, Or.inr ⟨rfl, rfl⟩, by rw [← hw6]; exact below_setRow8 (below_step HB.out hb.out) _ _ (by have := HLT.out; omega)⟩
theorem cntE_step {L : List Pe} {k : Nat} {x : Pe} (h : L[k]? = some x) : cntE (L.take (k + 1)) = (if x.k ≠ 5 then cntE (L.take k) + 1 else cntE (L.take k)) ∧ sumE (L.take (k + 1)) = if x.k ≠ 5 then sumE (L.take k) + x.z else sumE (L.take k) := by
  obtain ⟨h2, h3⟩ := List.getElem?_eq_some_iff.1 h
  unfold cntE sumE
  rw [List.take_succ_eq_append_getElem h2, List.filter_append, List.length_append, List.map_append, List.sum_append, h3]
  by_cases hx : x.k ≠ 5
  · rw [if_pos hx, if_pos hx, List.filter_cons_of_pos (by simpa using hx)]
    simp
  · rw [if_neg hx, if_neg hx, List.filter_cons_of_neg (by simpa using hx)]
    simp
theorem cntE_le (L : List Pe) (k : Nat) : cntE (L.take k) ≤ L.length := by
  refine Nat.le_trans (List.length_filter_le _ _) ?_
  rw [List.length_take]
  omega
theorem wrap_sum (a b : Int) : IntKind.i64.wrap (IntKind.i64.wrap a + b) = IntKind.i64.wrap (a + b) := by
  rw [IntKind.wrap_i64, IntKind.wrap_i64, IntKind.wrap_i64]
  omega
set_option maxRecDepth 100000 in
set_option maxHeartbeats 1000000 in
theorem rcount20_any (p : Option Addr) (n c : Nat) (L : List Ex) (w : World) (h : Gs encEn w p n L) (hn : n ≤ 2097152) :
    Calls Tryz.prog 28 #[.slice p n c] w fun e w' => e = .returned (.tuple #[.int .i64 (cntE (peL L) : Int), .int .i64 (IntKind.i64.wrap (sumE (peL L)))]) ∧ w' = w := by
  have H := Lib.hid h
  have HLL : Hid ((peL L).length = n) := Lib.hid (by rw [peL_length, h.len])
  clear h
  go_enter Tryz.func28, Tryz.ntmps28
  go_wp2
  go_loopw [4, 5, 6] (fun cv sv j wr => ∃ (k m : Nat) (z : Int), k ≤ n ∧ j = .int .i64 (k : Int) ∧ cv = .int .i64 (m : Int) ∧ sv = .int .i64 z ∧ Hid (m = cntE ((peL L).take k)) ∧ Hid (z = IntKind.i64.wrap (sumE ((peL L).take k))) ∧ wr = w) (fun _ _ j _ => n - (intOf j).toNat)
  case atStart => exact ⟨0, 0, 0, by omega, rfl, rfl, rfl, Lib.hid rfl, Lib.hid (by simp [sumE]; rfl), rfl⟩
  case round =>
    obtain ⟨k, m, z, hkn, rfl, rfl, rfl, HMC, HZS, rfl⟩ := hrel
    have hmm : m ≤ 2097152 := by
      have := cntE_le (peL L) k
      rw [HLL.out, ← HMC.out] at this
      omega
    by_cases hlt : k < n
    · obtain ⟨b1, off, y, rfl, hy1, hy3, hr⟩ := H.out.en k hlt
      obtain ⟨c0, c1⟩ := en_cells hr
      have HS := Lib.hid (cntE_step (peL_get hy1))
      have hki : (k : Int) < (n : Int) := by omega
      have hk0 : (0 : Int) ≤ (k : Int) := by omega
      obtain ⟨yk, hyk⟩ : ∃ x, y.e.k = x := ⟨_, rfl⟩
      obtain ⟨yz, hyz⟩ : ∃ x, y.e.z = x := ⟨_, rfl⟩
      rw [hyk] at c0 HS
      rw [hyz] at c1 HS
      clear hr hy1 hy3 hyk hyz
      by_cases h5 : yk = 5
      · have ht : (yk != 5) = false := by simpa using h5
        have HM2 : Hid (m = cntE ((peL L).take (k + 1))) := Lib.hid (by rw [HS.out.1, if_neg (fun h => h h5)]; exact HMC.out)
        have HZ2 : Hid (z = IntKind.i64.wrap (sumE ((peL L).take (k + 1)))) := Lib.hid (by rw [HS.out.2, if_neg (fun h => h h5)]; exact HZS.out)
        clear h5
        go_wp2
        exact ⟨⟨k + 1, m, z, by omega, by go_num, rfl, rfl, HM2, HZ2, by first | rfl | trivial⟩, by simp [intOf] <;> omega⟩
      · have ht : (yk != 5) = true := by simpa using h5
        have HM2 : Hid (m + 1 = cntE ((peL L).take (k + 1))) := Lib.hid (by rw [HS.out.1, if_pos h5, HMC.out])
        obtain ⟨z2, hz2⟩ : ∃ x, IntKind.i64.wrap (z + yz) = x := ⟨_, rfl⟩
        have HZ2 : Hid (z2 = IntKind.i64.wrap (sumE ((peL L).take (k + 1)))) := Lib.hid (by rw [HS.out.2, if_pos h5, ← hz2, HZS.out, wrap_sum])
        clear h5
        go_wp2
        exact ⟨⟨k + 1, m + 1, z2, by omega, by go_num, by go_num, by first | rfl | rw [← hz2], HM2, HZ2, by first | rfl | trivial⟩, by simp [intOf] <;> omega⟩
    · obtain rfl : k = n := by omega
      have HM2 : Hid (m = cntE (peL L)) := Lib.hid (by have h1 := HMC.out; rwa [List.take_of_length_le (by rw [HLL.out]; exact Nat.le_refl _)] at h1)
      have HZ2 : Hid (z = IntKind.i64.wrap (sumE (peL L))) := Lib.hid (by have h1 := HZS.out; rwa [List.take_of_length_le (by rw [HLL.out]; exact Nat.le_refl _)] at h1)
      go_wp2
      go_ret2
      exact ⟨by rw [← HM2.out, ← HZ2.out]; rfl, rfl⟩
theorem setB_drop {L : List Pe} {k : Nat} {x : Pe} (h : L[k]? = some x) (e : Pe) (t : Bool) : setB e (L.drop k) t = (if t = false ∧ dlt x.dg e.dg = false then [e] else []) ++ ((if x.dg = e.dg then [] else [x]) ++ setB e (L.drop (k + 1)) (t || !dlt x.dg e.dg)) := by
  obtain ⟨h2, h3⟩ := List.getElem?_eq_some_iff.1 h
  rw [List.drop_eq_getElem_cons h2, h3]
  rfl
def SetQ (w : World) (L : List Ex) (X : Ex) (e : Ending) (w' : World) : Prop := ∃ v o, e = .returned v ∧ peL o = setE (peL L) X.e ∧ Gw encEn w' w.heap.size v o ∧ (∀ x ∈ o, x ∈ L ∨ x = X) ∧ Below w.heap.size w w'
def NewQ (w : World) (L : List Ex) (e : Ending) (w' : World) : Prop := ∃ v o, e = .returned v ∧ peL o = newE (peL L) ∧ Gw encEn w' w.heap.size v o ∧ (∀ x ∈ o, x ∈ L) ∧ Below w.heap.size w w'
/-- amid Set's loop -/
structure SeI (w W : World) (L : List Ex) (X : Ex) (B k : Nat) (tb : Bool) (v : Value) (o : List Ex) : Prop where
  gw : Gw encEn W B v o
  eq : peL o ++ setB X.e ((peL L).drop k) tb = setE (peL L) X.e
  me : ∀ x ∈ o, x ∈ L ∨ x = X
  le : Below w.heap.size w W
theorem SeI.len {w W : World} {L : List Ex} {X : Ex} {B k : Nat} {tb : Bool} {v : Value} {o : List Ex} (h : SeI w W L X B k tb v o) : o.length ≤ L.length + 1 := by
  have h1 := setE_length (peL L) X.e
  rw [← h.eq, List.length_append, peL_length, peL_length] at h1
  omega
set_option maxRecDepth 100000 in
set_option maxHeartbeats 4000000 in
theorem rset20_any (p : Option Addr) (n c : Nat) (L : List Ex) (X : Ex) (w : World) (h : Gs encEn w p n L) (hk : ∀ x ∈ L, dok x.e.dg) (hX : dok X.e.dg) (hn : n ≤ 2097152) :
    Calls Tryz.prog 75 #[.slice p n c, enV X.e X.s] w fun e w' => SetQ w L X e w' := by
  obtain ⟨wB, hwB⟩ : ∃ W, w.alloc (.cells (enC X.e X.s) 59) = W := ⟨_, rfl⟩
  have hbB : Below w.heap.size w wB := by rw [← hwB]; exact (Below.refl _ _).alloc (Nat.le_refl _) _
  have hmE : Em wB w.heap.size X.e X.s := by rw [← hwB]; exact heap_alloc_new _ _
  have HB := Lib.hid hbB
  have HLX := Lib.hid fun W (hW : Below wB.heap.size wB W) => (hmE.later hW).load X.hd
  have HDX := Lib.hid fun W (hW : Below wB.heap.size wB W) => (hmE.later hW).dig X.hd
  have H := Lib.hid (h.later hbB)
  have HK := Lib.hid hk
  have HXD := Lib.hid hX
  have HLL : Hid ((peL L).length = n) := Lib.hid (by rw [peL_length, h.len])
  have HL0 : Hid (L.length = n) := Lib.hid h.len
  have HSI : Hid (SeI wB wB L X wB.heap.size 0 false (.slice none 0 0) []) := Lib.hid ⟨Gw.nil _ _ _, by simp [peL, setE], (fun x hx => by cases hx), Below.refl _ _⟩
  unfold enV
  generalize hME : enC X.e X.s = ME at *
  have HME := Lib.hid hME
  clear h hk hX hbB hmE hME
  go_enter Tryz.func75, Tryz.ntmps75
  go_wp2
  clear hwB
  go_loopw [5, 6, 7] (fun v t j wr => ∃ (k : Nat) (tb : Bool) (q : Option Addr) (m c' : Nat) (o : List Ex), k ≤ n ∧ j = .int .i64 (k : Int) ∧ t = .bool tb ∧ v = .slice q m c' ∧ Hid (SeI wB wr L X wB.heap.size k tb (.slice q m c') o)) (fun _ _ j _ => n - (intOf j).toNat)
  case atStart => exact ⟨0, false, none, 0, 0, [], by omega, rfl, rfl, rfl, HSI⟩
  case round =>
    obtain ⟨k, tb, q, m, c', o, hkn, rfl, rfl, rfl, HI⟩ := hrel
    by_cases hlt : k < n
    · obtain ⟨b1, off, y, rfl, hy1, hy3, hr⟩ := (H.out.later HI.out.le).en k hlt
      have HY := Lib.hid hy3
      have HYD := Lib.hid (HK.out y hy3)
      have HSB := Lib.hid (setB_drop (peL_get hy1) X.e tb)
      have HRW : Hid (∀ W, Below wB.heap.size wB W → W.rangeAt b1 (off + k * 38) (mixL [] y.e.dg (y.e.t y.s))) := Lib.hid fun W hW => by
        obtain ⟨b2, off2, z, hp2, hz1, _, hr2⟩ := (H.out.later hW).en k hlt
        simp only [Option.some.injEq, Addr.mk.injEq, and_true] at hp2
        obtain ⟨rfl, rfl⟩ := hp2
        rw [hy1] at hz1
        obtain rfl := Option.some.inj hz1
        exact hr2
      have HLY := Lib.hid fun W (hW : Below wB.heap.size wB W) => en_load (HRW.out W hW)
      have HDY := Lib.hid fun W (hW : Below wB.heap.size wB W) => en_dig (HRW.out W hW)
      have HLS := Lib.hid fun W => rless_any y.e.dg X.e.dg W HYD.out HXD.out
      have heq := fun W => digest_eq y.e.dg X.e.dg HYD.out HXD.out W
      have hki : (k : Int) < (n : Int) := by omega
      have hk0 : (0 : Int) ≤ (k : Int) := by omega
      obtain ⟨dy, hdy⟩ : ∃ d, bcs y.e.dg = d := ⟨_, rfl⟩
      obtain ⟨dx, hdx⟩ : ∃ d, bcs X.e.dg = d := ⟨_, rfl⟩
      rw [hdy] at HDY HLS heq
      rw [hdx] at HDX HLS heq
      obtain ⟨MY, hMY⟩ : ∃ M, enC y.e y.s = M := ⟨_, rfl⟩
      have HMY := Lib.hid hMY
      rw [hMY] at HLY
      have HBL : Hid (Below wB.heap.size wB wr) := Lib.hid HI.out.le
      clear hr hy1 hy3 hdy hdx hMY
      obtain ⟨lt, hlt2⟩ : ∃ b, dlt y.e.dg X.e.dg = b := ⟨_, rfl⟩
      rw [hlt2] at HLS HSB
      clear hlt2
      -- the first test
      cases tb with
      | true =>
        go_upto_region 6 with fail
        go_quiet (fail)
        have hbq : Below wr.heap.size wr (wr.drewN nq) := below_drewN (Below.refl _ _) nq
        have HGQ := Lib.hid (HI.out.gw.later hbq)
        have HBQ := Lib.hid (below_step HBL.out hbq)
        have HEQ0 : Hid (peL o ++ ((if y.e.dg = X.e.dg then [] else [y.e]) ++ setB X.e ((peL L).drop (k + 1)) true) = setE (peL L) X.e) := Lib.hid (by
          have h1 := HI.out.eq
          rw [HSB.out, if_neg (fun h => by cases h.1), List.nil_append] at h1
          exact h1)
        clear hbq
        generalize wr.drewN nq = wq at *
        have HL1 : Hid (∀ V, (∃ m, V = wq.drewN m) → (Instr.loadAt 35 (.pointer (some ⟨b1, off + k * 38, none⟩))).run Tryz.prog V = .ok (.agg dy) V) := Lib.hid (by rintro V ⟨m, rfl⟩; exact HDY.out _ (below_drewN HBQ.out _))
        have HL2 : Hid (∀ V, (∃ m, V = wq.drewN m) → (Instr.loadAt 35 (.pointer (some ⟨w.heap.size, 0, none⟩))).run Tryz.prog V = .ok (.agg dx) V) := Lib.hid (by rintro V ⟨m, rfl⟩; exact HDX.out _ (below_drewN HBQ.out _))
        go_upto_region 9 with fail
        refine wp_region_quiet_lit (by kernel_rfl) (by kernel_rfl) ?_
        repeat (first | (refine quiet_want rfl fun K hK => quiet_load 35 _ rfl _ rfl _ (HL1).out (hK _ ?_); clear hK K) | (refine quiet_want rfl fun K hK => quiet_load 35 _ rfl _ rfl _ (HL2).out (hK _ ?_); clear hK K) | (quiet_step (fail)))
        refine wpQuiet_nil ?_
        intro wd hw'
        obtain ⟨nq, hwd⟩ := hw'
        have hbd : Below wq.heap.size wq wd := by rw [hwd]; exact below_drewN (Below.refl _ _) _
        have HGD := Lib.hid (HGQ.out.later hbd)
        have HBD := Lib.hid (below_step HBQ.out hbd)
        clear hwd hbd heq
        obtain ⟨bx, hbx⟩ : ∃ b, decide (y.e.dg = X.e.dg) = b := ⟨_, rfl⟩
        rw [hbx]
        cases bx
        rotate_left
        · have hne : y.e.dg = X.e.dg := of_decide_eq_true hbx
          have HIN : Hid (SeI wB wd L X wB.heap.size (k + 1) true _ o) := Lib.hid ⟨HGD.out, by have h1 := HEQ0.out; rw [if_pos hne, List.nil_append] at h1; exact h1, HI.out.me, HBD.out⟩
          clear hne hbx
          go_wp2
          exact ⟨⟨k + 1, _, _, _, _, _, by omega, by go_num, rfl, rfl, HIN⟩, by simp [intOf] <;> omega⟩
        · have hne : ¬ y.e.dg = X.e.dg := of_decide_eq_false hbx
          have HLYD := Lib.hid (HLY.out wd HBD.out)
          have HEQ : Hid (peL (o ++ [y]) ++ setB X.e ((peL L).drop (k + 1)) true = setE (peL L) X.e) := Lib.hid (by have h1 := HEQ0.out; rw [if_neg hne] at h1; rw [peL_append, List.append_assoc]; exact h1)
          have HOL2 : Hid ((o).length + 1 ≤ 2097216) := Lib.hid (by
            have h1 := setE_length (peL L) X.e
            rw [← HEQ.out, List.length_append, peL_length, peL_length, List.length_append, List.length_singleton, HL0.out] at h1
            omega)
          clear hne hbx
          go_wp2_with (first
                  | (refine wpList_ld rfl 59 _ rfl _ rfl _ HLYD.out ?_)
                  | (refine wpList_build_en rfl 23 43 rfl Tryz.underlying23 y (by rw [HMY.out]; rfl) ?_)
                  | (refine wpList_append_gen encEn rfl _ _ 23 rfl Tryz.underlying23 ezero 96 infoEn ezero_size (by decide) wB.heap.size _ o rfl (HGD.out.alloc _) _ 1 1 [y] rfl (Gs.oneEn _ y) (fun h => by cases h) HOL2.out (by have h1 := HBD.out.size; rw [World.size_alloc]; omega) ?_; intro v9 w9 ho9 hg9; obtain ⟨p9, c9, hv9, _⟩ := ho9.open; obtain ⟨m9, hm9⟩ : ∃ x, (o ++ [y]).length = x := ⟨_, rfl⟩; rw [hm9] at hv9; subst hv9; have HO9 := Lib.hid ho9; have HB9 := Lib.hid (below_app (HBD.out.alloc HBD.out.size (.cells (enC y.e y.s) 59)) (HGD.out.alloc _) (Nat.le_refl _) hg9); clear ho9 hg9 hm9))
          have HIN : Hid (SeI wB w9 L X wB.heap.size (k + 1) true _ (o ++ [y])) := Lib.hid ⟨HO9.out, HEQ.out, fun x hx => by
            rcases List.mem_append.1 hx with h1 | h1
            · exact HI.out.me x h1
            · rw [List.mem_singleton] at h1
              rw [h1]; exact Or.inl HY.out, HB9.out⟩
          exact ⟨⟨k + 1, _, _, _, _, _, by omega, by go_num, rfl, rfl, HIN⟩, by simp [intOf] <;> omega⟩
      | false =>
        go_upto_region 6 with fail
        refine wp_region_held_drew (S := (fun W : World => Below wr.heap.size wr W)) (by kernel_rfl) (show Below _ _ (World.drew wr) from (Below.refl _ _).drew) (fun hHeld => ?_)
        refine take_at 0 (v := ?vv11) rfl (by kernel_rfl) (by kernel_rfl) (by kernel_rfl) (fun _ _ _ h => h) (Or.inl ⟨by rfl, ?hy11⟩) (by assumption) ?rest11
        case hy11 => intro w hSw; (try dsimp only at hSw); go_simp; (try with_reducible rfl)
        (try simp only [PT])
        refine take_at 1 (v := ?vv12) rfl (by kernel_rfl) (by kernel_rfl) (by kernel_rfl) (fun _ _ _ h => h) (Or.inl ⟨by rfl, ?hy12⟩) (by assumption) ?rest12
        case hy12 => intro w hSw; (try dsimp only at hSw); go_simp; (try with_reducible rfl)
        (try simp only [PT])
        refine take_at 2 (v := ?vv13) rfl (by kernel_rfl) (by kernel_rfl) (by kernel_rfl) (fun _ _ _ h => h) (Or.inl ⟨by rfl, ?hy13⟩) (by assumption) ?rest13
        case hy13 => intro w hSw; (try dsimp only at hSw); go_simp; (try with_reducible rfl)
        (try simp only [PT])
        refine take_at 3 (v := ?vv14) rfl (by kernel_rfl) (by kernel_rfl) (by kernel_rfl) (fun _ _ _ h => h) (Or.inl ⟨by rfl, ?hy14⟩) (by assumption) ?rest14
        case hy14 => intro w hSw; (try dsimp only at hSw); go_simp; (try with_reducible rfl)
        (try simp only [PT])
        refine take_at 4 (v := ?vv15) rfl (by kernel_rfl) (by kernel_rfl) (by kernel_rfl) (fun _ _ _ h => h) (Or.inl ⟨by rfl, ?hy15⟩) (by assumption) ?rest15
        case hy15 => intro w hSw; (try dsimp only at hSw); go_simp; (try with_reducible rfl)
        (try simp only [PT])
        refine take_at 5 (v := ?vv16) rfl (by kernel_rfl) (by kernel_rfl) (by kernel_rfl) (fun _ _ _ h => h) (Or.inl ⟨by rfl, ?hy16⟩) (by assumption) ?rest16
        case hy16 => intro w hSw; (try dsimp only at hSw); go_simp; (try with_reducible rfl)
        (try simp only [PT])
        refine take_at 6 (v := ?vv17) rfl (by kernel_rfl) (by kernel_rfl) (by kernel_rfl) (fun _ _ _ h => h) (Or.inl ⟨by rfl, ?hy17⟩) (by assumption) ?rest17
        case hy17 => intro w hSw; (try dsimp only at hSw); go_simp; (try with_reducible rfl)
        (try simp only [PT])
        refine take_at 7 rfl (by kernel_rfl) (by kernel_rfl) (by kernel_rfl) (fun _ _ _ h => h) (yieldsIf_ld (by rfl) 35 (.tmp 20) rfl (.pointer (some ⟨b1, off + k * 38, none⟩)) rfl (.agg dy) (fun W hW => HDY.out W (below_step HBL.out hW))) (by assumption) ?_
        (try simp only [PT])
        refine take_at 8 (v := ?vv19) rfl (by kernel_rfl) (by kernel_rfl) (by kernel_rfl) (fun _ _ _ h => h) (Or.inl ⟨by rfl, ?hy19⟩) (by assumption) ?rest19
        case hy19 => intro w hSw; (try dsimp only at hSw); go_simp; (try with_reducible rfl)
        (try simp only [PT])
        refine take_at 9 rfl (by kernel_rfl) (by kernel_rfl) (by kernel_rfl) (fun _ _ _ h => h) (yieldsIf_ld (by rfl) 35 (.tmp 22) rfl (.pointer (some ⟨w.heap.size, 0, none⟩)) rfl (.agg dx) (fun W hW => HDX.out W (below_step HBL.out hW))) (by assumption) ?_
        (try simp only [PT])
        refine ready_at 10 rfl (by kernel_rfl) (fun K hK => ?_)
        go_simp
        refine (HLS.out _).mono ?_
        rintro r w3 ⟨rfl, hb3⟩
        have hB3 := below_step hHeld hb3
        clear hHeld
        first
          | refine hK.out _ _ ?hS21 (fun hHeld => ?rest21)
          | (go_wp2_with fail; refine hK.out _ _ ?hS21 (fun hHeld => ?rest21))
        case hS21 => exact hB3
        clear hK K
        (try simp only [PT])
        refine take_at 11 (v := ?vv22) rfl (by kernel_rfl) (by kernel_rfl) (by kernel_rfl) (fun _ _ _ h => h) (Or.inl ⟨by rfl, ?hy22⟩) (by assumption) ?rest22
        case hy22 => intro w hSw; (try dsimp only at hSw); go_simp; (try with_reducible rfl)
        (try simp only [PT])
        refine take_at 12 (v := ?vv23) rfl (by kernel_rfl) (by kernel_rfl) (by kernel_rfl) (fun _ _ _ h => h) (Or.inl ⟨by rfl, ?hy23⟩) (by assumption) ?rest23
        case hy23 => intro w hSw; (try dsimp only at hSw); go_simp; (try with_reducible rfl)
        (try simp only [PT])
        refine wpAnyH_done (by kernel_rfl) ?_ _
        have HGQ := Lib.hid (HI.out.gw.later hHeld)
        have HBQ := Lib.hid (below_step HBL.out hHeld)
        clear hHeld
        cases lt with
        | true =>
          have HEQ0 : Hid (peL o ++ ((if y.e.dg = X.e.dg then [] else [y.e]) ++ setB X.e ((peL L).drop (k + 1)) false) = setE (peL L) X.e) := Lib.hid (by
            have h1 := HI.out.eq
            rw [HSB.out, if_neg (fun h => by cases h.2), List.nil_append] at h1
            exact h1)
          have HL1 : Hid (∀ V, (∃ m, V = w3.drewN m) → (Instr.loadAt 35 (.pointer (some ⟨b1, off + k * 38, none⟩))).run Tryz.prog V = .ok (.agg dy) V) := Lib.hid (by rintro V ⟨m, rfl⟩; exact HDY.out _ (below_drewN HBQ.out _))
          have HL2 : Hid (∀ V, (∃ m, V = w3.drewN m) → (Instr.loadAt 35 (.pointer (some ⟨w.heap.size, 0, none⟩))).run Tryz.prog V = .ok (.agg dx) V) := Lib.hid (by rintro V ⟨m, rfl⟩; exact HDX.out _ (below_drewN HBQ.out _))
          go_upto_region 9 with fail
          refine wp_region_quiet_lit (by kernel_rfl) (by kernel_rfl) ?_
          repeat (first | (refine quiet_want rfl fun K hK => quiet_load 35 _ rfl _ rfl _ (HL1).out (hK _ ?_); clear hK K) | (refine quiet_want rfl fun K hK => quiet_load 35 _ rfl _ rfl _ (HL2).out (hK _ ?_); clear hK K) | (quiet_step (fail)))
          refine wpQuiet_nil ?_
          intro wd hw'
          obtain ⟨nq, hwd⟩ := hw'
          have hbd : Below w3.heap.size w3 wd := by rw [hwd]; exact below_drewN (Below.refl _ _) _
          have HGD := Lib.hid (HGQ.out.later hbd)
          have HBD := Lib.hid (below_step HBQ.out hbd)
          clear hwd hbd heq
          obtain ⟨bx, hbx⟩ : ∃ b, decide (y.e.dg = X.e.dg) = b := ⟨_, rfl⟩
          rw [hbx]
          cases bx
          rotate_left
          · have hne : y.e.dg = X.e.dg := of_decide_eq_true hbx
            have HIN : Hid (SeI wB wd L X wB.heap.size (k + 1) false _ o) := Lib.hid ⟨HGD.out, by have h1 := HEQ0.out; rw [if_pos hne, List.nil_append] at h1; exact h1, HI.out.me, HBD.out⟩
            clear hne hbx
            go_wp2
            exact ⟨⟨k + 1, _, _, _, _, _, by omega, by go_num, rfl, rfl, HIN⟩, by simp [intOf] <;> omega⟩
          · have hne : ¬ y.e.dg = X.e.dg := of_decide_eq_false hbx
            have HLYD := Lib.hid (HLY.out wd HBD.out)
            have HEQ : Hid (peL (o ++ [y]) ++ setB X.e ((peL L).drop (k + 1)) false = setE (peL L) X.e) := Lib.hid (by have h1 := HEQ0.out; rw [if_neg hne] at h1; rw [peL_append, List.append_assoc]; exact h1)
            have HOL2 : Hid ((o).length + 1 ≤ 2097216) := Lib.hid (by
              have h1 := setE_length (peL L) X.e
              rw [← HEQ.out, List.length_append, peL_length, peL_length, List.length_append, List.length_singleton, HL0.out] at h1
              omega)
            clear hne hbx
            go_wp2_with (first
                    | (refine wpList_ld rfl 59 _ rfl _ rfl _ HLYD.out ?_)
                    | (refine wpList_build_en rfl 23 43 rfl Tryz.underlying23 y (by rw [HMY.out]; rfl) ?_)
                    | (refine wpList_append_gen encEn rfl _ _ 23 rfl Tryz.underlying23 ezero 96 infoEn ezero_size (by decide) wB.heap.size _ o rfl (HGD.out.alloc _) _ 1 1 [y] rfl (Gs.oneEn _ y) (fun h => by cases h) HOL2.out (by have h1 := HBD.out.size; rw [World.size_alloc]; omega) ?_; intro v9 w9 ho9 hg9; obtain ⟨p9, c9, hv9, _⟩ := ho9.open; obtain ⟨m9, hm9⟩ : ∃ x, (o ++ [y]).length = x := ⟨_, rfl⟩; rw [hm9] at hv9; subst hv9; have HO9 := Lib.hid ho9; have HB9 := Lib.hid (below_app (HBD.out.alloc HBD.out.size (.cells (enC y.e y.s) 59)) (HGD.out.alloc _) (Nat.le_refl _) hg9); clear ho9 hg9 hm9))
            have HIN : Hid (SeI wB w9 L X wB.heap.size (k + 1) false _ (o ++ [y])) := Lib.hid ⟨HO9.out, HEQ.out, fun x hx => by
              rcases List.mem_append.1 hx with h1 | h1
              · exact HI.out.me x h1
              · rw [List.mem_singleton] at h1
                rw [h1]; exact Or.inl HY.out, HB9.out⟩
            exact ⟨⟨k + 1, _, _, _, _, _, by omega, by go_num, rfl, rfl, HIN⟩, by simp [intOf] <;> omega⟩
        | false =>
          have HEQ0 : Hid (peL (o ++ [X]) ++ ((if y.e.dg = X.e.dg then [] else [y.e]) ++ setB X.e ((peL L).drop (k + 1)) true) = setE (peL L) X.e) := Lib.hid (by
            have h1 := HI.out.eq
            rw [HSB.out, if_pos ⟨rfl, rfl⟩] at h1
            rw [peL_append, List.append_assoc]
            exact h1)
          have HOL1 : Hid (o.length + 1 ≤ 2097216) := Lib.hid (by have := HI.out.len; rw [HL0.out] at this; omega)
          have HLXW := Lib.hid (HLX.out w3 HBQ.out)
          have HME1 : Hid (∀ x ∈ o ++ [X], x ∈ L ∨ x = X) := Lib.hid (fun x hx => by
            rcases List.mem_append.1 hx with h1 | h1
            · exact HI.out.me x h1
            · rw [List.mem_singleton] at h1
              exact Or.inr h1)
          go_upto_region 9 with (first
          | (refine wpList_ld rfl 59 _ rfl _ rfl _ HLXW.out ?_)
          | (refine wpList_build_en rfl 23 28 rfl Tryz.underlying23 X (by rw [HME.out]; rfl) ?_)
          | (refine wpList_append_gen encEn rfl _ _ 23 rfl Tryz.underlying23 ezero 96 infoEn ezero_size (by decide) wB.heap.size _ o rfl (HGQ.out.alloc _) _ 1 1 [X] rfl (Gs.oneEn _ X) (fun h => by cases h) HOL1.out (by have h1 := HBQ.out.size; rw [World.size_alloc]; omega) ?_; intro v8 w8 ho8 hg8; obtain ⟨p8, c8, hv8, _⟩ := ho8.open; obtain ⟨m8, hm8⟩ : ∃ x, (o ++ [X]).length = x := ⟨_, rfl⟩; rw [hm8] at hv8; subst hv8; have HO8 := Lib.hid ho8; have HB8 := Lib.hid (below_app (HBQ.out.alloc HBQ.out.size (.cells (enC X.e X.s) 59)) (HGQ.out.alloc _) (Nat.le_refl _) hg8); clear ho8 hg8 hm8))
          have HL1 : Hid (∀ V, (∃ m, V = w8.drewN m) → (Instr.loadAt 35 (.pointer (some ⟨b1, off + k * 38, none⟩))).run Tryz.prog V = .ok (.agg dy) V) := Lib.hid (by rintro V ⟨m, rfl⟩; exact HDY.out _ (below_drewN HB8.out _))
          have HL2 : Hid (∀ V, (∃ m, V = w8.drewN m) → (Instr.loadAt 35 (.pointer (some ⟨w.heap.size, 0, none⟩))).run Tryz.prog V = .ok (.agg dx) V) := Lib.hid (by rintro V ⟨m, rfl⟩; exact HDX.out _ (below_drewN HB8.out _))
          go_upto_region 9 with fail
          refine wp_region_quiet_lit (by kernel_rfl) (by kernel_rfl) ?_
          repeat (first | (refine quiet_want rfl fun K hK => quiet_load 35 _ rfl _ rfl _ (HL1).out (hK _ ?_); clear hK K) | (refine quiet_want rfl fun K hK => quiet_load 35 _ rfl _ rfl _ (HL2).out (hK _ ?_); clear hK K) | (quiet_step (fail)))
          refine wpQuiet_nil ?_
          intro wd hw'
          obtain ⟨nq, hwd⟩ := hw'
          have hbd : Below w8.heap.size w8 wd := by rw [hwd]; exact below_drewN (Below.refl _ _) _
          have HGD := Lib.hid (HO8.out.later hbd)
          have HBD := Lib.hid (below_step HB8.out hbd)
          clear hwd hbd heq
          obtain ⟨bx, hbx⟩ : ∃ b, decide (y.e.dg = X.e.dg) = b := ⟨_, rfl⟩
          rw [hbx]
          cases bx
          rotate_left
          · have hne : y.e.dg = X.e.dg := of_decide_eq_true hbx
            have HIN : Hid (SeI wB wd L X wB.heap.size (k + 1) true _ (o ++ [X])) := Lib.hid ⟨HGD.out, by have h1 := HEQ0.out; rw [if_pos hne, List.nil_append] at h1; exact h1, HME1.out, HBD.out⟩
            clear hne hbx
            go_wp2
            exact ⟨⟨k + 1, _, _, _, _, _, by omega, by go_num, rfl, rfl, HIN⟩, by simp [intOf] <;> omega⟩
          · have hne : ¬ y.e.dg = X.e.dg := of_decide_eq_false hbx
            have HLYD := Lib.hid (HLY.out wd HBD.out)
            have HEQ : Hid (peL ((o ++ [X]) ++ [y]) ++ setB X.e ((peL L).drop (k + 1)) true = setE (peL L) X.e) := Lib.hid (by have h1 := HEQ0.out; rw [if_neg hne] at h1; rw [peL_append, List.append_assoc]; exact h1)
            have HOL2 : Hid (((o ++ [X])).length + 1 ≤ 2097216) := Lib.hid (by
              have h1 := setE_length (peL L) X.e
              rw [← HEQ.out, List.length_append, peL_length, peL_length, List.length_append, List.length_singleton, HL0.out] at h1
              omega)
            clear hne hbx
            go_wp2_with (first
                    | (refine wpList_ld rfl 59 _ rfl _ rfl _ HLYD.out ?_)
                    | (refine wpList_build_en rfl 23 43 rfl Tryz.underlying23 y (by rw [HMY.out]; rfl) ?_)
                    | (refine wpList_append_gen encEn rfl _ _ 23 rfl Tryz.underlying23 ezero 96 infoEn ezero_size (by decide) wB.heap.size _ (o ++ [X]) rfl (HGD.out.alloc _) _ 1 1 [y] rfl (Gs.oneEn _ y) (fun h => by cases h) HOL2.out (by have h1 := HBD.out.size; rw [World.size_alloc]; omega) ?_; intro v9 w9 ho9 hg9; obtain ⟨p9, c9, hv9, _⟩ := ho9.open; obtain ⟨m9, hm9⟩ : ∃ x, ((o ++ [X]) ++ [y]).length = x := ⟨_, rfl⟩; rw [hm9] at hv9; subst hv9; have HO9 := Lib.hid ho9; have HB9 := Lib.hid (below_app (HBD.out.alloc HBD.out.size (.cells (enC y.e y.s) 59)) (HGD.out.alloc _) (Nat.le_refl _) hg9); clear ho9 hg9 hm9))
            have HIN : Hid (SeI wB w9 L X wB.heap.size (k + 1) true _ ((o ++ [X]) ++ [y])) := Lib.hid ⟨HO9.out, HEQ.out, fun x hx => by
              rcases List.mem_append.1 hx with h1 | h1
              · exact HME1.out x h1
              · rw [List.mem_singleton] at h1
                rw [h1]; exact Or.inl HY.out, HB9.out⟩
            exact ⟨⟨k + 1, _, _, _, _, _, by omega, by go_num, rfl, rfl, HIN⟩, by simp [intOf] <;> omega⟩
    · obtain rfl : k = n := by omega
      have HO : Hid (peL o ++ (if tb then [] else [X.e]) = setE (peL L) X.e) := Lib.hid (by
        have h1 := HI.out.eq
        rw [List.drop_of_length_le (by rw [HLL.out]; exact Nat.le_refl _)] at h1
        exact h1)
      have HOL : Hid (o.length + 1 ≤ 2097216) := Lib.hid (by have := HI.out.len; rw [HL0.out] at this; omega)
      have HLXW := Lib.hid (HLX.out wr HI.out.le)
      cases tb with
      | true =>
        go_wp2
        go_ret
        refine ⟨_, o, rfl, by simpa using HO.out, HI.out.gw.mono HB.out.size, HI.out.me, below_step HB.out HI.out.le⟩
      | false =>
        go_wp2_with (first
          | (refine wpList_ld rfl 59 _ rfl _ rfl _ HLXW.out ?_)
          | (refine wpList_build_en rfl 23 49 rfl Tryz.underlying23 X (by rw [HME.out]; rfl) ?_)
          | (refine wpList_append_gen encEn rfl _ _ 23 rfl Tryz.underlying23 ezero 96 infoEn ezero_size (by decide) wB.heap.size _ o rfl (HI.out.gw.alloc _) _ 1 1 [X] rfl (Gs.oneEn _ X) (fun h => by cases h) HOL.out (by have h1 := HI.out.le.size; rw [World.size_alloc]; omega) ?_; intro v8 w8 ho8 hg8; have HO8 := Lib.hid ho8; have HB8 := Lib.hid (below_app (HI.out.le.alloc HI.out.le.size (.cells (enC X.e X.s) 59)) (HI.out.gw.alloc _) (Nat.le_refl _) hg8); clear ho8 hg8))
        go_ret
        refine ⟨_, o ++ [X], rfl, ?_, HO8.out.mono HB.out.size, fun x hx => ?_, below_step HB.out HB8.out⟩
        · rw [peL_append, show peL [X] = [X.e] from rfl]
          simpa using HO.out
        · rcases List.mem_append.1 hx with h1 | h1
          · exact HI.out.me x h1
          · rw [List.mem_singleton] at h1
            exact Or.inr h1
set_option maxRecDepth 100000 in
set_option maxHeartbeats 1000000 in
theorem rnew20_any (p : Option Addr) (n c : Nat) (L : List Ex) (w : World) (h : Gs encEn w p n L) (hk : ∀ x ∈ L, dok x.e.dg) (hn : n ≤ 2097152) :
    Calls Tryz.prog 42 #[.slice p n c] w fun e w' => NewQ w L e w' := by
  have H := Lib.hid h
  have HK := Lib.hid hk
  have HLL : Hid ((peL L).length = n) := Lib.hid (by rw [peL_length, h.len])
  have HS := Lib.hid fun (q : Option Addr) (m d : Nat) (M : List Ex) (X : Ex) W (hW : Gs encEn W q m M) (hM : ∀ x ∈ M, dok x.e.dg) (hX : dok X.e.dg) (hm : m ≤ 2097152) => rset20_any q m d M X W hW hM hX hm
  clear h hk
  go_enter Tryz.func42, Tryz.ntmps42
  go_wp2
  go_loopw [3, 4] (fun v j wr => ∃ (k : Nat) (q : Option Addr) (m d : Nat) (o : List Ex), k ≤ n ∧ j = .int .i64 (k : Int) ∧ v = .slice q m d ∧ Hid (peL o = newE ((peL L).take k)) ∧ Hid (Gw encEn wr w.heap.size (.slice q m d) o) ∧ Hid (∀ x ∈ o, x ∈ L) ∧ Hid (Below w.heap.size w wr)) (fun _ j _ => n - (intOf j).toNat)
  case atStart => exact ⟨0, none, 0, 0, [], by omega, rfl, rfl, Lib.hid rfl, Lib.hid (Gw.nil _ _ _), Lib.hid (fun x hx => by cases hx), Lib.hid (Below.refl _ _)⟩
  case round =>
    obtain ⟨k, q, m, d, o, hkn, rfl, rfl, HE, HO, HM, HB⟩ := hrel
    by_cases hlt : k < n
    · obtain ⟨b1, off, y, rfl, hy1, hy3, hr⟩ := (H.out.later HB.out).en k hlt
      have HY := Lib.hid hy3
      have hmm : m ≤ 2097152 := by
        have h1 := newE_length ((peL L).take k)
        rw [← HE.out, peL_length, HO.out.len, List.length_take, HLL.out] at h1
        omega
      have HSC := Lib.hid (HS.out q m d o y wr HO.out.gs (fun x hx => HK.out x (HM.out x hx)) (HK.out y hy3) hmm)
      have HLY := Lib.hid (en_load hr)
      have HT : Hid (setE (peL o) y.e = newE ((peL L).take (k + 1))) := Lib.hid (by
        obtain ⟨h2, h3⟩ := List.getElem?_eq_some_iff.1 (peL_get hy1)
        rw [List.take_succ_eq_append_getElem h2, h3, newE_snoc, HE.out])
      have hki : (k : Int) < (n : Int) := by omega
      have hk0 : (0 : Int) ≤ (k : Int) := by omega
      unfold enV at HSC
      generalize enC y.e y.s = MY at *
      clear hr hy1 hy3 hmm
      go_wp2_with (first
        | (refine wpList_ld rfl 59 _ rfl _ rfl _ HLY.out ?_)
        | (go_at_call 75; refine HSC.out.mono ?_; rintro e w2 ⟨v2, o2, rfl, he2, ho2, hm2, hb2⟩; obtain ⟨q2, d2, hv2, _⟩ := ho2.open; obtain ⟨n2, hn2⟩ : ∃ x, o2.length = x := ⟨_, rfl⟩; rw [hn2] at hv2; subst hv2; have HE2 := Lib.hid (he2.trans HT.out); have HO2 := Lib.hid (ho2.mono HB.out.size); have HM2 : Hid (∀ x ∈ o2, x ∈ L) := (Lib.hid (fun x hx => (hm2 x hx).elim (HM.out x) (fun h => by rw [h]; exact HY.out))); have HB2 := Lib.hid (below_step HB.out hb2); clear he2 ho2 hm2 hb2 hn2))
      exact ⟨⟨k + 1, q2, n2, d2, o2, by omega, by go_num, rfl, HE2, HO2, HM2, HB2⟩, by simp [intOf] <;> omega⟩
    · obtain rfl : k = n := by omega
      have HF : Hid (peL o = newE (peL L)) := Lib.hid (by have h1 := HE.out; rwa [List.take_of_length_le (by rw [HLL.out]; exact Nat.le_refl _)] at h1)
      go_wp2
      go_ret
      exact ⟨_, o, rfl, HF.out, HO.out, HM.out, HB.out⟩
/-- a row of numbers of the call's own outlives an append to a row of entries of its own -/
theorem Gw.besideEn {W W' : World} {B B' : Nat} {s v : Value} {I : List Int} {o : List Ex} (h : Gw encI W B s I) (hv : Gw encEn W B' v o) (hg : W.grownBy W' v.ownBlock) : Gw encI W' B s I := by
  refine h.kept hg fun b hb e => ?_
  obtain ⟨_, h2⟩ := h
  obtain ⟨_, h3⟩ := hv
  rcases h2 with ⟨h4, _⟩ | ⟨g, cap, cur, h4, _, h5, _⟩
  · rw [h4] at hb; cases hb
  · rcases h3 with ⟨h6, _⟩ | ⟨g', cap', cur', h6, _, h7, _⟩
    · rw [h6] at e; cases e
    · rw [h4] at hb
      rw [h6] at e
      simp only [Value.ownBlock, Option.some.injEq] at hb e
      subst hb
      subst e
      rw [h5] at h7
      simp only [Option.some.injEq, Obj.cells.injEq] at h7
      exact absurd h7.2.1 (by decide)
theorem keepE_dok20 {e : Pe} (h : dok e.dg) (B : List Int) : dok (keepE e B).1.dg := by
  unfold keepE
  split
  · exact h
  · split
    · exact h
    · exact dz32_ok
theorem gwEn_open {W : World} {B : Nat} {v : Value} {o : List Ex} (h : Gw encEn W B v o) : ∃ q d, v = .slice q o.length d ∧ o.length ≤ d ∧ d ≤ maxLen ∧ (q = none → d = 0) ∧ ∀ b off, q = some ⟨b, off, none⟩ → B ≤ b := by
  obtain ⟨_, h2⟩ := h
  rcases h2 with ⟨h4, h0⟩ | ⟨g, cap, cur, h4, hB, _, hn, hm, _⟩
  · exact ⟨none, 0, by rw [h4, h0], by omega, by unfold maxLen; decide, fun _ => rfl, (fun b off e => by cases e)⟩
  · refine ⟨_, cap, h4, hn, hm, (fun e => by cases e), fun b off e => ?_⟩
    simp only [Option.some.injEq, Addr.mk.injEq] at e
    omega
def KepQ (w : World) (L : List Ex) (B : List Int) (e : Ending) (w' : World) : Prop := ∃ v o, e = .returned v ∧ peL o = keepR (peL L) B ∧ Gw encEn w' w.heap.size v o ∧ (∀ x ∈ o, dok x.e.dg ∧ Gw encI w' w.heap.size x.s x.e.ins) ∧ Below w.heap.size w w'
/-- what Apply answers: the same row, or one of its own -/
def AppQ (w : World) (p : Option Addr) (n c : Nat) (L : List Ex) (x : Wq) (e : Ending) (w' : World) : Prop :=
  ∃ q m d o, e = .returned (.slice q m d) ∧ peL o = applyE (peL L) x ∧ Gs encEn w' q m o ∧ ((q = p ∧ m = n) ∨ ∀ b off, q = some ⟨b, off, none⟩ → w.heap.size ≤ b) ∧ (∀ y ∈ o, y ∈ L ∨ dok y.e.dg ∧ Gw encI w' w.heap.size y.s y.e.ins) ∧ (q = none → d = 0 ∨ q = p ∧ d = c) ∧ Below w.heap.size w w'
theorem getT_cons (x : Pt) (M : List Pt) (d : ByteArray) : getT (x :: M) d = if x.nm = d then some x else getT M d := rfl
theorem getT_append (l m : List Pt) (d : ByteArray) : getT (l ++ m) d = match getT l d with | some x => some x | none => getT m d := by
  induction l with
  | nil => rfl
  | cons y l ih =>
    rw [List.cons_append, getT_cons, getT_cons]
    by_cases h : y.nm = d
    · rw [if_pos h, if_pos h]
    · rw [if_neg h, if_neg h]; exact ih
theorem getT_take {L : List Pt} {k : Nat} {x : Pt} (h : L[k]? = some x) (d : ByteArray) : getT (L.take (k + 1)) d = match getT (L.take k) d with | some y => some y | none => if x.nm = d then some x else none := by
  obtain ⟨h2, h3⟩ := List.getElem?_eq_some_iff.1 h
  rw [List.take_succ_eq_append_getElem h2, getT_append, h3]
  rfl
theorem getT_upto {L : List Pt} {k : Nat} {d : ByteArray} {x : Pt} (h : getT (L.take k) d = some x) : getT L d = some x := by
  conv => lhs; rw [← List.take_append_drop k L, getT_append, h]
/-- what Get answers -/
def GetTQ (w : World) (L : List Tx) (r : Pt × Bool) (e : Ending) (w' : World) : Prop :=
  ∃ u, e = .returned (.tuple #[tnV r.1 u, .bool r.2]) ∧ ((∃ x ∈ L, x.e = r.1 ∧ u = x.s) ∨ u = .slice none 0 0 ∧ r.1 = zeroT) ∧ Below w.heap.size w w'
set_option maxRecDepth 100000 in
set_option maxHeartbeats 2000000 in
theorem rget21_any (p : Option Addr) (n c : Nat) (L : List Tx) (d : ByteArray) (w : World) (h : Gs encTn w p n L) (hn : n ≤ 2097152) :
    Calls Tryz.prog 26 #[.slice p n c, .string d] w fun e w' => GetTQ w L (getTR (ptL L) d) e w' := by
  obtain ⟨wB, hwB⟩ : ∃ W, w.alloc (.cells (tnC zeroT (.slice none 0 0)) 64) = W := ⟨_, rfl⟩
  have hbB : Below w.heap.size w wB := by rw [← hwB]; exact (Below.refl _ _).alloc (Nat.le_refl _) _
  have hz : Tn wB w.heap.size zeroT (.slice none 0 0) := by rw [← hwB]; exact heap_alloc_new _ _
  have HB := Lib.hid hbB
  have HZ := Lib.hid hz
  have H := Lib.hid (h.later hbB)
  have HLL : Hid ((ptL L).length = n) := Lib.hid (by rw [ptL_length, h.len])
  rw [tnZero] at hwB
  clear h hbB hz
  go_enter Tryz.func26, Tryz.ntmps26
  go_wp2
  clear hwB
  go_loopw [6] (fun j wr => ∃ k : Nat, k ≤ n ∧ j = .int .i64 (k : Int) ∧ Hid (getT ((ptL L).take k) d = none) ∧ wr = wB) (fun j _ => n - (intOf j).toNat)
  case atStart => exact ⟨0, by omega, rfl, Lib.hid rfl, rfl⟩
  case round =>
    obtain ⟨k, hkn, rfl, hm, hwr⟩ := hrel
    subst hwr
    by_cases hlt : k < n
    · obtain ⟨b1, off, y, rfl, hy1, hy3, hr⟩ := H.out.tn k hlt
      have c0 := (tn_cells hr).1
      have HLY := Lib.hid (tn_load hr)
      have HT := Lib.hid (getT_take (ptL_get hy1) d)
      have HY := Lib.hid hy3
      have hki : (k : Int) < (n : Int) := by omega
      have hk0 : (0 : Int) ≤ (k : Int) := by omega
      obtain ⟨ny, hny⟩ : ∃ s, y.e.nm = s := ⟨_, rfl⟩
      rw [hny] at c0 HT
      clear hr hy1 hy3 hny
      by_cases hxd : ny = d
      · have hq := sq_true hxd
        have HF : Hid (getTR (ptL L) d = (y.e, true)) := Lib.hid (by
          have h1 : getT ((ptL L).take (k + 1)) d = some y.e := by rw [HT.out, hm.out]; dsimp only; rw [if_pos hxd]
          unfold getTR
          rw [getT_upto h1])
        clear hxd
        go_wp2_with (first
          | (refine wpList_ld rfl 64 _ rfl _ rfl _ HLY.out ?_)
          | (refine wpList_store_row rfl 64 _ _ rfl w.heap.size (tnC y.e y.s) rfl rfl 64 _ HZ.out (tnC_sizeOf y.e _ y.hd) ((tnC_size _ _ rfl).trans (tnC_size y.e _ y.hd).symm) (tnC_one _ _ _ _) ?_; generalize hw6 : World.setRow _ _ _ = w6))
        have HM6 : Tn w6 w.heap.size y.e y.s := by rw [← hw6]; exact Mx.row HZ.out
        refine bodyPost_ret (HM6.res2 y.hd rfl _ rfl) rfl ?_
        rw [HF.out]
        exact ⟨_, rfl, Or.inl ⟨y, HY.out, rfl, rfl⟩, by rw [← hw6]; exact below_setRow8 HB.out _ _ (Nat.le_refl _)⟩
      · have hq := sq_false hxd
        have HN2 : Hid (getT ((ptL L).take (k + 1)) d = none) := Lib.hid (by rw [HT.out, hm.out]; dsimp only; rw [if_neg hxd])
        clear hxd
        go_wp2
        exact ⟨⟨k + 1, by omega, by go_num, HN2, by first | rfl | trivial⟩, by simp [intOf] <;> omega⟩
    · obtain rfl : k = n := by omega
      have HF : Hid (getTR (ptL L) d = (zeroT, false)) := Lib.hid (by
        have h1 := hm.out
        rw [List.take_of_length_le (by rw [HLL.out]; exact Nat.le_refl _)] at h1
        unfold getTR
        rw [h1])
      have HBU := Lib.hid built_tn0
      go_wp2_with (first
        | (refine wpList_build_is rfl 64 _ rfl (tnC zeroT (.slice none 0 0)) ?_ ?_; focus (first | (simp only [List.map_toArray, List.map_nil]; exact HBU.out) | (simp only [Array.map_empty]; exact HBU.out) | (simp; exact HBU.out)))
        | (refine wpList_store_row rfl 64 _ _ rfl w.heap.size (tnC zeroT (.slice none 0 0)) rfl rfl 64 _ HZ.out (tnC_sizeOf zeroT _ rfl) rfl (tnC_one _ _ _ _) ?_; generalize hw6 : World.setRow _ _ _ = w6))
      have HM6 : Tn w6 w.heap.size zeroT (.slice none 0 0) := by rw [← hw6]; exact Mx.row HZ.out
      refine bodyPost_ret (HM6.res2 rfl rfl _ rfl) rfl ?_
      rw [HF.out]
      exact ⟨_, rfl, Or.inr ⟨rfl, rfl⟩, by rw [← hw6]; exact below_setRow8 HB.out _ _ (Nat.le_refl _)⟩
/-- '[]TagEntry{x}', at one operation -/
theorem wp_build_tn {o : Oper} {a : Act} {w : World} {K : Act → World → Prop} {Q : Exit → Act → World → Prop} (t : TypeId) (x : Nat) (ho : o.op = .buildSlice t 1 #[(0, .tmp x)])
    (hu : Tryz.prog.underlying t = some (.slice 64)) (q : Tx) (hx : a.eval (.tmp x) = .agg (tnC q.e q.s))
    (h : K (a.put o.dst (.slice (some ⟨w.heap.size, 0, none⟩) 1 1)) (w.alloc (.cells (tnC q.e q.s) 64))) : o.wp Tryz.prog a w K Q := by
  obtain ⟨i, hi, hzz⟩ := Option.map_eq_some_iff.1 infoTn
  simp only [Prod.mk.injEq] at hzz
  obtain ⟨hz, hsz, _⟩ := hzz
  have hsz' : i.size = 38 := hsz
  refine wp_buildSlice t 64 1 _ ho (tnC q.e q.s) i _ hu hi hz (by rw [hsz']; decide) (by rw [hsz']; decide) ?_ h
  rw [hsz']
  have hf := Great.fill_whole (s := 38) (by decide) [.agg (tnC q.e q.s)] ((Array.range (1 * 38)).map (tzero.cells[· % tzero.cells.size]!)) (by
    intro v hv
    rw [List.mem_singleton] at hv
    subst hv
    exact tnC_size q.e q.s q.hd) (by simp)
  have e : (#[(0, Operand.tmp x)].map fun (p : Nat × Operand) => (p.1, a.eval p.2)).toList = [((0 : Nat), Value.agg (tnC q.e q.s))] := by
    simp [hx]
  rw [e]
  refine (Eq.trans ?_ hf).trans ?_
  · rfl
  · simp [Value.cells]
theorem wpList_build_tn {ops : Array Oper} {rest : List Oper} {o : Oper} {a : Act} {w : World} {Q : Exit → Act → World → Prop} (hg : o.guard = none) (t : TypeId) (x : Nat) (ho : o.op = .buildSlice t 1 #[(0, .tmp x)])
    (hu : Tryz.prog.underlying t = some (.slice 64)) (q : Tx) (hx : a.eval (.tmp x) = .agg (tnC q.e q.s))
    (h : wpList Tryz.prog ops Q rest (a.put o.dst (.slice (some ⟨w.heap.size, 0, none⟩) 1 1)) (w.alloc (.cells (tnC q.e q.s) 64))) : wpList Tryz.prog ops Q (o :: rest) a w :=
  wpList_plain hg fun _ hK => wp_build_tn t x ho hu q hx (hK _ _ h)
theorem Gs.oneTn (w : World) (q : Tx) : Gs encTn (w.alloc (.cells (tnC q.e q.s) 64)) (some ⟨w.heap.size, 0, none⟩) 1 [q] := Gs.one encTn w q _ (by rw [q.fC]) _ _
theorem setTB_drop {L : List Pt} {k : Nat} {x : Pt} (h : L[k]? = some x) (e : Pt) (t : Bool) : setTB e (L.drop k) t = (if t = false ∧ nlt x.nm e.nm = false then [e] else []) ++ ((if x.nm = e.nm then [] else [x]) ++ setTB e (L.drop (k + 1)) (t || !nlt x.nm e.nm)) := by
  obtain ⟨h2, h3⟩ := List.getElem?_eq_some_iff.1 h
  rw [List.drop_eq_getElem_cons h2, h3]
  rfl
def SetTQ (w : World) (L : List Tx) (X : Tx) (e : Ending) (w' : World) : Prop := ∃ v o, e = .returned v ∧ ptL o = setT (ptL L) X.e ∧ Gw encTn w' w.heap.size v o ∧ (∀ x ∈ o, x ∈ L ∨ x = X) ∧ Below w.heap.size w w'
def NewTQ (w : World) (L : List Tx) (e : Ending) (w' : World) : Prop := ∃ v o, e = .returned v ∧ ptL o = newT (ptL L) ∧ Gw encTn w' w.heap.size v o ∧ (∀ x ∈ o, x ∈ L) ∧ Below w.heap.size w w'
/-- amid Set's loop -/
structure SeT (w W : World) (L : List Tx) (X : Tx) (B k : Nat) (tb : Bool) (v : Value) (o : List Tx) : Prop where
  gw : Gw encTn W B v o
  eq : ptL o ++ setTB X.e ((ptL L).drop k) tb = setT (ptL L) X.e
  me : ∀ x ∈ o, x ∈ L ∨ x = X
  le : Below w.heap.size w W
theorem SeT.len {w W : World} {L : List Tx} {X : Tx} {B k : Nat} {tb : Bool} {v : Value} {o : List Tx} (h : SeT w W L X B k tb v o) : o.length ≤ L.length + 1 := by
  have h1 := setT_length (ptL L) X.e
  rw [← h.eq, List.length_append, ptL_length, ptL_length] at h1
  omega
theorem below_appT {w W V : World} {B : Nat} {v : Value} {o : List Tx} (hb : Below w.heap.size w W) (hg : Gw encTn W B v o) (hB : w.heap.size ≤ B) (h : W.grownBy V v.ownBlock) : Below w.heap.size w V :=
  below_new_gw hb (hg.mono hB) h hb.size
set_option maxRecDepth 100000 in
set_option maxHeartbeats 4000000 in
theorem rset21_any (p : Option Addr) (n c : Nat) (L : List Tx) (X : Tx) (w : World) (h : Gs encTn w p n L) (hn : n ≤ 2097152) :
    Calls Tryz.prog 76 #[.slice p n c, tnV X.e X.s] w fun e w' => SetTQ w L X e w' := by
  obtain ⟨wB, hwB⟩ : ∃ W, w.alloc (.cells (tnC X.e X.s) 64) = W := ⟨_, rfl⟩
  have hbB : Below w.heap.size w wB := by rw [← hwB]; exact (Below.refl _ _).alloc (Nat.le_refl _) _
  have hmE : Tn wB w.heap.size X.e X.s := by rw [← hwB]; exact heap_alloc_new _ _
  have HB := Lib.hid hbB
  have HLX := Lib.hid fun W (hW : Below wB.heap.size wB W) => (hmE.later hW).load X.hd
  have HNX := Lib.hid fun W (hW : Below wB.heap.size wB W) => ((hmE.later hW).cells X.hd).1
  have H := Lib.hid (h.later hbB)
  have HLL : Hid ((ptL L).length = n) := Lib.hid (by rw [ptL_length, h.len])
  have HL0 : Hid (L.length = n) := Lib.hid h.len
  have HSI : Hid (SeT wB wB L X wB.heap.size 0 false (.slice none 0 0) []) := Lib.hid ⟨Gw.nil _ _ _, by simp [ptL, setT], (fun x hx => by cases hx), Below.refl _ _⟩
  unfold tnV
  generalize hME : tnC X.e X.s = ME at *
  have HME := Lib.hid hME
  clear h hbB hmE hME
  go_enter Tryz.func76, Tryz.ntmps76
  go_wp2
  clear hwB
  go_loopw [5, 6, 7] (fun v t j wr => ∃ (k : Nat) (tb : Bool) (q : Option Addr) (m c' : Nat) (o : List Tx), k ≤ n ∧ j = .int .i64 (k : Int) ∧ t = .bool tb ∧ v = .slice q m c' ∧ Hid (SeT wB wr L X wB.heap.size k tb (.slice q m c') o)) (fun _ _ j _ => n - (intOf j).toNat)
  case atStart => exact ⟨0, false, none, 0, 0, [], by omega, rfl, rfl, rfl, HSI⟩
  case round =>
    obtain ⟨k, tb, q, m, c', o, hkn, rfl, rfl, rfl, HI⟩ := hrel
    by_cases hlt : k < n
    · obtain ⟨b1, off, y, rfl, hy1, hy3, hr⟩ := (H.out.later HI.out.le).tn k hlt
      have HY := Lib.hid hy3
      have HSB := Lib.hid (setTB_drop (ptL_get hy1) X.e tb)
      have HRW : Hid (∀ W, Below wB.heap.size wB W → W.rangeAt b1 (off + k * 38) (mixL y.e.a y.e.dg (y.e.t y.s))) := Lib.hid fun W hW => by
        obtain ⟨b2, off2, z, hp2, hz1, _, hr2⟩ := (H.out.later hW).tn k hlt
        simp only [Option.some.injEq, Addr.mk.injEq, and_true] at hp2
        obtain ⟨rfl, rfl⟩ := hp2
        rw [hy1] at hz1
        obtain rfl := Option.some.inj hz1
        exact hr2
      have HLY := Lib.hid fun W (hW : Below wB.heap.size wB W) => tn_load (HRW.out W hW)
      have HC := Lib.hid fun W (hW : Below wB.heap.size wB W) => And.intro (tn_cells (HRW.out W hW)).1 (HNX.out W hW)
      have hki : (k : Int) < (n : Int) := by omega
      have hk0 : (0 : Int) ≤ (k : Int) := by omega
      obtain ⟨ny, hny⟩ : ∃ s, y.e.nm = s := ⟨_, rfl⟩
      obtain ⟨nX, hnX⟩ : ∃ s, X.e.nm = s := ⟨_, rfl⟩
      rw [hny] at HSB
      rw [hnX] at HSB
      simp only [hny, hnX] at HC
      obtain ⟨MY, hMY⟩ : ∃ M, tnC y.e y.s = M := ⟨_, rfl⟩
      have HMY := Lib.hid hMY
      rw [hMY] at HLY
      have HBL : Hid (Below wB.heap.size wB wr) := Lib.hid HI.out.le
      have HGW := Lib.hid HI.out.gw
      obtain ⟨c0, cX⟩ := HC.out wr HBL.out
      clear hr hy1 hy3 hny hnX hMY
      unfold nlt at HSB
      obtain ⟨lt, hlt2⟩ : ∃ b, Op.bytesLess ny.toList nX.toList = b := ⟨_, rfl⟩
      rw [hlt2] at HSB
      cases tb with
      | true =>
        clear hlt2
        have HEQ0 : Hid (ptL o ++ ((if ny = nX then [] else [y.e]) ++ setTB X.e ((ptL L).drop (k + 1)) true) = setT (ptL L) X.e) := Lib.hid (by
          have h1 := HI.out.eq
          rw [HSB.out, if_neg (fun h => by cases h.1), List.nil_append] at h1
          exact h1)
        have HME0 := Lib.hid HI.out.me
        go_upto_region 6 with fail
        go_quiet (fail)
        have HGQ := Lib.hid (HGW.out.later (below_drewN (Below.refl _ _) nq))
        have HBQ := Lib.hid (below_step HBL.out (below_drewN (Below.refl _ _) nq))
        clear c0 cX
        generalize World.drewN wr nq = wq at *
        obtain ⟨d0, dX⟩ := HC.out _ HBQ.out
        by_cases hne : ny = nX
        · have hq := sq_true hne
          have HE2 : Hid (ptL o ++ setTB X.e ((ptL L).drop (k + 1)) true = setT (ptL L) X.e) := Lib.hid (by have h1 := HEQ0.out; rw [if_pos hne, List.nil_append] at h1; exact h1)
          clear hne
          go_upto_region 9 with fail
          go_quiet (fail)
          have HIN : Hid (SeT wB (World.drewN wq nq) L X wB.heap.size (k + 1) true _ o) := Lib.hid ⟨HGQ.out.later (below_drewN (Below.refl _ _) nq), HE2.out, HME0.out, below_step HBQ.out (below_drewN (Below.refl _ _) nq)⟩
          generalize World.drewN wq nq = wd at *
          go_wp2
          exact ⟨⟨k + 1, _, _, _, _, _, by omega, by go_num, rfl, rfl, HIN⟩, by simp [intOf] <;> omega⟩
        · have hq := sq_false hne
          have HE2 : Hid (ptL (o ++ [y]) ++ setTB X.e ((ptL L).drop (k + 1)) true = setT (ptL L) X.e) := Lib.hid (by have h1 := HEQ0.out; rw [if_neg hne] at h1; rw [ptL_append, List.append_assoc]; exact h1)
          have HOL2 : Hid ((o).length + 1 ≤ 2097216) := Lib.hid (by
            have h1 := setT_length (ptL L) X.e
            rw [← HE2.out, List.length_append, ptL_length, ptL_length, List.length_append, List.length_singleton, HL0.out] at h1
            omega)
          clear hne
          go_upto_region 9 with fail
          go_quiet (fail)
          have HGD := Lib.hid (HGQ.out.later (below_drewN (Below.refl _ _) nq))
          have HBD := Lib.hid (below_step HBQ.out (below_drewN (Below.refl _ _) nq))
          have HLYD := Lib.hid (HLY.out _ HBD.out)
          generalize World.drewN wq nq = wd at *
          go_wp2_with (first
                  | (refine wpList_ld rfl 64 _ rfl _ rfl _ HLYD.out ?_)
                  | (refine wpList_build_tn rfl 24 42 rfl Tryz.underlying24 y (by rw [HMY.out]; rfl) ?_)
                  | (refine wpList_append_gen encTn rfl _ _ 24 rfl Tryz.underlying24 tzero 104 infoTn tzero_size (by decide) wB.heap.size _ o rfl (HGD.out.alloc _) _ 1 1 [y] rfl (Gs.oneTn _ y) (fun h => by cases h) HOL2.out (by have h1 := HBD.out.size; rw [World.size_alloc]; omega) ?_; intro v9 w9 ho9 hg9; have HO9 := Lib.hid ho9; have HB9 := Lib.hid (below_appT (HBD.out.alloc HBD.out.size _) (HGD.out.alloc _) (Nat.le_refl _) hg9); obtain ⟨p9, c9, hv9, _⟩ := ho9.open; obtain ⟨m9, hm9⟩ : ∃ x, List.length (o ++ [y]) = x := ⟨_, rfl⟩; rw [hm9] at hv9; subst hv9; clear ho9 hg9 hm9))
          have HIN : Hid (SeT wB w9 L X wB.heap.size (k + 1) true _ (o ++ [y])) := Lib.hid ⟨HO9.out, HE2.out, fun x hx => by
            rcases List.mem_append.1 hx with h1 | h1
            · exact HME0.out x h1
            · rw [List.mem_singleton] at h1
              rw [h1]; exact Or.inl HY.out, HB9.out⟩
          exact ⟨⟨k + 1, _, _, _, _, _, by omega, by go_num, rfl, rfl, HIN⟩, by simp [intOf] <;> omega⟩
      | false =>
        cases lt with
        | true =>
          have HEQ0 : Hid (ptL o ++ ((if ny = nX then [] else [y.e]) ++ setTB X.e ((ptL L).drop (k + 1)) false) = setT (ptL L) X.e) := Lib.hid (by
            have h1 := HI.out.eq
            rw [HSB.out, if_neg (fun h => by cases h.2), List.nil_append] at h1
            exact h1)
          have HME0 := Lib.hid HI.out.me
          go_upto_region 6 with fail
          go_quiet (fail)
          have HGQ := Lib.hid (HGW.out.later (below_drewN (Below.refl _ _) nq))
          have HBQ := Lib.hid (below_step HBL.out (below_drewN (Below.refl _ _) nq))
          clear c0 cX hlt2
          generalize World.drewN wr nq = wq at *
          obtain ⟨d0, dX⟩ := HC.out _ HBQ.out
          by_cases hne : ny = nX
          · have hq := sq_true hne
            have HE2 : Hid (ptL o ++ setTB X.e ((ptL L).drop (k + 1)) false = setT (ptL L) X.e) := Lib.hid (by have h1 := HEQ0.out; rw [if_pos hne, List.nil_append] at h1; exact h1)
            clear hne
            go_upto_region 9 with fail
            go_quiet (fail)
            have HIN : Hid (SeT wB (World.drewN wq nq) L X wB.heap.size (k + 1) false _ o) := Lib.hid ⟨HGQ.out.later (below_drewN (Below.refl _ _) nq), HE2.out, HME0.out, below_step HBQ.out (below_drewN (Below.refl _ _) nq)⟩
            generalize World.drewN wq nq = wd at *
            go_wp2
            exact ⟨⟨k + 1, _, _, _, _, _, by omega, by go_num, rfl, rfl, HIN⟩, by simp [intOf] <;> omega⟩
          · have hq := sq_false hne
            have HE2 : Hid (ptL (o ++ [y]) ++ setTB X.e ((ptL L).drop (k + 1)) false = setT (ptL L) X.e) := Lib.hid (by have h1 := HEQ0.out; rw [if_neg hne] at h1; rw [ptL_append, List.append_assoc]; exact h1)
            have HOL2 : Hid ((o).length + 1 ≤ 2097216) := Lib.hid (by
              have h1 := setT_length (ptL L) X.e
              rw [← HE2.out, List.length_append, ptL_length, ptL_length, List.length_append, List.length_singleton, HL0.out] at h1
              omega)
            clear hne
            go_upto_region 9 with fail
            go_quiet (fail)
            have HGD := Lib.hid (HGQ.out.later (below_drewN (Below.refl _ _) nq))
            have HBD := Lib.hid (below_step HBQ.out (below_drewN (Below.refl _ _) nq))
            have HLYD := Lib.hid (HLY.out _ HBD.out)
            generalize World.drewN wq nq = wd at *
            go_wp2_with (first
                    | (refine wpList_ld rfl 64 _ rfl _ rfl _ HLYD.out ?_)
                    | (refine wpList_build_tn rfl 24 42 rfl Tryz.underlying24 y (by rw [HMY.out]; rfl) ?_)
                    | (refine wpList_append_gen encTn rfl _ _ 24 rfl Tryz.underlying24 tzero 104 infoTn tzero_size (by decide) wB.heap.size _ o rfl (HGD.out.alloc _) _ 1 1 [y] rfl (Gs.oneTn _ y) (fun h => by cases h) HOL2.out (by have h1 := HBD.out.size; rw [World.size_alloc]; omega) ?_; intro v9 w9 ho9 hg9; have HO9 := Lib.hid ho9; have HB9 := Lib.hid (below_appT (HBD.out.alloc HBD.out.size _) (HGD.out.alloc _) (Nat.le_refl _) hg9); obtain ⟨p9, c9, hv9, _⟩ := ho9.open; obtain ⟨m9, hm9⟩ : ∃ x, List.length (o ++ [y]) = x := ⟨_, rfl⟩; rw [hm9] at hv9; subst hv9; clear ho9 hg9 hm9))
            have HIN : Hid (SeT wB w9 L X wB.heap.size (k + 1) false _ (o ++ [y])) := Lib.hid ⟨HO9.out, HE2.out, fun x hx => by
              rcases List.mem_append.1 hx with h1 | h1
              · exact HME0.out x h1
              · rw [List.mem_singleton] at h1
                rw [h1]; exact Or.inl HY.out, HB9.out⟩
            exact ⟨⟨k + 1, _, _, _, _, _, by omega, by go_num, rfl, rfl, HIN⟩, by simp [intOf] <;> omega⟩
        | false =>
          have HEQ0 : Hid (ptL (o ++ [X]) ++ ((if ny = nX then [] else [y.e]) ++ setTB X.e ((ptL L).drop (k + 1)) true) = setT (ptL L) X.e) := Lib.hid (by
            have h1 := HI.out.eq
            rw [HSB.out, if_pos ⟨rfl, rfl⟩] at h1
            rw [ptL_append, List.append_assoc]
            exact h1)
          have HOL1 : Hid (o.length + 1 ≤ 2097216) := Lib.hid (by have := HI.out.len; rw [HL0.out] at this; omega)
          have HME1 : Hid (∀ x ∈ o ++ [X], x ∈ L ∨ x = X) := Lib.hid (fun x hx => by
            rcases List.mem_append.1 hx with h1 | h1
            · exact HI.out.me x h1
            · rw [List.mem_singleton] at h1
              exact Or.inr h1)
          go_upto_region 6 with fail
          go_quiet (fail)
          have HGQ := Lib.hid (HGW.out.later (below_drewN (Below.refl _ _) nq))
          have HBQ := Lib.hid (below_step HBL.out (below_drewN (Below.refl _ _) nq))
          have HLXW := Lib.hid (HLX.out _ HBQ.out)
          clear c0 cX hlt2
          generalize World.drewN wr nq = wq at *
          go_upto_region 9 with (first
          | (refine wpList_ld rfl 64 _ rfl _ rfl _ HLXW.out ?_)
          | (refine wpList_build_tn rfl 24 27 rfl Tryz.underlying24 X (by rw [HME.out]; rfl) ?_)
          | (refine wpList_append_gen encTn rfl _ _ 24 rfl Tryz.underlying24 tzero 104 infoTn tzero_size (by decide) wB.heap.size _ o rfl (HGQ.out.alloc _) _ 1 1 [X] rfl (Gs.oneTn _ X) (fun h => by cases h) HOL1.out (by have h1 := HBQ.out.size; rw [World.size_alloc]; omega) ?_; intro v8 w8 ho8 hg8; have HO8 := Lib.hid ho8; have HB8 := Lib.hid (below_appT (HBQ.out.alloc HBQ.out.size _) (HGQ.out.alloc _) (Nat.le_refl _) hg8); obtain ⟨p8, c8, hv8, _⟩ := ho8.open; obtain ⟨m8, hm8⟩ : ∃ x, List.length (o ++ [X]) = x := ⟨_, rfl⟩; rw [hm8] at hv8; subst hv8; clear ho8 hg8 hm8))
          obtain ⟨d0, dX⟩ := HC.out _ HB8.out
          by_cases hne : ny = nX
          · have hq := sq_true hne
            have HE2 : Hid (ptL (o ++ [X]) ++ setTB X.e ((ptL L).drop (k + 1)) true = setT (ptL L) X.e) := Lib.hid (by have h1 := HEQ0.out; rw [if_pos hne, List.nil_append] at h1; exact h1)
            clear hne
            go_quiet (fail)
            have HIN : Hid (SeT wB (World.drewN w8 nq) L X wB.heap.size (k + 1) true _ (o ++ [X])) := Lib.hid ⟨HO8.out.later (below_drewN (Below.refl _ _) nq), HE2.out, HME1.out, below_step HB8.out (below_drewN (Below.refl _ _) nq)⟩
            generalize World.drewN w8 nq = wd at *
            go_wp2
            exact ⟨⟨k + 1, _, _, _, _, _, by omega, by go_num, rfl, rfl, HIN⟩, by simp [intOf] <;> omega⟩
          · have hq := sq_false hne
            have HE2 : Hid (ptL ((o ++ [X]) ++ [y]) ++ setTB X.e ((ptL L).drop (k + 1)) true = setT (ptL L) X.e) := Lib.hid (by have h1 := HEQ0.out; rw [if_neg hne] at h1; rw [ptL_append, List.append_assoc]; exact h1)
            have HOL2 : Hid (((o ++ [X])).length + 1 ≤ 2097216) := Lib.hid (by
              have h1 := setT_length (ptL L) X.e
              rw [← HE2.out, List.length_append, ptL_length, ptL_length, List.length_append, List.length_singleton, HL0.out] at h1
              omega)
            clear hne
            go_quiet (fail)
            have HGD := Lib.hid (HO8.out.later (below_drewN (Below.refl _ _) nq))
            have HBD := Lib.hid (below_step HB8.out (below_drewN (Below.refl _ _) nq))
            have HLYD := Lib.hid (HLY.out _ HBD.out)
            generalize World.drewN w8 nq = wd at *
            go_wp2_with (first
                    | (refine wpList_ld rfl 64 _ rfl _ rfl _ HLYD.out ?_)
                    | (refine wpList_build_tn rfl 24 42 rfl Tryz.underlying24 y (by rw [HMY.out]; rfl) ?_)
                    | (refine wpList_append_gen encTn rfl _ _ 24 rfl Tryz.underlying24 tzero 104 infoTn tzero_size (by decide) wB.heap.size _ (o ++ [X]) rfl (HGD.out.alloc _) _ 1 1 [y] rfl (Gs.oneTn _ y) (fun h => by cases h) HOL2.out (by have h1 := HBD.out.size; rw [World.size_alloc]; omega) ?_; intro v9 w9 ho9 hg9; have HO9 := Lib.hid ho9; have HB9 := Lib.hid (below_appT (HBD.out.alloc HBD.out.size _) (HGD.out.alloc _) (Nat.le_refl _) hg9); obtain ⟨p9, c9, hv9, _⟩ := ho9.open; obtain ⟨m9, hm9⟩ : ∃ x, List.length ((o ++ [X]) ++ [y]) = x := ⟨_, rfl⟩; rw [hm9] at hv9; subst hv9; clear ho9 hg9 hm9))
            have HIN : Hid (SeT wB w9 L X wB.heap.size (k + 1) true _ ((o ++ [X]) ++ [y])) := Lib.hid ⟨HO9.out, HE2.out, fun x hx => by
              rcases List.mem_append.1 hx with h1 | h1
              · exact HME1.out x h1
              · rw [List.mem_singleton] at h1
                rw [h1]; exact Or.inl HY.out, HB9.out⟩
            exact ⟨⟨k + 1, _, _, _, _, _, by omega, by go_num, rfl, rfl, HIN⟩, by simp [intOf] <;> omega⟩
    · obtain rfl : k = n := by omega
      have HO : Hid (ptL o ++ (if tb then [] else [X.e]) = setT (ptL L) X.e) := Lib.hid (by
        have h1 := HI.out.eq
        rw [List.drop_of_length_le (by rw [HLL.out]; exact Nat.le_refl _)] at h1
        exact h1)
      have HOL : Hid (o.length + 1 ≤ 2097216) := Lib.hid (by have := HI.out.len; rw [HL0.out] at this; omega)
      have HLXW := Lib.hid (HLX.out wr HI.out.le)
      cases tb with
      | true =>
        go_wp2
        go_ret
        refine ⟨_, o, rfl, by simpa using HO.out, HI.out.gw.mono HB.out.size, HI.out.me, below_step HB.out HI.out.le⟩
      | false =>
        go_wp2_with (first
          | (refine wpList_ld rfl 64 _ rfl _ rfl _ HLXW.out ?_)
          | (refine wpList_build_tn rfl 24 48 rfl Tryz.underlying24 X (by rw [HME.out]; rfl) ?_)
          | (refine wpList_append_gen encTn rfl _ _ 24 rfl Tryz.underlying24 tzero 104 infoTn tzero_size (by decide) wB.heap.size _ o rfl (HI.out.gw.alloc _) _ 1 1 [X] rfl (Gs.oneTn _ X) (fun h => by cases h) HOL.out (by have h1 := HI.out.le.size; rw [World.size_alloc]; omega) ?_; intro v8 w8 ho8 hg8; have HO8 := Lib.hid ho8; have HB8 := Lib.hid (below_appT (HI.out.le.alloc HI.out.le.size (.cells (tnC X.e X.s) 64)) (HI.out.gw.alloc _) (Nat.le_refl _) hg8); clear ho8 hg8))
        go_ret
        refine ⟨_, o ++ [X], rfl, ?_, HO8.out.mono HB.out.size, fun x hx => ?_, below_step HB.out HB8.out⟩
        · rw [ptL_append, show ptL [X] = [X.e] from rfl]
          simpa using HO.out
        · rcases List.mem_append.1 hx with h1 | h1
          · exact HI.out.me x h1
          · rw [List.mem_singleton] at h1
            exact Or.inr h1
set_option maxRecDepth 100000 in
set_option maxHeartbeats 1000000 in
theorem rnew21_any (p : Option Addr) (n c : Nat) (L : List Tx) (w : World) (h : Gs encTn w p n L) (hn : n ≤ 2097152) :
    Calls Tryz.prog 43 #[.slice p n c] w fun e w' => NewTQ w L e w' := by
  have H := Lib.hid h
  have HLL : Hid ((ptL L).length = n) := Lib.hid (by rw [ptL_length, h.len])
  have HS := Lib.hid fun (q : Option Addr) (m d : Nat) (M : List Tx) (X : Tx) W (hW : Gs encTn W q m M) (hm : m ≤ 2097152) => rset21_any q m d M X W hW hm
  clear h
  go_enter Tryz.func43, Tryz.ntmps43
  go_wp2
  go_loopw [3, 4] (fun v j wr => ∃ (k : Nat) (q : Option Addr) (m d : Nat) (o : List Tx), k ≤ n ∧ j = .int .i64 (k : Int) ∧ v = .slice q m d ∧ Hid (ptL o = newT ((ptL L).take k)) ∧ Hid (Gw encTn wr w.heap.size (.slice q m d) o) ∧ Hid (∀ x ∈ o, x ∈ L) ∧ Hid (Below w.heap.size w wr)) (fun _ j _ => n - (intOf j).toNat)
  case atStart => exact ⟨0, none, 0, 0, [], by omega, rfl, rfl, Lib.hid rfl, Lib.hid (Gw.nil _ _ _), Lib.hid (fun x hx => by cases hx), Lib.hid (Below.refl _ _)⟩
  case round =>
    obtain ⟨k, q, m, d, o, hkn, rfl, rfl, HE, HO, HM, HB⟩ := hrel
    by_cases hlt : k < n
    · obtain ⟨b1, off, y, rfl, hy1, hy3, hr⟩ := (H.out.later HB.out).tn k hlt
      have HY := Lib.hid hy3
      have hmm : m ≤ 2097152 := by
        have h1 := newT_length ((ptL L).take k)
        rw [← HE.out, ptL_length, HO.out.len, List.length_take, HLL.out] at h1
        omega
      have HSC := Lib.hid (HS.out q m d o y wr HO.out.gs hmm)
      have HLY := Lib.hid (tn_load hr)
      have HT : Hid (setT (ptL o) y.e = newT ((ptL L).take (k + 1))) := Lib.hid (by
        obtain ⟨h2, h3⟩ := List.getElem?_eq_some_iff.1 (ptL_get hy1)
        rw [List.take_succ_eq_append_getElem h2, h3, newT_snoc, HE.out])
      have hki : (k : Int) < (n : Int) := by omega
      have hk0 : (0 : Int) ≤ (k : Int) := by omega
      unfold tnV at HSC
      generalize tnC y.e y.s = MY at *
      clear hr hy1 hy3 hmm
      go_wp2_with (first
        | (refine wpList_ld rfl 64 _ rfl _ rfl _ HLY.out ?_)
        | (go_at_call 76; refine HSC.out.mono ?_; rintro e w2 ⟨v2, o2, rfl, he2, ho2, hm2, hb2⟩; obtain ⟨q2, d2, hv2, _⟩ := ho2.open; obtain ⟨n2, hn2⟩ : ∃ x, o2.length = x := ⟨_, rfl⟩; rw [hn2] at hv2; subst hv2; have HE2 := Lib.hid (he2.trans HT.out); have HO2 := Lib.hid (ho2.mono HB.out.size); have HM2 : Hid (∀ x ∈ o2, x ∈ L) := (Lib.hid (fun x hx => (hm2 x hx).elim (HM.out x) (fun h => by rw [h]; exact HY.out))); have HB2 := Lib.hid (below_step HB.out hb2); clear he2 ho2 hm2 hb2 hn2))
      exact ⟨⟨k + 1, q2, n2, d2, o2, by omega, by go_num, rfl, HE2, HO2, HM2, HB2⟩, by simp [intOf] <;> omega⟩
    · obtain rfl : k = n := by omega
      have HF : Hid (ptL o = newT (ptL L)) := Lib.hid (by have h1 := HE.out; rwa [List.take_of_length_le (by rw [HLL.out]; exact Nat.le_refl _)] at h1)
      go_wp2
      go_ret
      exact ⟨_, o, rfl, HF.out, HO.out, HM.out, HB.out⟩
/-- a row of numbers of the call's own outlives an append to a row of names' entries of its own -/
theorem Gw.besideTn {W W' : World} {B B' : Nat} {s v : Value} {I : List Int} {o : List Tx} (h : Gw encI W B s I) (hv : Gw encTn W B' v o) (hg : W.grownBy W' v.ownBlock) : Gw encI W' B s I := by
  refine h.kept hg fun b hb e => ?_
  obtain ⟨_, h2⟩ := h
  obtain ⟨_, h3⟩ := hv
  rcases h2 with ⟨h4, _⟩ | ⟨g, cap, cur, h4, _, h5, _⟩
  · rw [h4] at hb; cases hb
  · rcases h3 with ⟨h6, _⟩ | ⟨g', cap', cur', h6, _, h7, _⟩
    · rw [h6] at e; cases e
    · rw [h4] at hb
      rw [h6] at e
      simp only [Value.ownBlock, Option.some.injEq] at hb e
      subst hb
      subst e
      rw [h5] at h7
      simp only [Option.some.injEq, Obj.cells.injEq] at h7
      exact absurd h7.2.1 (by decide)
theorem keepTs_take {L : List Pt} {k : Nat} {x : Pt} (h : L[k]? = some x) (b : List Int) : keepTs (L.take (k + 1)) b = keepTs (L.take k) b ++ if (keepT x b).2 then [(keepT x b).1] else [] := by
  obtain ⟨h2, h3⟩ := List.getElem?_eq_some_iff.1 h
  rw [List.take_succ_eq_append_getElem h2, h3]
  unfold keepTs
  rw [List.flatMap_append]
  simp
theorem keepT_dok21 {e : Pt} (h : dok e.dg) (B : List Int) : dok (keepT e B).1.dg := by
  unfold keepT
  split
  · exact h
  · split
    · exact dz32_ok
    · exact dz32_ok
theorem gwTn_open {W : World} {B : Nat} {v : Value} {o : List Tx} (h : Gw encTn W B v o) : ∃ q d, v = .slice q o.length d ∧ o.length ≤ d ∧ d ≤ maxLen ∧ (q = none → d = 0) ∧ ∀ b off, q = some ⟨b, off, none⟩ → B ≤ b := by
  obtain ⟨_, h2⟩ := h
  rcases h2 with ⟨h4, h0⟩ | ⟨g, cap, cur, h4, hB, _, hn, hm, _⟩
  · exact ⟨none, 0, by rw [h4, h0], by omega, by unfold maxLen; decide, fun _ => rfl, (fun b off e => by cases e)⟩
  · refine ⟨_, cap, h4, hn, hm, (fun e => by cases e), fun b off e => ?_⟩
    simp only [Option.some.injEq, Addr.mk.injEq] at e
    omega
def KepTQ (w : World) (L : List Tx) (B : List Int) (e : Ending) (w' : World) : Prop := ∃ v o, e = .returned v ∧ ptL o = keepTs (ptL L) B ∧ Gw encTn w' w.heap.size v o ∧ (∀ x ∈ o, dok x.e.dg ∧ Gw encI w' w.heap.size x.s x.e.ins) ∧ Below w.heap.size w w'
/-- what Apply answers: the same row, or one of its own -/
def AppTQ (w : World) (p : Option Addr) (n c : Nat) (L : List Tx) (x : Wq) (e : Ending) (w' : World) : Prop :=
  ∃ q m d o, e = .returned (.slice q m d) ∧ ptL o = applyT (ptL L) x ∧ Gs encTn w' q m o ∧ ((q = p ∧ m = n) ∨ ∀ b off, q = some ⟨b, off, none⟩ → w.heap.size ≤ b) ∧ (∀ y ∈ o, y ∈ L ∨ dok y.e.dg ∧ Gw encI w' w.heap.size y.s y.e.ins) ∧ (q = none → d = 0 ∨ q = p ∧ d = c) ∧ Below w.heap.size w w'
section
variable (Ix : World → (Nat → Prop) → (Nat → Prop) → Value → List Pe → Prop)
/-- an index that is made -/
def NewIQ (w : World) (N : Nat → Prop) (L : List Pe) (e : Ending) (w' : World) : Prop := ∃ v S F, e = .returned v ∧ Ix w' S F v (newE L) ∧ (∀ b, S b → w.heap.size ≤ b) ∧ (∀ b, F b → N b ∨ w.heap.size ≤ b) ∧ Below w.heap.size w w'
/-- an index that is turned -/
def OpQ (w : World) (S F : Nat → Prop) (v : Value) (L : List Pe) (e : Ending) (w' : World) : Prop := ∃ S' F', e = .returned (.tuple #[]) ∧ Ix w' S' F' v L ∧ Chg S w w' ∧ (∀ b, S' b → S b ∨ w.heap.size ≤ b) ∧ (∀ b, F' b → F b ∨ w.heap.size ≤ b)
end
def GetIQ (w : World) (F : Nat → Prop) (r : Pe × Bool) (e : Ending) (w' : World) : Prop := ∃ s, e = .returned (.tuple #[enV r.1 s, .bool r.2]) ∧ Is w' s r.1.ins ∧ (r.1.ins ≠ [] → ∀ b, s.ownBlock = some b → F b ∨ w.heap.size ≤ b) ∧ Below w.heap.size w w'
def RowIQ (w : World) (F : Nat → Prop) (L : List Pe) (e : Ending) (w' : World) : Prop := ∃ p n c Ls N, e = .returned (.slice p n c) ∧ peL Ls = L ∧ ReN w' N p n Ls ∧ (∀ b, N b → F b ∨ w.heap.size ≤ b) ∧ (p = none → c = 0) ∧ n ≤ c ∧ c ≤ maxLen ∧ Below w.heap.size w w'
/-- Ix w S F v L: in w, v is an index that holds L; its own blocks are those of S, what it reads besides lies in those of F -/
structure IdxOk (Ix : World → (Nat → Prop) → (Nat → Prop) → Value → List Pe → Prop) : Prop where
  keep : ∀ {w w' : World} {S F : Nat → Prop} {v : Value} {L : List Pe}, Ix w S F v L → (∀ b, S b ∨ F b → w'.heap[b]? = w.heap[b]?) → w.heap.size ≤ w'.heap.size → Ix w' S F v L
  lt : ∀ {w : World} {S F : Nat → Prop} {v : Value} {L : List Pe}, Ix w S F v L → ∀ b, S b ∨ F b → b < w.heap.size
  dis : ∀ {w : World} {S F : Nat → Prop} {v : Value} {L : List Pe}, Ix w S F v L → ∀ b, S b → ¬ F b
  ok : ∀ {w : World} {S F : Nat → Prop} {v : Value} {L : List Pe}, Ix w S F v L → rowE L ∧ ∀ x ∈ L, dok x.dg
  new : ∀ {w : World} {N : Nat → Prop} {p : Option Addr} {n c : Nat} {Ls : List Ex}, ReN w N p n Ls → (p = none → c = 0) → n ≤ c → c ≤ maxLen → n ≤ 1048576 → insLe (peL Ls) 2097151 → Calls Tryz.prog 40 #[.slice p n c] w fun e w' => NewIQ Ix w N (peL Ls) e w'
  apply : ∀ {w : World} {S F : Nat → Prop} {v : Value} {L : List Pe} (x : Wq), Ix w S F v L → dok x.dg → L.length ≤ 1048576 → insLe L 2097151 → Calls Tryz.prog 45 #[v, x.v] w fun e w' => OpQ Ix w S F v (applyE L x) e w'
  keepS : ∀ {w : World} {S F : Nat → Prop} {v u : Value} {L : List Pe} {B : List Int}, Ix w S F v L → Is w u B → (B ≠ [] → ∀ b, u.ownBlock = some b → ¬ S b) → B.length ≤ 2097152 → L.length ≤ 1048576 → insLe L 2097151 → Calls Tryz.prog 49 #[v, u] w fun e w' => OpQ Ix w S F v (keepR L B) e w'
  get : ∀ {w : World} {S F : Nat → Prop} {v : Value} {L : List Pe} (d : List Int), Ix w S F v L → dok d → Calls Tryz.prog 64 #[v, .agg (bcs d)] w fun e w' => GetIQ w F (getR L d) e w'
  row : ∀ {w : World} {S F : Nat → Prop} {v : Value} {L : List Pe}, Ix w S F v L → L.length ≤ 1048576 → Calls Tryz.prog 54 #[v] w fun e w' => RowIQ w F L e w'
  count : ∀ {w : World} {S F : Nat → Prop} {v : Value} {L : List Pe}, Ix w S F v L → L.length ≤ 1048576 → Calls Tryz.prog 66 #[v] w fun e w' => e = .returned (.tuple #[.int .i64 (cntE L : Int), .int .i64 (IntKind.i64.wrap (sumE L))]) ∧ Below w.heap.size w w'
theorem IdxOk.later {Ix : World → (Nat → Prop) → (Nat → Prop) → Value → List Pe → Prop} (hT : IdxOk Ix) {w w' : World} {S F : Nat → Prop} {v : Value} {L : List Pe} (h : Ix w S F v L) (hb : Below w.heap.size w w') : Ix w' S F v L :=
  hT.keep h (fun b hb2 => hb.block b (hT.lt h b hb2)) hb.size
theorem ReN.none (w : World) : ReN w (fun _ => False) none 0 [] := ⟨Gs.empty _ _ _, fun h => absurd rfl h, (fun x h => by cases h), (fun x h => by cases h), (fun x h => by cases h), fun b h => h.elim⟩
theorem wd_lay {w W : World} {x : Wq} {b : Nat} (hb : w.heap.size = b) (h : (w.alloc (.cells (mixC wq0.a wq0.dg wq0.t) 39)).setRow b (mixC x.a x.dg x.t) = W) : Wm W b x ∧ Below w.heap.size w W := by
  subst hb
  rw [← h]
  exact ⟨Mx.row (show Wm (w.alloc (.cells (mixC wq0.a wq0.dg wq0.t) 39)) w.heap.size wq0 from heap_alloc_new _ _), below_setRow8 ((Below.refl _ _).alloc (Nat.le_refl _) _) _ _ (Nat.le_refl _)⟩
end Go.Proofs.YtpfbfhigelbfcaaGreat

