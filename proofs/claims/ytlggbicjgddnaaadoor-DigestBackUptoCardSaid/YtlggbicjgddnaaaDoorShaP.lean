/- SHA-256 on plain numbers: what both sides of layer 4 are held against. -/
import Derived.Test.YtlggbicjgddnaaaDoorInf
import Derived.Laws.BitsAllLaws
namespace Go.Proofs.YtlggbicjgddnaaaDoor
set_option linter.unusedVariables false
open Go.RowKit Go.Lib

/-- turned right -/
def rr (x n : Nat) : Nat := (x / 2 ^ n) ||| (x * 2 ^ (32 - n) % 4294967296)
def ss0 (x : Nat) : Nat := (rr x 7 ^^^ rr x 18) ^^^ (x / 8)
def ss1 (x : Nat) : Nat := (rr x 17 ^^^ rr x 19) ^^^ (x / 1024)
def sS0 (x : Nat) : Nat := (rr x 2 ^^^ rr x 13) ^^^ rr x 22
def sS1 (x : Nat) : Nat := (rr x 6 ^^^ rr x 11) ^^^ rr x 25
def sch1 (e f g : Nat) : Nat := (e &&& f) ^^^ ((4294967295 - e) &&& g)
def smaj (a b c : Nat) : Nat := ((a &&& b) ^^^ (a &&& c)) ^^^ (b &&& c)

/-- the eight variables -/
structure St where
  a : Nat
  b : Nat
  c : Nat
  d : Nat
  e : Nat
  f : Nat
  g : Nat
  h : Nat

def St.ok (s : St) : Prop := s.a < 4294967296 ∧ s.b < 4294967296 ∧ s.c < 4294967296 ∧ s.d < 4294967296 ∧ s.e < 4294967296 ∧ s.f < 4294967296 ∧ s.g < 4294967296 ∧ s.h < 4294967296

def st1 (k w : Nat) (s : St) : Nat := (s.h + sS1 s.e + sch1 s.e s.f s.g + k + w) % 4294967296
def st2 (s : St) : Nat := (sS0 s.a + smaj s.a s.b s.c) % 4294967296
def rnd (k w : Nat) (s : St) : St := ⟨(st1 k w s + st2 s) % 4294967296, s.a, s.b, s.c, (s.d + st1 k w s) % 4294967296, s.e, s.f, s.g⟩

def mixN (ks ws : List Nat) (s : St) : Nat → St
  | 0 => s
  | n + 1 => rnd (ks.getD n 0) (ws.getD n 0) (mixN ks ws s n)
def St.plus (s t : St) : St := ⟨(s.a + t.a) % 4294967296, (s.b + t.b) % 4294967296, (s.c + t.c) % 4294967296, (s.d + t.d) % 4294967296, (s.e + t.e) % 4294967296, (s.f + t.f) % 4294967296, (s.g + t.g) % 4294967296, (s.h + t.h) % 4294967296⟩
def mixW (ks ws : List Nat) (s : St) : St := (mixN ks ws s 64).plus s

/-- the next word of a schedule -/
def snx (l : List Nat) : Nat := (ss1 (l.getD (l.length - 2) 0) + l.getD (l.length - 7) 0 + ss0 (l.getD (l.length - 15) 0) + l.getD (l.length - 16) 0) % 4294967296
def sched (l : List Nat) : Nat → List Nat
  | 0 => l
  | n + 1 => sched l n ++ [snx (sched l n)]

/-- four bytes -/
def wd (zs : List Int) (t : Nat) : Nat := (zs.getD (4 * t) 0).toNat * 16777216 + (zs.getD (4 * t + 1) 0).toNat * 65536 + (zs.getD (4 * t + 2) 0).toNat * 256 + (zs.getD (4 * t + 3) 0).toNat
def wds (zs : List Int) (n : Nat) : List Nat := (List.range n).map (wd zs)
def mixB (ks : List Nat) (s : St) (zs : List Int) : St := mixW ks (sched (wds zs 16) 48) s
def runS (ks : List Nat) (s : St) (zs : List Int) : Nat → St
  | 0 => s
  | n + 1 => mixB ks (runS ks s zs n) (zs.drop (64 * n))

def be64 (n : Nat) : List Int := (List.range 8).map fun i => (((n / 2 ^ (8 * (7 - i))) % 256 : Nat) : Int)
def padZ (n : Nat) : Nat := (119 - n % 64) % 64
def padOf (n : Nat) : List Int := 128 :: (List.replicate (padZ n) 0 ++ be64 (8 * n))
def msg (zs : List Int) : List Int := zs ++ padOf zs.length

def wbytes (x : Nat) : List Int := [((x / 16777216 % 256 : Nat) : Int), ((x / 65536 % 256 : Nat) : Int), ((x / 256 % 256 : Nat) : Int), ((x / 1 % 256 : Nat) : Int)]
def St.list (s : St) : List Nat := [s.a, s.b, s.c, s.d, s.e, s.f, s.g, s.h]
def dig (s : St) : List Int := s.list.flatMap wbytes

def kS : List Nat := [1116352408, 1899447441, 3049323471, 3921009573, 961987163, 1508970993, 2453635748, 2870763221, 3624381080, 310598401, 607225278, 1426881987, 1925078388, 2162078206, 2614888103, 3248222580, 3835390401, 4022224774, 264347078, 604807628, 770255983, 1249150122, 1555081692, 1996064986, 2554220882, 2821834349, 2952996808, 3210313671, 3336571891, 3584528711, 113926993, 338241895, 666307205, 773529912, 1294757372, 1396182291, 1695183700, 1986661051, 2177026350, 2456956037, 2730485921, 2820302411, 3259730800, 3345764771, 3516065817, 3600352804, 4094571909, 275423344, 430227734, 506948616, 659060556, 883997877, 958139571, 1322822218, 1537002063, 1747873779, 1955562222, 2024104815, 2227730452, 2361852424, 2428436474, 2756734187, 3204031479, 3329325298]
def hS : St := ⟨1779033703, 3144134277, 1013904242, 2773480762, 1359893119, 2600822924, 528734635, 1541459225⟩

def shaS (zs : List Int) : List Int := dig (runS kS hS (msg zs) ((msg zs).length / 64))

theorem shaS_abc : shaS [97, 98, 99] = [186, 120, 22, 191, 143, 1, 207, 234, 65, 65, 64, 222, 93, 174, 34, 35, 176, 3, 97, 163, 150, 23, 122, 156, 180, 16, 255, 97, 242, 0, 21, 173] := by decide +kernel

/-! bounds -/
theorem rr_lt {x : Nat} (n : Nat) (h : x < 4294967296) : rr x n < 4294967296 := by
  unfold rr
  exact Nat.or_lt_two_pow (n := 32) (Nat.lt_of_le_of_lt (Nat.div_le_self _ _) h) (Nat.mod_lt _ (by decide))
theorem xor32 {x y : Nat} (h : x < 4294967296) (k : y < 4294967296) : x ^^^ y < 4294967296 := Nat.xor_lt_two_pow (n := 32) h k
theorem and32 {x : Nat} (y : Nat) (h : x < 4294967296) : x &&& y < 4294967296 := Nat.lt_of_le_of_lt Nat.and_le_left h
theorem or32 {x y : Nat} (h : x < 4294967296) (k : y < 4294967296) : x ||| y < 4294967296 := Nat.or_lt_two_pow (n := 32) h k
theorem ss0_lt {x : Nat} (h : x < 4294967296) : ss0 x < 4294967296 := xor32 (xor32 (rr_lt _ h) (rr_lt _ h)) (by omega)
theorem ss1_lt {x : Nat} (h : x < 4294967296) : ss1 x < 4294967296 := xor32 (xor32 (rr_lt _ h) (rr_lt _ h)) (by omega)
theorem sS0_lt {x : Nat} (h : x < 4294967296) : sS0 x < 4294967296 := xor32 (xor32 (rr_lt _ h) (rr_lt _ h)) (rr_lt _ h)
theorem sS1_lt {x : Nat} (h : x < 4294967296) : sS1 x < 4294967296 := xor32 (xor32 (rr_lt _ h) (rr_lt _ h)) (rr_lt _ h)
theorem sch1_lt {e f g : Nat} (h : e < 4294967296) : sch1 e f g < 4294967296 := xor32 (and32 _ h) (and32 _ (by omega))
theorem smaj_lt {a b c : Nat} (h : a < 4294967296) (k : b < 4294967296) : smaj a b c < 4294967296 := xor32 (xor32 (and32 _ h) (and32 _ h)) (and32 _ k)

theorem m32 (x : Nat) : x % 4294967296 < 4294967296 := Nat.mod_lt _ (by decide)
theorem rnd_ok {s : St} (k w : Nat) (h : s.ok) : (rnd k w s).ok := by
  obtain ⟨h1, h2, h3, h4, h5, h6, h7, h8⟩ := h
  exact ⟨m32 _, h1, h2, h3, m32 _, h5, h6, h7⟩
theorem plus_ok (s t : St) : (s.plus t).ok := ⟨m32 _, m32 _, m32 _, m32 _, m32 _, m32 _, m32 _, m32 _⟩
theorem mixN_ok {s : St} (ks ws : List Nat) (h : s.ok) (n : Nat) : (mixN ks ws s n).ok := by
  induction n with
  | zero => exact h
  | succ n ih => exact rnd_ok _ _ ih
theorem mixW_ok (ks ws : List Nat) (s : St) : (mixW ks ws s).ok := plus_ok _ _
theorem hS_ok : hS.ok := by unfold St.ok hS; decide
theorem runS_ok {ks : List Nat} {s : St} (h : s.ok) (zs : List Int) (n : Nat) : (runS ks s zs n).ok := by
  cases n with
  | zero => exact h
  | succ n => exact mixW_ok _ _ _

def lt32 (l : List Nat) : Prop := ∀ j, l.getD j 0 < 4294967296
theorem kS_lt : lt32 kS := by
  intro j
  by_cases h : j < 64
  · have : ∀ j : Fin 64, kS.getD j.val 0 < 4294967296 := by decide +kernel
    exact this ⟨j, h⟩
  · have : kS.length = 64 := rfl
    rw [List.getD_eq_getElem?_getD, List.getElem?_eq_none (by omega)]; simp
theorem sched_length (l : List Nat) (n : Nat) : (sched l n).length = l.length + n := by
  induction n with
  | zero => rfl
  | succ n ih => simp [sched, ih]; omega
theorem lt32_snoc {l : List Nat} {x : Nat} (h : lt32 l) (hx : x < 4294967296) : lt32 (l ++ [x]) := by
  intro j
  have := h j
  simp only [List.getD_eq_getElem?_getD] at *
  rw [List.getElem?_append]
  split
  · exact this
  · cases hj : j - l.length with
    | zero => simpa using hx
    | succ m => simp
theorem sched_lt {l : List Nat} (h : lt32 l) (n : Nat) : lt32 (sched l n) := by
  induction n with
  | zero => exact h
  | succ n ih => exact lt32_snoc ih (m32 _)
theorem wd_lt {zs : List Int} (hz : ∀ j, 0 ≤ zs.getD j 0 ∧ zs.getD j 0 < 256) (t : Nat) : wd zs t < 4294967296 := by
  have h0 := hz (4 * t)
  have h1 := hz (4 * t + 1)
  have h2 := hz (4 * t + 2)
  have h3 := hz (4 * t + 3)
  unfold wd
  omega
theorem wds_length (zs : List Int) (n : Nat) : (wds zs n).length = n := by simp [wds]
theorem wds_getD (zs : List Int) {n j : Nat} (h : j < n) : (wds zs n).getD j 0 = wd zs j := by
  simp [wds, List.getD_eq_getElem?_getD, h]
theorem wds_lt {zs : List Int} (hz : ∀ j, 0 ≤ zs.getD j 0 ∧ zs.getD j 0 < 256) (n : Nat) : lt32 (wds zs n) := by
  intro j
  by_cases h : j < n
  · rw [wds_getD zs h]; exact wd_lt hz j
  · rw [List.getD_eq_getElem?_getD, List.getElem?_eq_none (by rw [wds_length]; omega)]; simp
theorem wds_succ (zs : List Int) (n : Nat) : wds zs (n + 1) = wds zs n ++ [wd zs n] := by simp [wds, List.range_succ]
theorem sched_getD_lt (l : List Nat) (n j : Nat) (h : j < l.length + n) : (sched l (n + 1)).getD j 0 = (sched l n).getD j 0 := by
  simp only [sched, List.getD_eq_getElem?_getD]
  rw [List.getElem?_append, if_pos (by rw [sched_length]; exact h)]
end Go.Proofs.YtlggbicjgddnaaaDoor
