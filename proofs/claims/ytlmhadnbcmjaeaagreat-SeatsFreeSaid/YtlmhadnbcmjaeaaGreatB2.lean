/-
 A part of the proofs over this seat.
 (The texts Ad10 Ad11 Ad12 Ad13, one behind the other.)
-/
import Derived.Test.YtlmhadnbcmjaeaaGreatB1
set_option linter.unusedSimpArgs false
set_option linter.unusedVariables false
set_option linter.unusedSectionVars false
section
namespace Go.Ab.Srt
open Go.Sort
set_option maxRecDepth 8000
set_option maxHeartbeats 4000000
variable {ft : FuncId → Option AFn}
abbrev U64 (n : Int) : AV := .int .u64 n
theorem wrapU_nat (z : Int) : ∃ y : Nat, y < 18446744073709551616 ∧ IntKind.u64.wrap z = (y : Int) := by
 simp only [IntKind.wrap, IntKind.bits, IntKind.signed, Bool.false_and, Bool.false_eq_true, if_false, Int.reducePow]
 have h0 := Int.emod_nonneg z (show (18446744073709551616 : Int) ≠ 0 by omega)
 have h1 := Int.emod_lt_of_pos z (show (0 : Int) < 18446744073709551616 by omega)
 exact ⟨(z % 18446744073709551616).toNat, by omega, by omega⟩
theorem xorI_nat (x y : Int) : ∃ z : Nat, z < 18446744073709551616 ∧ xorI .u64 x y = (z : Int) := wrapU_nat _
theorem xorNext_run {f : FuncId} (hf : ft f = some ⟨1, xorNextC, xorNextR, .r⟩) {m : Mem} {rd : Nat} {x : Int} (hx : m.blks[rd]? = some (.live [U64 x] 1)) (K : AV → Mem → Prop)
  (hK : ∀ y : Nat, y < 18446744073709551616 → K (U64 (y : Int)) ⟨m.blks.set rd (.live [U64 (y : Int)] 1), m.toks⟩) : WR ft (.f f) [.ptr rd 0 0] m K := by
 rw [WR_f hf rfl]
 simp only [xorNextC, xorNextR]
 have hlen : rd < m.blks.length := (List.getElem?_eq_some_iff.1 hx).1
 have hs : ∀ b : Blk, (m.blks.set rd b)[rd]? = some b := fun b => List.getElem?_set_self hlen
 have h13 : ∀ z : Int, binOp .shl (U64 z) (U64 13) = some (U64 (IntKind.u64.wrap (z * 2 ^ 13))) := fun z => rfl
 have h17 : ∀ z : Int, binOp .shl (U64 z) (U64 17) = some (U64 (IntKind.u64.wrap (z * 2 ^ 17))) := fun z => rfl
 have h7 : ∀ z : Int, binOp .shr (U64 z) (U64 7) = some (U64 (z.fdiv (2 ^ 7))) := fun z => rfl
 simp only [go_sem, Nat.reduceEqDiff, Nat.reduceAdd, Nat.reduceLT, Nat.reduceLeDiff, reduceIte, hx, Nat.zero_add, hs, List.set_set, h13, h17, h7]
 obtain ⟨y, h1, h2⟩ := xorI_nat _ _
 rw [h2]
 exact hK y h1
theorem bitsLen_shift {n s : Nat} (h : 2 ^ s ≤ n) : bitsLen n = bitsLen (n / 2 ^ s) + s := by
 have hp : 0 < 2 ^ s := Nat.two_pow_pos s
 have h1 : 1 ≤ n / 2 ^ s := (Nat.le_div_iff_mul_le hp).2 (by omega)
 obtain ⟨k, hk⟩ : ∃ k, k = bitsLen (n / 2 ^ s) := ⟨_, rfl⟩
 have hk1 : n / 2 ^ s < 2 ^ k := by rw [hk]; exact lt_two_pow_bitsLen _
 have hk0 : 1 ≤ k := by
  cases k with
  | zero => simp at hk1; omega
  | succ k => omega
 have ub : bitsLen n ≤ k + s := by
  rw [bitsLen_le_iff, Nat.pow_add]
  exact (Nat.div_lt_iff_lt_mul hp).1 hk1
 have lb : k + s ≤ bitsLen n := by
  refine Classical.byContradiction fun hc => ?_
  have h2 : bitsLen n ≤ (k - 1) + s := by omega
  rw [bitsLen_le_iff, Nat.pow_add] at h2
  have h3 := (Nat.div_lt_iff_lt_mul hp).2 h2
  have := (bitsLen_le_iff _ _).2 h3
  omega
 omega
theorem tab8_get : ∀ i : _root_.Fin 256, tab8[i.val]? = some (UInt8.ofNat (bitsLen i.val)) := by decide +kernel
theorem tab8_at (x : Nat) (h : x < 256) : sidxAt (.str tab8) (.int .u8 (x : Int)) = some (.int .u8 ((bitsLen x : Nat) : Int)) := by
 have h1 := tab8_get ⟨x, h⟩
 have h2 : bitsLen x ≤ 8 := (bitsLen_le_iff _ _).2 (by simpa using h)
 simp only [sidxAt]
 rw [if_pos (by omega), Int.toNat_natCast, h1]
 simp only [Option.map_some]
 have : (UInt8.ofNat (bitsLen x)).toNat = bitsLen x := by simp; omega
 rw [this]
theorem len64_ok {f : FuncId} {md : Md} (hf : ft f = some ⟨1, len64C, len64R, md⟩) {n : Nat} (hn : n < 4294967296) : RV ft f [U64 (n : Int)] (I64 ((bitsLen n : Nat) : Int)) := by
 refine RV_of hf rfl ?_
 simp only [len64C, len64R]
 have c1 : decide ((4294967296 : Int) ≤ (n : Int)) = false := decide_eq_false (by omega)
 have s16 : ∀ z : Nat, binOp .shr (U64 (z : Int)) (U64 16) = some (U64 ((z / 65536 : Nat) : Int)) := fun z => by
  show some (U64 (Int.fdiv (z : Int) (2 ^ 16))) = _
  rw [shr_nat, Nat.shiftRight_eq_div_pow]
 have s8 : ∀ z : Nat, binOp .shr (U64 (z : Int)) (U64 8) = some (U64 ((z / 256 : Nat) : Int)) := fun z => by
  show some (U64 (Int.fdiv (z : Int) (2 ^ 8))) = _
  rw [shr_nat, Nat.shiftRight_eq_div_pow]
 have fin : ∀ (x : Nat) (h : x < 256), IntKind.u8.wrap (x : Int) = (x : Int) ∧ IntKind.i64.wrap ((bitsLen x : Nat) : Int) = ((bitsLen x : Nat) : Int) ∧ bitsLen x ≤ 8 := fun x h => by
  have h2 : bitsLen x ≤ 8 := (bitsLen_le_iff _ _).2 (by simpa using h)
  exact ⟨wrap_u8 _ (by omega) (by omega), wrap_i64 _ (by omega) (by omega), h2⟩
 by_cases h16 : 65536 ≤ n
 ·have e16 : bitsLen n = bitsLen (n / 65536) + 16 := bitsLen_shift (s := 16) (by simpa using h16)
  have c16 : decide ((65536 : Int) ≤ (n : Int)) = true := decide_eq_true (by omega)
  by_cases h8 : 256 ≤ n / 65536
  ·have e8 : bitsLen (n / 65536) = bitsLen (n / 65536 / 256) + 8 := bitsLen_shift (s := 8) (by simpa using h8)
   have c8 : decide ((256 : Int) ≤ ((n / 65536 : Nat) : Int)) = true := decide_eq_true (by omega)
   obtain ⟨f1, f2, f3⟩ := fin (n / 65536 / 256) (by omega)
   have t8 := tab8_at (n / 65536 / 256) (by omega)
   have w1 : IntKind.i64.wrap ((0 : Int) + 16) = 16 := rfl
   have w2 : IntKind.i64.wrap ((16 : Int) + 8) = 24 := rfl
   have w3 : IntKind.i64.wrap ((24 : Int) + ((bitsLen (n / 65536 / 256) : Nat) : Int)) = ((bitsLen n : Nat) : Int) := by rw [wrap_i64 _ (by omega) (by omega)]; omega
   simp only [go_sem, Nat.reduceEqDiff, Nat.reduceAdd, Nat.reduceLT, Nat.reduceLeDiff, reduceIte, c1, c16, s16, c8, s8, f1, f2, t8, w1, w2, w3]
  ·have c8 : decide ((256 : Int) ≤ ((n / 65536 : Nat) : Int)) = false := decide_eq_false (by omega)
   obtain ⟨f1, f2, f3⟩ := fin (n / 65536) (by omega)
   have t8 := tab8_at (n / 65536) (by omega)
   have w1 : IntKind.i64.wrap ((0 : Int) + 16) = 16 := rfl
   have w3 : IntKind.i64.wrap ((16 : Int) + ((bitsLen (n / 65536) : Nat) : Int)) = ((bitsLen n : Nat) : Int) := by rw [wrap_i64 _ (by omega) (by omega)]; omega
   simp only [go_sem, Nat.reduceEqDiff, Nat.reduceAdd, Nat.reduceLT, Nat.reduceLeDiff, reduceIte, c1, c16, s16, c8, f1, f2, t8, w1, w3]
 ·have c16 : decide ((65536 : Int) ≤ (n : Int)) = false := decide_eq_false (by omega)
  by_cases h8 : 256 ≤ n
  ·have e8 : bitsLen n = bitsLen (n / 256) + 8 := bitsLen_shift (s := 8) (by simpa using h8)
   have c8 : decide ((256 : Int) ≤ (n : Int)) = true := decide_eq_true (by omega)
   obtain ⟨f1, f2, f3⟩ := fin (n / 256) (by omega)
   have t8 := tab8_at (n / 256) (by omega)
   have w2 : IntKind.i64.wrap ((0 : Int) + 8) = 8 := rfl
   have w3 : IntKind.i64.wrap ((8 : Int) + ((bitsLen (n / 256) : Nat) : Int)) = ((bitsLen n : Nat) : Int) := by rw [wrap_i64 _ (by omega) (by omega)]; omega
   simp only [go_sem, Nat.reduceEqDiff, Nat.reduceAdd, Nat.reduceLT, Nat.reduceLeDiff, reduceIte, c1, c16, c8, s8, f1, f2, t8, w2, w3]
  ·have c8 : decide ((256 : Int) ≤ (n : Int)) = false := decide_eq_false (by omega)
   obtain ⟨f1, f2, f3⟩ := fin n (by omega)
   have t8 := tab8_at n (by omega)
   have w3 : IntKind.i64.wrap ((0 : Int) + ((bitsLen n : Nat) : Int)) = ((bitsLen n : Nat) : Int) := by rw [Int.zero_add]; exact f2
   simp only [go_sem, Nat.reduceEqDiff, Nat.reduceAdd, Nat.reduceLT, Nat.reduceLeDiff, reduceIte, c1, c16, c8, f1, f2, t8, w3]
theorem bitsLen_ok {f l3 l6 : FuncId} {md md' : Md} (hf : ft f = some ⟨1, bitsLenC l3 l6, bitsLenR, md⟩) (h6 : ft l6 = some ⟨1, len64C, len64R, .v⟩) {n : Nat} (hn : n < 4294967296) : RV ft f [U64 (n : Int)] (I64 ((bitsLen n : Nat) : Int)) := by
 refine RV_of hf rfl ?_
 simp only [bitsLenC, bitsLenR]
 have hw : ∀ (s : St) (as : List AV) (K : AV → St → Prop), WB ft l6 as s K = WV ft l6 (as.map (snap s.mem dep)) fun v => (as.all (fun a => !hot dep a) || plain dep v) = true ∧ K v s := fun s as K => WB_v h6 rfl as s K
 simp only [go_sem, Nat.reduceEqDiff, Nat.reduceAdd, Nat.reduceLT, Nat.reduceLeDiff, reduceIte, hw, WVH_eq (len64_ok h6 hn)]
theorem nextPow_ok {f fb l3 l6 : FuncId} {md : Md} (hf : ft f = some ⟨1, nextPowC fb, nextPowR, md⟩) (hb : ft fb = some ⟨1, bitsLenC l3 l6, bitsLenR, .v⟩) (h6 : ft l6 = some ⟨1, len64C, len64R, .v⟩) {n : Nat} (hn : n < 1073741824) :
  RV ft f [I64 (n : Int)] (U64 ((2 ^ bitsLen n : Nat) : Int)) := by
 refine RV_of hf rfl ?_
 simp only [nextPowC, nextPowR]
 have hk : bitsLen n ≤ 30 := (bitsLen_le_iff _ _).2 (by simpa using hn)
 have hp : 2 ^ bitsLen n ≤ 2 ^ 30 := Nat.pow_le_pow_right (by omega) hk
 have hw : ∀ (s : St) (as : List AV) (K : AV → St → Prop), WB ft fb as s K = WV ft fb (as.map (snap s.mem dep)) fun v => (as.all (fun a => !hot dep a) || plain dep v) = true ∧ K v s := fun s as K => WB_v hb rfl as s K
 have hu : IntKind.u64.wrap (n : Int) = (n : Int) := wrap_u64 _ (by omega) (by omega)
 have hs : binOp .shl (U64 1) (I64 ((bitsLen n : Nat) : Int)) = some (U64 ((2 ^ bitsLen n : Nat) : Int)) := by
  rw [binOp_shl, if_neg (by omega), Int.toNat_natCast]
  rw [show min (bitsLen n) IntKind.u64.bits = bitsLen n from Nat.min_eq_left (by show bitsLen n ≤ 64; omega)]
  have e : (1 : Int) * 2 ^ bitsLen n = ((2 ^ bitsLen n : Nat) : Int) := by simp
  rw [e]
  generalize 2 ^ bitsLen n = P at hp
  rw [wrap_u64 _ (by omega) (by omega)]
 simp only [go_sem, Nat.reduceEqDiff, Nat.reduceAdd, Nat.reduceLT, Nat.reduceLeDiff, reduceIte, hw, hu, WVH_eq (bitsLen_ok (md' := .v) hb h6 (by omega : n < 4294967296)), hs]
end Go.Ab.Srt
end
section
namespace Go.Ab.Srt
open Go.Sort
set_option maxRecDepth 8000
set_option maxHeartbeats 4000000
variable {ft : FuncId → Option AFn} {E : Els} {cv : AV} {id n : Nat} {m0 : Mem}
structure MX (m0 m : Mem) (id sz rd : Nat) (d : Array AV) : Prop where
 mr : MR m0 m id sz d
 new : m0.blks.length ≤ rd
 old : id < m0.blks.length
 rnd : ∃ x : Int, m.blks[rd]? = some (.live [U64 x] 1)
theorem break_run {f pn px pb l3 l6 : FuncId} (hf : ft f = some ⟨4, breakPatternsF E.sz E.lz pn px, breakPatternsFR, .r⟩) (hx : ft px = some ⟨1, xorNextC, xorNextR, .r⟩) (hpn : ft pn = some ⟨1, nextPowC pb, nextPowR, .v⟩)
  (hpb : ft pb = some ⟨1, bitsLenC l3 l6, bitsLenR, .v⟩) (h6 : ft l6 = some ⟨1, len64C, len64R, .v⟩) (hn : n < 1073741824) {d : Array AV} {a b : Nat} (hab : a < b) (hb : b ≤ n) (hd : n ≤ d.size) (hD : AllD E d) (hid : id < m0.blks.length) {m : Mem} (hm : MR m0 m id E.sz d)
  (K : AV → Mem → Prop) (hK : ∀ d' m', MR m0 m' id E.sz d' → AllD E d' → d'.size = d.size → PermIn a b d d' → K (.tup []) m') : WR ft (.f f) [.ref id 0 n, I64 a, I64 b, cv] m K := by
 have hwx := wbr hx rfl
 have hwn : ∀ (s : St) (as : List AV) (K : AV → St → Prop), WB ft pn as s K = WV ft pn (as.map (snap s.mem dep)) fun v => (as.all (fun a => !hot dep a) || plain dep v) = true ∧ K v s := fun s as K => WB_v hpn rfl as s K
 rw [WR_f hf rfl]
 simp only [breakPatternsF, breakPatternsFR]
 have w0 := wrap_subN b a (by omega) (by omega)
 by_cases h8 : 8 ≤ b - a
 case neg =>
  simp only [go_sem, Nat.reduceEqDiff, Nat.reduceAdd, Nat.reduceLT, Nat.reduceLeDiff, reduceIte, w0, show decide ((8 : Int) ≤ ((b - a : Nat) : Int)) = false from decide_eq_false (by omega)]
  exact hK d _ hm hD rfl (permIn_refl d a b)
 have c8 : decide ((8 : Int) ≤ ((b - a : Nat) : Int)) = true := decide_eq_true (by omega)
 have q0 := quo_nat (b - a) 4 (by omega) (by omega)
 have hq : 4 * ((b - a) / 4) ≤ b - a := by omega
 have hq2 : 2 ≤ (b - a) / 4 := by omega
 have e4 : (I64 4) = I64 ((4 : Nat) : Int) := rfl
 have hP := two_pow_bitsLen_le (n := b - a) (by omega)
 have hnp := nextPow_ok hpn hpb h6 (n := b - a) (by omega)
 have hP0 : 0 < 2 ^ bitsLen (b - a) := Nat.two_pow_pos _
 generalize 2 ^ bitsLen (b - a) = P at hP hnp hP0
 generalize (b - a) / 4 = q at q0 hq hq2
 have w2 : IntKind.i64.wrap ((q : Int) * 2) = ((q * 2 : Nat) : Int) := by rw [wrap_i64 _ (by omega) (by omega)]; omega
 have a2 := wrap_addN a (q * 2) (by omega) (by omega)
 have a3 := wrap_p1 (a + q * 2) (by omega) (by omega)
 have a4 := wrap_succ (a + q * 2) (by omega)
 have wu : IntKind.u64.wrap ((b - a : Nat) : Int) = ((b - a : Nat) : Int) := wrap_u64 _ (by omega) (by omega)
 have wp : IntKind.u64.wrap ((P : Int) - 1) = ((P - 1 : Nat) : Int) := by rw [wrap_u64 _ (by omega) (by omega)]; omega
 have nb : newBlk m [U64 0] 1 = ⟨m.blks ++ [.live [U64 0] 1], m.toks⟩ := rfl
 have hmx : MX m0 ⟨m.blks ++ [.live [U64 ((b - a : Nat) : Int)] 1], m.toks⟩ id E.sz m.blks.length d := ⟨hm.push _, hm.len, hid, _, by simp; rfl⟩
 simp only [go_sem, Nat.reduceEqDiff, Nat.reduceAdd, Nat.reduceLT, Nat.reduceLeDiff, reduceIte, w0, c8, wu, nb, hwn, WVH_eq hnp, e4, q0, w2, a2, a3, a4, Nat.zero_add, true_and]
 refine WL_inv (α := Nat × Array AV) (fun z e mm => e 0 = .ref id 0 n ∧ e 1 = I64 a ∧ e 8 = I64 ((b - a : Nat) : Int) ∧ e 9 = .ptr m.blks.length 0 0 ∧ e 10 = U64 P ∧ e 11 = I64 z.1 ∧ a ≤ z.1 ∧ MX m0 mm id E.sz m.blks.length z.2 ∧ AllD E z.2 ∧ z.2.size = d.size ∧ PermIn a b d z.2) (fun z => a + q * 2 + 2 - z.1) (a + q * 2 - 1, d) ?_ ?_
 ·simp only [go_sem, Nat.reduceEqDiff, Nat.reduceAdd, Nat.reduceLT, Nat.reduceLeDiff, reduceIte]
  exact ⟨trivial, trivial, trivial, trivial, trivial, trivial, by omega, hmx, hD, trivial, permIn_refl d a b⟩
 rintro ⟨i, d1⟩ e m1 ⟨g0, g1, g8, g9, g10, g11, hai, hmx1, hD1, hs1, hp1⟩
 dsimp only at g11 hai hmx1 hD1 hs1 hp1
 by_cases hi : i ≤ a + q * 2 + 1
 case neg =>
  simp only [go_sem, Nat.reduceEqDiff, Nat.reduceAdd, Nat.reduceLT, Nat.reduceLeDiff, reduceIte, g0, g1, g8, g9, g10, g11, e4, q0, w2, a2, a4, show decide ((i : Int) ≤ ((a + q * 2 + 1 : Nat) : Int)) = false from decide_eq_false (by omega)]
  exact hK d1 _ hmx1.mr hD1 hs1 hp1
 have ci : decide ((i : Int) ≤ ((a + q * 2 + 1 : Nat) : Int)) = true := decide_eq_true (by omega)
 obtain ⟨hr, hne, hol, x, hx1⟩ := hmx1
 simp only [go_sem, Nat.reduceEqDiff, Nat.reduceAdd, Nat.reduceLT, Nat.reduceLeDiff, reduceIte, g0, g1, g8, g9, g10, g11, e4, q0, w2, a2, a4, ci, hwx]
 refine xorNext_run hx hx1 _ fun y hy => ?_
 have hlen : m.blks.length < m1.blks.length := (List.getElem?_eq_some_iff.1 hx1).1
 have hr2 := hr.setO hne hol (.live [U64 (y : Int)] 1)
 have hx2 : (⟨m1.blks.set m.blks.length (.live [U64 (y : Int)] 1), m1.toks⟩ : Mem).blks[m.blks.length]? = some (.live [U64 (y : Int)] 1) := List.getElem?_set_self hlen
 generalize (⟨m1.blks.set m.blks.length (.live [U64 (y : Int)] 1), m1.toks⟩ : Mem) = m2 at hr2 hx2 ⊢
 have an := andI_u64 y (P - 1) hy (by omega)
 have ho1 : y &&& (P - 1) ≤ P - 1 := Nat.and_le_right
 generalize y &&& (P - 1) = o at an ho1
 have wo : IntKind.i64.wrap (o : Int) = (o : Int) := wrap_i64 _ (by omega) (by omega)
 have wi := wrap_succ i (by omega)
 -- the place that it comes to
 have step : ∀ t : Nat, t < b - a → ∃ m3 m4 d2, idxAt m2 (.ref id 0 n) (I64 ((i : Nat) : Int)) E.sz = some (.ptr id i 0) ∧ idxAt m2 (.ref id 0 n) (I64 ((a + t : Nat) : Int)) E.sz = some (.ptr id (a + t) 0) ∧ loadAt m2 (.ptr id i 0) E.lz = some d1[i]! ∧ loadAt m2 (.ptr id (a + t) 0) E.lz = some d1[a + t]! ∧
   storeAt m2 (.ptr id i 0) d1[a + t]! E.sz = some m3 ∧ idxAt m3 (.ref id 0 n) (I64 ((a + t : Nat) : Int)) E.sz = some (.ptr id (a + t) 0) ∧ storeAt m3 (.ptr id (a + t) 0) d1[i]! E.sz = some m4 ∧ MX m0 m4 id E.sz m.blks.length d2 ∧ AllD E d2 ∧ d2.size = d.size ∧ PermIn a b d d2 := by
  intro t ht
  obtain ⟨m3, m4, s1, s2, ⟨d3, hm3⟩, hm4, hD4, hs4⟩ := hr2.swap hD1 (i := i) (j := a + t) (by omega) (by omega)
  refine ⟨m3, m4, swp d1 i (a + t), hr2.idxN (by omega), hr2.idxN (by omega), hr2.ld hD1 (by omega), hr2.ld hD1 (by omega), s1, hm3.idxN (by omega), s2, ⟨hm4, hne, hol, y, ?_⟩, hD4, by rw [hs4, hs1], permIn_trans _ _ _ a b hp1 (swp_permIn d1 a b i (a + t) hai (by omega) (by omega) (by omega) (by omega))⟩
  have e1 := hr2.st hD1 (i := i) (by omega) (hD1 (a + t) (by omega))
  rw [s1] at e1
  cases e1
  have e2 := (hr2.put (d1.setIfInBounds i d1[a + t]!)).st (hD1.set (i := i) (hD1 (a + t) (by omega))) (i := a + t) (by simp; omega) (hD1 i (by omega))
  rw [s2] at e2
  cases e2
  have hne' : id ≠ m.blks.length := by have := hm.len; omega
  simp only [List.getElem?_set_ne hne']
  exact hx2
 by_cases hol2 : b - a ≤ o
 ·have wso := wrap_subN o (b - a) hol2 (by omega)
  have wao := wrap_addN a (o - (b - a)) (by omega) (by omega)
  obtain ⟨m3, m4, d2, i1, i2, l1, l2, s1, i3, s2, hmx4, hD4, hs4, hp4⟩ := step (o - (b - a)) (by omega)
  simp only [go_sem, Nat.reduceEqDiff, Nat.reduceAdd, Nat.reduceLT, Nat.reduceLeDiff, reduceIte, g0, g1, g8, g9, g10, g11, wp, an, wo, show decide (((b - a : Nat) : Int) ≤ (o : Int)) = true from decide_eq_true (by omega), wso, wao, i1, i2, l1, l2, s1, i3, s2, wi]
  refine Nx_of (i + 1, d2) (by first | omega | (dsimp only; omega)) ?_
  simp only [go_sem, Nat.reduceEqDiff, Nat.reduceAdd, Nat.reduceLT, Nat.reduceLeDiff, reduceIte, g0, g1, g8, g9, g10]
  exact ⟨trivial, trivial, trivial, trivial, trivial, trivial, by omega, hmx4, hD4, hs4, hp4⟩
 ·have wao := wrap_addN a o (by omega) (by omega)
  obtain ⟨m3, m4, d2, i1, i2, l1, l2, s1, i3, s2, hmx4, hD4, hs4, hp4⟩ := step o (by omega)
  simp only [go_sem, Nat.reduceEqDiff, Nat.reduceAdd, Nat.reduceLT, Nat.reduceLeDiff, reduceIte, g0, g1, g8, g9, g10, g11, wp, an, wo, show decide (((b - a : Nat) : Int) ≤ (o : Int)) = false from decide_eq_false (by omega), wao, i1, i2, l1, l2, s1, i3, s2, wi]
  refine Nx_of (i + 1, d2) (by first | omega | (dsimp only; omega)) ?_
  simp only [go_sem, Nat.reduceEqDiff, Nat.reduceAdd, Nat.reduceLT, Nat.reduceLeDiff, reduceIte, g0, g1, g8, g9, g10]
  exact ⟨trivial, trivial, trivial, trivial, trivial, trivial, by omega, hmx4, hD4, hs4, hp4⟩
end Go.Ab.Srt
end
section
namespace Go.Ab.Srt
open Go.Sort
set_option maxRecDepth 8000
set_option maxHeartbeats 8000000
variable {ft : FuncId → Option AFn} {E : Els} {cv : AV} (c : CmpOK ft E cv) {id n : Nat} {m0 : Mem}
structure PdqFns (ft : FuncId → Option AFn) (sz : Nat) (lz : Option Nat) (f ins heap sift brk xn np bl l3 l6 cp ma md o2 rev pi pe pt : FuncId) : Prop where
 f : ft f = some ⟨5, pdqsortF sz lz brk cp heap ins pi pt pe f rev, pdqsortFR, .r⟩
 ins : ft ins = some ⟨4, insertionSortF sz lz, insertionSortFR, .r⟩
 heap : ft heap = some ⟨4, heapSortF sz lz sift, heapSortFR, .r⟩
 sift : ft sift = some ⟨5, siftDownF sz lz, siftDownFR, .r⟩
 brk : ft brk = some ⟨4, breakPatternsF sz lz np xn, breakPatternsFR, .r⟩
 xn : ft xn = some ⟨1, xorNextC, xorNextR, .r⟩
 np : ft np = some ⟨1, nextPowC bl, nextPowR, .v⟩
 bl : ft bl = some ⟨1, bitsLenC l3 l6, bitsLenR, .v⟩
 l6 : ft l6 = some ⟨1, len64C, len64R, .v⟩
 cp : ft cp = some ⟨4, choosePivotF sz lz md ma, choosePivotFR, .r⟩
 ma : ft ma = some ⟨4, medianAdjacentF sz lz md, medianAdjacentFR, .r⟩
 md : ft md = some ⟨6, medianF sz lz o2, medianFR, .r⟩
 o2 : ft o2 = some ⟨5, order2F sz lz, order2FR, .r⟩
 rev : ft rev = some ⟨4, reverseRangeF sz lz, reverseRangeFR, .r⟩
 pi : ft pi = some ⟨4, partialInsertionSortF sz lz, partialInsertionSortFR, .r⟩
 pe : ft pe = some ⟨5, partitionEqualF sz lz, partitionEqualFR, .r⟩
 pt : ft pt = some ⟨5, partitionF sz lz, partitionFR, .r⟩
theorem AllD_perm {d d' : Array AV} {a b : Nat} (hD : AllD E d) (hb : b ≤ d.size) (h : PermIn a b d d') : AllD E d' := by
 intro i hi
 rw [h.1] at hi
 by_cases hi' : i < a ∨ b ≤ i
 ·rw [h.2.1 i hi']; exact hD i hi
 ·exact permIn_all d d' a b E.D hb h (fun j h1 h2 => hD j (by omega)) i (by omega) (by omega)
theorem pdq_run {f ins heap sift brk xn np bl l3 l6 cp ma md o2 rev pi pe pt : FuncId} (F : PdqFns ft E.sz E.lz f ins heap sift brk xn np bl l3 l6 cp ma md o2 rev pi pe pt) (hS : SWO c.lt) (hn : n < 1073741824) (hid : id < m0.blks.length) :
  ∀ (k : Nat) {d0 : Array AV} {a0 b0 lim : Nat}, b0 - a0 < k → a0 ≤ b0 → b0 ≤ n → n ≤ d0.size → lim < 1073741824 → AllD E d0 → Below c.lt a0 b0 d0 → ∀ {m : Mem}, MR m0 m id E.sz d0 → ∀ K : AV → Mem → Prop,
   (∀ d' m', MR m0 m' id E.sz d' → PermIn a0 b0 d0 d' → SortedIn c.lt a0 b0 d' → K (.tup []) m') → WR ft (.f f) [.ref id 0 n, I64 a0, I64 b0, I64 lim, cv] m K := by
 intro k
 induction k with
 | zero => intro d0 a0 b0 lim hk; omega
 | succ k ih =>
 intro d0 a0 b0 lim hk hab0 hbn0 hd0 hlim0 hD0 hB0 m hm K hK
 have hwI := wbr F.ins rfl
 have hwH := wbr F.heap rfl
 have hwB := wbr F.brk rfl
 have hwC := wbr F.cp rfl
 have hwR := wbr F.rev rfl
 have hwP := wbr F.pi rfl
 have hwE := wbr F.pe rfl
 have hwT := wbr F.pt rfl
 have hwS := wbr F.f rfl
 rw [WR_f F.f rfl]
 simp only [pdqsortF, pdqsortFR]
 simp only [go_sem, Nat.reduceEqDiff, Nat.reduceAdd, Nat.reduceLT, Nat.reduceLeDiff, reduceIte]
 refine WL_inv (α := Nat × Nat × Nat × Bool × Bool × Array AV) (fun q e mm => e 0 = .ref id 0 n ∧ e 1 = I64 q.1 ∧ e 2 = I64 q.2.1 ∧ e 3 = I64 q.2.2.1 ∧ e 4 = cv ∧ e 10 = .bool q.2.2.2.1 ∧ e 11 = .bool q.2.2.2.2.1 ∧ q.1 ≤ q.2.1 ∧ q.2.1 ≤ n ∧ q.2.1 - q.1 ≤ b0 - a0 ∧ q.2.2.1 < 1073741824 ∧
   MR m0 mm id E.sz q.2.2.2.2.2 ∧ AllD E q.2.2.2.2.2 ∧ q.2.2.2.2.2.size = d0.size ∧ Below c.lt q.1 q.2.1 q.2.2.2.2.2 ∧ (∀ R, PermIn q.1 q.2.1 q.2.2.2.2.2 R → SortedIn c.lt q.1 q.2.1 R → PermIn a0 b0 d0 R ∧ SortedIn c.lt a0 b0 R))
  (fun q => q.2.1 - q.1) (a0, b0, lim, true, true, d0) ?_ ?_
 ·simp only [go_sem, Nat.reduceEqDiff, Nat.reduceAdd, Nat.reduceLT, Nat.reduceLeDiff, reduceIte]
  exact ⟨trivial, trivial, trivial, trivial, trivial, trivial, trivial, hab0, hbn0, Nat.le_refl _, hlim0, hm, hD0, trivial, hB0, fun R h1 h2 => ⟨h1, h2⟩⟩
 rintro ⟨a, b, L, wb, wp, d⟩ e m1 ⟨h0, h1, h2, h3, h4, h10, h11, hab, hbn, hba, hL, hm1, hD1, hs1, hB1, hF⟩
 dsimp only at h1 h2 h3 h10 h11 hab hbn hba hL hm1 hD1 hs1 hB1 hF
 have w0 := wrap_subN b a hab (by omega)
 by_cases h12 : b - a ≤ 12
 ·have hi := insertionSort_holds hS d a b hab (by omega)
  simp only [go_sem, Nat.reduceEqDiff, Nat.reduceAdd, Nat.reduceLT, Nat.reduceLeDiff, reduceIte, h0, h1, h2, h3, h4, h10, h11, w0, show decide (((b - a : Nat) : Int) ≤ 12) = true from decide_eq_true (by omega), hwI]
  refine ins_run c F.ins (by omega) hab hbn (by omega) hD1 hm1 _ fun m2 hm2 => ?_
  simp only [go_sem, Nat.reduceEqDiff, Nat.reduceAdd, Nat.reduceLT, Nat.reduceLeDiff, reduceIte]
  obtain ⟨r1, r2⟩ := hF _ hi.1 hi.2
  exact hK _ _ hm2 r1 r2
 have c12 : decide (((b - a : Nat) : Int) ≤ 12) = false := decide_eq_false (by omega)
 by_cases hl0 : L = 0
 ·subst hl0
  have hi := heapSort_holds hS d a b hab (by omega)
  simp only [go_sem, Nat.reduceEqDiff, Nat.reduceAdd, Nat.reduceLT, Nat.reduceLeDiff, reduceIte, h0, h1, h2, h3, h4, h10, h11, w0, c12, show (((0 : Nat) : Int) == 0) = true from rfl, hwH]
  refine heap_run c F.heap F.sift hn (by omega) hbn (by omega) hD1 hm1 _ fun m2 hm2 => ?_
  simp only [go_sem, Nat.reduceEqDiff, Nat.reduceAdd, Nat.reduceLT, Nat.reduceLeDiff, reduceIte]
  obtain ⟨r1, r2⟩ := hF _ hi.1 hi.2
  exact hK _ _ hm2 r1 r2
 have cl0 : ((L : Int) == 0) = false := by rw [beq_eq_false_iff_ne]; omega
 have q8 := quo_nat (b - a) 8 (by omega) (by omega)
 have e8 : (I64 8) = I64 ((8 : Nat) : Int) := rfl
 have wL := wrap_p1 L (by omega) (by omega)
 have wb1 := wrap_p1 b (by omega) (by omega)
 cases wb
 case true =>
  simp only [go_sem, Nat.reduceEqDiff, Nat.reduceAdd, Nat.reduceLT, Nat.reduceLeDiff, reduceIte, h0, h1, h2, h3, h4, h10, h11, w0, c12, cl0, wL, wb1, true_and, hwC]
  have hsz : d.size = d.size := rfl
  have hpr := permIn_refl d a b
  refine choose_run c F.cp F.ma F.md F.o2 hn (by omega) hbn (by rw [hsz]; omega) hD1 hid hm1 _ fun pv h m2 hpa hpb hh hm2 => ?_
  rcases hh with rfl | rfl | rfl
  ·cases wp
   case false =>
    have hDs : d.size = d.size := by rw [hsz]
    by_cases ha0 : a = 0
    ·have cA : decide ((0 : Int) < (a : Int)) = false := decide_eq_false (by omega)
     simp only [go_sem, Nat.reduceEqDiff, Nat.reduceAdd, Nat.reduceLT, Nat.reduceLeDiff, reduceIte, h0, h1, h2, h3, h4, h10, h11, w0, c12, cl0, wL, wb1, true_and, show (((0 : Nat) : Int) == 2) = false from rfl, show (((0 : Nat) : Int) == 1) = false from rfl, cA, hwT]
     refine pt_run c F.pt hn hpa hpb hbn (by omega) hD1 hm2 _ fun m7 hm7 hD7 hs7 => ?_
     obtain ⟨⟨mid, ap, d7⟩, hx⟩ : ∃ r, partition c.lt d a b (pv) = r := ⟨_, rfl⟩
     rw [hx] at hm7 hD7 hs7 ⊢
     dsimp only at hm7 hD7 hs7
     obtain ⟨p1, p2, p3, p4, p5, p6, p7⟩ := round_part hS (partition_holds c.lt) hpa hpb (by omega) hB1 hx
     have wml := wrap_subN mid a (by omega) (by omega)
     have wmr := wrap_subN b mid (by omega) (by omega)
     have wms := wrap_succ mid (by omega)
     by_cases hlr : mid - a < b - mid
     ·simp only [go_sem, Nat.reduceEqDiff, Nat.reduceAdd, Nat.reduceLT, Nat.reduceLeDiff, reduceIte, h0, h1, h2, h3, h4, h10, h11, w0, c12, cl0, wL, wb1, true_and, wml, wmr, wms, e8, q8, show decide (((mid - a : Nat) : Int) < ((b - mid : Nat) : Int)) = true from decide_eq_true (by omega), hwS]
      refine ih (d0 := d7) (a0 := a) (b0 := mid) (lim := L) (by omega) (by omega) (by omega) (by omega) (by omega) hD7 p4 hm7 _ fun d8 m8 hm8 hp8 hso8 => ?_
      obtain ⟨r1, r2⟩ := p6 d8 hp8 hso8
      simp only [go_sem, Nat.reduceEqDiff, Nat.reduceAdd, Nat.reduceLT, Nat.reduceLeDiff, reduceIte, h0, h1, h2, h3, h4, h10, h11, w0, c12, cl0, wL, wb1, true_and, wms]
      refine Nx_of (mid + 1, b, L, decide ((((b - a) / 8 : Nat) : Int) ≤ ((mid - a : Nat) : Int)), ap, d8) (by first | omega | (dsimp only; omega)) ?_
      simp only [go_sem, Nat.reduceEqDiff, Nat.reduceAdd, Nat.reduceLT, Nat.reduceLeDiff, reduceIte, h0, h1, h2, h3, h4, h10, h11, w0, c12, cl0, wL, wb1, true_and]
      exact ⟨by omega, by omega, by omega, by omega, hm8, AllD_perm hD7 (by omega) hp8, by rw [hp8.1, hs7, hsz, hs1], r1, fun R g1 g2 => by obtain ⟨f1, f2⟩ := r2 R g1 g2; exact hF R (permIn_trans _ _ _ a b hpr f1) f2⟩
     ·simp only [go_sem, Nat.reduceEqDiff, Nat.reduceAdd, Nat.reduceLT, Nat.reduceLeDiff, reduceIte, h0, h1, h2, h3, h4, h10, h11, w0, c12, cl0, wL, wb1, true_and, wml, wmr, wms, e8, q8, show decide (((mid - a : Nat) : Int) < ((b - mid : Nat) : Int)) = false from decide_eq_false (by omega), hwS]
      refine ih (d0 := d7) (a0 := mid + 1) (b0 := b) (lim := L) (by omega) (by omega) (by omega) (by omega) (by omega) hD7 p5 hm7 _ fun d8 m8 hm8 hp8 hso8 => ?_
      obtain ⟨r1, r2⟩ := p7 d8 hp8 hso8
      simp only [go_sem, Nat.reduceEqDiff, Nat.reduceAdd, Nat.reduceLT, Nat.reduceLeDiff, reduceIte, h0, h1, h2, h3, h4, h10, h11, w0, c12, cl0, wL, wb1, true_and]
      refine Nx_of (a, mid, L, decide ((((b - a) / 8 : Nat) : Int) ≤ ((b - mid : Nat) : Int)), ap, d8) (by first | omega | (dsimp only; omega)) ?_
      simp only [go_sem, Nat.reduceEqDiff, Nat.reduceAdd, Nat.reduceLT, Nat.reduceLeDiff, reduceIte, h0, h1, h2, h3, h4, h10, h11, w0, c12, cl0, wL, wb1, true_and]
      exact ⟨by omega, by omega, by omega, by omega, hm8, AllD_perm hD7 (by omega) hp8, by rw [hp8.1, hs7, hsz, hs1], r1, fun R g1 g2 => by obtain ⟨f1, f2⟩ := r2 R g1 g2; exact hF R (permIn_trans _ _ _ a b hpr f1) f2⟩
    have cA : decide ((0 : Int) < (a : Int)) = true := decide_eq_true (by omega)
    have wa1 := wrap_p1 a (by omega) (by omega)
    have ia := hm2.idxN (k := .i64) (n := n) (i := a - 1) (by omega)
    have la := hm2.ld hD1 (i := a - 1) (by omega)
    have ip := hm2.idxN (k := .i64) (n := n) (i := pv) (by omega)
    have lp := hm2.ld hD1 (i := pv) (by omega)
    have hc := c.ok _ _ (hD1 (a - 1) (by omega)) (hD1 (pv) (by omega))
    cases hlt : c.lt d[a - 1]! d[pv]!
    ·have hlt' : decide (c.cf d[a - 1]! d[pv]! < 0) = false := hlt
     simp only [go_sem, Nat.reduceEqDiff, Nat.reduceAdd, Nat.reduceLT, Nat.reduceLeDiff, reduceIte, h0, h1, h2, h3, h4, h10, h11, w0, c12, cl0, wL, wb1, true_and, show (((0 : Nat) : Int) == 2) = false from rfl, show (((0 : Nat) : Int) == 1) = false from rfl, cA, wa1, ia, la, ip, lp, hc, hlt', hwE]
     refine pe_run c F.pe hn hpa hpb hbn (by omega) hD1 hm2 _ fun m7 hm7 hD7 hs7 => ?_
     obtain ⟨⟨mid, d7⟩, hx⟩ : ∃ r, partitionEqual c.lt d a b (pv) = r := ⟨_, rfl⟩
     rw [hx] at hm7 hD7 hs7 ⊢
     dsimp only at hm7 hD7 hs7
     obtain ⟨p1, p2, p3, p4, p5⟩ := round_eq hS (partitionEqual_holds c.lt) (by omega) hpa hpb (by omega) hB1 hlt hx
     simp only [go_sem, Nat.reduceEqDiff, Nat.reduceAdd, Nat.reduceLT, Nat.reduceLeDiff, reduceIte, h0, h1, h2, h3, h4, h10, h11, w0, c12, cl0, wL, wb1, true_and]
     refine Nx_of (mid, b, L, true, false, d7) (by first | omega | (dsimp only; omega)) ?_
     simp only [go_sem, Nat.reduceEqDiff, Nat.reduceAdd, Nat.reduceLT, Nat.reduceLeDiff, reduceIte, h0, h1, h2, h3, h4, h10, h11, w0, c12, cl0, wL, wb1, true_and]
     exact ⟨by omega, by omega, by omega, by omega, hm7, hD7, by rw [hs7, hsz, hs1], p4, fun R g1 g2 => by obtain ⟨f1, f2⟩ := p5 R g1 g2; exact hF R (permIn_trans _ _ _ a b hpr f1) f2⟩
    ·have hlt' : decide (c.cf d[a - 1]! d[pv]! < 0) = true := hlt
     simp only [go_sem, Nat.reduceEqDiff, Nat.reduceAdd, Nat.reduceLT, Nat.reduceLeDiff, reduceIte, h0, h1, h2, h3, h4, h10, h11, w0, c12, cl0, wL, wb1, true_and, show (((0 : Nat) : Int) == 2) = false from rfl, show (((0 : Nat) : Int) == 1) = false from rfl, cA, wa1, ia, la, ip, lp, hc, hlt', hwT]
     refine pt_run c F.pt hn hpa hpb hbn (by omega) hD1 hm2 _ fun m7 hm7 hD7 hs7 => ?_
     obtain ⟨⟨mid, ap, d7⟩, hx⟩ : ∃ r, partition c.lt d a b (pv) = r := ⟨_, rfl⟩
     rw [hx] at hm7 hD7 hs7 ⊢
     dsimp only at hm7 hD7 hs7
     obtain ⟨p1, p2, p3, p4, p5, p6, p7⟩ := round_part hS (partition_holds c.lt) hpa hpb (by omega) hB1 hx
     have wml := wrap_subN mid a (by omega) (by omega)
     have wmr := wrap_subN b mid (by omega) (by omega)
     have wms := wrap_succ mid (by omega)
     by_cases hlr : mid - a < b - mid
     ·simp only [go_sem, Nat.reduceEqDiff, Nat.reduceAdd, Nat.reduceLT, Nat.reduceLeDiff, reduceIte, h0, h1, h2, h3, h4, h10, h11, w0, c12, cl0, wL, wb1, true_and, wml, wmr, wms, e8, q8, show decide (((mid - a : Nat) : Int) < ((b - mid : Nat) : Int)) = true from decide_eq_true (by omega), hwS]
      refine ih (d0 := d7) (a0 := a) (b0 := mid) (lim := L) (by omega) (by omega) (by omega) (by omega) (by omega) hD7 p4 hm7 _ fun d8 m8 hm8 hp8 hso8 => ?_
      obtain ⟨r1, r2⟩ := p6 d8 hp8 hso8
      simp only [go_sem, Nat.reduceEqDiff, Nat.reduceAdd, Nat.reduceLT, Nat.reduceLeDiff, reduceIte, h0, h1, h2, h3, h4, h10, h11, w0, c12, cl0, wL, wb1, true_and, wms]
      refine Nx_of (mid + 1, b, L, decide ((((b - a) / 8 : Nat) : Int) ≤ ((mid - a : Nat) : Int)), ap, d8) (by first | omega | (dsimp only; omega)) ?_
      simp only [go_sem, Nat.reduceEqDiff, Nat.reduceAdd, Nat.reduceLT, Nat.reduceLeDiff, reduceIte, h0, h1, h2, h3, h4, h10, h11, w0, c12, cl0, wL, wb1, true_and]
      exact ⟨by omega, by omega, by omega, by omega, hm8, AllD_perm hD7 (by omega) hp8, by rw [hp8.1, hs7, hsz, hs1], r1, fun R g1 g2 => by obtain ⟨f1, f2⟩ := r2 R g1 g2; exact hF R (permIn_trans _ _ _ a b hpr f1) f2⟩
     ·simp only [go_sem, Nat.reduceEqDiff, Nat.reduceAdd, Nat.reduceLT, Nat.reduceLeDiff, reduceIte, h0, h1, h2, h3, h4, h10, h11, w0, c12, cl0, wL, wb1, true_and, wml, wmr, wms, e8, q8, show decide (((mid - a : Nat) : Int) < ((b - mid : Nat) : Int)) = false from decide_eq_false (by omega), hwS]
      refine ih (d0 := d7) (a0 := mid + 1) (b0 := b) (lim := L) (by omega) (by omega) (by omega) (by omega) (by omega) hD7 p5 hm7 _ fun d8 m8 hm8 hp8 hso8 => ?_
      obtain ⟨r1, r2⟩ := p7 d8 hp8 hso8
      simp only [go_sem, Nat.reduceEqDiff, Nat.reduceAdd, Nat.reduceLT, Nat.reduceLeDiff, reduceIte, h0, h1, h2, h3, h4, h10, h11, w0, c12, cl0, wL, wb1, true_and]
      refine Nx_of (a, mid, L, decide ((((b - a) / 8 : Nat) : Int) ≤ ((b - mid : Nat) : Int)), ap, d8) (by first | omega | (dsimp only; omega)) ?_
      simp only [go_sem, Nat.reduceEqDiff, Nat.reduceAdd, Nat.reduceLT, Nat.reduceLeDiff, reduceIte, h0, h1, h2, h3, h4, h10, h11, w0, c12, cl0, wL, wb1, true_and]
      exact ⟨by omega, by omega, by omega, by omega, hm8, AllD_perm hD7 (by omega) hp8, by rw [hp8.1, hs7, hsz, hs1], r1, fun R g1 g2 => by obtain ⟨f1, f2⟩ := r2 R g1 g2; exact hF R (permIn_trans _ _ _ a b hpr f1) f2⟩
   case true =>
    have hDs : d.size = d.size := by rw [hsz]
    by_cases ha0 : a = 0
    ·have cA : decide ((0 : Int) < (a : Int)) = false := decide_eq_false (by omega)
     simp only [go_sem, Nat.reduceEqDiff, Nat.reduceAdd, Nat.reduceLT, Nat.reduceLeDiff, reduceIte, h0, h1, h2, h3, h4, h10, h11, w0, c12, cl0, wL, wb1, true_and, show (((0 : Nat) : Int) == 2) = false from rfl, show (((0 : Nat) : Int) == 1) = false from rfl, cA, hwT]
     refine pt_run c F.pt hn hpa hpb hbn (by omega) hD1 hm2 _ fun m7 hm7 hD7 hs7 => ?_
     obtain ⟨⟨mid, ap, d7⟩, hx⟩ : ∃ r, partition c.lt d a b (pv) = r := ⟨_, rfl⟩
     rw [hx] at hm7 hD7 hs7 ⊢
     dsimp only at hm7 hD7 hs7
     obtain ⟨p1, p2, p3, p4, p5, p6, p7⟩ := round_part hS (partition_holds c.lt) hpa hpb (by omega) hB1 hx
     have wml := wrap_subN mid a (by omega) (by omega)
     have wmr := wrap_subN b mid (by omega) (by omega)
     have wms := wrap_succ mid (by omega)
     by_cases hlr : mid - a < b - mid
     ·simp only [go_sem, Nat.reduceEqDiff, Nat.reduceAdd, Nat.reduceLT, Nat.reduceLeDiff, reduceIte, h0, h1, h2, h3, h4, h10, h11, w0, c12, cl0, wL, wb1, true_and, wml, wmr, wms, e8, q8, show decide (((mid - a : Nat) : Int) < ((b - mid : Nat) : Int)) = true from decide_eq_true (by omega), hwS]
      refine ih (d0 := d7) (a0 := a) (b0 := mid) (lim := L) (by omega) (by omega) (by omega) (by omega) (by omega) hD7 p4 hm7 _ fun d8 m8 hm8 hp8 hso8 => ?_
      obtain ⟨r1, r2⟩ := p6 d8 hp8 hso8
      simp only [go_sem, Nat.reduceEqDiff, Nat.reduceAdd, Nat.reduceLT, Nat.reduceLeDiff, reduceIte, h0, h1, h2, h3, h4, h10, h11, w0, c12, cl0, wL, wb1, true_and, wms]
      refine Nx_of (mid + 1, b, L, decide ((((b - a) / 8 : Nat) : Int) ≤ ((mid - a : Nat) : Int)), ap, d8) (by first | omega | (dsimp only; omega)) ?_
      simp only [go_sem, Nat.reduceEqDiff, Nat.reduceAdd, Nat.reduceLT, Nat.reduceLeDiff, reduceIte, h0, h1, h2, h3, h4, h10, h11, w0, c12, cl0, wL, wb1, true_and]
      exact ⟨by omega, by omega, by omega, by omega, hm8, AllD_perm hD7 (by omega) hp8, by rw [hp8.1, hs7, hsz, hs1], r1, fun R g1 g2 => by obtain ⟨f1, f2⟩ := r2 R g1 g2; exact hF R (permIn_trans _ _ _ a b hpr f1) f2⟩
     ·simp only [go_sem, Nat.reduceEqDiff, Nat.reduceAdd, Nat.reduceLT, Nat.reduceLeDiff, reduceIte, h0, h1, h2, h3, h4, h10, h11, w0, c12, cl0, wL, wb1, true_and, wml, wmr, wms, e8, q8, show decide (((mid - a : Nat) : Int) < ((b - mid : Nat) : Int)) = false from decide_eq_false (by omega), hwS]
      refine ih (d0 := d7) (a0 := mid + 1) (b0 := b) (lim := L) (by omega) (by omega) (by omega) (by omega) (by omega) hD7 p5 hm7 _ fun d8 m8 hm8 hp8 hso8 => ?_
      obtain ⟨r1, r2⟩ := p7 d8 hp8 hso8
      simp only [go_sem, Nat.reduceEqDiff, Nat.reduceAdd, Nat.reduceLT, Nat.reduceLeDiff, reduceIte, h0, h1, h2, h3, h4, h10, h11, w0, c12, cl0, wL, wb1, true_and]
      refine Nx_of (a, mid, L, decide ((((b - a) / 8 : Nat) : Int) ≤ ((b - mid : Nat) : Int)), ap, d8) (by first | omega | (dsimp only; omega)) ?_
      simp only [go_sem, Nat.reduceEqDiff, Nat.reduceAdd, Nat.reduceLT, Nat.reduceLeDiff, reduceIte, h0, h1, h2, h3, h4, h10, h11, w0, c12, cl0, wL, wb1, true_and]
      exact ⟨by omega, by omega, by omega, by omega, hm8, AllD_perm hD7 (by omega) hp8, by rw [hp8.1, hs7, hsz, hs1], r1, fun R g1 g2 => by obtain ⟨f1, f2⟩ := r2 R g1 g2; exact hF R (permIn_trans _ _ _ a b hpr f1) f2⟩
    have cA : decide ((0 : Int) < (a : Int)) = true := decide_eq_true (by omega)
    have wa1 := wrap_p1 a (by omega) (by omega)
    have ia := hm2.idxN (k := .i64) (n := n) (i := a - 1) (by omega)
    have la := hm2.ld hD1 (i := a - 1) (by omega)
    have ip := hm2.idxN (k := .i64) (n := n) (i := pv) (by omega)
    have lp := hm2.ld hD1 (i := pv) (by omega)
    have hc := c.ok _ _ (hD1 (a - 1) (by omega)) (hD1 (pv) (by omega))
    cases hlt : c.lt d[a - 1]! d[pv]!
    ·have hlt' : decide (c.cf d[a - 1]! d[pv]! < 0) = false := hlt
     simp only [go_sem, Nat.reduceEqDiff, Nat.reduceAdd, Nat.reduceLT, Nat.reduceLeDiff, reduceIte, h0, h1, h2, h3, h4, h10, h11, w0, c12, cl0, wL, wb1, true_and, show (((0 : Nat) : Int) == 2) = false from rfl, show (((0 : Nat) : Int) == 1) = false from rfl, cA, wa1, ia, la, ip, lp, hc, hlt', hwE]
     refine pe_run c F.pe hn hpa hpb hbn (by omega) hD1 hm2 _ fun m7 hm7 hD7 hs7 => ?_
     obtain ⟨⟨mid, d7⟩, hx⟩ : ∃ r, partitionEqual c.lt d a b (pv) = r := ⟨_, rfl⟩
     rw [hx] at hm7 hD7 hs7 ⊢
     dsimp only at hm7 hD7 hs7
     obtain ⟨p1, p2, p3, p4, p5⟩ := round_eq hS (partitionEqual_holds c.lt) (by omega) hpa hpb (by omega) hB1 hlt hx
     simp only [go_sem, Nat.reduceEqDiff, Nat.reduceAdd, Nat.reduceLT, Nat.reduceLeDiff, reduceIte, h0, h1, h2, h3, h4, h10, h11, w0, c12, cl0, wL, wb1, true_and]
     refine Nx_of (mid, b, L, true, true, d7) (by first | omega | (dsimp only; omega)) ?_
     simp only [go_sem, Nat.reduceEqDiff, Nat.reduceAdd, Nat.reduceLT, Nat.reduceLeDiff, reduceIte, h0, h1, h2, h3, h4, h10, h11, w0, c12, cl0, wL, wb1, true_and]
     exact ⟨by omega, by omega, by omega, by omega, hm7, hD7, by rw [hs7, hsz, hs1], p4, fun R g1 g2 => by obtain ⟨f1, f2⟩ := p5 R g1 g2; exact hF R (permIn_trans _ _ _ a b hpr f1) f2⟩
    ·have hlt' : decide (c.cf d[a - 1]! d[pv]! < 0) = true := hlt
     simp only [go_sem, Nat.reduceEqDiff, Nat.reduceAdd, Nat.reduceLT, Nat.reduceLeDiff, reduceIte, h0, h1, h2, h3, h4, h10, h11, w0, c12, cl0, wL, wb1, true_and, show (((0 : Nat) : Int) == 2) = false from rfl, show (((0 : Nat) : Int) == 1) = false from rfl, cA, wa1, ia, la, ip, lp, hc, hlt', hwT]
     refine pt_run c F.pt hn hpa hpb hbn (by omega) hD1 hm2 _ fun m7 hm7 hD7 hs7 => ?_
     obtain ⟨⟨mid, ap, d7⟩, hx⟩ : ∃ r, partition c.lt d a b (pv) = r := ⟨_, rfl⟩
     rw [hx] at hm7 hD7 hs7 ⊢
     dsimp only at hm7 hD7 hs7
     obtain ⟨p1, p2, p3, p4, p5, p6, p7⟩ := round_part hS (partition_holds c.lt) hpa hpb (by omega) hB1 hx
     have wml := wrap_subN mid a (by omega) (by omega)
     have wmr := wrap_subN b mid (by omega) (by omega)
     have wms := wrap_succ mid (by omega)
     by_cases hlr : mid - a < b - mid
     ·simp only [go_sem, Nat.reduceEqDiff, Nat.reduceAdd, Nat.reduceLT, Nat.reduceLeDiff, reduceIte, h0, h1, h2, h3, h4, h10, h11, w0, c12, cl0, wL, wb1, true_and, wml, wmr, wms, e8, q8, show decide (((mid - a : Nat) : Int) < ((b - mid : Nat) : Int)) = true from decide_eq_true (by omega), hwS]
      refine ih (d0 := d7) (a0 := a) (b0 := mid) (lim := L) (by omega) (by omega) (by omega) (by omega) (by omega) hD7 p4 hm7 _ fun d8 m8 hm8 hp8 hso8 => ?_
      obtain ⟨r1, r2⟩ := p6 d8 hp8 hso8
      simp only [go_sem, Nat.reduceEqDiff, Nat.reduceAdd, Nat.reduceLT, Nat.reduceLeDiff, reduceIte, h0, h1, h2, h3, h4, h10, h11, w0, c12, cl0, wL, wb1, true_and, wms]
      refine Nx_of (mid + 1, b, L, decide ((((b - a) / 8 : Nat) : Int) ≤ ((mid - a : Nat) : Int)), ap, d8) (by first | omega | (dsimp only; omega)) ?_
      simp only [go_sem, Nat.reduceEqDiff, Nat.reduceAdd, Nat.reduceLT, Nat.reduceLeDiff, reduceIte, h0, h1, h2, h3, h4, h10, h11, w0, c12, cl0, wL, wb1, true_and]
      exact ⟨by omega, by omega, by omega, by omega, hm8, AllD_perm hD7 (by omega) hp8, by rw [hp8.1, hs7, hsz, hs1], r1, fun R g1 g2 => by obtain ⟨f1, f2⟩ := r2 R g1 g2; exact hF R (permIn_trans _ _ _ a b hpr f1) f2⟩
     ·simp only [go_sem, Nat.reduceEqDiff, Nat.reduceAdd, Nat.reduceLT, Nat.reduceLeDiff, reduceIte, h0, h1, h2, h3, h4, h10, h11, w0, c12, cl0, wL, wb1, true_and, wml, wmr, wms, e8, q8, show decide (((mid - a : Nat) : Int) < ((b - mid : Nat) : Int)) = false from decide_eq_false (by omega), hwS]
      refine ih (d0 := d7) (a0 := mid + 1) (b0 := b) (lim := L) (by omega) (by omega) (by omega) (by omega) (by omega) hD7 p5 hm7 _ fun d8 m8 hm8 hp8 hso8 => ?_
      obtain ⟨r1, r2⟩ := p7 d8 hp8 hso8
      simp only [go_sem, Nat.reduceEqDiff, Nat.reduceAdd, Nat.reduceLT, Nat.reduceLeDiff, reduceIte, h0, h1, h2, h3, h4, h10, h11, w0, c12, cl0, wL, wb1, true_and]
      refine Nx_of (a, mid, L, decide ((((b - a) / 8 : Nat) : Int) ≤ ((b - mid : Nat) : Int)), ap, d8) (by first | omega | (dsimp only; omega)) ?_
      simp only [go_sem, Nat.reduceEqDiff, Nat.reduceAdd, Nat.reduceLT, Nat.reduceLeDiff, reduceIte, h0, h1, h2, h3, h4, h10, h11, w0, c12, cl0, wL, wb1, true_and]
      exact ⟨by omega, by omega, by omega, by omega, hm8, AllD_perm hD7 (by omega) hp8, by rw [hp8.1, hs7, hsz, hs1], r1, fun R g1 g2 => by obtain ⟨f1, f2⟩ := r2 R g1 g2; exact hF R (permIn_trans _ _ _ a b hpr f1) f2⟩
  ·cases wp
   case false =>
    have hDs : d.size = d.size := by rw [hsz]
    by_cases ha0 : a = 0
    ·have cA : decide ((0 : Int) < (a : Int)) = false := decide_eq_false (by omega)
     simp only [go_sem, Nat.reduceEqDiff, Nat.reduceAdd, Nat.reduceLT, Nat.reduceLeDiff, reduceIte, h0, h1, h2, h3, h4, h10, h11, w0, c12, cl0, wL, wb1, true_and, show (((1 : Nat) : Int) == 2) = false from rfl, show (((1 : Nat) : Int) == 1) = true from rfl, cA, hwT]
     refine pt_run c F.pt hn hpa hpb hbn (by omega) hD1 hm2 _ fun m7 hm7 hD7 hs7 => ?_
     obtain ⟨⟨mid, ap, d7⟩, hx⟩ : ∃ r, partition c.lt d a b (pv) = r := ⟨_, rfl⟩
     rw [hx] at hm7 hD7 hs7 ⊢
     dsimp only at hm7 hD7 hs7
     obtain ⟨p1, p2, p3, p4, p5, p6, p7⟩ := round_part hS (partition_holds c.lt) hpa hpb (by omega) hB1 hx
     have wml := wrap_subN mid a (by omega) (by omega)
     have wmr := wrap_subN b mid (by omega) (by omega)
     have wms := wrap_succ mid (by omega)
     by_cases hlr : mid - a < b - mid
     ·simp only [go_sem, Nat.reduceEqDiff, Nat.reduceAdd, Nat.reduceLT, Nat.reduceLeDiff, reduceIte, h0, h1, h2, h3, h4, h10, h11, w0, c12, cl0, wL, wb1, true_and, wml, wmr, wms, e8, q8, show decide (((mid - a : Nat) : Int) < ((b - mid : Nat) : Int)) = true from decide_eq_true (by omega), hwS]
      refine ih (d0 := d7) (a0 := a) (b0 := mid) (lim := L) (by omega) (by omega) (by omega) (by omega) (by omega) hD7 p4 hm7 _ fun d8 m8 hm8 hp8 hso8 => ?_
      obtain ⟨r1, r2⟩ := p6 d8 hp8 hso8
      simp only [go_sem, Nat.reduceEqDiff, Nat.reduceAdd, Nat.reduceLT, Nat.reduceLeDiff, reduceIte, h0, h1, h2, h3, h4, h10, h11, w0, c12, cl0, wL, wb1, true_and, wms]
      refine Nx_of (mid + 1, b, L, decide ((((b - a) / 8 : Nat) : Int) ≤ ((mid - a : Nat) : Int)), ap, d8) (by first | omega | (dsimp only; omega)) ?_
      simp only [go_sem, Nat.reduceEqDiff, Nat.reduceAdd, Nat.reduceLT, Nat.reduceLeDiff, reduceIte, h0, h1, h2, h3, h4, h10, h11, w0, c12, cl0, wL, wb1, true_and]
      exact ⟨by omega, by omega, by omega, by omega, hm8, AllD_perm hD7 (by omega) hp8, by rw [hp8.1, hs7, hsz, hs1], r1, fun R g1 g2 => by obtain ⟨f1, f2⟩ := r2 R g1 g2; exact hF R (permIn_trans _ _ _ a b hpr f1) f2⟩
     ·simp only [go_sem, Nat.reduceEqDiff, Nat.reduceAdd, Nat.reduceLT, Nat.reduceLeDiff, reduceIte, h0, h1, h2, h3, h4, h10, h11, w0, c12, cl0, wL, wb1, true_and, wml, wmr, wms, e8, q8, show decide (((mid - a : Nat) : Int) < ((b - mid : Nat) : Int)) = false from decide_eq_false (by omega), hwS]
      refine ih (d0 := d7) (a0 := mid + 1) (b0 := b) (lim := L) (by omega) (by omega) (by omega) (by omega) (by omega) hD7 p5 hm7 _ fun d8 m8 hm8 hp8 hso8 => ?_
      obtain ⟨r1, r2⟩ := p7 d8 hp8 hso8
      simp only [go_sem, Nat.reduceEqDiff, Nat.reduceAdd, Nat.reduceLT, Nat.reduceLeDiff, reduceIte, h0, h1, h2, h3, h4, h10, h11, w0, c12, cl0, wL, wb1, true_and]
      refine Nx_of (a, mid, L, decide ((((b - a) / 8 : Nat) : Int) ≤ ((b - mid : Nat) : Int)), ap, d8) (by first | omega | (dsimp only; omega)) ?_
      simp only [go_sem, Nat.reduceEqDiff, Nat.reduceAdd, Nat.reduceLT, Nat.reduceLeDiff, reduceIte, h0, h1, h2, h3, h4, h10, h11, w0, c12, cl0, wL, wb1, true_and]
      exact ⟨by omega, by omega, by omega, by omega, hm8, AllD_perm hD7 (by omega) hp8, by rw [hp8.1, hs7, hsz, hs1], r1, fun R g1 g2 => by obtain ⟨f1, f2⟩ := r2 R g1 g2; exact hF R (permIn_trans _ _ _ a b hpr f1) f2⟩
    have cA : decide ((0 : Int) < (a : Int)) = true := decide_eq_true (by omega)
    have wa1 := wrap_p1 a (by omega) (by omega)
    have ia := hm2.idxN (k := .i64) (n := n) (i := a - 1) (by omega)
    have la := hm2.ld hD1 (i := a - 1) (by omega)
    have ip := hm2.idxN (k := .i64) (n := n) (i := pv) (by omega)
    have lp := hm2.ld hD1 (i := pv) (by omega)
    have hc := c.ok _ _ (hD1 (a - 1) (by omega)) (hD1 (pv) (by omega))
    cases hlt : c.lt d[a - 1]! d[pv]!
    ·have hlt' : decide (c.cf d[a - 1]! d[pv]! < 0) = false := hlt
     simp only [go_sem, Nat.reduceEqDiff, Nat.reduceAdd, Nat.reduceLT, Nat.reduceLeDiff, reduceIte, h0, h1, h2, h3, h4, h10, h11, w0, c12, cl0, wL, wb1, true_and, show (((1 : Nat) : Int) == 2) = false from rfl, show (((1 : Nat) : Int) == 1) = true from rfl, cA, wa1, ia, la, ip, lp, hc, hlt', hwE]
     refine pe_run c F.pe hn hpa hpb hbn (by omega) hD1 hm2 _ fun m7 hm7 hD7 hs7 => ?_
     obtain ⟨⟨mid, d7⟩, hx⟩ : ∃ r, partitionEqual c.lt d a b (pv) = r := ⟨_, rfl⟩
     rw [hx] at hm7 hD7 hs7 ⊢
     dsimp only at hm7 hD7 hs7
     obtain ⟨p1, p2, p3, p4, p5⟩ := round_eq hS (partitionEqual_holds c.lt) (by omega) hpa hpb (by omega) hB1 hlt hx
     simp only [go_sem, Nat.reduceEqDiff, Nat.reduceAdd, Nat.reduceLT, Nat.reduceLeDiff, reduceIte, h0, h1, h2, h3, h4, h10, h11, w0, c12, cl0, wL, wb1, true_and]
     refine Nx_of (mid, b, L, true, false, d7) (by first | omega | (dsimp only; omega)) ?_
     simp only [go_sem, Nat.reduceEqDiff, Nat.reduceAdd, Nat.reduceLT, Nat.reduceLeDiff, reduceIte, h0, h1, h2, h3, h4, h10, h11, w0, c12, cl0, wL, wb1, true_and]
     exact ⟨by omega, by omega, by omega, by omega, hm7, hD7, by rw [hs7, hsz, hs1], p4, fun R g1 g2 => by obtain ⟨f1, f2⟩ := p5 R g1 g2; exact hF R (permIn_trans _ _ _ a b hpr f1) f2⟩
    ·have hlt' : decide (c.cf d[a - 1]! d[pv]! < 0) = true := hlt
     simp only [go_sem, Nat.reduceEqDiff, Nat.reduceAdd, Nat.reduceLT, Nat.reduceLeDiff, reduceIte, h0, h1, h2, h3, h4, h10, h11, w0, c12, cl0, wL, wb1, true_and, show (((1 : Nat) : Int) == 2) = false from rfl, show (((1 : Nat) : Int) == 1) = true from rfl, cA, wa1, ia, la, ip, lp, hc, hlt', hwT]
     refine pt_run c F.pt hn hpa hpb hbn (by omega) hD1 hm2 _ fun m7 hm7 hD7 hs7 => ?_
     obtain ⟨⟨mid, ap, d7⟩, hx⟩ : ∃ r, partition c.lt d a b (pv) = r := ⟨_, rfl⟩
     rw [hx] at hm7 hD7 hs7 ⊢
     dsimp only at hm7 hD7 hs7
     obtain ⟨p1, p2, p3, p4, p5, p6, p7⟩ := round_part hS (partition_holds c.lt) hpa hpb (by omega) hB1 hx
     have wml := wrap_subN mid a (by omega) (by omega)
     have wmr := wrap_subN b mid (by omega) (by omega)
     have wms := wrap_succ mid (by omega)
     by_cases hlr : mid - a < b - mid
     ·simp only [go_sem, Nat.reduceEqDiff, Nat.reduceAdd, Nat.reduceLT, Nat.reduceLeDiff, reduceIte, h0, h1, h2, h3, h4, h10, h11, w0, c12, cl0, wL, wb1, true_and, wml, wmr, wms, e8, q8, show decide (((mid - a : Nat) : Int) < ((b - mid : Nat) : Int)) = true from decide_eq_true (by omega), hwS]
      refine ih (d0 := d7) (a0 := a) (b0 := mid) (lim := L) (by omega) (by omega) (by omega) (by omega) (by omega) hD7 p4 hm7 _ fun d8 m8 hm8 hp8 hso8 => ?_
      obtain ⟨r1, r2⟩ := p6 d8 hp8 hso8
      simp only [go_sem, Nat.reduceEqDiff, Nat.reduceAdd, Nat.reduceLT, Nat.reduceLeDiff, reduceIte, h0, h1, h2, h3, h4, h10, h11, w0, c12, cl0, wL, wb1, true_and, wms]
      refine Nx_of (mid + 1, b, L, decide ((((b - a) / 8 : Nat) : Int) ≤ ((mid - a : Nat) : Int)), ap, d8) (by first | omega | (dsimp only; omega)) ?_
      simp only [go_sem, Nat.reduceEqDiff, Nat.reduceAdd, Nat.reduceLT, Nat.reduceLeDiff, reduceIte, h0, h1, h2, h3, h4, h10, h11, w0, c12, cl0, wL, wb1, true_and]
      exact ⟨by omega, by omega, by omega, by omega, hm8, AllD_perm hD7 (by omega) hp8, by rw [hp8.1, hs7, hsz, hs1], r1, fun R g1 g2 => by obtain ⟨f1, f2⟩ := r2 R g1 g2; exact hF R (permIn_trans _ _ _ a b hpr f1) f2⟩
     ·simp only [go_sem, Nat.reduceEqDiff, Nat.reduceAdd, Nat.reduceLT, Nat.reduceLeDiff, reduceIte, h0, h1, h2, h3, h4, h10, h11, w0, c12, cl0, wL, wb1, true_and, wml, wmr, wms, e8, q8, show decide (((mid - a : Nat) : Int) < ((b - mid : Nat) : Int)) = false from decide_eq_false (by omega), hwS]
      refine ih (d0 := d7) (a0 := mid + 1) (b0 := b) (lim := L) (by omega) (by omega) (by omega) (by omega) (by omega) hD7 p5 hm7 _ fun d8 m8 hm8 hp8 hso8 => ?_
      obtain ⟨r1, r2⟩ := p7 d8 hp8 hso8
      simp only [go_sem, Nat.reduceEqDiff, Nat.reduceAdd, Nat.reduceLT, Nat.reduceLeDiff, reduceIte, h0, h1, h2, h3, h4, h10, h11, w0, c12, cl0, wL, wb1, true_and]
      refine Nx_of (a, mid, L, decide ((((b - a) / 8 : Nat) : Int) ≤ ((b - mid : Nat) : Int)), ap, d8) (by first | omega | (dsimp only; omega)) ?_
      simp only [go_sem, Nat.reduceEqDiff, Nat.reduceAdd, Nat.reduceLT, Nat.reduceLeDiff, reduceIte, h0, h1, h2, h3, h4, h10, h11, w0, c12, cl0, wL, wb1, true_and]
      exact ⟨by omega, by omega, by omega, by omega, hm8, AllD_perm hD7 (by omega) hp8, by rw [hp8.1, hs7, hsz, hs1], r1, fun R g1 g2 => by obtain ⟨f1, f2⟩ := r2 R g1 g2; exact hF R (permIn_trans _ _ _ a b hpr f1) f2⟩
   case true =>
    simp only [go_sem, Nat.reduceEqDiff, Nat.reduceAdd, Nat.reduceLT, Nat.reduceLeDiff, reduceIte, h0, h1, h2, h3, h4, h10, h11, w0, c12, cl0, wL, wb1, true_and, show (((1 : Nat) : Int) == 2) = false from rfl, show (((1 : Nat) : Int) == 1) = true from rfl, hwP]
    have hpi := partialInsertionSort_holds hS d a b (by omega) (by rw [hsz]; omega) hB1
    refine pi_run c F.pi hn (by omega) hbn (by rw [hsz]; omega) hD1 hm2 _ fun m5 hm5 hD5 hs5 => ?_
    obtain ⟨⟨d5, done⟩, hx5⟩ : ∃ r, partialInsertionSort c.lt d a b = r := ⟨_, rfl⟩
    rw [hx5] at hm5 hD5 hs5 hpi ⊢
    dsimp only at hm5 hD5 hs5 hpi
    have hp5 := permIn_trans _ _ _ a b hpr hpi.1
    have hs5' : d5.size = d.size := by rw [hs5, hsz]
    cases done with
    | true =>
     simp only [go_sem, Nat.reduceEqDiff, Nat.reduceAdd, Nat.reduceLT, Nat.reduceLeDiff, reduceIte]
     obtain ⟨r1, r2⟩ := hF _ hp5 (hpi.2 rfl)
     exact hK _ _ hm5 r1 r2
    | false =>
     have hB5 : Below c.lt a b d5 := hB1.perm (by omega) hp5
     have hDs : d5.size = d.size := by rw [hs5']
     by_cases ha0 : a = 0
     ·have cA : decide ((0 : Int) < (a : Int)) = false := decide_eq_false (by omega)
      simp only [go_sem, Nat.reduceEqDiff, Nat.reduceAdd, Nat.reduceLT, Nat.reduceLeDiff, reduceIte, h0, h1, h2, h3, h4, h10, h11, w0, c12, cl0, wL, wb1, true_and, Bool.false_eq_true, cA, hwT]
      refine pt_run c F.pt hn hpa hpb hbn (by omega) hD5 hm5 _ fun m7 hm7 hD7 hs7 => ?_
      obtain ⟨⟨mid, ap, d7⟩, hx⟩ : ∃ r, partition c.lt d5 a b (pv) = r := ⟨_, rfl⟩
      rw [hx] at hm7 hD7 hs7 ⊢
      dsimp only at hm7 hD7 hs7
      obtain ⟨p1, p2, p3, p4, p5, p6, p7⟩ := round_part hS (partition_holds c.lt) hpa hpb (by omega) hB5 hx
      have wml := wrap_subN mid a (by omega) (by omega)
      have wmr := wrap_subN b mid (by omega) (by omega)
      have wms := wrap_succ mid (by omega)
      by_cases hlr : mid - a < b - mid
      ·simp only [go_sem, Nat.reduceEqDiff, Nat.reduceAdd, Nat.reduceLT, Nat.reduceLeDiff, reduceIte, h0, h1, h2, h3, h4, h10, h11, w0, c12, cl0, wL, wb1, true_and, wml, wmr, wms, e8, q8, show decide (((mid - a : Nat) : Int) < ((b - mid : Nat) : Int)) = true from decide_eq_true (by omega), hwS]
       refine ih (d0 := d7) (a0 := a) (b0 := mid) (lim := L) (by omega) (by omega) (by omega) (by omega) (by omega) hD7 p4 hm7 _ fun d8 m8 hm8 hp8 hso8 => ?_
       obtain ⟨r1, r2⟩ := p6 d8 hp8 hso8
       simp only [go_sem, Nat.reduceEqDiff, Nat.reduceAdd, Nat.reduceLT, Nat.reduceLeDiff, reduceIte, h0, h1, h2, h3, h4, h10, h11, w0, c12, cl0, wL, wb1, true_and, wms]
       refine Nx_of (mid + 1, b, L, decide ((((b - a) / 8 : Nat) : Int) ≤ ((mid - a : Nat) : Int)), ap, d8) (by first | omega | (dsimp only; omega)) ?_
       simp only [go_sem, Nat.reduceEqDiff, Nat.reduceAdd, Nat.reduceLT, Nat.reduceLeDiff, reduceIte, h0, h1, h2, h3, h4, h10, h11, w0, c12, cl0, wL, wb1, true_and]
       exact ⟨by omega, by omega, by omega, by omega, hm8, AllD_perm hD7 (by omega) hp8, by rw [hp8.1, hs7, hs5', hs1], r1, fun R g1 g2 => by obtain ⟨f1, f2⟩ := r2 R g1 g2; exact hF R (permIn_trans _ _ _ a b hp5 f1) f2⟩
      ·simp only [go_sem, Nat.reduceEqDiff, Nat.reduceAdd, Nat.reduceLT, Nat.reduceLeDiff, reduceIte, h0, h1, h2, h3, h4, h10, h11, w0, c12, cl0, wL, wb1, true_and, wml, wmr, wms, e8, q8, show decide (((mid - a : Nat) : Int) < ((b - mid : Nat) : Int)) = false from decide_eq_false (by omega), hwS]
       refine ih (d0 := d7) (a0 := mid + 1) (b0 := b) (lim := L) (by omega) (by omega) (by omega) (by omega) (by omega) hD7 p5 hm7 _ fun d8 m8 hm8 hp8 hso8 => ?_
       obtain ⟨r1, r2⟩ := p7 d8 hp8 hso8
       simp only [go_sem, Nat.reduceEqDiff, Nat.reduceAdd, Nat.reduceLT, Nat.reduceLeDiff, reduceIte, h0, h1, h2, h3, h4, h10, h11, w0, c12, cl0, wL, wb1, true_and]
       refine Nx_of (a, mid, L, decide ((((b - a) / 8 : Nat) : Int) ≤ ((b - mid : Nat) : Int)), ap, d8) (by first | omega | (dsimp only; omega)) ?_
       simp only [go_sem, Nat.reduceEqDiff, Nat.reduceAdd, Nat.reduceLT, Nat.reduceLeDiff, reduceIte, h0, h1, h2, h3, h4, h10, h11, w0, c12, cl0, wL, wb1, true_and]
       exact ⟨by omega, by omega, by omega, by omega, hm8, AllD_perm hD7 (by omega) hp8, by rw [hp8.1, hs7, hs5', hs1], r1, fun R g1 g2 => by obtain ⟨f1, f2⟩ := r2 R g1 g2; exact hF R (permIn_trans _ _ _ a b hp5 f1) f2⟩
     have cA : decide ((0 : Int) < (a : Int)) = true := decide_eq_true (by omega)
     have wa1 := wrap_p1 a (by omega) (by omega)
     have ia := hm5.idxN (k := .i64) (n := n) (i := a - 1) (by omega)
     have la := hm5.ld hD5 (i := a - 1) (by omega)
     have ip := hm5.idxN (k := .i64) (n := n) (i := pv) (by omega)
     have lp := hm5.ld hD5 (i := pv) (by omega)
     have hc := c.ok _ _ (hD5 (a - 1) (by omega)) (hD5 (pv) (by omega))
     cases hlt : c.lt d5[a - 1]! d5[pv]!
     ·have hlt' : decide (c.cf d5[a - 1]! d5[pv]! < 0) = false := hlt
      simp only [go_sem, Nat.reduceEqDiff, Nat.reduceAdd, Nat.reduceLT, Nat.reduceLeDiff, reduceIte, h0, h1, h2, h3, h4, h10, h11, w0, c12, cl0, wL, wb1, true_and, Bool.false_eq_true, cA, wa1, ia, la, ip, lp, hc, hlt', hwE]
      refine pe_run c F.pe hn hpa hpb hbn (by omega) hD5 hm5 _ fun m7 hm7 hD7 hs7 => ?_
      obtain ⟨⟨mid, d7⟩, hx⟩ : ∃ r, partitionEqual c.lt d5 a b (pv) = r := ⟨_, rfl⟩
      rw [hx] at hm7 hD7 hs7 ⊢
      dsimp only at hm7 hD7 hs7
      obtain ⟨p1, p2, p3, p4, p5⟩ := round_eq hS (partitionEqual_holds c.lt) (by omega) hpa hpb (by omega) hB5 hlt hx
      simp only [go_sem, Nat.reduceEqDiff, Nat.reduceAdd, Nat.reduceLT, Nat.reduceLeDiff, reduceIte, h0, h1, h2, h3, h4, h10, h11, w0, c12, cl0, wL, wb1, true_and]
      refine Nx_of (mid, b, L, true, true, d7) (by first | omega | (dsimp only; omega)) ?_
      simp only [go_sem, Nat.reduceEqDiff, Nat.reduceAdd, Nat.reduceLT, Nat.reduceLeDiff, reduceIte, h0, h1, h2, h3, h4, h10, h11, w0, c12, cl0, wL, wb1, true_and]
      exact ⟨by omega, by omega, by omega, by omega, hm7, hD7, by rw [hs7, hs5', hs1], p4, fun R g1 g2 => by obtain ⟨f1, f2⟩ := p5 R g1 g2; exact hF R (permIn_trans _ _ _ a b hp5 f1) f2⟩
     ·have hlt' : decide (c.cf d5[a - 1]! d5[pv]! < 0) = true := hlt
      simp only [go_sem, Nat.reduceEqDiff, Nat.reduceAdd, Nat.reduceLT, Nat.reduceLeDiff, reduceIte, h0, h1, h2, h3, h4, h10, h11, w0, c12, cl0, wL, wb1, true_and, Bool.false_eq_true, cA, wa1, ia, la, ip, lp, hc, hlt', hwT]
      refine pt_run c F.pt hn hpa hpb hbn (by omega) hD5 hm5 _ fun m7 hm7 hD7 hs7 => ?_
      obtain ⟨⟨mid, ap, d7⟩, hx⟩ : ∃ r, partition c.lt d5 a b (pv) = r := ⟨_, rfl⟩
      rw [hx] at hm7 hD7 hs7 ⊢
      dsimp only at hm7 hD7 hs7
      obtain ⟨p1, p2, p3, p4, p5, p6, p7⟩ := round_part hS (partition_holds c.lt) hpa hpb (by omega) hB5 hx
      have wml := wrap_subN mid a (by omega) (by omega)
      have wmr := wrap_subN b mid (by omega) (by omega)
      have wms := wrap_succ mid (by omega)
      by_cases hlr : mid - a < b - mid
      ·simp only [go_sem, Nat.reduceEqDiff, Nat.reduceAdd, Nat.reduceLT, Nat.reduceLeDiff, reduceIte, h0, h1, h2, h3, h4, h10, h11, w0, c12, cl0, wL, wb1, true_and, wml, wmr, wms, e8, q8, show decide (((mid - a : Nat) : Int) < ((b - mid : Nat) : Int)) = true from decide_eq_true (by omega), hwS]
       refine ih (d0 := d7) (a0 := a) (b0 := mid) (lim := L) (by omega) (by omega) (by omega) (by omega) (by omega) hD7 p4 hm7 _ fun d8 m8 hm8 hp8 hso8 => ?_
       obtain ⟨r1, r2⟩ := p6 d8 hp8 hso8
       simp only [go_sem, Nat.reduceEqDiff, Nat.reduceAdd, Nat.reduceLT, Nat.reduceLeDiff, reduceIte, h0, h1, h2, h3, h4, h10, h11, w0, c12, cl0, wL, wb1, true_and, wms]
       refine Nx_of (mid + 1, b, L, decide ((((b - a) / 8 : Nat) : Int) ≤ ((mid - a : Nat) : Int)), ap, d8) (by first | omega | (dsimp only; omega)) ?_
       simp only [go_sem, Nat.reduceEqDiff, Nat.reduceAdd, Nat.reduceLT, Nat.reduceLeDiff, reduceIte, h0, h1, h2, h3, h4, h10, h11, w0, c12, cl0, wL, wb1, true_and]
       exact ⟨by omega, by omega, by omega, by omega, hm8, AllD_perm hD7 (by omega) hp8, by rw [hp8.1, hs7, hs5', hs1], r1, fun R g1 g2 => by obtain ⟨f1, f2⟩ := r2 R g1 g2; exact hF R (permIn_trans _ _ _ a b hp5 f1) f2⟩
      ·simp only [go_sem, Nat.reduceEqDiff, Nat.reduceAdd, Nat.reduceLT, Nat.reduceLeDiff, reduceIte, h0, h1, h2, h3, h4, h10, h11, w0, c12, cl0, wL, wb1, true_and, wml, wmr, wms, e8, q8, show decide (((mid - a : Nat) : Int) < ((b - mid : Nat) : Int)) = false from decide_eq_false (by omega), hwS]
       refine ih (d0 := d7) (a0 := mid + 1) (b0 := b) (lim := L) (by omega) (by omega) (by omega) (by omega) (by omega) hD7 p5 hm7 _ fun d8 m8 hm8 hp8 hso8 => ?_
       obtain ⟨r1, r2⟩ := p7 d8 hp8 hso8
       simp only [go_sem, Nat.reduceEqDiff, Nat.reduceAdd, Nat.reduceLT, Nat.reduceLeDiff, reduceIte, h0, h1, h2, h3, h4, h10, h11, w0, c12, cl0, wL, wb1, true_and]
       refine Nx_of (a, mid, L, decide ((((b - a) / 8 : Nat) : Int) ≤ ((b - mid : Nat) : Int)), ap, d8) (by first | omega | (dsimp only; omega)) ?_
       simp only [go_sem, Nat.reduceEqDiff, Nat.reduceAdd, Nat.reduceLT, Nat.reduceLeDiff, reduceIte, h0, h1, h2, h3, h4, h10, h11, w0, c12, cl0, wL, wb1, true_and]
       exact ⟨by omega, by omega, by omega, by omega, hm8, AllD_perm hD7 (by omega) hp8, by rw [hp8.1, hs7, hs5', hs1], r1, fun R g1 g2 => by obtain ⟨f1, f2⟩ := r2 R g1 g2; exact hF R (permIn_trans _ _ _ a b hp5 f1) f2⟩
  ·have wpa := wrap_subN pv a hpa (by omega)
   have wpb : IntKind.i64.wrap (((b - 1 : Nat) : Int) - ((pv - a : Nat) : Int)) = ((b - 1 - (pv - a) : Nat) : Int) := wrap_subN (b - 1) (pv - a) (by omega) (by omega)
   have hqa : a ≤ b - 1 - (pv - a) := by omega
   have hqb : b - 1 - (pv - a) < b := by omega
   have hrv := reverseRange_holds d a b hab (by rw [hsz]; omega)
   simp only [go_sem, Nat.reduceEqDiff, Nat.reduceAdd, Nat.reduceLT, Nat.reduceLeDiff, reduceIte, h0, h1, h2, h3, h4, h10, h11, w0, c12, cl0, wL, wb1, true_and, show (((2 : Nat) : Int) == 2) = true from rfl, show ((1 : Int) == 1) = true from rfl, hwR]
   refine rev_run (cv := cv) F.rev hn (by omega) hbn (by rw [hsz]; omega) hD1 hm2 _ fun m3 hm3 hD3 hs3 => ?_
   generalize reverseRange d a b = d3 at hrv hm3 hD3 hs3
   have hp3 := permIn_trans _ _ _ a b hpr hrv
   have hs3' : d3.size = d.size := by rw [hs3, hsz]
   have hB3 : Below c.lt a b d3 := hB1.perm (by omega) hp3
   generalize hpq : b - 1 - (pv - a) = pq at wpb hqa hqb
   cases wp
   case false =>
    have hDs : d3.size = d.size := by rw [hs3']
    by_cases ha0 : a = 0
    ·have cA : decide ((0 : Int) < (a : Int)) = false := decide_eq_false (by omega)
     simp only [go_sem, Nat.reduceEqDiff, Nat.reduceAdd, Nat.reduceLT, Nat.reduceLeDiff, reduceIte, h0, h1, h2, h3, h4, h10, h11, w0, c12, cl0, wL, wb1, true_and, show (((2 : Nat) : Int) == 2) = true from rfl, show ((1 : Int) == 1) = true from rfl, wpa, wpb, cA, hwT]
     refine pt_run c F.pt hn hqa hqb hbn (by omega) hD3 hm3 _ fun m7 hm7 hD7 hs7 => ?_
     obtain ⟨⟨mid, ap, d7⟩, hx⟩ : ∃ r, partition c.lt d3 a b (pq) = r := ⟨_, rfl⟩
     rw [hx] at hm7 hD7 hs7 ⊢
     dsimp only at hm7 hD7 hs7
     obtain ⟨p1, p2, p3, p4, p5, p6, p7⟩ := round_part hS (partition_holds c.lt) hqa hqb (by omega) hB3 hx
     have wml := wrap_subN mid a (by omega) (by omega)
     have wmr := wrap_subN b mid (by omega) (by omega)
     have wms := wrap_succ mid (by omega)
     by_cases hlr : mid - a < b - mid
     ·simp only [go_sem, Nat.reduceEqDiff, Nat.reduceAdd, Nat.reduceLT, Nat.reduceLeDiff, reduceIte, h0, h1, h2, h3, h4, h10, h11, w0, c12, cl0, wL, wb1, true_and, wml, wmr, wms, e8, q8, show decide (((mid - a : Nat) : Int) < ((b - mid : Nat) : Int)) = true from decide_eq_true (by omega), hwS]
      refine ih (d0 := d7) (a0 := a) (b0 := mid) (lim := L) (by omega) (by omega) (by omega) (by omega) (by omega) hD7 p4 hm7 _ fun d8 m8 hm8 hp8 hso8 => ?_
      obtain ⟨r1, r2⟩ := p6 d8 hp8 hso8
      simp only [go_sem, Nat.reduceEqDiff, Nat.reduceAdd, Nat.reduceLT, Nat.reduceLeDiff, reduceIte, h0, h1, h2, h3, h4, h10, h11, w0, c12, cl0, wL, wb1, true_and, wms]
      refine Nx_of (mid + 1, b, L, decide ((((b - a) / 8 : Nat) : Int) ≤ ((mid - a : Nat) : Int)), ap, d8) (by first | omega | (dsimp only; omega)) ?_
      simp only [go_sem, Nat.reduceEqDiff, Nat.reduceAdd, Nat.reduceLT, Nat.reduceLeDiff, reduceIte, h0, h1, h2, h3, h4, h10, h11, w0, c12, cl0, wL, wb1, true_and]
      exact ⟨by omega, by omega, by omega, by omega, hm8, AllD_perm hD7 (by omega) hp8, by rw [hp8.1, hs7, hs3', hs1], r1, fun R g1 g2 => by obtain ⟨f1, f2⟩ := r2 R g1 g2; exact hF R (permIn_trans _ _ _ a b hp3 f1) f2⟩
     ·simp only [go_sem, Nat.reduceEqDiff, Nat.reduceAdd, Nat.reduceLT, Nat.reduceLeDiff, reduceIte, h0, h1, h2, h3, h4, h10, h11, w0, c12, cl0, wL, wb1, true_and, wml, wmr, wms, e8, q8, show decide (((mid - a : Nat) : Int) < ((b - mid : Nat) : Int)) = false from decide_eq_false (by omega), hwS]
      refine ih (d0 := d7) (a0 := mid + 1) (b0 := b) (lim := L) (by omega) (by omega) (by omega) (by omega) (by omega) hD7 p5 hm7 _ fun d8 m8 hm8 hp8 hso8 => ?_
      obtain ⟨r1, r2⟩ := p7 d8 hp8 hso8
      simp only [go_sem, Nat.reduceEqDiff, Nat.reduceAdd, Nat.reduceLT, Nat.reduceLeDiff, reduceIte, h0, h1, h2, h3, h4, h10, h11, w0, c12, cl0, wL, wb1, true_and]
      refine Nx_of (a, mid, L, decide ((((b - a) / 8 : Nat) : Int) ≤ ((b - mid : Nat) : Int)), ap, d8) (by first | omega | (dsimp only; omega)) ?_
      simp only [go_sem, Nat.reduceEqDiff, Nat.reduceAdd, Nat.reduceLT, Nat.reduceLeDiff, reduceIte, h0, h1, h2, h3, h4, h10, h11, w0, c12, cl0, wL, wb1, true_and]
      exact ⟨by omega, by omega, by omega, by omega, hm8, AllD_perm hD7 (by omega) hp8, by rw [hp8.1, hs7, hs3', hs1], r1, fun R g1 g2 => by obtain ⟨f1, f2⟩ := r2 R g1 g2; exact hF R (permIn_trans _ _ _ a b hp3 f1) f2⟩
    have cA : decide ((0 : Int) < (a : Int)) = true := decide_eq_true (by omega)
    have wa1 := wrap_p1 a (by omega) (by omega)
    have ia := hm3.idxN (k := .i64) (n := n) (i := a - 1) (by omega)
    have la := hm3.ld hD3 (i := a - 1) (by omega)
    have ip := hm3.idxN (k := .i64) (n := n) (i := pq) (by omega)
    have lp := hm3.ld hD3 (i := pq) (by omega)
    have hc := c.ok _ _ (hD3 (a - 1) (by omega)) (hD3 (pq) (by omega))
    cases hlt : c.lt d3[a - 1]! d3[pq]!
    ·have hlt' : decide (c.cf d3[a - 1]! d3[pq]! < 0) = false := hlt
     simp only [go_sem, Nat.reduceEqDiff, Nat.reduceAdd, Nat.reduceLT, Nat.reduceLeDiff, reduceIte, h0, h1, h2, h3, h4, h10, h11, w0, c12, cl0, wL, wb1, true_and, show (((2 : Nat) : Int) == 2) = true from rfl, show ((1 : Int) == 1) = true from rfl, wpa, wpb, cA, wa1, ia, la, ip, lp, hc, hlt', hwE]
     refine pe_run c F.pe hn hqa hqb hbn (by omega) hD3 hm3 _ fun m7 hm7 hD7 hs7 => ?_
     obtain ⟨⟨mid, d7⟩, hx⟩ : ∃ r, partitionEqual c.lt d3 a b (pq) = r := ⟨_, rfl⟩
     rw [hx] at hm7 hD7 hs7 ⊢
     dsimp only at hm7 hD7 hs7
     obtain ⟨p1, p2, p3, p4, p5⟩ := round_eq hS (partitionEqual_holds c.lt) (by omega) hqa hqb (by omega) hB3 hlt hx
     simp only [go_sem, Nat.reduceEqDiff, Nat.reduceAdd, Nat.reduceLT, Nat.reduceLeDiff, reduceIte, h0, h1, h2, h3, h4, h10, h11, w0, c12, cl0, wL, wb1, true_and]
     refine Nx_of (mid, b, L, true, false, d7) (by first | omega | (dsimp only; omega)) ?_
     simp only [go_sem, Nat.reduceEqDiff, Nat.reduceAdd, Nat.reduceLT, Nat.reduceLeDiff, reduceIte, h0, h1, h2, h3, h4, h10, h11, w0, c12, cl0, wL, wb1, true_and]
     exact ⟨by omega, by omega, by omega, by omega, hm7, hD7, by rw [hs7, hs3', hs1], p4, fun R g1 g2 => by obtain ⟨f1, f2⟩ := p5 R g1 g2; exact hF R (permIn_trans _ _ _ a b hp3 f1) f2⟩
    ·have hlt' : decide (c.cf d3[a - 1]! d3[pq]! < 0) = true := hlt
     simp only [go_sem, Nat.reduceEqDiff, Nat.reduceAdd, Nat.reduceLT, Nat.reduceLeDiff, reduceIte, h0, h1, h2, h3, h4, h10, h11, w0, c12, cl0, wL, wb1, true_and, show (((2 : Nat) : Int) == 2) = true from rfl, show ((1 : Int) == 1) = true from rfl, wpa, wpb, cA, wa1, ia, la, ip, lp, hc, hlt', hwT]
     refine pt_run c F.pt hn hqa hqb hbn (by omega) hD3 hm3 _ fun m7 hm7 hD7 hs7 => ?_
     obtain ⟨⟨mid, ap, d7⟩, hx⟩ : ∃ r, partition c.lt d3 a b (pq) = r := ⟨_, rfl⟩
     rw [hx] at hm7 hD7 hs7 ⊢
     dsimp only at hm7 hD7 hs7
     obtain ⟨p1, p2, p3, p4, p5, p6, p7⟩ := round_part hS (partition_holds c.lt) hqa hqb (by omega) hB3 hx
     have wml := wrap_subN mid a (by omega) (by omega)
     have wmr := wrap_subN b mid (by omega) (by omega)
     have wms := wrap_succ mid (by omega)
     by_cases hlr : mid - a < b - mid
     ·simp only [go_sem, Nat.reduceEqDiff, Nat.reduceAdd, Nat.reduceLT, Nat.reduceLeDiff, reduceIte, h0, h1, h2, h3, h4, h10, h11, w0, c12, cl0, wL, wb1, true_and, wml, wmr, wms, e8, q8, show decide (((mid - a : Nat) : Int) < ((b - mid : Nat) : Int)) = true from decide_eq_true (by omega), hwS]
      refine ih (d0 := d7) (a0 := a) (b0 := mid) (lim := L) (by omega) (by omega) (by omega) (by omega) (by omega) hD7 p4 hm7 _ fun d8 m8 hm8 hp8 hso8 => ?_
      obtain ⟨r1, r2⟩ := p6 d8 hp8 hso8
      simp only [go_sem, Nat.reduceEqDiff, Nat.reduceAdd, Nat.reduceLT, Nat.reduceLeDiff, reduceIte, h0, h1, h2, h3, h4, h10, h11, w0, c12, cl0, wL, wb1, true_and, wms]
      refine Nx_of (mid + 1, b, L, decide ((((b - a) / 8 : Nat) : Int) ≤ ((mid - a : Nat) : Int)), ap, d8) (by first | omega | (dsimp only; omega)) ?_
      simp only [go_sem, Nat.reduceEqDiff, Nat.reduceAdd, Nat.reduceLT, Nat.reduceLeDiff, reduceIte, h0, h1, h2, h3, h4, h10, h11, w0, c12, cl0, wL, wb1, true_and]
      exact ⟨by omega, by omega, by omega, by omega, hm8, AllD_perm hD7 (by omega) hp8, by rw [hp8.1, hs7, hs3', hs1], r1, fun R g1 g2 => by obtain ⟨f1, f2⟩ := r2 R g1 g2; exact hF R (permIn_trans _ _ _ a b hp3 f1) f2⟩
     ·simp only [go_sem, Nat.reduceEqDiff, Nat.reduceAdd, Nat.reduceLT, Nat.reduceLeDiff, reduceIte, h0, h1, h2, h3, h4, h10, h11, w0, c12, cl0, wL, wb1, true_and, wml, wmr, wms, e8, q8, show decide (((mid - a : Nat) : Int) < ((b - mid : Nat) : Int)) = false from decide_eq_false (by omega), hwS]
      refine ih (d0 := d7) (a0 := mid + 1) (b0 := b) (lim := L) (by omega) (by omega) (by omega) (by omega) (by omega) hD7 p5 hm7 _ fun d8 m8 hm8 hp8 hso8 => ?_
      obtain ⟨r1, r2⟩ := p7 d8 hp8 hso8
      simp only [go_sem, Nat.reduceEqDiff, Nat.reduceAdd, Nat.reduceLT, Nat.reduceLeDiff, reduceIte, h0, h1, h2, h3, h4, h10, h11, w0, c12, cl0, wL, wb1, true_and]
      refine Nx_of (a, mid, L, decide ((((b - a) / 8 : Nat) : Int) ≤ ((b - mid : Nat) : Int)), ap, d8) (by first | omega | (dsimp only; omega)) ?_
      simp only [go_sem, Nat.reduceEqDiff, Nat.reduceAdd, Nat.reduceLT, Nat.reduceLeDiff, reduceIte, h0, h1, h2, h3, h4, h10, h11, w0, c12, cl0, wL, wb1, true_and]
      exact ⟨by omega, by omega, by omega, by omega, hm8, AllD_perm hD7 (by omega) hp8, by rw [hp8.1, hs7, hs3', hs1], r1, fun R g1 g2 => by obtain ⟨f1, f2⟩ := r2 R g1 g2; exact hF R (permIn_trans _ _ _ a b hp3 f1) f2⟩
   case true =>
    simp only [go_sem, Nat.reduceEqDiff, Nat.reduceAdd, Nat.reduceLT, Nat.reduceLeDiff, reduceIte, h0, h1, h2, h3, h4, h10, h11, w0, c12, cl0, wL, wb1, true_and, show (((2 : Nat) : Int) == 2) = true from rfl, show ((1 : Int) == 1) = true from rfl, wpa, wpb, hwP]
    have hpi := partialInsertionSort_holds hS d3 a b (by omega) (by rw [hs3']; omega) hB3
    refine pi_run c F.pi hn (by omega) hbn (by rw [hs3']; omega) hD3 hm3 _ fun m5 hm5 hD5 hs5 => ?_
    obtain ⟨⟨d5, done⟩, hx5⟩ : ∃ r, partialInsertionSort c.lt d3 a b = r := ⟨_, rfl⟩
    rw [hx5] at hm5 hD5 hs5 hpi ⊢
    dsimp only at hm5 hD5 hs5 hpi
    have hp5 := permIn_trans _ _ _ a b hp3 hpi.1
    have hs5' : d5.size = d.size := by rw [hs5, hs3']
    cases done with
    | true =>
     simp only [go_sem, Nat.reduceEqDiff, Nat.reduceAdd, Nat.reduceLT, Nat.reduceLeDiff, reduceIte]
     obtain ⟨r1, r2⟩ := hF _ hp5 (hpi.2 rfl)
     exact hK _ _ hm5 r1 r2
    | false =>
     have hB5 : Below c.lt a b d5 := hB1.perm (by omega) hp5
     have hDs : d5.size = d.size := by rw [hs5']
     by_cases ha0 : a = 0
     ·have cA : decide ((0 : Int) < (a : Int)) = false := decide_eq_false (by omega)
      simp only [go_sem, Nat.reduceEqDiff, Nat.reduceAdd, Nat.reduceLT, Nat.reduceLeDiff, reduceIte, h0, h1, h2, h3, h4, h10, h11, w0, c12, cl0, wL, wb1, true_and, Bool.false_eq_true, cA, hwT]
      refine pt_run c F.pt hn hqa hqb hbn (by omega) hD5 hm5 _ fun m7 hm7 hD7 hs7 => ?_
      obtain ⟨⟨mid, ap, d7⟩, hx⟩ : ∃ r, partition c.lt d5 a b (pq) = r := ⟨_, rfl⟩
      rw [hx] at hm7 hD7 hs7 ⊢
      dsimp only at hm7 hD7 hs7
      obtain ⟨p1, p2, p3, p4, p5, p6, p7⟩ := round_part hS (partition_holds c.lt) hqa hqb (by omega) hB5 hx
      have wml := wrap_subN mid a (by omega) (by omega)
      have wmr := wrap_subN b mid (by omega) (by omega)
      have wms := wrap_succ mid (by omega)
      by_cases hlr : mid - a < b - mid
      ·simp only [go_sem, Nat.reduceEqDiff, Nat.reduceAdd, Nat.reduceLT, Nat.reduceLeDiff, reduceIte, h0, h1, h2, h3, h4, h10, h11, w0, c12, cl0, wL, wb1, true_and, wml, wmr, wms, e8, q8, show decide (((mid - a : Nat) : Int) < ((b - mid : Nat) : Int)) = true from decide_eq_true (by omega), hwS]
       refine ih (d0 := d7) (a0 := a) (b0 := mid) (lim := L) (by omega) (by omega) (by omega) (by omega) (by omega) hD7 p4 hm7 _ fun d8 m8 hm8 hp8 hso8 => ?_
       obtain ⟨r1, r2⟩ := p6 d8 hp8 hso8
       simp only [go_sem, Nat.reduceEqDiff, Nat.reduceAdd, Nat.reduceLT, Nat.reduceLeDiff, reduceIte, h0, h1, h2, h3, h4, h10, h11, w0, c12, cl0, wL, wb1, true_and, wms]
       refine Nx_of (mid + 1, b, L, decide ((((b - a) / 8 : Nat) : Int) ≤ ((mid - a : Nat) : Int)), ap, d8) (by first | omega | (dsimp only; omega)) ?_
       simp only [go_sem, Nat.reduceEqDiff, Nat.reduceAdd, Nat.reduceLT, Nat.reduceLeDiff, reduceIte, h0, h1, h2, h3, h4, h10, h11, w0, c12, cl0, wL, wb1, true_and]
       exact ⟨by omega, by omega, by omega, by omega, hm8, AllD_perm hD7 (by omega) hp8, by rw [hp8.1, hs7, hs5', hs1], r1, fun R g1 g2 => by obtain ⟨f1, f2⟩ := r2 R g1 g2; exact hF R (permIn_trans _ _ _ a b hp5 f1) f2⟩
      ·simp only [go_sem, Nat.reduceEqDiff, Nat.reduceAdd, Nat.reduceLT, Nat.reduceLeDiff, reduceIte, h0, h1, h2, h3, h4, h10, h11, w0, c12, cl0, wL, wb1, true_and, wml, wmr, wms, e8, q8, show decide (((mid - a : Nat) : Int) < ((b - mid : Nat) : Int)) = false from decide_eq_false (by omega), hwS]
       refine ih (d0 := d7) (a0 := mid + 1) (b0 := b) (lim := L) (by omega) (by omega) (by omega) (by omega) (by omega) hD7 p5 hm7 _ fun d8 m8 hm8 hp8 hso8 => ?_
       obtain ⟨r1, r2⟩ := p7 d8 hp8 hso8
       simp only [go_sem, Nat.reduceEqDiff, Nat.reduceAdd, Nat.reduceLT, Nat.reduceLeDiff, reduceIte, h0, h1, h2, h3, h4, h10, h11, w0, c12, cl0, wL, wb1, true_and]
       refine Nx_of (a, mid, L, decide ((((b - a) / 8 : Nat) : Int) ≤ ((b - mid : Nat) : Int)), ap, d8) (by first | omega | (dsimp only; omega)) ?_
       simp only [go_sem, Nat.reduceEqDiff, Nat.reduceAdd, Nat.reduceLT, Nat.reduceLeDiff, reduceIte, h0, h1, h2, h3, h4, h10, h11, w0, c12, cl0, wL, wb1, true_and]
       exact ⟨by omega, by omega, by omega, by omega, hm8, AllD_perm hD7 (by omega) hp8, by rw [hp8.1, hs7, hs5', hs1], r1, fun R g1 g2 => by obtain ⟨f1, f2⟩ := r2 R g1 g2; exact hF R (permIn_trans _ _ _ a b hp5 f1) f2⟩
     have cA : decide ((0 : Int) < (a : Int)) = true := decide_eq_true (by omega)
     have wa1 := wrap_p1 a (by omega) (by omega)
     have ia := hm5.idxN (k := .i64) (n := n) (i := a - 1) (by omega)
     have la := hm5.ld hD5 (i := a - 1) (by omega)
     have ip := hm5.idxN (k := .i64) (n := n) (i := pq) (by omega)
     have lp := hm5.ld hD5 (i := pq) (by omega)
     have hc := c.ok _ _ (hD5 (a - 1) (by omega)) (hD5 (pq) (by omega))
     cases hlt : c.lt d5[a - 1]! d5[pq]!
     ·have hlt' : decide (c.cf d5[a - 1]! d5[pq]! < 0) = false := hlt
      simp only [go_sem, Nat.reduceEqDiff, Nat.reduceAdd, Nat.reduceLT, Nat.reduceLeDiff, reduceIte, h0, h1, h2, h3, h4, h10, h11, w0, c12, cl0, wL, wb1, true_and, Bool.false_eq_true, cA, wa1, ia, la, ip, lp, hc, hlt', hwE]
      refine pe_run c F.pe hn hqa hqb hbn (by omega) hD5 hm5 _ fun m7 hm7 hD7 hs7 => ?_
      obtain ⟨⟨mid, d7⟩, hx⟩ : ∃ r, partitionEqual c.lt d5 a b (pq) = r := ⟨_, rfl⟩
      rw [hx] at hm7 hD7 hs7 ⊢
      dsimp only at hm7 hD7 hs7
      obtain ⟨p1, p2, p3, p4, p5⟩ := round_eq hS (partitionEqual_holds c.lt) (by omega) hqa hqb (by omega) hB5 hlt hx
      simp only [go_sem, Nat.reduceEqDiff, Nat.reduceAdd, Nat.reduceLT, Nat.reduceLeDiff, reduceIte, h0, h1, h2, h3, h4, h10, h11, w0, c12, cl0, wL, wb1, true_and]
      refine Nx_of (mid, b, L, true, true, d7) (by first | omega | (dsimp only; omega)) ?_
      simp only [go_sem, Nat.reduceEqDiff, Nat.reduceAdd, Nat.reduceLT, Nat.reduceLeDiff, reduceIte, h0, h1, h2, h3, h4, h10, h11, w0, c12, cl0, wL, wb1, true_and]
      exact ⟨by omega, by omega, by omega, by omega, hm7, hD7, by rw [hs7, hs5', hs1], p4, fun R g1 g2 => by obtain ⟨f1, f2⟩ := p5 R g1 g2; exact hF R (permIn_trans _ _ _ a b hp5 f1) f2⟩
     ·have hlt' : decide (c.cf d5[a - 1]! d5[pq]! < 0) = true := hlt
      simp only [go_sem, Nat.reduceEqDiff, Nat.reduceAdd, Nat.reduceLT, Nat.reduceLeDiff, reduceIte, h0, h1, h2, h3, h4, h10, h11, w0, c12, cl0, wL, wb1, true_and, Bool.false_eq_true, cA, wa1, ia, la, ip, lp, hc, hlt', hwT]
      refine pt_run c F.pt hn hqa hqb hbn (by omega) hD5 hm5 _ fun m7 hm7 hD7 hs7 => ?_
      obtain ⟨⟨mid, ap, d7⟩, hx⟩ : ∃ r, partition c.lt d5 a b (pq) = r := ⟨_, rfl⟩
      rw [hx] at hm7 hD7 hs7 ⊢
      dsimp only at hm7 hD7 hs7
      obtain ⟨p1, p2, p3, p4, p5, p6, p7⟩ := round_part hS (partition_holds c.lt) hqa hqb (by omega) hB5 hx
      have wml := wrap_subN mid a (by omega) (by omega)
      have wmr := wrap_subN b mid (by omega) (by omega)
      have wms := wrap_succ mid (by omega)
      by_cases hlr : mid - a < b - mid
      ·simp only [go_sem, Nat.reduceEqDiff, Nat.reduceAdd, Nat.reduceLT, Nat.reduceLeDiff, reduceIte, h0, h1, h2, h3, h4, h10, h11, w0, c12, cl0, wL, wb1, true_and, wml, wmr, wms, e8, q8, show decide (((mid - a : Nat) : Int) < ((b - mid : Nat) : Int)) = true from decide_eq_true (by omega), hwS]
       refine ih (d0 := d7) (a0 := a) (b0 := mid) (lim := L) (by omega) (by omega) (by omega) (by omega) (by omega) hD7 p4 hm7 _ fun d8 m8 hm8 hp8 hso8 => ?_
       obtain ⟨r1, r2⟩ := p6 d8 hp8 hso8
       simp only [go_sem, Nat.reduceEqDiff, Nat.reduceAdd, Nat.reduceLT, Nat.reduceLeDiff, reduceIte, h0, h1, h2, h3, h4, h10, h11, w0, c12, cl0, wL, wb1, true_and, wms]
       refine Nx_of (mid + 1, b, L, decide ((((b - a) / 8 : Nat) : Int) ≤ ((mid - a : Nat) : Int)), ap, d8) (by first | omega | (dsimp only; omega)) ?_
       simp only [go_sem, Nat.reduceEqDiff, Nat.reduceAdd, Nat.reduceLT, Nat.reduceLeDiff, reduceIte, h0, h1, h2, h3, h4, h10, h11, w0, c12, cl0, wL, wb1, true_and]
       exact ⟨by omega, by omega, by omega, by omega, hm8, AllD_perm hD7 (by omega) hp8, by rw [hp8.1, hs7, hs5', hs1], r1, fun R g1 g2 => by obtain ⟨f1, f2⟩ := r2 R g1 g2; exact hF R (permIn_trans _ _ _ a b hp5 f1) f2⟩
      ·simp only [go_sem, Nat.reduceEqDiff, Nat.reduceAdd, Nat.reduceLT, Nat.reduceLeDiff, reduceIte, h0, h1, h2, h3, h4, h10, h11, w0, c12, cl0, wL, wb1, true_and, wml, wmr, wms, e8, q8, show decide (((mid - a : Nat) : Int) < ((b - mid : Nat) : Int)) = false from decide_eq_false (by omega), hwS]
       refine ih (d0 := d7) (a0 := mid + 1) (b0 := b) (lim := L) (by omega) (by omega) (by omega) (by omega) (by omega) hD7 p5 hm7 _ fun d8 m8 hm8 hp8 hso8 => ?_
       obtain ⟨r1, r2⟩ := p7 d8 hp8 hso8
       simp only [go_sem, Nat.reduceEqDiff, Nat.reduceAdd, Nat.reduceLT, Nat.reduceLeDiff, reduceIte, h0, h1, h2, h3, h4, h10, h11, w0, c12, cl0, wL, wb1, true_and]
       refine Nx_of (a, mid, L, decide ((((b - a) / 8 : Nat) : Int) ≤ ((b - mid : Nat) : Int)), ap, d8) (by first | omega | (dsimp only; omega)) ?_
       simp only [go_sem, Nat.reduceEqDiff, Nat.reduceAdd, Nat.reduceLT, Nat.reduceLeDiff, reduceIte, h0, h1, h2, h3, h4, h10, h11, w0, c12, cl0, wL, wb1, true_and]
       exact ⟨by omega, by omega, by omega, by omega, hm8, AllD_perm hD7 (by omega) hp8, by rw [hp8.1, hs7, hs5', hs1], r1, fun R g1 g2 => by obtain ⟨f1, f2⟩ := r2 R g1 g2; exact hF R (permIn_trans _ _ _ a b hp5 f1) f2⟩
 case false =>
  simp only [go_sem, Nat.reduceEqDiff, Nat.reduceAdd, Nat.reduceLT, Nat.reduceLeDiff, reduceIte, h0, h1, h2, h3, h4, h10, h11, w0, c12, cl0, wL, wb1, true_and, hwB]
  refine break_run F.brk F.xn F.np F.bl F.l6 hn (by omega) hbn (by omega) hD1 hid hm1 _ fun d1 m9 hm9 hD9 hs9 hp9 => ?_
  have hB9 : Below c.lt a b d1 := hB1.perm (by omega) hp9
  simp only [go_sem, Nat.reduceEqDiff, Nat.reduceAdd, Nat.reduceLT, Nat.reduceLeDiff, reduceIte, h0, h1, h2, h3, h4, h10, h11, w0, c12, cl0, wL, wb1, true_and, hwC]
  refine choose_run c F.cp F.ma F.md F.o2 hn (by omega) hbn (by rw [hs9]; omega) hD9 hid hm9 _ fun pv h m2 hpa hpb hh hm2 => ?_
  rcases hh with rfl | rfl | rfl
  ·skip
   have hDs : d1.size = d.size := by rw [hs9]
   by_cases ha0 : a = 0
   ·have cA : decide ((0 : Int) < (a : Int)) = false := decide_eq_false (by omega)
    simp only [go_sem, Nat.reduceEqDiff, Nat.reduceAdd, Nat.reduceLT, Nat.reduceLeDiff, reduceIte, h0, h1, h2, h3, h4, h10, h11, w0, c12, cl0, wL, wb1, true_and, show (((0 : Nat) : Int) == 2) = false from rfl, show (((0 : Nat) : Int) == 1) = false from rfl, cA, hwT]
    refine pt_run c F.pt hn hpa hpb hbn (by omega) hD9 hm2 _ fun m7 hm7 hD7 hs7 => ?_
    obtain ⟨⟨mid, ap, d7⟩, hx⟩ : ∃ r, partition c.lt d1 a b (pv) = r := ⟨_, rfl⟩
    rw [hx] at hm7 hD7 hs7 ⊢
    dsimp only at hm7 hD7 hs7
    obtain ⟨p1, p2, p3, p4, p5, p6, p7⟩ := round_part hS (partition_holds c.lt) hpa hpb (by omega) hB9 hx
    have wml := wrap_subN mid a (by omega) (by omega)
    have wmr := wrap_subN b mid (by omega) (by omega)
    have wms := wrap_succ mid (by omega)
    by_cases hlr : mid - a < b - mid
    ·simp only [go_sem, Nat.reduceEqDiff, Nat.reduceAdd, Nat.reduceLT, Nat.reduceLeDiff, reduceIte, h0, h1, h2, h3, h4, h10, h11, w0, c12, cl0, wL, wb1, true_and, wml, wmr, wms, e8, q8, show decide (((mid - a : Nat) : Int) < ((b - mid : Nat) : Int)) = true from decide_eq_true (by omega), hwS]
     refine ih (d0 := d7) (a0 := a) (b0 := mid) (lim := (L - 1)) (by omega) (by omega) (by omega) (by omega) (by omega) hD7 p4 hm7 _ fun d8 m8 hm8 hp8 hso8 => ?_
     obtain ⟨r1, r2⟩ := p6 d8 hp8 hso8
     simp only [go_sem, Nat.reduceEqDiff, Nat.reduceAdd, Nat.reduceLT, Nat.reduceLeDiff, reduceIte, h0, h1, h2, h3, h4, h10, h11, w0, c12, cl0, wL, wb1, true_and, wms]
     refine Nx_of (mid + 1, b, (L - 1), decide ((((b - a) / 8 : Nat) : Int) ≤ ((mid - a : Nat) : Int)), ap, d8) (by first | omega | (dsimp only; omega)) ?_
     simp only [go_sem, Nat.reduceEqDiff, Nat.reduceAdd, Nat.reduceLT, Nat.reduceLeDiff, reduceIte, h0, h1, h2, h3, h4, h10, h11, w0, c12, cl0, wL, wb1, true_and]
     exact ⟨by omega, by omega, by omega, by omega, hm8, AllD_perm hD7 (by omega) hp8, by rw [hp8.1, hs7, hs9, hs1], r1, fun R g1 g2 => by obtain ⟨f1, f2⟩ := r2 R g1 g2; exact hF R (permIn_trans _ _ _ a b hp9 f1) f2⟩
    ·simp only [go_sem, Nat.reduceEqDiff, Nat.reduceAdd, Nat.reduceLT, Nat.reduceLeDiff, reduceIte, h0, h1, h2, h3, h4, h10, h11, w0, c12, cl0, wL, wb1, true_and, wml, wmr, wms, e8, q8, show decide (((mid - a : Nat) : Int) < ((b - mid : Nat) : Int)) = false from decide_eq_false (by omega), hwS]
     refine ih (d0 := d7) (a0 := mid + 1) (b0 := b) (lim := (L - 1)) (by omega) (by omega) (by omega) (by omega) (by omega) hD7 p5 hm7 _ fun d8 m8 hm8 hp8 hso8 => ?_
     obtain ⟨r1, r2⟩ := p7 d8 hp8 hso8
     simp only [go_sem, Nat.reduceEqDiff, Nat.reduceAdd, Nat.reduceLT, Nat.reduceLeDiff, reduceIte, h0, h1, h2, h3, h4, h10, h11, w0, c12, cl0, wL, wb1, true_and]
     refine Nx_of (a, mid, (L - 1), decide ((((b - a) / 8 : Nat) : Int) ≤ ((b - mid : Nat) : Int)), ap, d8) (by first | omega | (dsimp only; omega)) ?_
     simp only [go_sem, Nat.reduceEqDiff, Nat.reduceAdd, Nat.reduceLT, Nat.reduceLeDiff, reduceIte, h0, h1, h2, h3, h4, h10, h11, w0, c12, cl0, wL, wb1, true_and]
     exact ⟨by omega, by omega, by omega, by omega, hm8, AllD_perm hD7 (by omega) hp8, by rw [hp8.1, hs7, hs9, hs1], r1, fun R g1 g2 => by obtain ⟨f1, f2⟩ := r2 R g1 g2; exact hF R (permIn_trans _ _ _ a b hp9 f1) f2⟩
   have cA : decide ((0 : Int) < (a : Int)) = true := decide_eq_true (by omega)
   have wa1 := wrap_p1 a (by omega) (by omega)
   have ia := hm2.idxN (k := .i64) (n := n) (i := a - 1) (by omega)
   have la := hm2.ld hD9 (i := a - 1) (by omega)
   have ip := hm2.idxN (k := .i64) (n := n) (i := pv) (by omega)
   have lp := hm2.ld hD9 (i := pv) (by omega)
   have hc := c.ok _ _ (hD9 (a - 1) (by omega)) (hD9 (pv) (by omega))
   cases hlt : c.lt d1[a - 1]! d1[pv]!
   ·have hlt' : decide (c.cf d1[a - 1]! d1[pv]! < 0) = false := hlt
    simp only [go_sem, Nat.reduceEqDiff, Nat.reduceAdd, Nat.reduceLT, Nat.reduceLeDiff, reduceIte, h0, h1, h2, h3, h4, h10, h11, w0, c12, cl0, wL, wb1, true_and, show (((0 : Nat) : Int) == 2) = false from rfl, show (((0 : Nat) : Int) == 1) = false from rfl, cA, wa1, ia, la, ip, lp, hc, hlt', hwE]
    refine pe_run c F.pe hn hpa hpb hbn (by omega) hD9 hm2 _ fun m7 hm7 hD7 hs7 => ?_
    obtain ⟨⟨mid, d7⟩, hx⟩ : ∃ r, partitionEqual c.lt d1 a b (pv) = r := ⟨_, rfl⟩
    rw [hx] at hm7 hD7 hs7 ⊢
    dsimp only at hm7 hD7 hs7
    obtain ⟨p1, p2, p3, p4, p5⟩ := round_eq hS (partitionEqual_holds c.lt) (by omega) hpa hpb (by omega) hB9 hlt hx
    simp only [go_sem, Nat.reduceEqDiff, Nat.reduceAdd, Nat.reduceLT, Nat.reduceLeDiff, reduceIte, h0, h1, h2, h3, h4, h10, h11, w0, c12, cl0, wL, wb1, true_and]
    refine Nx_of (mid, b, (L - 1), false, wp, d7) (by first | omega | (dsimp only; omega)) ?_
    simp only [go_sem, Nat.reduceEqDiff, Nat.reduceAdd, Nat.reduceLT, Nat.reduceLeDiff, reduceIte, h0, h1, h2, h3, h4, h10, h11, w0, c12, cl0, wL, wb1, true_and]
    exact ⟨by omega, by omega, by omega, by omega, hm7, hD7, by rw [hs7, hs9, hs1], p4, fun R g1 g2 => by obtain ⟨f1, f2⟩ := p5 R g1 g2; exact hF R (permIn_trans _ _ _ a b hp9 f1) f2⟩
   ·have hlt' : decide (c.cf d1[a - 1]! d1[pv]! < 0) = true := hlt
    simp only [go_sem, Nat.reduceEqDiff, Nat.reduceAdd, Nat.reduceLT, Nat.reduceLeDiff, reduceIte, h0, h1, h2, h3, h4, h10, h11, w0, c12, cl0, wL, wb1, true_and, show (((0 : Nat) : Int) == 2) = false from rfl, show (((0 : Nat) : Int) == 1) = false from rfl, cA, wa1, ia, la, ip, lp, hc, hlt', hwT]
    refine pt_run c F.pt hn hpa hpb hbn (by omega) hD9 hm2 _ fun m7 hm7 hD7 hs7 => ?_
    obtain ⟨⟨mid, ap, d7⟩, hx⟩ : ∃ r, partition c.lt d1 a b (pv) = r := ⟨_, rfl⟩
    rw [hx] at hm7 hD7 hs7 ⊢
    dsimp only at hm7 hD7 hs7
    obtain ⟨p1, p2, p3, p4, p5, p6, p7⟩ := round_part hS (partition_holds c.lt) hpa hpb (by omega) hB9 hx
    have wml := wrap_subN mid a (by omega) (by omega)
    have wmr := wrap_subN b mid (by omega) (by omega)
    have wms := wrap_succ mid (by omega)
    by_cases hlr : mid - a < b - mid
    ·simp only [go_sem, Nat.reduceEqDiff, Nat.reduceAdd, Nat.reduceLT, Nat.reduceLeDiff, reduceIte, h0, h1, h2, h3, h4, h10, h11, w0, c12, cl0, wL, wb1, true_and, wml, wmr, wms, e8, q8, show decide (((mid - a : Nat) : Int) < ((b - mid : Nat) : Int)) = true from decide_eq_true (by omega), hwS]
     refine ih (d0 := d7) (a0 := a) (b0 := mid) (lim := (L - 1)) (by omega) (by omega) (by omega) (by omega) (by omega) hD7 p4 hm7 _ fun d8 m8 hm8 hp8 hso8 => ?_
     obtain ⟨r1, r2⟩ := p6 d8 hp8 hso8
     simp only [go_sem, Nat.reduceEqDiff, Nat.reduceAdd, Nat.reduceLT, Nat.reduceLeDiff, reduceIte, h0, h1, h2, h3, h4, h10, h11, w0, c12, cl0, wL, wb1, true_and, wms]
     refine Nx_of (mid + 1, b, (L - 1), decide ((((b - a) / 8 : Nat) : Int) ≤ ((mid - a : Nat) : Int)), ap, d8) (by first | omega | (dsimp only; omega)) ?_
     simp only [go_sem, Nat.reduceEqDiff, Nat.reduceAdd, Nat.reduceLT, Nat.reduceLeDiff, reduceIte, h0, h1, h2, h3, h4, h10, h11, w0, c12, cl0, wL, wb1, true_and]
     exact ⟨by omega, by omega, by omega, by omega, hm8, AllD_perm hD7 (by omega) hp8, by rw [hp8.1, hs7, hs9, hs1], r1, fun R g1 g2 => by obtain ⟨f1, f2⟩ := r2 R g1 g2; exact hF R (permIn_trans _ _ _ a b hp9 f1) f2⟩
    ·simp only [go_sem, Nat.reduceEqDiff, Nat.reduceAdd, Nat.reduceLT, Nat.reduceLeDiff, reduceIte, h0, h1, h2, h3, h4, h10, h11, w0, c12, cl0, wL, wb1, true_and, wml, wmr, wms, e8, q8, show decide (((mid - a : Nat) : Int) < ((b - mid : Nat) : Int)) = false from decide_eq_false (by omega), hwS]
     refine ih (d0 := d7) (a0 := mid + 1) (b0 := b) (lim := (L - 1)) (by omega) (by omega) (by omega) (by omega) (by omega) hD7 p5 hm7 _ fun d8 m8 hm8 hp8 hso8 => ?_
     obtain ⟨r1, r2⟩ := p7 d8 hp8 hso8
     simp only [go_sem, Nat.reduceEqDiff, Nat.reduceAdd, Nat.reduceLT, Nat.reduceLeDiff, reduceIte, h0, h1, h2, h3, h4, h10, h11, w0, c12, cl0, wL, wb1, true_and]
     refine Nx_of (a, mid, (L - 1), decide ((((b - a) / 8 : Nat) : Int) ≤ ((b - mid : Nat) : Int)), ap, d8) (by first | omega | (dsimp only; omega)) ?_
     simp only [go_sem, Nat.reduceEqDiff, Nat.reduceAdd, Nat.reduceLT, Nat.reduceLeDiff, reduceIte, h0, h1, h2, h3, h4, h10, h11, w0, c12, cl0, wL, wb1, true_and]
     exact ⟨by omega, by omega, by omega, by omega, hm8, AllD_perm hD7 (by omega) hp8, by rw [hp8.1, hs7, hs9, hs1], r1, fun R g1 g2 => by obtain ⟨f1, f2⟩ := r2 R g1 g2; exact hF R (permIn_trans _ _ _ a b hp9 f1) f2⟩
  ·skip
   have hDs : d1.size = d.size := by rw [hs9]
   by_cases ha0 : a = 0
   ·have cA : decide ((0 : Int) < (a : Int)) = false := decide_eq_false (by omega)
    simp only [go_sem, Nat.reduceEqDiff, Nat.reduceAdd, Nat.reduceLT, Nat.reduceLeDiff, reduceIte, h0, h1, h2, h3, h4, h10, h11, w0, c12, cl0, wL, wb1, true_and, show (((1 : Nat) : Int) == 2) = false from rfl, show (((1 : Nat) : Int) == 1) = true from rfl, cA, hwT]
    refine pt_run c F.pt hn hpa hpb hbn (by omega) hD9 hm2 _ fun m7 hm7 hD7 hs7 => ?_
    obtain ⟨⟨mid, ap, d7⟩, hx⟩ : ∃ r, partition c.lt d1 a b (pv) = r := ⟨_, rfl⟩
    rw [hx] at hm7 hD7 hs7 ⊢
    dsimp only at hm7 hD7 hs7
    obtain ⟨p1, p2, p3, p4, p5, p6, p7⟩ := round_part hS (partition_holds c.lt) hpa hpb (by omega) hB9 hx
    have wml := wrap_subN mid a (by omega) (by omega)
    have wmr := wrap_subN b mid (by omega) (by omega)
    have wms := wrap_succ mid (by omega)
    by_cases hlr : mid - a < b - mid
    ·simp only [go_sem, Nat.reduceEqDiff, Nat.reduceAdd, Nat.reduceLT, Nat.reduceLeDiff, reduceIte, h0, h1, h2, h3, h4, h10, h11, w0, c12, cl0, wL, wb1, true_and, wml, wmr, wms, e8, q8, show decide (((mid - a : Nat) : Int) < ((b - mid : Nat) : Int)) = true from decide_eq_true (by omega), hwS]
     refine ih (d0 := d7) (a0 := a) (b0 := mid) (lim := (L - 1)) (by omega) (by omega) (by omega) (by omega) (by omega) hD7 p4 hm7 _ fun d8 m8 hm8 hp8 hso8 => ?_
     obtain ⟨r1, r2⟩ := p6 d8 hp8 hso8
     simp only [go_sem, Nat.reduceEqDiff, Nat.reduceAdd, Nat.reduceLT, Nat.reduceLeDiff, reduceIte, h0, h1, h2, h3, h4, h10, h11, w0, c12, cl0, wL, wb1, true_and, wms]
     refine Nx_of (mid + 1, b, (L - 1), decide ((((b - a) / 8 : Nat) : Int) ≤ ((mid - a : Nat) : Int)), ap, d8) (by first | omega | (dsimp only; omega)) ?_
     simp only [go_sem, Nat.reduceEqDiff, Nat.reduceAdd, Nat.reduceLT, Nat.reduceLeDiff, reduceIte, h0, h1, h2, h3, h4, h10, h11, w0, c12, cl0, wL, wb1, true_and]
     exact ⟨by omega, by omega, by omega, by omega, hm8, AllD_perm hD7 (by omega) hp8, by rw [hp8.1, hs7, hs9, hs1], r1, fun R g1 g2 => by obtain ⟨f1, f2⟩ := r2 R g1 g2; exact hF R (permIn_trans _ _ _ a b hp9 f1) f2⟩
    ·simp only [go_sem, Nat.reduceEqDiff, Nat.reduceAdd, Nat.reduceLT, Nat.reduceLeDiff, reduceIte, h0, h1, h2, h3, h4, h10, h11, w0, c12, cl0, wL, wb1, true_and, wml, wmr, wms, e8, q8, show decide (((mid - a : Nat) : Int) < ((b - mid : Nat) : Int)) = false from decide_eq_false (by omega), hwS]
     refine ih (d0 := d7) (a0 := mid + 1) (b0 := b) (lim := (L - 1)) (by omega) (by omega) (by omega) (by omega) (by omega) hD7 p5 hm7 _ fun d8 m8 hm8 hp8 hso8 => ?_
     obtain ⟨r1, r2⟩ := p7 d8 hp8 hso8
     simp only [go_sem, Nat.reduceEqDiff, Nat.reduceAdd, Nat.reduceLT, Nat.reduceLeDiff, reduceIte, h0, h1, h2, h3, h4, h10, h11, w0, c12, cl0, wL, wb1, true_and]
     refine Nx_of (a, mid, (L - 1), decide ((((b - a) / 8 : Nat) : Int) ≤ ((b - mid : Nat) : Int)), ap, d8) (by first | omega | (dsimp only; omega)) ?_
     simp only [go_sem, Nat.reduceEqDiff, Nat.reduceAdd, Nat.reduceLT, Nat.reduceLeDiff, reduceIte, h0, h1, h2, h3, h4, h10, h11, w0, c12, cl0, wL, wb1, true_and]
     exact ⟨by omega, by omega, by omega, by omega, hm8, AllD_perm hD7 (by omega) hp8, by rw [hp8.1, hs7, hs9, hs1], r1, fun R g1 g2 => by obtain ⟨f1, f2⟩ := r2 R g1 g2; exact hF R (permIn_trans _ _ _ a b hp9 f1) f2⟩
   have cA : decide ((0 : Int) < (a : Int)) = true := decide_eq_true (by omega)
   have wa1 := wrap_p1 a (by omega) (by omega)
   have ia := hm2.idxN (k := .i64) (n := n) (i := a - 1) (by omega)
   have la := hm2.ld hD9 (i := a - 1) (by omega)
   have ip := hm2.idxN (k := .i64) (n := n) (i := pv) (by omega)
   have lp := hm2.ld hD9 (i := pv) (by omega)
   have hc := c.ok _ _ (hD9 (a - 1) (by omega)) (hD9 (pv) (by omega))
   cases hlt : c.lt d1[a - 1]! d1[pv]!
   ·have hlt' : decide (c.cf d1[a - 1]! d1[pv]! < 0) = false := hlt
    simp only [go_sem, Nat.reduceEqDiff, Nat.reduceAdd, Nat.reduceLT, Nat.reduceLeDiff, reduceIte, h0, h1, h2, h3, h4, h10, h11, w0, c12, cl0, wL, wb1, true_and, show (((1 : Nat) : Int) == 2) = false from rfl, show (((1 : Nat) : Int) == 1) = true from rfl, cA, wa1, ia, la, ip, lp, hc, hlt', hwE]
    refine pe_run c F.pe hn hpa hpb hbn (by omega) hD9 hm2 _ fun m7 hm7 hD7 hs7 => ?_
    obtain ⟨⟨mid, d7⟩, hx⟩ : ∃ r, partitionEqual c.lt d1 a b (pv) = r := ⟨_, rfl⟩
    rw [hx] at hm7 hD7 hs7 ⊢
    dsimp only at hm7 hD7 hs7
    obtain ⟨p1, p2, p3, p4, p5⟩ := round_eq hS (partitionEqual_holds c.lt) (by omega) hpa hpb (by omega) hB9 hlt hx
    simp only [go_sem, Nat.reduceEqDiff, Nat.reduceAdd, Nat.reduceLT, Nat.reduceLeDiff, reduceIte, h0, h1, h2, h3, h4, h10, h11, w0, c12, cl0, wL, wb1, true_and]
    refine Nx_of (mid, b, (L - 1), false, wp, d7) (by first | omega | (dsimp only; omega)) ?_
    simp only [go_sem, Nat.reduceEqDiff, Nat.reduceAdd, Nat.reduceLT, Nat.reduceLeDiff, reduceIte, h0, h1, h2, h3, h4, h10, h11, w0, c12, cl0, wL, wb1, true_and]
    exact ⟨by omega, by omega, by omega, by omega, hm7, hD7, by rw [hs7, hs9, hs1], p4, fun R g1 g2 => by obtain ⟨f1, f2⟩ := p5 R g1 g2; exact hF R (permIn_trans _ _ _ a b hp9 f1) f2⟩
   ·have hlt' : decide (c.cf d1[a - 1]! d1[pv]! < 0) = true := hlt
    simp only [go_sem, Nat.reduceEqDiff, Nat.reduceAdd, Nat.reduceLT, Nat.reduceLeDiff, reduceIte, h0, h1, h2, h3, h4, h10, h11, w0, c12, cl0, wL, wb1, true_and, show (((1 : Nat) : Int) == 2) = false from rfl, show (((1 : Nat) : Int) == 1) = true from rfl, cA, wa1, ia, la, ip, lp, hc, hlt', hwT]
    refine pt_run c F.pt hn hpa hpb hbn (by omega) hD9 hm2 _ fun m7 hm7 hD7 hs7 => ?_
    obtain ⟨⟨mid, ap, d7⟩, hx⟩ : ∃ r, partition c.lt d1 a b (pv) = r := ⟨_, rfl⟩
    rw [hx] at hm7 hD7 hs7 ⊢
    dsimp only at hm7 hD7 hs7
    obtain ⟨p1, p2, p3, p4, p5, p6, p7⟩ := round_part hS (partition_holds c.lt) hpa hpb (by omega) hB9 hx
    have wml := wrap_subN mid a (by omega) (by omega)
    have wmr := wrap_subN b mid (by omega) (by omega)
    have wms := wrap_succ mid (by omega)
    by_cases hlr : mid - a < b - mid
    ·simp only [go_sem, Nat.reduceEqDiff, Nat.reduceAdd, Nat.reduceLT, Nat.reduceLeDiff, reduceIte, h0, h1, h2, h3, h4, h10, h11, w0, c12, cl0, wL, wb1, true_and, wml, wmr, wms, e8, q8, show decide (((mid - a : Nat) : Int) < ((b - mid : Nat) : Int)) = true from decide_eq_true (by omega), hwS]
     refine ih (d0 := d7) (a0 := a) (b0 := mid) (lim := (L - 1)) (by omega) (by omega) (by omega) (by omega) (by omega) hD7 p4 hm7 _ fun d8 m8 hm8 hp8 hso8 => ?_
     obtain ⟨r1, r2⟩ := p6 d8 hp8 hso8
     simp only [go_sem, Nat.reduceEqDiff, Nat.reduceAdd, Nat.reduceLT, Nat.reduceLeDiff, reduceIte, h0, h1, h2, h3, h4, h10, h11, w0, c12, cl0, wL, wb1, true_and, wms]
     refine Nx_of (mid + 1, b, (L - 1), decide ((((b - a) / 8 : Nat) : Int) ≤ ((mid - a : Nat) : Int)), ap, d8) (by first | omega | (dsimp only; omega)) ?_
     simp only [go_sem, Nat.reduceEqDiff, Nat.reduceAdd, Nat.reduceLT, Nat.reduceLeDiff, reduceIte, h0, h1, h2, h3, h4, h10, h11, w0, c12, cl0, wL, wb1, true_and]
     exact ⟨by omega, by omega, by omega, by omega, hm8, AllD_perm hD7 (by omega) hp8, by rw [hp8.1, hs7, hs9, hs1], r1, fun R g1 g2 => by obtain ⟨f1, f2⟩ := r2 R g1 g2; exact hF R (permIn_trans _ _ _ a b hp9 f1) f2⟩
    ·simp only [go_sem, Nat.reduceEqDiff, Nat.reduceAdd, Nat.reduceLT, Nat.reduceLeDiff, reduceIte, h0, h1, h2, h3, h4, h10, h11, w0, c12, cl0, wL, wb1, true_and, wml, wmr, wms, e8, q8, show decide (((mid - a : Nat) : Int) < ((b - mid : Nat) : Int)) = false from decide_eq_false (by omega), hwS]
     refine ih (d0 := d7) (a0 := mid + 1) (b0 := b) (lim := (L - 1)) (by omega) (by omega) (by omega) (by omega) (by omega) hD7 p5 hm7 _ fun d8 m8 hm8 hp8 hso8 => ?_
     obtain ⟨r1, r2⟩ := p7 d8 hp8 hso8
     simp only [go_sem, Nat.reduceEqDiff, Nat.reduceAdd, Nat.reduceLT, Nat.reduceLeDiff, reduceIte, h0, h1, h2, h3, h4, h10, h11, w0, c12, cl0, wL, wb1, true_and]
     refine Nx_of (a, mid, (L - 1), decide ((((b - a) / 8 : Nat) : Int) ≤ ((b - mid : Nat) : Int)), ap, d8) (by first | omega | (dsimp only; omega)) ?_
     simp only [go_sem, Nat.reduceEqDiff, Nat.reduceAdd, Nat.reduceLT, Nat.reduceLeDiff, reduceIte, h0, h1, h2, h3, h4, h10, h11, w0, c12, cl0, wL, wb1, true_and]
     exact ⟨by omega, by omega, by omega, by omega, hm8, AllD_perm hD7 (by omega) hp8, by rw [hp8.1, hs7, hs9, hs1], r1, fun R g1 g2 => by obtain ⟨f1, f2⟩ := r2 R g1 g2; exact hF R (permIn_trans _ _ _ a b hp9 f1) f2⟩
  ·have wpa := wrap_subN pv a hpa (by omega)
   have wpb : IntKind.i64.wrap (((b - 1 : Nat) : Int) - ((pv - a : Nat) : Int)) = ((b - 1 - (pv - a) : Nat) : Int) := wrap_subN (b - 1) (pv - a) (by omega) (by omega)
   have hqa : a ≤ b - 1 - (pv - a) := by omega
   have hqb : b - 1 - (pv - a) < b := by omega
   have hrv := reverseRange_holds d1 a b hab (by rw [hs9]; omega)
   simp only [go_sem, Nat.reduceEqDiff, Nat.reduceAdd, Nat.reduceLT, Nat.reduceLeDiff, reduceIte, h0, h1, h2, h3, h4, h10, h11, w0, c12, cl0, wL, wb1, true_and, show (((2 : Nat) : Int) == 2) = true from rfl, show ((1 : Int) == 1) = true from rfl, hwR]
   refine rev_run (cv := cv) F.rev hn (by omega) hbn (by rw [hs9]; omega) hD9 hm2 _ fun m3 hm3 hD3 hs3 => ?_
   generalize reverseRange d1 a b = d3 at hrv hm3 hD3 hs3
   have hp3 := permIn_trans _ _ _ a b hp9 hrv
   have hs3' : d3.size = d.size := by rw [hs3, hs9]
   have hB3 : Below c.lt a b d3 := hB1.perm (by omega) hp3
   generalize hpq : b - 1 - (pv - a) = pq at wpb hqa hqb
   have hDs : d3.size = d.size := by rw [hs3']
   by_cases ha0 : a = 0
   ·have cA : decide ((0 : Int) < (a : Int)) = false := decide_eq_false (by omega)
    simp only [go_sem, Nat.reduceEqDiff, Nat.reduceAdd, Nat.reduceLT, Nat.reduceLeDiff, reduceIte, h0, h1, h2, h3, h4, h10, h11, w0, c12, cl0, wL, wb1, true_and, show (((2 : Nat) : Int) == 2) = true from rfl, show ((1 : Int) == 1) = true from rfl, wpa, wpb, cA, hwT]
    refine pt_run c F.pt hn hqa hqb hbn (by omega) hD3 hm3 _ fun m7 hm7 hD7 hs7 => ?_
    obtain ⟨⟨mid, ap, d7⟩, hx⟩ : ∃ r, partition c.lt d3 a b (pq) = r := ⟨_, rfl⟩
    rw [hx] at hm7 hD7 hs7 ⊢
    dsimp only at hm7 hD7 hs7
    obtain ⟨p1, p2, p3, p4, p5, p6, p7⟩ := round_part hS (partition_holds c.lt) hqa hqb (by omega) hB3 hx
    have wml := wrap_subN mid a (by omega) (by omega)
    have wmr := wrap_subN b mid (by omega) (by omega)
    have wms := wrap_succ mid (by omega)
    by_cases hlr : mid - a < b - mid
    ·simp only [go_sem, Nat.reduceEqDiff, Nat.reduceAdd, Nat.reduceLT, Nat.reduceLeDiff, reduceIte, h0, h1, h2, h3, h4, h10, h11, w0, c12, cl0, wL, wb1, true_and, wml, wmr, wms, e8, q8, show decide (((mid - a : Nat) : Int) < ((b - mid : Nat) : Int)) = true from decide_eq_true (by omega), hwS]
     refine ih (d0 := d7) (a0 := a) (b0 := mid) (lim := (L - 1)) (by omega) (by omega) (by omega) (by omega) (by omega) hD7 p4 hm7 _ fun d8 m8 hm8 hp8 hso8 => ?_
     obtain ⟨r1, r2⟩ := p6 d8 hp8 hso8
     simp only [go_sem, Nat.reduceEqDiff, Nat.reduceAdd, Nat.reduceLT, Nat.reduceLeDiff, reduceIte, h0, h1, h2, h3, h4, h10, h11, w0, c12, cl0, wL, wb1, true_and, wms]
     refine Nx_of (mid + 1, b, (L - 1), decide ((((b - a) / 8 : Nat) : Int) ≤ ((mid - a : Nat) : Int)), ap, d8) (by first | omega | (dsimp only; omega)) ?_
     simp only [go_sem, Nat.reduceEqDiff, Nat.reduceAdd, Nat.reduceLT, Nat.reduceLeDiff, reduceIte, h0, h1, h2, h3, h4, h10, h11, w0, c12, cl0, wL, wb1, true_and]
     exact ⟨by omega, by omega, by omega, by omega, hm8, AllD_perm hD7 (by omega) hp8, by rw [hp8.1, hs7, hs3', hs1], r1, fun R g1 g2 => by obtain ⟨f1, f2⟩ := r2 R g1 g2; exact hF R (permIn_trans _ _ _ a b hp3 f1) f2⟩
    ·simp only [go_sem, Nat.reduceEqDiff, Nat.reduceAdd, Nat.reduceLT, Nat.reduceLeDiff, reduceIte, h0, h1, h2, h3, h4, h10, h11, w0, c12, cl0, wL, wb1, true_and, wml, wmr, wms, e8, q8, show decide (((mid - a : Nat) : Int) < ((b - mid : Nat) : Int)) = false from decide_eq_false (by omega), hwS]
     refine ih (d0 := d7) (a0 := mid + 1) (b0 := b) (lim := (L - 1)) (by omega) (by omega) (by omega) (by omega) (by omega) hD7 p5 hm7 _ fun d8 m8 hm8 hp8 hso8 => ?_
     obtain ⟨r1, r2⟩ := p7 d8 hp8 hso8
     simp only [go_sem, Nat.reduceEqDiff, Nat.reduceAdd, Nat.reduceLT, Nat.reduceLeDiff, reduceIte, h0, h1, h2, h3, h4, h10, h11, w0, c12, cl0, wL, wb1, true_and]
     refine Nx_of (a, mid, (L - 1), decide ((((b - a) / 8 : Nat) : Int) ≤ ((b - mid : Nat) : Int)), ap, d8) (by first | omega | (dsimp only; omega)) ?_
     simp only [go_sem, Nat.reduceEqDiff, Nat.reduceAdd, Nat.reduceLT, Nat.reduceLeDiff, reduceIte, h0, h1, h2, h3, h4, h10, h11, w0, c12, cl0, wL, wb1, true_and]
     exact ⟨by omega, by omega, by omega, by omega, hm8, AllD_perm hD7 (by omega) hp8, by rw [hp8.1, hs7, hs3', hs1], r1, fun R g1 g2 => by obtain ⟨f1, f2⟩ := r2 R g1 g2; exact hF R (permIn_trans _ _ _ a b hp3 f1) f2⟩
   have cA : decide ((0 : Int) < (a : Int)) = true := decide_eq_true (by omega)
   have wa1 := wrap_p1 a (by omega) (by omega)
   have ia := hm3.idxN (k := .i64) (n := n) (i := a - 1) (by omega)
   have la := hm3.ld hD3 (i := a - 1) (by omega)
   have ip := hm3.idxN (k := .i64) (n := n) (i := pq) (by omega)
   have lp := hm3.ld hD3 (i := pq) (by omega)
   have hc := c.ok _ _ (hD3 (a - 1) (by omega)) (hD3 (pq) (by omega))
   cases hlt : c.lt d3[a - 1]! d3[pq]!
   ·have hlt' : decide (c.cf d3[a - 1]! d3[pq]! < 0) = false := hlt
    simp only [go_sem, Nat.reduceEqDiff, Nat.reduceAdd, Nat.reduceLT, Nat.reduceLeDiff, reduceIte, h0, h1, h2, h3, h4, h10, h11, w0, c12, cl0, wL, wb1, true_and, show (((2 : Nat) : Int) == 2) = true from rfl, show ((1 : Int) == 1) = true from rfl, wpa, wpb, cA, wa1, ia, la, ip, lp, hc, hlt', hwE]
    refine pe_run c F.pe hn hqa hqb hbn (by omega) hD3 hm3 _ fun m7 hm7 hD7 hs7 => ?_
    obtain ⟨⟨mid, d7⟩, hx⟩ : ∃ r, partitionEqual c.lt d3 a b (pq) = r := ⟨_, rfl⟩
    rw [hx] at hm7 hD7 hs7 ⊢
    dsimp only at hm7 hD7 hs7
    obtain ⟨p1, p2, p3, p4, p5⟩ := round_eq hS (partitionEqual_holds c.lt) (by omega) hqa hqb (by omega) hB3 hlt hx
    simp only [go_sem, Nat.reduceEqDiff, Nat.reduceAdd, Nat.reduceLT, Nat.reduceLeDiff, reduceIte, h0, h1, h2, h3, h4, h10, h11, w0, c12, cl0, wL, wb1, true_and]
    refine Nx_of (mid, b, (L - 1), false, wp, d7) (by first | omega | (dsimp only; omega)) ?_
    simp only [go_sem, Nat.reduceEqDiff, Nat.reduceAdd, Nat.reduceLT, Nat.reduceLeDiff, reduceIte, h0, h1, h2, h3, h4, h10, h11, w0, c12, cl0, wL, wb1, true_and]
    exact ⟨by omega, by omega, by omega, by omega, hm7, hD7, by rw [hs7, hs3', hs1], p4, fun R g1 g2 => by obtain ⟨f1, f2⟩ := p5 R g1 g2; exact hF R (permIn_trans _ _ _ a b hp3 f1) f2⟩
   ·have hlt' : decide (c.cf d3[a - 1]! d3[pq]! < 0) = true := hlt
    simp only [go_sem, Nat.reduceEqDiff, Nat.reduceAdd, Nat.reduceLT, Nat.reduceLeDiff, reduceIte, h0, h1, h2, h3, h4, h10, h11, w0, c12, cl0, wL, wb1, true_and, show (((2 : Nat) : Int) == 2) = true from rfl, show ((1 : Int) == 1) = true from rfl, wpa, wpb, cA, wa1, ia, la, ip, lp, hc, hlt', hwT]
    refine pt_run c F.pt hn hqa hqb hbn (by omega) hD3 hm3 _ fun m7 hm7 hD7 hs7 => ?_
    obtain ⟨⟨mid, ap, d7⟩, hx⟩ : ∃ r, partition c.lt d3 a b (pq) = r := ⟨_, rfl⟩
    rw [hx] at hm7 hD7 hs7 ⊢
    dsimp only at hm7 hD7 hs7
    obtain ⟨p1, p2, p3, p4, p5, p6, p7⟩ := round_part hS (partition_holds c.lt) hqa hqb (by omega) hB3 hx
    have wml := wrap_subN mid a (by omega) (by omega)
    have wmr := wrap_subN b mid (by omega) (by omega)
    have wms := wrap_succ mid (by omega)
    by_cases hlr : mid - a < b - mid
    ·simp only [go_sem, Nat.reduceEqDiff, Nat.reduceAdd, Nat.reduceLT, Nat.reduceLeDiff, reduceIte, h0, h1, h2, h3, h4, h10, h11, w0, c12, cl0, wL, wb1, true_and, wml, wmr, wms, e8, q8, show decide (((mid - a : Nat) : Int) < ((b - mid : Nat) : Int)) = true from decide_eq_true (by omega), hwS]
     refine ih (d0 := d7) (a0 := a) (b0 := mid) (lim := (L - 1)) (by omega) (by omega) (by omega) (by omega) (by omega) hD7 p4 hm7 _ fun d8 m8 hm8 hp8 hso8 => ?_
     obtain ⟨r1, r2⟩ := p6 d8 hp8 hso8
     simp only [go_sem, Nat.reduceEqDiff, Nat.reduceAdd, Nat.reduceLT, Nat.reduceLeDiff, reduceIte, h0, h1, h2, h3, h4, h10, h11, w0, c12, cl0, wL, wb1, true_and, wms]
     refine Nx_of (mid + 1, b, (L - 1), decide ((((b - a) / 8 : Nat) : Int) ≤ ((mid - a : Nat) : Int)), ap, d8) (by first | omega | (dsimp only; omega)) ?_
     simp only [go_sem, Nat.reduceEqDiff, Nat.reduceAdd, Nat.reduceLT, Nat.reduceLeDiff, reduceIte, h0, h1, h2, h3, h4, h10, h11, w0, c12, cl0, wL, wb1, true_and]
     exact ⟨by omega, by omega, by omega, by omega, hm8, AllD_perm hD7 (by omega) hp8, by rw [hp8.1, hs7, hs3', hs1], r1, fun R g1 g2 => by obtain ⟨f1, f2⟩ := r2 R g1 g2; exact hF R (permIn_trans _ _ _ a b hp3 f1) f2⟩
    ·simp only [go_sem, Nat.reduceEqDiff, Nat.reduceAdd, Nat.reduceLT, Nat.reduceLeDiff, reduceIte, h0, h1, h2, h3, h4, h10, h11, w0, c12, cl0, wL, wb1, true_and, wml, wmr, wms, e8, q8, show decide (((mid - a : Nat) : Int) < ((b - mid : Nat) : Int)) = false from decide_eq_false (by omega), hwS]
     refine ih (d0 := d7) (a0 := mid + 1) (b0 := b) (lim := (L - 1)) (by omega) (by omega) (by omega) (by omega) (by omega) hD7 p5 hm7 _ fun d8 m8 hm8 hp8 hso8 => ?_
     obtain ⟨r1, r2⟩ := p7 d8 hp8 hso8
     simp only [go_sem, Nat.reduceEqDiff, Nat.reduceAdd, Nat.reduceLT, Nat.reduceLeDiff, reduceIte, h0, h1, h2, h3, h4, h10, h11, w0, c12, cl0, wL, wb1, true_and]
     refine Nx_of (a, mid, (L - 1), decide ((((b - a) / 8 : Nat) : Int) ≤ ((b - mid : Nat) : Int)), ap, d8) (by first | omega | (dsimp only; omega)) ?_
     simp only [go_sem, Nat.reduceEqDiff, Nat.reduceAdd, Nat.reduceLT, Nat.reduceLeDiff, reduceIte, h0, h1, h2, h3, h4, h10, h11, w0, c12, cl0, wL, wb1, true_and]
     exact ⟨by omega, by omega, by omega, by omega, hm8, AllD_perm hD7 (by omega) hp8, by rw [hp8.1, hs7, hs3', hs1], r1, fun R g1 g2 => by obtain ⟨f1, f2⟩ := r2 R g1 g2; exact hF R (permIn_trans _ _ _ a b hp3 f1) f2⟩
end Go.Ab.Srt
end
section
namespace Go.Ab.Srt
open Go.Sort
set_option maxRecDepth 8000
set_option maxHeartbeats 4000000
variable {ft : FuncId → Option AFn} {E : Els} {cv : AV} (c : CmpOK ft E cv) {id n : Nat} {m0 : Mem}
def sortFuncC (p_bitsLen p_pdqsort : FuncId) : ACode := .seq (.region [⟨(some 5), none, .mov (.t 0)⟩,
  ⟨(some 6), none, .len (.t 5)⟩,
  ⟨(some 4), none, .mov (.t 6)⟩])
 (.region [⟨(some 7), none, .mov (.t 0)⟩,
  ⟨(some 8), none, .mov (.t 4)⟩,
  ⟨(some 9), none, .mov (.t 4)⟩,
  ⟨(some 10), none, .conv .u64 (.t 9)⟩,
  ⟨(some 11), none, .call p_bitsLen [(.t 10)]⟩,
  ⟨(some 12), none, .mov (.t 1)⟩,
  ⟨(some 13), none, .call p_pdqsort [(.t 7), (.c (.int .i64 0)), (.t 8), (.t 11), (.t 12)]⟩])
def sortFuncR : List Res := []
theorem sortFunc_run {g f ins heap sift brk xn np bl l3 l6 cp ma md o2 rev pi pe pt : FuncId} (hg : ft g = some ⟨2, sortFuncC bl f, sortFuncR, .r⟩) (F : PdqFns ft E.sz E.lz f ins heap sift brk xn np bl l3 l6 cp ma md o2 rev pi pe pt) (hS : SWO c.lt) (hn : n < 1073741824) (hid : id < m0.blks.length)
  {d : Array AV} (hd : n ≤ d.size) (hD : AllD E d) {m : Mem} (hm : MR m0 m id E.sz d) (K : AV → Mem → Prop) (hK : ∀ d' m', MR m0 m' id E.sz d' → PermIn 0 n d d' → SortedIn c.lt 0 n d' → K (.tup []) m') : WR ft (.f g) [.ref id 0 n, cv] m K := by
 have hwb : ∀ (s : St) (as : List AV) (K : AV → St → Prop), WB ft bl as s K = WV ft bl (as.map (snap s.mem dep)) fun v => (as.all (fun a => !hot dep a) || plain dep v) = true ∧ K v s := fun s as K => WB_v F.bl rfl as s K
 have hwf := wbr F.f rfl
 rw [WR_f hg rfl]
 simp only [sortFuncC, sortFuncR]
 have hlen := hm.lenE n
 have hu : IntKind.u64.wrap (n : Int) = (n : Int) := wrap_u64 _ (by omega) (by omega)
 have hk : bitsLen n ≤ 30 := (bitsLen_le_iff _ _).2 (by simpa using hn)
 simp only [go_sem, Nat.reduceEqDiff, Nat.reduceAdd, Nat.reduceLT, Nat.reduceLeDiff, reduceIte, hlen, hu, hwb, WVH_eq (bitsLen_ok (md := .v) (md' := .v) F.bl F.l6 (by omega : n < 4294967296)), hwf, true_and]
 refine pdq_run c F hS hn hid (n + 1) (d0 := d) (a0 := 0) (b0 := n) (lim := bitsLen n) (by omega) (by omega) (Nat.le_refl _) hd (by omega) hD (Or.inl rfl) hm _ fun d' m' h1 h2 h3 => ?_
 simp only [go_sem, Nat.reduceEqDiff, Nat.reduceAdd, Nat.reduceLT, Nat.reduceLeDiff, reduceIte]
 exact hK d' m' h1 h2 h3
theorem sortFunc_nil {g f ins heap sift brk xn np bl l3 l6 cp ma md o2 rev pi pe pt : FuncId} {tk : Tk} {sz : Nat} {lz : Option Nat} (hg : ft g = some ⟨2, sortFuncC bl f, sortFuncR, .r⟩) (F : PdqFns ft sz lz f ins heap sift brk xn np bl l3 l6 cp ma md o2 rev pi pe pt)
  (m : Mem) (K : AV → Mem → Prop) (hK : K (.tup []) m) : WR ft (.f g) [.sl [] tk, cv] m K := by
 have hwb : ∀ (s : St) (as : List AV) (K : AV → St → Prop), WB ft bl as s K = WV ft bl (as.map (snap s.mem dep)) fun v => (as.all (fun a => !hot dep a) || plain dep v) = true ∧ K v s := fun s as K => WB_v F.bl rfl as s K
 have hwf := wbr F.f rfl
 have hwi := wbr F.ins rfl
 rw [WR_f hg rfl]
 simp only [sortFuncC, sortFuncR]
 have hu : IntKind.u64.wrap ((0 : Nat) : Int) = ((0 : Nat) : Int) := rfl
 simp only [go_sem, Nat.reduceEqDiff, Nat.reduceAdd, Nat.reduceLT, Nat.reduceLeDiff, reduceIte, hu, hwb, WVH_eq (bitsLen_ok (md := .v) (md' := .v) F.bl F.l6 (by omega : 0 < 4294967296)), hwf, true_and]
 show WR ft (.f f) _ m _
 rw [WR_f F.f rfl]
 simp only [pdqsortF, pdqsortFR]
 simp only [go_sem, Nat.reduceEqDiff, Nat.reduceAdd, Nat.reduceLT, Nat.reduceLeDiff, reduceIte]
 refine WL_inv (α := Unit) (fun _ e mm => e 0 = .sl [] tk ∧ e 1 = I64 0 ∧ e 2 = I64 ((0 : Nat) : Int) ∧ e 4 = cv ∧ mm = m) (fun _ => 0) () ?_ ?_
 ·simp only [go_sem, Nat.reduceEqDiff, Nat.reduceAdd, Nat.reduceLT, Nat.reduceLeDiff, reduceIte]
 rintro _ e m1 ⟨h0, h1, h2, h4, rfl⟩
 simp only [go_sem, Nat.reduceEqDiff, Nat.reduceAdd, Nat.reduceLT, Nat.reduceLeDiff, reduceIte, h0, h1, h2, h4, show IntKind.i64.wrap (((0 : Nat) : Int) - 0) = 0 from rfl, show decide ((0 : Int) ≤ 12) = true from rfl, hwi]
 show WR ft (.f ins) _ m1 _
 rw [WR_f F.ins rfl]
 simp only [insertionSortF, insertionSortFR]
 simp only [go_sem, Nat.reduceEqDiff, Nat.reduceAdd, Nat.reduceLT, Nat.reduceLeDiff, reduceIte, show IntKind.i64.wrap ((0 : Int) + 1) = 1 from rfl]
 refine WL_inv (α := Unit) (fun _ e mm => e 2 = I64 ((0 : Nat) : Int) ∧ e 8 = I64 1 ∧ mm = m1) (fun _ => 0) () ?_ ?_
 ·simp only [go_sem, Nat.reduceEqDiff, Nat.reduceAdd, Nat.reduceLT, Nat.reduceLeDiff, reduceIte]
 rintro _ e' m2 ⟨g2, g8, rfl⟩
 simp only [go_sem, Nat.reduceEqDiff, Nat.reduceAdd, Nat.reduceLT, Nat.reduceLeDiff, reduceIte, g2, g8, show decide ((1 : Int) < ((0 : Nat) : Int)) = false from rfl]
 exact hK
end Go.Ab.Srt
end
