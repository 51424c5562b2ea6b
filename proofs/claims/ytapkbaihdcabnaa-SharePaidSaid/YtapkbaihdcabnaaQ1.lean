/-
  A part of the proofs over this seat.
  (The texts Ad1 Ad2 Ad2b Ad3 Ae1, one behind the other.)
-/
import Derived.Test.YtapkbaihdcabnaaA0
import Derived.Sort.AssemblyPlain
set_option linter.unusedSimpArgs false
set_option linter.unusedVariables false
set_option linter.unusedSectionVars false
section
/-
  A slice in shared memory that is sorted in place: what its accesses give.
-/
namespace Go.Ab
open Go.Sort
instance instInhabitedAV : Inhabited AV := ⟨.undef⟩
/-- The elements that are sorted: how they lie, and how they are read. -/
structure Els where
  sz : Nat
  lz : Option Nat
  D : AV → Prop
  len : ∀ x, D x → x.cells.length = sz
  sol : ∀ x, D x → x.cells.all AV.solid = true
  rd : ∀ x, D x → readCells x.cells 0 lz = some x
  wr : ∀ x y, D x → D y → writeCells x 0 y.cells = some y
def AllD (E : Els) (d : Array AV) : Prop := ∀ i, i < d.size → E.D d[i]!
/-- Memory in which a block holds the array, and what was there before is as it was. -/
structure MR (m m' : Mem) (id sz : Nat) (d : Array AV) : Prop where
  blk : m'.blks[id]? = some (.live d.toList sz)
  len : m.blks.length ≤ m'.blks.length
  toks : m'.toks = m.toks
  old : ∀ i, i < m.blks.length → i ≠ id → m'.blks[i]? = m.blks[i]?
section
variable {m m1 m2 : Mem} {id sz : Nat} {d d' : Array AV} {E : Els}
theorem MR.refl (h : m.blks[id]? = some (.live d.toList sz)) : MR m m id sz d := ⟨h, Nat.le_refl _, rfl, fun _ _ _ => rfl⟩
theorem MR.trans (h : MR m m1 id sz d) (k : MR m1 m2 id sz d') : MR m m2 id sz d' :=
  ⟨k.blk, Nat.le_trans h.len k.len, k.toks.trans h.toks, fun i hi hne => (k.old i (Nat.lt_of_lt_of_le hi h.len) hne).trans (h.old i hi hne)⟩
theorem MR.lt (h : MR m m1 id sz d) : id < m1.blks.length := (List.getElem?_eq_some_iff.1 h.blk).1
theorem MR.push (h : MR m m1 id sz d) (b : Blk) : MR m ⟨m1.blks ++ [b], m1.toks⟩ id sz d :=
  ⟨by simp only; rw [List.getElem?_append_left h.lt]; exact h.blk, by simp; have := h.len; omega, h.toks, fun i hi hne => by simp only; rw [List.getElem?_append_left (by have := h.len; omega)]; exact h.old i hi hne⟩
theorem MR.setO (h : MR m m1 id sz d) {j : Nat} (hj : m.blks.length ≤ j) (hid : id < m.blks.length) (b : Blk) : MR m ⟨m1.blks.set j b, m1.toks⟩ id sz d :=
  ⟨by simp only; rw [List.getElem?_set_ne (by omega)]; exact h.blk, by simp; exact h.len, h.toks, fun i hi hne => by simp only; rw [List.getElem?_set_ne (by omega)]; exact h.old i hi hne⟩
theorem MR.put (h : MR m m1 id sz d) (d' : Array AV) : MR m ⟨m1.blks.set id (.live d'.toList sz), m1.toks⟩ id sz d' :=
  ⟨by simp only; rw [List.getElem?_set_self h.lt], by simp; exact h.len, h.toks, fun i hi hne => by simp only; rw [List.getElem?_set_ne (Ne.symm hne)]; exact h.old i hi hne⟩
theorem MR.idx (h : MR m m1 id sz d) {n : Nat} {k : IntKind} {i : Int} (h0 : 0 ≤ i) (h1 : i < (n : Int)) : idxAt m1 (.ref id 0 n) (.int k i) sz = some (.ptr id i.toNat 0) := by
  rw [idxAt_ref, if_pos ⟨⟨h0, h1⟩, by rw [lsz_eq, h.blk]; rfl⟩, Nat.zero_add]
theorem MR.lenE (h : MR m m1 id sz d) (n : Nat) : lenAt m1 (.ref id 0 n) = some (.int .i64 n) := by
  rw [lenAt_ref, if_pos (by rw [lsz_eq, h.blk]; rfl)]
theorem get_bang {i : Nat} (h : i < d.size) : d.toList[i]? = some d[i]! := by
  rw [Array.getElem?_toList, Array.getElem?_eq_getElem h, getElem!_pos d i h]
theorem MR.ld (h : MR m m1 id E.sz d) (hD : AllD E d) {i : Nat} (hi : i < d.size) : loadAt m1 (.ptr id i 0) E.lz = some d[i]! := by
  simp only [loadAt_ptr, h.blk, ldBlk_live, get_bang hi, ldEl_some]
  exact E.rd _ (hD i hi)
theorem MR.st (h : MR m m1 id E.sz d) (hD : AllD E d) {i : Nat} (hi : i < d.size) {v : AV} (hv : E.D v) : storeAt m1 (.ptr id i 0) v E.sz = some ⟨m1.blks.set id (.live (d.setIfInBounds i v).toList E.sz), m1.toks⟩ := by
  simp only [storeAt_ptr, h.blk, stBlk_live, get_bang hi, stEl_some]
  rw [if_pos ⟨E.len v hv, by rw [solids_eq]; exact E.sol v hv⟩, E.wr _ _ (hD i hi) hv]
  simp
theorem AllD.set (hD : AllD E d) {i : Nat} {v : AV} (hv : E.D v) : AllD E (d.setIfInBounds i v) := by
  intro j hj
  rw [Array.size_setIfInBounds] at hj
  rw [getElem!_pos _ j (by simpa using hj), Array.getElem_setIfInBounds]
  split
  · exact hv
  · have := hD j hj; rwa [getElem!_pos d j hj] at this
theorem swp_size (d : Array AV) (i j : Nat) : (swp d i j).size = d.size := by simp [swp]
theorem AllD.swp (hD : AllD E d) {i j : Nat} (hi : i < d.size) (hj : j < d.size) : AllD E (Go.Sort.swp d i j) := (hD.set (hD j hj)).set (hD i hi)
/-- Two elements change their places. -/
theorem MR.swap (h : MR m m1 id E.sz d) (hD : AllD E d) {i j : Nat} (hi : i < d.size) (hj : j < d.size) : ∃ m2 m3, storeAt m1 (.ptr id i 0) d[j]! E.sz = some m2 ∧ storeAt m2 (.ptr id j 0) d[i]! E.sz = some m3 ∧
    (∃ d2, MR m m2 id E.sz d2) ∧ MR m m3 id E.sz (Go.Sort.swp d i j) ∧ AllD E (Go.Sort.swp d i j) ∧ (Go.Sort.swp d i j).size = d.size := by
  refine ⟨_, _, h.st hD hi (hD j hj), (h.put _).st (hD.set (hD j hj)) (by simpa using hj) (hD i hi), ⟨_, h.put _⟩, ?_, hD.swp hi hj, swp_size _ _ _⟩
  exact (h.put _).put _
theorem MR.idxN (h : MR m m1 id sz d) {n i : Nat} {k : IntKind} (h1 : i < n) : idxAt m1 (.ref id 0 n) (.int k (i : Int)) sz = some (.ptr id i 0) := by
  have := h.idx (k := k) (n := n) (i := (i : Int)) (by omega) (by omega)
  rwa [Int.toNat_natCast] at this
end
/-- A comparison that is a function of two elements. -/
structure CmpOK (ft : FuncId → Option AFn) (E : Els) (cv : AV) where
  cf : AV → AV → Int
  ok : ∀ x y, E.D x → E.D y → ∀ (s : St) (K : AV → St → Prop), @WAH ft cv [x, y] s ⟨K⟩ = K (I64 (cf x y)) s
def CmpOK.lt {ft : FuncId → Option AFn} {E : Els} {cv : AV} (c : CmpOK ft E cv) (x y : AV) : Bool := decide (c.cf x y < 0)
end Go.Ab
end

section
/-
  The sort of package slices, as the machine's code.
-/
namespace Go.Ab.Srt
/-- insertionSortCmpFunc -/
def insertionSortF (sz : Nat) (lz : Option Nat) : ACode := .seq (.region [⟨(some 10), none, .mov (.t 1)⟩,
    ⟨(some 11), none, .bin .add (.t 10) (.c (.int .i64 1))⟩,
    ⟨(some 8), none, .mov (.t 11)⟩])
  (.block 0 (.loop (.seq (.seq (.region [⟨(some 12), none, .mov (.t 8)⟩,
    ⟨(some 13), none, .mov (.t 2)⟩,
    ⟨(some 14), none, .bin .lss (.t 12) (.t 13)⟩])
  (.cond (.t 14) (.skip)
  (.exit 0)))
  (.seq (.block 1 (.seq (.region [⟨(some 17), none, .mov (.t 8)⟩,
    ⟨(some 9), none, .mov (.t 17)⟩])
  (.block 2 (.loop (.seq (.seq (.region [⟨(some 18), none, .mov (.t 9)⟩,
    ⟨(some 19), none, .mov (.t 1)⟩,
    ⟨(some 20), none, .bin .gtr (.t 18) (.t 19)⟩,
    ⟨(some 21), none, .mov (.t 20)⟩,
    ⟨(some 22), some (21, true), .mov (.t 3)⟩,
    ⟨(some 23), some (21, true), .mov (.t 0)⟩,
    ⟨(some 24), some (21, true), .mov (.t 9)⟩,
    ⟨(some 25), some (21, true), .idx (.t 23) (.t 24) sz⟩,
    ⟨(some 26), some (21, true), .load (.t 25) lz⟩,
    ⟨(some 27), some (21, true), .mov (.t 0)⟩,
    ⟨(some 28), some (21, true), .mov (.t 9)⟩,
    ⟨(some 29), some (21, true), .bin .sub (.t 28) (.c (.int .i64 1))⟩,
    ⟨(some 30), some (21, true), .idx (.t 27) (.t 29) sz⟩,
    ⟨(some 31), some (21, true), .load (.t 30) lz⟩,
    ⟨(some 32), some (21, true), .callv (.t 22) [(.t 26), (.t 31)]⟩,
    ⟨(some 33), some (21, true), .bin .lss (.t 32) (.c (.int .i64 0))⟩,
    ⟨(some 34), none, .pick (.t 21) (.t 33) (.c (.bool false))⟩])
  (.cond (.t 34) (.skip)
  (.exit 2)))
  (.seq (.block 3 (.region [⟨(some 37), none, .mov (.t 0)⟩,
    ⟨(some 38), none, .mov (.t 9)⟩,
    ⟨(some 39), none, .mov (.t 0)⟩,
    ⟨(some 40), none, .mov (.t 9)⟩,
    ⟨(some 41), none, .bin .sub (.t 40) (.c (.int .i64 1))⟩,
    ⟨(some 42), none, .mov (.t 0)⟩,
    ⟨(some 43), none, .mov (.t 9)⟩,
    ⟨(some 44), none, .bin .sub (.t 43) (.c (.int .i64 1))⟩,
    ⟨(some 45), none, .idx (.t 42) (.t 44) sz⟩,
    ⟨(some 46), none, .load (.t 45) lz⟩,
    ⟨(some 47), none, .mov (.t 0)⟩,
    ⟨(some 48), none, .mov (.t 9)⟩,
    ⟨(some 49), none, .idx (.t 47) (.t 48) sz⟩,
    ⟨(some 50), none, .load (.t 49) lz⟩,
    ⟨(some 51), none, .idx (.t 37) (.t 38) sz⟩,
    ⟨none, none, .store (.t 51) (.t 46) sz⟩,
    ⟨(some 52), none, .idx (.t 39) (.t 41) sz⟩,
    ⟨none, none, .store (.t 52) (.t 50) sz⟩]))
  (.region [⟨(some 35), none, .mov (.t 9)⟩,
    ⟨(some 36), none, .bin .sub (.t 35) (.c (.int .i64 1))⟩,
    ⟨(some 9), none, .mov (.t 36)⟩])))))))
  (.region [⟨(some 15), none, .mov (.t 8)⟩,
    ⟨(some 16), none, .bin .add (.t 15) (.c (.int .i64 1))⟩,
    ⟨(some 8), none, .mov (.t 16)⟩])))))
def insertionSortFR : List Res := []
end Go.Ab.Srt
end

section
/-
  Random numbers and powers of two, as the machine's code.
-/
namespace Go.Ab.Srt
def xorNextC : ACode := .seq (.region [⟨(some 2), none, .mov (.c (.int .u64 0))⟩])
  (.seq (.region [⟨(some 3), none, .mov (.t 0)⟩,
    ⟨(some 4), none, .addr (.t 3) 0⟩,
    ⟨(some 5), none, .load (.t 4) none⟩,
    ⟨(some 6), none, .mov (.t 0)⟩,
    ⟨(some 7), none, .addr (.t 6) 0⟩,
    ⟨(some 8), none, .load (.t 7) none⟩,
    ⟨(some 9), none, .bin .shl (.t 8) (.c (.int .u64 13))⟩,
    ⟨(some 10), none, .bin .xor (.t 5) (.t 9)⟩,
    ⟨(some 11), none, .addr (.t 3) 0⟩,
    ⟨none, none, .store (.t 11) (.t 10) 1⟩])
  (.seq (.region [⟨(some 12), none, .mov (.t 0)⟩,
    ⟨(some 13), none, .addr (.t 12) 0⟩,
    ⟨(some 14), none, .load (.t 13) none⟩,
    ⟨(some 15), none, .mov (.t 0)⟩,
    ⟨(some 16), none, .addr (.t 15) 0⟩,
    ⟨(some 17), none, .load (.t 16) none⟩,
    ⟨(some 18), none, .bin .shr (.t 17) (.c (.int .u64 7))⟩,
    ⟨(some 19), none, .bin .xor (.t 14) (.t 18)⟩,
    ⟨(some 20), none, .addr (.t 12) 0⟩,
    ⟨none, none, .store (.t 20) (.t 19) 1⟩])
  (.seq (.region [⟨(some 21), none, .mov (.t 0)⟩,
    ⟨(some 22), none, .addr (.t 21) 0⟩,
    ⟨(some 23), none, .load (.t 22) none⟩,
    ⟨(some 24), none, .mov (.t 0)⟩,
    ⟨(some 25), none, .addr (.t 24) 0⟩,
    ⟨(some 26), none, .load (.t 25) none⟩,
    ⟨(some 27), none, .bin .shl (.t 26) (.c (.int .u64 17))⟩,
    ⟨(some 28), none, .bin .xor (.t 23) (.t 27)⟩,
    ⟨(some 29), none, .addr (.t 21) 0⟩,
    ⟨none, none, .store (.t 29) (.t 28) 1⟩])
  (.seq (.region [⟨(some 30), none, .mov (.t 0)⟩,
    ⟨(some 31), none, .addr (.t 30) 0⟩,
    ⟨(some 32), none, .load (.t 31) none⟩,
    ⟨(some 2), none, .mov (.t 32)⟩])
  (.ret)))))
def xorNextR : List Res := [.t 2]
def tab8 : ByteArray := ⟨#[0, 1, 2, 2, 3, 3, 3, 3, 4, 4, 4, 4, 4, 4, 4, 4, 5, 5, 5, 5, 5, 5, 5, 5, 5, 5, 5, 5, 5, 5, 5, 5, 6, 6, 6, 6, 6, 6, 6, 6, 6, 6, 6, 6, 6, 6, 6, 6, 6, 6, 6, 6, 6, 6, 6, 6, 6, 6, 6, 6, 6, 6, 6, 6, 7, 7, 7, 7, 7, 7, 7, 7, 7, 7, 7, 7, 7, 7, 7, 7, 7, 7, 7, 7, 7, 7, 7, 7, 7, 7, 7, 7, 7, 7, 7, 7, 7, 7, 7, 7, 7, 7, 7, 7, 7, 7, 7, 7, 7, 7, 7, 7, 7, 7, 7, 7, 7, 7, 7, 7, 7, 7, 7, 7, 7, 7, 7, 7, 8, 8, 8, 8, 8, 8, 8, 8, 8, 8, 8, 8, 8, 8, 8, 8, 8, 8, 8, 8, 8, 8, 8, 8, 8, 8, 8, 8, 8, 8, 8, 8, 8, 8, 8, 8, 8, 8, 8, 8, 8, 8, 8, 8, 8, 8, 8, 8, 8, 8, 8, 8, 8, 8, 8, 8, 8, 8, 8, 8, 8, 8, 8, 8, 8, 8, 8, 8, 8, 8, 8, 8, 8, 8, 8, 8, 8, 8, 8, 8, 8, 8, 8, 8, 8, 8, 8, 8, 8, 8, 8, 8, 8, 8, 8, 8, 8, 8, 8, 8, 8, 8, 8, 8, 8, 8, 8, 8, 8, 8, 8, 8, 8, 8, 8, 8, 8, 8, 8, 8, 8, 8, 8, 8, 8, 8, 8, 8]⟩
def len64C : ACode := .seq (.region [⟨(some 2), none, .mov (.c (.int .i64 0))⟩])
  (.seq (.seq (.region [⟨(some 3), none, .mov (.t 0)⟩,
    ⟨(some 4), none, .bin .geq (.t 3) (.c (.int .u64 4294967296))⟩])
  (.cond (.t 4) (.seq (.region [⟨(some 5), none, .mov (.t 0)⟩,
    ⟨(some 6), none, .bin .shr (.t 5) (.c (.int .u64 32))⟩,
    ⟨(some 0), none, .mov (.t 6)⟩])
  (.region [⟨(some 2), none, .mov (.c (.int .i64 32))⟩]))
  (.skip)))
  (.seq (.seq (.region [⟨(some 7), none, .mov (.t 0)⟩,
    ⟨(some 8), none, .bin .geq (.t 7) (.c (.int .u64 65536))⟩])
  (.cond (.t 8) (.seq (.region [⟨(some 9), none, .mov (.t 0)⟩,
    ⟨(some 10), none, .bin .shr (.t 9) (.c (.int .u64 16))⟩,
    ⟨(some 0), none, .mov (.t 10)⟩])
  (.region [⟨(some 11), none, .mov (.t 2)⟩,
    ⟨(some 12), none, .bin .add (.t 11) (.c (.int .i64 16))⟩,
    ⟨(some 2), none, .mov (.t 12)⟩]))
  (.skip)))
  (.seq (.seq (.region [⟨(some 13), none, .mov (.t 0)⟩,
    ⟨(some 14), none, .bin .geq (.t 13) (.c (.int .u64 256))⟩])
  (.cond (.t 14) (.seq (.region [⟨(some 15), none, .mov (.t 0)⟩,
    ⟨(some 16), none, .bin .shr (.t 15) (.c (.int .u64 8))⟩,
    ⟨(some 0), none, .mov (.t 16)⟩])
  (.region [⟨(some 17), none, .mov (.t 2)⟩,
    ⟨(some 18), none, .bin .add (.t 17) (.c (.int .i64 8))⟩,
    ⟨(some 2), none, .mov (.t 18)⟩]))
  (.skip)))
  (.seq (.region [⟨(some 19), none, .mov (.t 2)⟩,
    ⟨(some 20), none, .mov (.t 0)⟩,
    ⟨(some 21), none, .conv .u8 (.t 20)⟩,
    ⟨(some 22), none, .sidx (.c (.str tab8)) (.t 21)⟩,
    ⟨(some 23), none, .conv .i64 (.t 22)⟩,
    ⟨(some 24), none, .bin .add (.t 19) (.t 23)⟩,
    ⟨(some 2), none, .mov (.t 24)⟩])
  (.ret)))))
def len64R : List Res := [.t 2]
def bitsLenC (p_len32 : FuncId) (p_len64 : FuncId) : ACode := .seq (.region [⟨(some 2), none, .mov (.c (.int .i64 0))⟩])
  (.seq (.cond (.c (.bool false)) (.seq (.region [⟨(some 3), none, .mov (.t 0)⟩,
    ⟨(some 4), none, .conv .u32 (.t 3)⟩,
    ⟨(some 5), none, .call p_len32 [(.t 4)]⟩,
    ⟨(some 2), none, .mov (.t 5)⟩])
  (.ret))
  (.skip))
  (.seq (.region [⟨(some 6), none, .mov (.t 0)⟩,
    ⟨(some 7), none, .call p_len64 [(.t 6)]⟩,
    ⟨(some 2), none, .mov (.t 7)⟩])
  (.ret)))
def bitsLenR : List Res := [.t 2]
def nextPowC (p_bitsLen : FuncId) : ACode := .seq (.region [⟨(some 2), none, .mov (.c (.int .u64 0))⟩])
  (.seq (.region [⟨(some 3), none, .mov (.t 0)⟩,
    ⟨(some 4), none, .conv .u64 (.t 3)⟩,
    ⟨(some 5), none, .call p_bitsLen [(.t 4)]⟩,
    ⟨(some 6), none, .bin .shl (.c (.int .u64 1)) (.t 5)⟩,
    ⟨(some 2), none, .mov (.t 6)⟩])
  (.ret))
def nextPowR : List Res := [.t 2]
end Go.Ab.Srt
end

section
/-
  Insertion.
-/
namespace Go.Ab.Srt
open Go.Sort
set_option maxRecDepth 8000
set_option maxHeartbeats 4000000
variable {ft : FuncId → Option AFn} {E : Els} {cv : AV} (c : CmpOK ft E cv) {id n : Nat} {m0 : Mem}
theorem wrap_pred (j : Nat) (h : j < 4611686018427387904) : IntKind.i64.wrap (((j + 1 : Nat) : Int) - 1) = (j : Int) := by rw [wrap_i64 _ (by omega) (by omega)]; omega
theorem wrap_succ (j : Nat) (h : j < 4611686018427387904) : IntKind.i64.wrap ((j : Int) + 1) = ((j + 1 : Nat) : Int) := by rw [wrap_i64 _ (by omega) (by omega)]; omega
theorem wrap_subN (b a : Nat) (h : a ≤ b) (hb : b < 4611686018427387904) : IntKind.i64.wrap ((b : Int) - (a : Int)) = ((b - a : Nat) : Int) := by rw [wrap_i64 _ (by omega) (by omega)]; omega
theorem wrap_addN (b a : Nat) (h : a < 4611686018427387904) (hb : b < 4611686018427387904) : IntKind.i64.wrap ((b : Int) + (a : Int)) = ((b + a : Nat) : Int) := by rw [wrap_i64 _ (by omega) (by omega)]; omega
theorem ins_run {f : FuncId} (hf : ft f = some ⟨4, insertionSortF E.sz E.lz, insertionSortFR, .r⟩) (hn : n < 4611686018427387904) {d : Array AV} {a b : Nat} (hab : a ≤ b) (hb : b ≤ n) (hd : n ≤ d.size) (hD : AllD E d) {m : Mem} (hm : MR m0 m id E.sz d)
    (K : AV → Mem → Prop) (hK : ∀ m', MR m0 m' id E.sz (insertionSort c.lt d a b) → K (.tup []) m') : WR ft (.f f) [.ref id 0 n, I64 a, I64 b, cv] m K := by
  rw [WR_f hf rfl]
  simp only [insertionSortF, insertionSortFR]
  simp only [go_sem, Nat.reduceEqDiff, Nat.reduceAdd, Nat.reduceLT, Nat.reduceLeDiff, reduceIte, wrap_succ a (by omega)]
  refine WL_inv (α := Nat × Array AV) (fun q e mm => e 0 = .ref id 0 n ∧ e 1 = I64 a ∧ e 2 = I64 b ∧ e 3 = cv ∧ e 8 = I64 q.1 ∧ a < q.1 ∧ MR m0 mm id E.sz q.2 ∧ AllD E q.2 ∧ q.2.size = d.size ∧ insOuter c.lt a b q.1 q.2 = insertionSort c.lt d a b) (fun q => b + 1 - q.1) (a + 1, d) ?_ ?_
  · simp only [go_sem, Nat.reduceEqDiff, Nat.reduceAdd, Nat.reduceLT, Nat.reduceLeDiff, reduceIte]
    exact ⟨trivial, trivial, trivial, trivial, trivial, by omega, hm, hD, trivial, rfl⟩
  · rintro ⟨i, d1⟩ e m1 ⟨h0, h1, h2, h3, h8, hai, hm1, hD1, hs1, ho⟩
    dsimp only at h8 hai hm1 hD1 hs1 ho
    by_cases hib : i < b
    case neg =>
      simp only [go_sem, Nat.reduceEqDiff, Nat.reduceAdd, Nat.reduceLT, Nat.reduceLeDiff, reduceIte, h0, h1, h2, h3, h8, show decide ((i : Int) < (b : Int)) = false from decide_eq_false (by omega)]
      refine hK _ ?_
      rw [← ho]; unfold insOuter; rw [if_neg hib]; exact hm1
    simp only [go_sem, Nat.reduceEqDiff, Nat.reduceAdd, Nat.reduceLT, Nat.reduceLeDiff, reduceIte, h0, h1, h2, h3, h8, show decide ((i : Int) < (b : Int)) = true from decide_eq_true (by omega)]
    refine WL_inv (α := Nat × Array AV) (fun q e mm => e 0 = .ref id 0 n ∧ e 1 = I64 a ∧ e 2 = I64 b ∧ e 3 = cv ∧ e 8 = I64 i ∧ e 9 = I64 q.1 ∧ q.1 ≤ i ∧ MR m0 mm id E.sz q.2 ∧ AllD E q.2 ∧ q.2.size = d.size ∧ insInner c.lt a q.1 q.2 = insInner c.lt a i d1) (fun q => q.1) (i, d1) ?_ ?_
    · simp only [go_sem, Nat.reduceEqDiff, Nat.reduceAdd, Nat.reduceLT, Nat.reduceLeDiff, reduceIte, h0, h1, h2, h3, h8]
      exact ⟨trivial, trivial, trivial, trivial, trivial, trivial, Nat.le_refl _, hm1, hD1, hs1, trivial⟩
    · rintro ⟨j, d2⟩ e' m2 ⟨g0, g1, g2, g3, g8, g9, hji, hm2, hD2, hs2, hi2⟩
      dsimp only at g9 hji hm2 hD2 hs2 hi2
      have done : ∀ m3, MR m0 m3 id E.sz d2 → insInner c.lt a j d2 = d2 → ∀ e'' : Nat → AV, e'' 0 = .ref id 0 n → e'' 1 = I64 a → e'' 2 = I64 b → e'' 3 = cv → e'' 8 = I64 ((i + 1 : Nat) : Int) → @Nx (Nat × Array AV) ⟨fun q e mm => e 0 = .ref id 0 n ∧ e 1 = I64 a ∧ e 2 = I64 b ∧ e 3 = cv ∧ e 8 = I64 q.1 ∧ a < q.1 ∧ MR m0 mm id E.sz q.2 ∧ AllD E q.2 ∧ q.2.size = d.size ∧ insOuter c.lt a b q.1 q.2 = insertionSort c.lt d a b, fun a' => b + 1 - a'.1 < b + 1 - i⟩ e'' m3 := by
        intro m3 hm3 he e'' q0 q1 q2 q3 q8
        refine Nx_of (i + 1, d2) (by dsimp only; omega) ⟨q0, q1, q2, q3, q8, by dsimp only; omega, hm3, hD2, hs2, ?_⟩
        rw [← ho]
        conv => rhs; unfold insOuter
        rw [if_pos hib, ← hi2, he]
      by_cases haj : a < j
      case neg =>
        have he : insInner c.lt a j d2 = d2 := by
          cases j with
          | zero => rfl
          | succ j => unfold insInner; rw [if_neg (by simp; omega)]
        simp only [go_sem, Nat.reduceEqDiff, Nat.reduceAdd, Nat.reduceLT, Nat.reduceLeDiff, reduceIte, g0, g1, g2, g3, g8, g9, show decide ((a : Int) < (j : Int)) = false from decide_eq_false (by omega), wrap_succ i (by omega)]
        refine done _ hm2 he _ ?_ ?_ ?_ ?_ ?_ <;> simp only [go_sem, Nat.reduceEqDiff, Nat.reduceAdd, Nat.reduceLT, Nat.reduceLeDiff, reduceIte, g0, g1, g2, g3, g8, g9]
      obtain ⟨j, rfl⟩ : ∃ k, j = k + 1 := ⟨j - 1, by omega⟩
      have hx := hD2 (j + 1) (by omega)
      have hy := hD2 j (by omega)
      have i1 := hm2.idxN (k := .i64) (n := n) (i := j + 1) (by omega)
      have i2 := hm2.idxN (k := .i64) (n := n) (i := j) (by omega)
      have l1 := hm2.ld hD2 (i := j + 1) (by omega)
      have l2 := hm2.ld hD2 (i := j) (by omega)
      have hc := c.ok _ _ hx hy
      have hp := wrap_pred j (by omega)
      cases hl : c.lt d2[j + 1]! d2[j]!
      · have he : insInner c.lt a (j + 1) d2 = d2 := by unfold insInner; rw [if_neg (by simp [hl])]
        have hl' : decide (c.cf d2[j + 1]! d2[j]! < 0) = false := hl
        simp only [go_sem, Nat.reduceEqDiff, Nat.reduceAdd, Nat.reduceLT, Nat.reduceLeDiff, reduceIte, g0, g1, g2, g3, g8, g9, show decide ((a : Int) < ((j + 1 : Nat) : Int)) = true from decide_eq_true (by omega), i1, i2, l1, l2, hc, hp, hl', wrap_succ i (by omega)]
        refine done _ hm2 he _ ?_ ?_ ?_ ?_ ?_ <;> simp only [go_sem, Nat.reduceEqDiff, Nat.reduceAdd, Nat.reduceLT, Nat.reduceLeDiff, reduceIte, g0, g1, g2, g3, g8, g9]
      · have hl' : decide (c.cf d2[j + 1]! d2[j]! < 0) = true := hl
        obtain ⟨m3, m4, s1, s2, ⟨d3, hm3⟩, hm4, hD4, hs4⟩ := hm2.swap hD2 (i := j + 1) (j := j) (by omega) (by omega)
        have i3 := hm3.idxN (k := .i64) (n := n) (i := j) (by omega)
        simp only [go_sem, Nat.reduceEqDiff, Nat.reduceAdd, Nat.reduceLT, Nat.reduceLeDiff, reduceIte, g0, g1, g2, g3, g8, g9, show decide ((a : Int) < ((j + 1 : Nat) : Int)) = true from decide_eq_true (by omega), i1, i2, l1, l2, hc, hp, hl', s1, s2, i3]
        refine Nx_of (j, swp d2 (j + 1) j) (by dsimp only; omega) ?_
        simp only [go_sem, Nat.reduceEqDiff, Nat.reduceAdd, Nat.reduceLT, Nat.reduceLeDiff, reduceIte, g0, g1, g2, g3, g8]
        refine ⟨trivial, trivial, trivial, trivial, trivial, trivial, by omega, hm4, hD4, by rw [hs4, hs2], ?_⟩
        rw [← hi2]
        conv => rhs; unfold insInner
        rw [if_pos (by simp [hl]; omega)]
end Go.Ab.Srt
end

section
/-
  The length of a small number in bits; a sort of few elements.
-/
namespace Go.Ab.Few
open Go.Sort Go.Ab.Srt
set_option maxRecDepth 8000
set_option maxHeartbeats 4000000
variable {ft : FuncId → Option AFn}
abbrev V64 (n : Int) : AV := .int .u64 n
theorem tab_get : ∀ i : _root_.Fin 256, tab8[i.val]? = some (UInt8.ofNat (bitsLen i.val)) := by decide +kernel
theorem tab_at (x : Nat) (h : x < 256) : sidxAt (.str tab8) (.int .u8 (x : Int)) = some (.int .u8 ((bitsLen x : Nat) : Int)) := by
  have h1 := tab_get ⟨x, h⟩
  have h2 : bitsLen x ≤ 8 := (bitsLen_le_iff _ _).2 (by simpa using h)
  simp only [sidxAt]
  rw [if_pos (by omega), Int.toNat_natCast, h1]
  simp only [Option.map_some]
  have : (UInt8.ofNat (bitsLen x)).toNat = bitsLen x := by simp; omega
  rw [this]
theorem len_few {f : FuncId} {md : Md} (hf : ft f = some ⟨1, len64C, len64R, md⟩) {n : Nat} (hn : n < 256) : RV ft f [V64 (n : Int)] (I64 ((bitsLen n : Nat) : Int)) := by
  refine RV_of hf rfl ?_
  simp only [len64C, len64R]
  have c1 : decide ((4294967296 : Int) ≤ (n : Int)) = false := decide_eq_false (by omega)
  have c16 : decide ((65536 : Int) ≤ (n : Int)) = false := decide_eq_false (by omega)
  have c8 : decide ((256 : Int) ≤ (n : Int)) = false := decide_eq_false (by omega)
  have f3 : bitsLen n ≤ 8 := (bitsLen_le_iff _ _).2 (by simpa using hn)
  have f1 : IntKind.u8.wrap (n : Int) = (n : Int) := wrap_u8 _ (by omega) (by omega)
  have f2 : IntKind.i64.wrap ((bitsLen n : Nat) : Int) = ((bitsLen n : Nat) : Int) := wrap_i64 _ (by omega) (by omega)
  have t8 := tab_at n (by omega)
  have w3 : IntKind.i64.wrap ((0 : Int) + ((bitsLen n : Nat) : Int)) = ((bitsLen n : Nat) : Int) := by rw [Int.zero_add]; exact f2
  simp only [go_sem, Nat.reduceEqDiff, Nat.reduceAdd, Nat.reduceLT, Nat.reduceLeDiff, reduceIte, c1, c16, c8, f1, f2, t8, w3]
theorem bits_few {f l3 l6 : FuncId} {md : Md} (hf : ft f = some ⟨1, bitsLenC l3 l6, bitsLenR, md⟩) (h6 : ft l6 = some ⟨1, len64C, len64R, .v⟩) {n : Nat} (hn : n < 256) : RV ft f [V64 (n : Int)] (I64 ((bitsLen n : Nat) : Int)) := by
  refine RV_of hf rfl ?_
  simp only [bitsLenC, bitsLenR]
  have hw : ∀ (s : St) (as : List AV) (K : AV → St → Prop), WB ft l6 as s K = WV ft l6 (as.map (snap s.mem dep)) fun v => (as.all (fun a => !hot dep a) || plain dep v) = true ∧ K v s := fun s as K => WB_v h6 rfl as s K
  simp only [go_sem, Nat.reduceEqDiff, Nat.reduceAdd, Nat.reduceLT, Nat.reduceLeDiff, reduceIte, hw, WVH_eq (len_few h6 hn)]
end Go.Ab.Few
end
