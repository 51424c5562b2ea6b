/-
  A part of the proofs over this seat.
  (The texts Ad1 Ad2 Ad2b Ad3 Ad4 Ad5 Ad6 Ad7 Ad8 Ad9, one behind the other.)
-/
import Derived.Test.YtlmhadnbcmjaeaaA0
import Derived.Sort.AssemblyPlain
set_option linter.unusedSimpArgs false
set_option linter.unusedVariables false
set_option linter.unusedSectionVars false
section
namespace Go.Ab
open Go.Sort
instance instInhabitedAV : Inhabited AV := ⟨.undef⟩
structure Els where
  sz : Nat
  lz : Option Nat
  D : AV → Prop
  len : ∀ x, D x → x.cells.length = sz
  sol : ∀ x, D x → x.cells.all AV.solid = true
  rd : ∀ x, D x → readCells x.cells 0 lz = some x
  wr : ∀ x y, D x → D y → writeCells x 0 y.cells = some y
def AllD (E : Els) (d : Array AV) : Prop := ∀ i, i < d.size → E.D d[i]!
structure MR (m m' : Mem) (id sz : Nat) (d : Array AV) : Prop where
  blk : m'.blks[id]? = some (.live d.toList sz)
  len : m.blks.length ≤ m'.blks.length
  toks : m'.toks = m.toks
  old : ∀ i, i < m.blks.length → i ≠ id → m'.blks[i]? = m.blks[i]?
section
variable {m m1 m2 : Mem} {id sz : Nat} {d d' : Array AV} {E : Els}
theorem MR.refl (h : m.blks[id]? = some (.live d.toList sz)) : MR m m id sz d := ⟨h, Nat.le_refl _, rfl, fun _ _ _ => rfl⟩
theorem MR.trans (h : MR m m1 id sz d) (k : MR m1 m2 id sz d') : MR m m2 id sz d' :=
  ⟨k.blk, Nat.le_trans h.len k.len, k.toks.trans h.toks, fun i hi hne => (k.old i (Nat.lt_of_lt_of_le hi h.len) hne).trans (h.old i hi hne)⟩
theorem MR.lt (h : MR m m1 id sz d) : id < m1.blks.length := (List.getElem?_eq_some_iff.1 h.blk).1
theorem MR.push (h : MR m m1 id sz d) (b : Blk) : MR m ⟨m1.blks ++ [b], m1.toks⟩ id sz d :=
  ⟨by simp only; rw [List.getElem?_append_left h.lt]; exact h.blk, by simp; have := h.len; omega, h.toks, fun i hi hne => by simp only; rw [List.getElem?_append_left (by have := h.len; omega)]; exact h.old i hi hne⟩
theorem MR.setO (h : MR m m1 id sz d) {j : Nat} (hj : m.blks.length ≤ j) (hid : id < m.blks.length) (b : Blk) : MR m ⟨m1.blks.set j b, m1.toks⟩ id sz d :=
  ⟨by simp only; rw [List.getElem?_set_ne (by omega)]; exact h.blk, by simp; exact h.len, h.toks, fun i hi hne => by simp only; rw [List.getElem?_set_ne (by omega)]; exact h.old i hi hne⟩
theorem MR.put (h : MR m m1 id sz d) (d' : Array AV) : MR m ⟨m1.blks.set id (.live d'.toList sz), m1.toks⟩ id sz d' :=
  ⟨by simp only; rw [List.getElem?_set_self h.lt], by simp; exact h.len, h.toks, fun i hi hne => by simp only; rw [List.getElem?_set_ne (Ne.symm hne)]; exact h.old i hi hne⟩
theorem MR.idx (h : MR m m1 id sz d) {n : Nat} {k : IntKind} {i : Int} (h0 : 0 ≤ i) (h1 : i < (n : Int)) : idxAt m1 (.ref id 0 n) (.int k i) sz = some (.ptr id i.toNat 0) := by
  rw [idxAt_ref, if_pos ⟨⟨h0, h1⟩, by rw [lsz_eq, h.blk]; rfl⟩, Nat.zero_add]
theorem MR.lenE (h : MR m m1 id sz d) (n : Nat) : lenAt m1 (.ref id 0 n) = some (.int .i64 n) := by
  rw [lenAt_ref, if_pos (by rw [lsz_eq, h.blk]; rfl)]
theorem get_bang {i : Nat} (h : i < d.size) : d.toList[i]? = some d[i]! := by
  rw [Array.getElem?_toList, Array.getElem?_eq_getElem h, getElem!_pos d i h]
theorem MR.ld (h : MR m m1 id E.sz d) (hD : AllD E d) {i : Nat} (hi : i < d.size) : loadAt m1 (.ptr id i 0) E.lz = some d[i]! := by
  simp only [loadAt_ptr, h.blk, ldBlk_live, get_bang hi, ldEl_some]
  exact E.rd _ (hD i hi)
theorem MR.st (h : MR m m1 id E.sz d) (hD : AllD E d) {i : Nat} (hi : i < d.size) {v : AV} (hv : E.D v) : storeAt m1 (.ptr id i 0) v E.sz = some ⟨m1.blks.set id (.live (d.setIfInBounds i v).toList E.sz), m1.toks⟩ := by
  simp only [storeAt_ptr, h.blk, stBlk_live, get_bang hi, stEl_some]
  rw [if_pos ⟨E.len v hv, by rw [solids_eq]; exact E.sol v hv⟩, E.wr _ _ (hD i hi) hv]
  simp
theorem AllD.set (hD : AllD E d) {i : Nat} {v : AV} (hv : E.D v) : AllD E (d.setIfInBounds i v) := by
  intro j hj
  rw [Array.size_setIfInBounds] at hj
  rw [getElem!_pos _ j (by simpa using hj), Array.getElem_setIfInBounds]
  split
  · exact hv
  · have := hD j hj; rwa [getElem!_pos d j hj] at this
theorem swp_size (d : Array AV) (i j : Nat) : (swp d i j).size = d.size := by simp [swp]
theorem AllD.swp (hD : AllD E d) {i j : Nat} (hi : i < d.size) (hj : j < d.size) : AllD E (Go.Sort.swp d i j) := (hD.set (hD j hj)).set (hD i hi)
theorem MR.swap (h : MR m m1 id E.sz d) (hD : AllD E d) {i j : Nat} (hi : i < d.size) (hj : j < d.size) : ∃ m2 m3, storeAt m1 (.ptr id i 0) d[j]! E.sz = some m2 ∧ storeAt m2 (.ptr id j 0) d[i]! E.sz = some m3 ∧
    (∃ d2, MR m m2 id E.sz d2) ∧ MR m m3 id E.sz (Go.Sort.swp d i j) ∧ AllD E (Go.Sort.swp d i j) ∧ (Go.Sort.swp d i j).size = d.size := by
  refine ⟨_, _, h.st hD hi (hD j hj), (h.put _).st (hD.set (hD j hj)) (by simpa using hj) (hD i hi), ⟨_, h.put _⟩, ?_, hD.swp hi hj, swp_size _ _ _⟩
  exact (h.put _).put _
theorem MR.idxN (h : MR m m1 id sz d) {n i : Nat} {k : IntKind} (h1 : i < n) : idxAt m1 (.ref id 0 n) (.int k (i : Int)) sz = some (.ptr id i 0) := by
  have := h.idx (k := k) (n := n) (i := (i : Int)) (by omega) (by omega)
  rwa [Int.toNat_natCast] at this
end
structure CmpOK (ft : FuncId → Option AFn) (E : Els) (cv : AV) where
  cf : AV → AV → Int
  ok : ∀ x y, E.D x → E.D y → ∀ (s : St) (K : AV → St → Prop), @WAH ft cv [x, y] s ⟨K⟩ = K (I64 (cf x y)) s
def CmpOK.lt {ft : FuncId → Option AFn} {E : Els} {cv : AV} (c : CmpOK ft E cv) (x y : AV) : Bool := decide (c.cf x y < 0)
end Go.Ab
end
section
namespace Go.Ab.Srt
def insertionSortF (sz : Nat) (lz : Option Nat) : ACode := .seq (.region [⟨(some 10), none, .mov (.t 1)⟩,
    ⟨(some 11), none, .bin .add (.t 10) (.c (.int .i64 1))⟩,
    ⟨(some 8), none, .mov (.t 11)⟩])
  (.block 0 (.loop (.seq (.seq (.region [⟨(some 12), none, .mov (.t 8)⟩,
    ⟨(some 13), none, .mov (.t 2)⟩,
    ⟨(some 14), none, .bin .lss (.t 12) (.t 13)⟩])
  (.cond (.t 14) (.skip)
  (.exit 0)))
  (.seq (.block 1 (.seq (.region [⟨(some 17), none, .mov (.t 8)⟩,
    ⟨(some 9), none, .mov (.t 17)⟩])
  (.block 2 (.loop (.seq (.seq (.region [⟨(some 18), none, .mov (.t 9)⟩,
    ⟨(some 19), none, .mov (.t 1)⟩,
    ⟨(some 20), none, .bin .gtr (.t 18) (.t 19)⟩,
    ⟨(some 21), none, .mov (.t 20)⟩,
    ⟨(some 22), some (21, true), .mov (.t 3)⟩,
    ⟨(some 23), some (21, true), .mov (.t 0)⟩,
    ⟨(some 24), some (21, true), .mov (.t 9)⟩,
    ⟨(some 25), some (21, true), .idx (.t 23) (.t 24) sz⟩,
    ⟨(some 26), some (21, true), .load (.t 25) lz⟩,
    ⟨(some 27), some (21, true), .mov (.t 0)⟩,
    ⟨(some 28), some (21, true), .mov (.t 9)⟩,
    ⟨(some 29), some (21, true), .bin .sub (.t 28) (.c (.int .i64 1))⟩,
    ⟨(some 30), some (21, true), .idx (.t 27) (.t 29) sz⟩,
    ⟨(some 31), some (21, true), .load (.t 30) lz⟩,
    ⟨(some 32), some (21, true), .callv (.t 22) [(.t 26), (.t 31)]⟩,
    ⟨(some 33), some (21, true), .bin .lss (.t 32) (.c (.int .i64 0))⟩,
    ⟨(some 34), none, .pick (.t 21) (.t 33) (.c (.bool false))⟩])
  (.cond (.t 34) (.skip)
  (.exit 2)))
  (.seq (.block 3 (.region [⟨(some 37), none, .mov (.t 0)⟩,
    ⟨(some 38), none, .mov (.t 9)⟩,
    ⟨(some 39), none, .mov (.t 0)⟩,
    ⟨(some 40), none, .mov (.t 9)⟩,
    ⟨(some 41), none, .bin .sub (.t 40) (.c (.int .i64 1))⟩,
    ⟨(some 42), none, .mov (.t 0)⟩,
    ⟨(some 43), none, .mov (.t 9)⟩,
    ⟨(some 44), none, .bin .sub (.t 43) (.c (.int .i64 1))⟩,
    ⟨(some 45), none, .idx (.t 42) (.t 44) sz⟩,
    ⟨(some 46), none, .load (.t 45) lz⟩,
    ⟨(some 47), none, .mov (.t 0)⟩,
    ⟨(some 48), none, .mov (.t 9)⟩,
    ⟨(some 49), none, .idx (.t 47) (.t 48) sz⟩,
    ⟨(some 50), none, .load (.t 49) lz⟩,
    ⟨(some 51), none, .idx (.t 37) (.t 38) sz⟩,
    ⟨none, none, .store (.t 51) (.t 46) sz⟩,
    ⟨(some 52), none, .idx (.t 39) (.t 41) sz⟩,
    ⟨none, none, .store (.t 52) (.t 50) sz⟩]))
  (.region [⟨(some 35), none, .mov (.t 9)⟩,
    ⟨(some 36), none, .bin .sub (.t 35) (.c (.int .i64 1))⟩,
    ⟨(some 9), none, .mov (.t 36)⟩])))))))
  (.region [⟨(some 15), none, .mov (.t 8)⟩,
    ⟨(some 16), none, .bin .add (.t 15) (.c (.int .i64 1))⟩,
    ⟨(some 8), none, .mov (.t 16)⟩])))))
def insertionSortFR : List Res := []
def siftDownF (sz : Nat) (lz : Option Nat) : ACode := .seq (.region [⟨(some 12), none, .mov (.t 1)⟩,
    ⟨(some 10), none, .mov (.t 12)⟩])
  (.block 0 (.loop (.block 1 (.seq (.region [⟨(some 13), none, .mov (.t 10)⟩,
    ⟨(some 14), none, .bin .mul (.c (.int .i64 2)) (.t 13)⟩,
    ⟨(some 15), none, .bin .add (.t 14) (.c (.int .i64 1))⟩,
    ⟨(some 11), none, .mov (.t 15)⟩])
  (.seq (.seq (.region [⟨(some 16), none, .mov (.t 11)⟩,
    ⟨(some 17), none, .mov (.t 2)⟩,
    ⟨(some 18), none, .bin .geq (.t 16) (.t 17)⟩])
  (.cond (.t 18) (.exit 0)
  (.skip)))
  (.seq (.seq (.region [⟨(some 19), none, .mov (.t 11)⟩,
    ⟨(some 20), none, .bin .add (.t 19) (.c (.int .i64 1))⟩,
    ⟨(some 21), none, .mov (.t 2)⟩,
    ⟨(some 22), none, .bin .lss (.t 20) (.t 21)⟩,
    ⟨(some 23), none, .mov (.t 22)⟩,
    ⟨(some 24), some (23, true), .mov (.t 4)⟩,
    ⟨(some 25), some (23, true), .mov (.t 0)⟩,
    ⟨(some 26), some (23, true), .mov (.t 3)⟩,
    ⟨(some 27), some (23, true), .mov (.t 11)⟩,
    ⟨(some 28), some (23, true), .bin .add (.t 26) (.t 27)⟩,
    ⟨(some 29), some (23, true), .idx (.t 25) (.t 28) sz⟩,
    ⟨(some 30), some (23, true), .load (.t 29) lz⟩,
    ⟨(some 31), some (23, true), .mov (.t 0)⟩,
    ⟨(some 32), some (23, true), .mov (.t 3)⟩,
    ⟨(some 33), some (23, true), .mov (.t 11)⟩,
    ⟨(some 34), some (23, true), .bin .add (.t 32) (.t 33)⟩,
    ⟨(some 35), some (23, true), .bin .add (.t 34) (.c (.int .i64 1))⟩,
    ⟨(some 36), some (23, true), .idx (.t 31) (.t 35) sz⟩,
    ⟨(some 37), some (23, true), .load (.t 36) lz⟩,
    ⟨(some 38), some (23, true), .callv (.t 24) [(.t 30), (.t 37)]⟩,
    ⟨(some 39), some (23, true), .bin .lss (.t 38) (.c (.int .i64 0))⟩,
    ⟨(some 40), none, .pick (.t 23) (.t 39) (.c (.bool false))⟩])
  (.cond (.t 40) (.region [⟨(some 41), none, .mov (.t 11)⟩,
    ⟨(some 42), none, .bin .add (.t 41) (.c (.int .i64 1))⟩,
    ⟨(some 11), none, .mov (.t 42)⟩])
  (.skip)))
  (.seq (.seq (.region [⟨(some 43), none, .mov (.t 4)⟩,
    ⟨(some 44), none, .mov (.t 0)⟩,
    ⟨(some 45), none, .mov (.t 3)⟩,
    ⟨(some 46), none, .mov (.t 10)⟩,
    ⟨(some 47), none, .bin .add (.t 45) (.t 46)⟩,
    ⟨(some 48), none, .idx (.t 44) (.t 47) sz⟩,
    ⟨(some 49), none, .load (.t 48) lz⟩,
    ⟨(some 50), none, .mov (.t 0)⟩,
    ⟨(some 51), none, .mov (.t 3)⟩,
    ⟨(some 52), none, .mov (.t 11)⟩,
    ⟨(some 53), none, .bin .add (.t 51) (.t 52)⟩,
    ⟨(some 54), none, .idx (.t 50) (.t 53) sz⟩,
    ⟨(some 55), none, .load (.t 54) lz⟩,
    ⟨(some 56), none, .callv (.t 43) [(.t 49), (.t 55)]⟩,
    ⟨(some 57), none, .bin .lss (.t 56) (.c (.int .i64 0))⟩,
    ⟨(some 58), none, .not (.t 57)⟩])
  (.cond (.t 58) (.ret)
  (.skip)))
  (.seq (.region [⟨(some 59), none, .mov (.t 0)⟩,
    ⟨(some 60), none, .mov (.t 3)⟩,
    ⟨(some 61), none, .mov (.t 10)⟩,
    ⟨(some 62), none, .bin .add (.t 60) (.t 61)⟩,
    ⟨(some 63), none, .mov (.t 0)⟩,
    ⟨(some 64), none, .mov (.t 3)⟩,
    ⟨(some 65), none, .mov (.t 11)⟩,
    ⟨(some 66), none, .bin .add (.t 64) (.t 65)⟩,
    ⟨(some 67), none, .mov (.t 0)⟩,
    ⟨(some 68), none, .mov (.t 3)⟩,
    ⟨(some 69), none, .mov (.t 11)⟩,
    ⟨(some 70), none, .bin .add (.t 68) (.t 69)⟩,
    ⟨(some 71), none, .idx (.t 67) (.t 70) sz⟩,
    ⟨(some 72), none, .load (.t 71) lz⟩,
    ⟨(some 73), none, .mov (.t 0)⟩,
    ⟨(some 74), none, .mov (.t 3)⟩,
    ⟨(some 75), none, .mov (.t 10)⟩,
    ⟨(some 76), none, .bin .add (.t 74) (.t 75)⟩,
    ⟨(some 77), none, .idx (.t 73) (.t 76) sz⟩,
    ⟨(some 78), none, .load (.t 77) lz⟩,
    ⟨(some 79), none, .idx (.t 59) (.t 62) sz⟩,
    ⟨none, none, .store (.t 79) (.t 72) sz⟩,
    ⟨(some 80), none, .idx (.t 63) (.t 66) sz⟩,
    ⟨none, none, .store (.t 80) (.t 78) sz⟩])
  (.region [⟨(some 81), none, .mov (.t 11)⟩,
    ⟨(some 10), none, .mov (.t 81)⟩])))))))))
def siftDownFR : List Res := []
def heapSortF (sz : Nat) (lz : Option Nat) (p_siftDown : FuncId) : ACode := .seq (.region [⟨(some 13), none, .mov (.t 1)⟩,
    ⟨(some 8), none, .mov (.t 13)⟩])
  (.seq (.region [⟨(some 9), none, .mov (.c (.int .i64 0))⟩])
  (.seq (.region [⟨(some 14), none, .mov (.t 2)⟩,
    ⟨(some 15), none, .mov (.t 1)⟩,
    ⟨(some 16), none, .bin .sub (.t 14) (.t 15)⟩,
    ⟨(some 10), none, .mov (.t 16)⟩])
  (.seq (.seq (.region [⟨(some 17), none, .mov (.t 10)⟩,
    ⟨(some 18), none, .bin .sub (.t 17) (.c (.int .i64 1))⟩,
    ⟨(some 19), none, .bin .quo (.t 18) (.c (.int .i64 2))⟩,
    ⟨(some 11), none, .mov (.t 19)⟩])
  (.block 0 (.loop (.seq (.seq (.region [⟨(some 20), none, .mov (.t 11)⟩,
    ⟨(some 21), none, .bin .geq (.t 20) (.c (.int .i64 0))⟩])
  (.cond (.t 21) (.skip)
  (.exit 0)))
  (.seq (.block 1 (.region [⟨(some 24), none, .mov (.t 0)⟩,
    ⟨(some 25), none, .mov (.t 11)⟩,
    ⟨(some 26), none, .mov (.t 10)⟩,
    ⟨(some 27), none, .mov (.t 8)⟩,
    ⟨(some 28), none, .mov (.t 3)⟩,
    ⟨(some 29), none, .call p_siftDown [(.t 24), (.t 25), (.t 26), (.t 27), (.t 28)]⟩]))
  (.region [⟨(some 22), none, .mov (.t 11)⟩,
    ⟨(some 23), none, .bin .sub (.t 22) (.c (.int .i64 1))⟩,
    ⟨(some 11), none, .mov (.t 23)⟩]))))))
  (.seq (.region [⟨(some 30), none, .mov (.t 10)⟩,
    ⟨(some 31), none, .bin .sub (.t 30) (.c (.int .i64 1))⟩,
    ⟨(some 12), none, .mov (.t 31)⟩])
  (.block 2 (.loop (.seq (.seq (.region [⟨(some 32), none, .mov (.t 12)⟩,
    ⟨(some 33), none, .bin .geq (.t 32) (.c (.int .i64 0))⟩])
  (.cond (.t 33) (.skip)
  (.exit 2)))
  (.seq (.block 3 (.seq (.region [⟨(some 36), none, .mov (.t 0)⟩,
    ⟨(some 37), none, .mov (.t 8)⟩,
    ⟨(some 38), none, .mov (.t 0)⟩,
    ⟨(some 39), none, .mov (.t 8)⟩,
    ⟨(some 40), none, .mov (.t 12)⟩,
    ⟨(some 41), none, .bin .add (.t 39) (.t 40)⟩,
    ⟨(some 42), none, .mov (.t 0)⟩,
    ⟨(some 43), none, .mov (.t 8)⟩,
    ⟨(some 44), none, .mov (.t 12)⟩,
    ⟨(some 45), none, .bin .add (.t 43) (.t 44)⟩,
    ⟨(some 46), none, .idx (.t 42) (.t 45) sz⟩,
    ⟨(some 47), none, .load (.t 46) lz⟩,
    ⟨(some 48), none, .mov (.t 0)⟩,
    ⟨(some 49), none, .mov (.t 8)⟩,
    ⟨(some 50), none, .idx (.t 48) (.t 49) sz⟩,
    ⟨(some 51), none, .load (.t 50) lz⟩,
    ⟨(some 52), none, .idx (.t 36) (.t 37) sz⟩,
    ⟨none, none, .store (.t 52) (.t 47) sz⟩,
    ⟨(some 53), none, .idx (.t 38) (.t 41) sz⟩,
    ⟨none, none, .store (.t 53) (.t 51) sz⟩])
  (.region [⟨(some 54), none, .mov (.t 0)⟩,
    ⟨(some 55), none, .mov (.t 9)⟩,
    ⟨(some 56), none, .mov (.t 12)⟩,
    ⟨(some 57), none, .mov (.t 8)⟩,
    ⟨(some 58), none, .mov (.t 3)⟩,
    ⟨(some 59), none, .call p_siftDown [(.t 54), (.t 55), (.t 56), (.t 57), (.t 58)]⟩])))
  (.region [⟨(some 34), none, .mov (.t 12)⟩,
    ⟨(some 35), none, .bin .sub (.t 34) (.c (.int .i64 1))⟩,
    ⟨(some 12), none, .mov (.t 35)⟩])))))))))
def heapSortFR : List Res := []
def pdqsortF (sz : Nat) (lz : Option Nat) (p_breakPatterns : FuncId) (p_choosePivot : FuncId) (p_heapSort : FuncId) (p_insertionSort : FuncId) (p_partialInsertionSort : FuncId) (p_partition : FuncId) (p_partitionEqual : FuncId) (p_pdqsort : FuncId) (p_reverseRange : FuncId) : ACode := .seq (.region [⟨(some 10), none, .mov (.c (.bool true))⟩])
  (.seq (.region [⟨(some 11), none, .mov (.c (.bool true))⟩])
  (.block 0 (.loop (.block 1 (.seq (.region [⟨(some 21), none, .mov (.t 2)⟩,
    ⟨(some 22), none, .mov (.t 1)⟩,
    ⟨(some 23), none, .bin .sub (.t 21) (.t 22)⟩,
    ⟨(some 12), none, .mov (.t 23)⟩])
  (.seq (.seq (.region [⟨(some 24), none, .mov (.t 12)⟩,
    ⟨(some 25), none, .bin .leq (.t 24) (.c (.int .i64 12))⟩])
  (.cond (.t 25) (.seq (.region [⟨(some 26), none, .mov (.t 0)⟩,
    ⟨(some 27), none, .mov (.t 1)⟩,
    ⟨(some 28), none, .mov (.t 2)⟩,
    ⟨(some 29), none, .mov (.t 4)⟩,
    ⟨(some 30), none, .call p_insertionSort [(.t 26), (.t 27), (.t 28), (.t 29)]⟩])
  (.ret))
  (.skip)))
  (.seq (.seq (.region [⟨(some 31), none, .mov (.t 3)⟩,
    ⟨(some 32), none, .bin .eql (.t 31) (.c (.int .i64 0))⟩])
  (.cond (.t 32) (.seq (.region [⟨(some 33), none, .mov (.t 0)⟩,
    ⟨(some 34), none, .mov (.t 1)⟩,
    ⟨(some 35), none, .mov (.t 2)⟩,
    ⟨(some 36), none, .mov (.t 4)⟩,
    ⟨(some 37), none, .call p_heapSort [(.t 33), (.t 34), (.t 35), (.t 36)]⟩])
  (.ret))
  (.skip)))
  (.seq (.seq (.region [⟨(some 38), none, .mov (.t 10)⟩,
    ⟨(some 39), none, .not (.t 38)⟩])
  (.cond (.t 39) (.seq (.region [⟨(some 40), none, .mov (.t 0)⟩,
    ⟨(some 41), none, .mov (.t 1)⟩,
    ⟨(some 42), none, .mov (.t 2)⟩,
    ⟨(some 43), none, .mov (.t 4)⟩,
    ⟨(some 44), none, .call p_breakPatterns [(.t 40), (.t 41), (.t 42), (.t 43)]⟩])
  (.region [⟨(some 45), none, .mov (.t 3)⟩,
    ⟨(some 46), none, .bin .sub (.t 45) (.c (.int .i64 1))⟩,
    ⟨(some 3), none, .mov (.t 46)⟩]))
  (.skip)))
  (.seq (.region [⟨(some 48), none, .mov (.t 0)⟩,
    ⟨(some 49), none, .mov (.t 1)⟩,
    ⟨(some 50), none, .mov (.t 2)⟩,
    ⟨(some 51), none, .mov (.t 4)⟩,
    ⟨(some 52), none, .call p_choosePivot [(.t 48), (.t 49), (.t 50), (.t 51)]⟩,
    ⟨(some 47), none, .mov (.t 52)⟩,
    ⟨(some 53), none, .ext (.t 47) 0⟩,
    ⟨(some 54), none, .ext (.t 47) 1⟩,
    ⟨(some 13), none, .mov (.t 53)⟩,
    ⟨(some 14), none, .mov (.t 54)⟩])
  (.seq (.seq (.region [⟨(some 55), none, .mov (.t 14)⟩,
    ⟨(some 56), none, .bin .eql (.t 55) (.c (.int .i64 2))⟩])
  (.cond (.t 56) (.seq (.region [⟨(some 57), none, .mov (.t 0)⟩,
    ⟨(some 58), none, .mov (.t 1)⟩,
    ⟨(some 59), none, .mov (.t 2)⟩,
    ⟨(some 60), none, .mov (.t 4)⟩,
    ⟨(some 61), none, .call p_reverseRange [(.t 57), (.t 58), (.t 59), (.t 60)]⟩])
  (.seq (.region [⟨(some 62), none, .mov (.t 2)⟩,
    ⟨(some 63), none, .bin .sub (.t 62) (.c (.int .i64 1))⟩,
    ⟨(some 64), none, .mov (.t 13)⟩,
    ⟨(some 65), none, .mov (.t 1)⟩,
    ⟨(some 66), none, .bin .sub (.t 64) (.t 65)⟩,
    ⟨(some 67), none, .bin .sub (.t 63) (.t 66)⟩,
    ⟨(some 13), none, .mov (.t 67)⟩])
  (.region [⟨(some 14), none, .mov (.c (.int .i64 1))⟩])))
  (.skip)))
  (.seq (.seq (.region [⟨(some 68), none, .mov (.t 10)⟩,
    ⟨(some 69), none, .mov (.t 68)⟩,
    ⟨(some 70), some (69, true), .mov (.t 11)⟩,
    ⟨(some 71), none, .pick (.t 69) (.t 70) (.c (.bool false))⟩,
    ⟨(some 72), none, .mov (.t 71)⟩,
    ⟨(some 73), some (72, true), .mov (.t 14)⟩,
    ⟨(some 74), some (72, true), .bin .eql (.t 73) (.c (.int .i64 1))⟩,
    ⟨(some 75), none, .pick (.t 72) (.t 74) (.c (.bool false))⟩])
  (.cond (.t 75) (.seq (.region [⟨(some 76), none, .mov (.t 0)⟩,
    ⟨(some 77), none, .mov (.t 1)⟩,
    ⟨(some 78), none, .mov (.t 2)⟩,
    ⟨(some 79), none, .mov (.t 4)⟩,
    ⟨(some 80), none, .call p_partialInsertionSort [(.t 76), (.t 77), (.t 78), (.t 79)]⟩])
  (.cond (.t 80) (.ret)
  (.skip)))
  (.skip)))
  (.seq (.seq (.region [⟨(some 81), none, .mov (.t 1)⟩,
    ⟨(some 82), none, .bin .gtr (.t 81) (.c (.int .i64 0))⟩,
    ⟨(some 83), none, .mov (.t 82)⟩,
    ⟨(some 84), some (83, true), .mov (.t 4)⟩,
    ⟨(some 85), some (83, true), .mov (.t 0)⟩,
    ⟨(some 86), some (83, true), .mov (.t 1)⟩,
    ⟨(some 87), some (83, true), .bin .sub (.t 86) (.c (.int .i64 1))⟩,
    ⟨(some 88), some (83, true), .idx (.t 85) (.t 87) sz⟩,
    ⟨(some 89), some (83, true), .load (.t 88) lz⟩,
    ⟨(some 90), some (83, true), .mov (.t 0)⟩,
    ⟨(some 91), some (83, true), .mov (.t 13)⟩,
    ⟨(some 92), some (83, true), .idx (.t 90) (.t 91) sz⟩,
    ⟨(some 93), some (83, true), .load (.t 92) lz⟩,
    ⟨(some 94), some (83, true), .callv (.t 84) [(.t 89), (.t 93)]⟩,
    ⟨(some 95), some (83, true), .bin .lss (.t 94) (.c (.int .i64 0))⟩,
    ⟨(some 96), some (83, true), .not (.t 95)⟩,
    ⟨(some 97), none, .pick (.t 83) (.t 96) (.c (.bool false))⟩])
  (.cond (.t 97) (.seq (.region [⟨(some 98), none, .mov (.t 0)⟩,
    ⟨(some 99), none, .mov (.t 1)⟩,
    ⟨(some 100), none, .mov (.t 2)⟩,
    ⟨(some 101), none, .mov (.t 13)⟩,
    ⟨(some 102), none, .mov (.t 4)⟩,
    ⟨(some 103), none, .call p_partitionEqual [(.t 98), (.t 99), (.t 100), (.t 101), (.t 102)]⟩,
    ⟨(some 15), none, .mov (.t 103)⟩])
  (.seq (.region [⟨(some 104), none, .mov (.t 15)⟩,
    ⟨(some 1), none, .mov (.t 104)⟩])
  (.exit 1)))
  (.skip)))
  (.seq (.region [⟨(some 106), none, .mov (.t 0)⟩,
    ⟨(some 107), none, .mov (.t 1)⟩,
    ⟨(some 108), none, .mov (.t 2)⟩,
    ⟨(some 109), none, .mov (.t 13)⟩,
    ⟨(some 110), none, .mov (.t 4)⟩,
    ⟨(some 111), none, .call p_partition [(.t 106), (.t 107), (.t 108), (.t 109), (.t 110)]⟩,
    ⟨(some 105), none, .mov (.t 111)⟩,
    ⟨(some 112), none, .ext (.t 105) 0⟩,
    ⟨(some 113), none, .ext (.t 105) 1⟩,
    ⟨(some 16), none, .mov (.t 112)⟩,
    ⟨(some 17), none, .mov (.t 113)⟩])
  (.seq (.region [⟨(some 114), none, .mov (.t 17)⟩,
    ⟨(some 11), none, .mov (.t 114)⟩])
  (.seq (.region [⟨(some 115), none, .mov (.t 16)⟩,
    ⟨(some 116), none, .mov (.t 1)⟩,
    ⟨(some 117), none, .bin .sub (.t 115) (.t 116)⟩,
    ⟨(some 118), none, .mov (.t 2)⟩,
    ⟨(some 119), none, .mov (.t 16)⟩,
    ⟨(some 120), none, .bin .sub (.t 118) (.t 119)⟩,
    ⟨(some 18), none, .mov (.t 117)⟩,
    ⟨(some 19), none, .mov (.t 120)⟩])
  (.seq (.region [⟨(some 121), none, .mov (.t 12)⟩,
    ⟨(some 122), none, .bin .quo (.t 121) (.c (.int .i64 8))⟩,
    ⟨(some 20), none, .mov (.t 122)⟩])
  (.seq (.region [⟨(some 123), none, .mov (.t 18)⟩,
    ⟨(some 124), none, .mov (.t 19)⟩,
    ⟨(some 125), none, .bin .lss (.t 123) (.t 124)⟩])
  (.cond (.t 125) (.seq (.region [⟨(some 126), none, .mov (.t 18)⟩,
    ⟨(some 127), none, .mov (.t 20)⟩,
    ⟨(some 128), none, .bin .geq (.t 126) (.t 127)⟩,
    ⟨(some 10), none, .mov (.t 128)⟩])
  (.seq (.region [⟨(some 129), none, .mov (.t 0)⟩,
    ⟨(some 130), none, .mov (.t 1)⟩,
    ⟨(some 131), none, .mov (.t 16)⟩,
    ⟨(some 132), none, .mov (.t 3)⟩,
    ⟨(some 133), none, .mov (.t 4)⟩,
    ⟨(some 134), none, .call p_pdqsort [(.t 129), (.t 130), (.t 131), (.t 132), (.t 133)]⟩])
  (.region [⟨(some 135), none, .mov (.t 16)⟩,
    ⟨(some 136), none, .bin .add (.t 135) (.c (.int .i64 1))⟩,
    ⟨(some 1), none, .mov (.t 136)⟩])))
  (.seq (.region [⟨(some 137), none, .mov (.t 19)⟩,
    ⟨(some 138), none, .mov (.t 20)⟩,
    ⟨(some 139), none, .bin .geq (.t 137) (.t 138)⟩,
    ⟨(some 10), none, .mov (.t 139)⟩])
  (.seq (.region [⟨(some 140), none, .mov (.t 0)⟩,
    ⟨(some 141), none, .mov (.t 16)⟩,
    ⟨(some 142), none, .bin .add (.t 141) (.c (.int .i64 1))⟩,
    ⟨(some 143), none, .mov (.t 2)⟩,
    ⟨(some 144), none, .mov (.t 3)⟩,
    ⟨(some 145), none, .mov (.t 4)⟩,
    ⟨(some 146), none, .call p_pdqsort [(.t 140), (.t 142), (.t 143), (.t 144), (.t 145)]⟩])
  (.region [⟨(some 147), none, .mov (.t 16)⟩,
    ⟨(some 2), none, .mov (.t 147)⟩])))))))))))))))))))))
def pdqsortFR : List Res := []
def partitionEqualF (sz : Nat) (lz : Option Nat) : ACode := .seq (.region [⟨(some 10), none, .mov (.c (.int .i64 0))⟩])
  (.seq (.region [⟨(some 13), none, .mov (.t 0)⟩,
    ⟨(some 14), none, .mov (.t 1)⟩,
    ⟨(some 15), none, .mov (.t 0)⟩,
    ⟨(some 16), none, .mov (.t 3)⟩,
    ⟨(some 17), none, .mov (.t 0)⟩,
    ⟨(some 18), none, .mov (.t 3)⟩,
    ⟨(some 19), none, .idx (.t 17) (.t 18) sz⟩,
    ⟨(some 20), none, .load (.t 19) lz⟩,
    ⟨(some 21), none, .mov (.t 0)⟩,
    ⟨(some 22), none, .mov (.t 1)⟩,
    ⟨(some 23), none, .idx (.t 21) (.t 22) sz⟩,
    ⟨(some 24), none, .load (.t 23) lz⟩,
    ⟨(some 25), none, .idx (.t 13) (.t 14) sz⟩,
    ⟨none, none, .store (.t 25) (.t 20) sz⟩,
    ⟨(some 26), none, .idx (.t 15) (.t 16) sz⟩,
    ⟨none, none, .store (.t 26) (.t 24) sz⟩])
  (.seq (.region [⟨(some 27), none, .mov (.t 1)⟩,
    ⟨(some 28), none, .bin .add (.t 27) (.c (.int .i64 1))⟩,
    ⟨(some 29), none, .mov (.t 2)⟩,
    ⟨(some 30), none, .bin .sub (.t 29) (.c (.int .i64 1))⟩,
    ⟨(some 11), none, .mov (.t 28)⟩,
    ⟨(some 12), none, .mov (.t 30)⟩])
  (.seq (.block 0 (.loop (.block 1 (.seq (.block 2 (.loop (.seq (.seq (.region [⟨(some 31), none, .mov (.t 11)⟩,
    ⟨(some 32), none, .mov (.t 12)⟩,
    ⟨(some 33), none, .bin .leq (.t 31) (.t 32)⟩,
    ⟨(some 34), none, .mov (.t 33)⟩,
    ⟨(some 35), some (34, true), .mov (.t 4)⟩,
    ⟨(some 36), some (34, true), .mov (.t 0)⟩,
    ⟨(some 37), some (34, true), .mov (.t 1)⟩,
    ⟨(some 38), some (34, true), .idx (.t 36) (.t 37) sz⟩,
    ⟨(some 39), some (34, true), .load (.t 38) lz⟩,
    ⟨(some 40), some (34, true), .mov (.t 0)⟩,
    ⟨(some 41), some (34, true), .mov (.t 11)⟩,
    ⟨(some 42), some (34, true), .idx (.t 40) (.t 41) sz⟩,
    ⟨(some 43), some (34, true), .load (.t 42) lz⟩,
    ⟨(some 44), some (34, true), .callv (.t 35) [(.t 39), (.t 43)]⟩,
    ⟨(some 45), some (34, true), .bin .lss (.t 44) (.c (.int .i64 0))⟩,
    ⟨(some 46), some (34, true), .not (.t 45)⟩,
    ⟨(some 47), none, .pick (.t 34) (.t 46) (.c (.bool false))⟩])
  (.cond (.t 47) (.skip)
  (.exit 2)))
  (.block 3 (.region [⟨(some 48), none, .mov (.t 11)⟩,
    ⟨(some 49), none, .bin .add (.t 48) (.c (.int .i64 1))⟩,
    ⟨(some 11), none, .mov (.t 49)⟩])))))
  (.seq (.block 4 (.loop (.seq (.seq (.region [⟨(some 50), none, .mov (.t 11)⟩,
    ⟨(some 51), none, .mov (.t 12)⟩,
    ⟨(some 52), none, .bin .leq (.t 50) (.t 51)⟩,
    ⟨(some 53), none, .mov (.t 52)⟩,
    ⟨(some 54), some (53, true), .mov (.t 4)⟩,
    ⟨(some 55), some (53, true), .mov (.t 0)⟩,
    ⟨(some 56), some (53, true), .mov (.t 1)⟩,
    ⟨(some 57), some (53, true), .idx (.t 55) (.t 56) sz⟩,
    ⟨(some 58), some (53, true), .load (.t 57) lz⟩,
    ⟨(some 59), some (53, true), .mov (.t 0)⟩,
    ⟨(some 60), some (53, true), .mov (.t 12)⟩,
    ⟨(some 61), some (53, true), .idx (.t 59) (.t 60) sz⟩,
    ⟨(some 62), some (53, true), .load (.t 61) lz⟩,
    ⟨(some 63), some (53, true), .callv (.t 54) [(.t 58), (.t 62)]⟩,
    ⟨(some 64), some (53, true), .bin .lss (.t 63) (.c (.int .i64 0))⟩,
    ⟨(some 65), none, .pick (.t 53) (.t 64) (.c (.bool false))⟩])
  (.cond (.t 65) (.skip)
  (.exit 4)))
  (.block 5 (.region [⟨(some 66), none, .mov (.t 12)⟩,
    ⟨(some 67), none, .bin .sub (.t 66) (.c (.int .i64 1))⟩,
    ⟨(some 12), none, .mov (.t 67)⟩])))))
  (.seq (.seq (.region [⟨(some 68), none, .mov (.t 11)⟩,
    ⟨(some 69), none, .mov (.t 12)⟩,
    ⟨(some 70), none, .bin .gtr (.t 68) (.t 69)⟩])
  (.cond (.t 70) (.exit 0)
  (.skip)))
  (.seq (.region [⟨(some 71), none, .mov (.t 0)⟩,
    ⟨(some 72), none, .mov (.t 11)⟩,
    ⟨(some 73), none, .mov (.t 0)⟩,
    ⟨(some 74), none, .mov (.t 12)⟩,
    ⟨(some 75), none, .mov (.t 0)⟩,
    ⟨(some 76), none, .mov (.t 12)⟩,
    ⟨(some 77), none, .idx (.t 75) (.t 76) sz⟩,
    ⟨(some 78), none, .load (.t 77) lz⟩,
    ⟨(some 79), none, .mov (.t 0)⟩,
    ⟨(some 80), none, .mov (.t 11)⟩,
    ⟨(some 81), none, .idx (.t 79) (.t 80) sz⟩,
    ⟨(some 82), none, .load (.t 81) lz⟩,
    ⟨(some 83), none, .idx (.t 71) (.t 72) sz⟩,
    ⟨none, none, .store (.t 83) (.t 78) sz⟩,
    ⟨(some 84), none, .idx (.t 73) (.t 74) sz⟩,
    ⟨none, none, .store (.t 84) (.t 82) sz⟩])
  (.seq (.region [⟨(some 85), none, .mov (.t 11)⟩,
    ⟨(some 86), none, .bin .add (.t 85) (.c (.int .i64 1))⟩,
    ⟨(some 11), none, .mov (.t 86)⟩])
  (.region [⟨(some 87), none, .mov (.t 12)⟩,
    ⟨(some 88), none, .bin .sub (.t 87) (.c (.int .i64 1))⟩,
    ⟨(some 12), none, .mov (.t 88)⟩])))))))))
  (.seq (.region [⟨(some 89), none, .mov (.t 11)⟩,
    ⟨(some 10), none, .mov (.t 89)⟩])
  (.ret)))))
def partitionEqualFR : List Res := [.t 10]
def partialInsertionSortF (sz : Nat) (lz : Option Nat) : ACode := .seq (.region [⟨(some 8), none, .mov (.c (.bool false))⟩])
  (.seq (.region [⟨(some 13), none, .mov (.t 1)⟩,
    ⟨(some 14), none, .bin .add (.t 13) (.c (.int .i64 1))⟩,
    ⟨(some 9), none, .mov (.t 14)⟩])
  (.seq (.seq (.region [⟨(some 10), none, .mov (.c (.int .i64 0))⟩])
  (.block 0 (.loop (.seq (.seq (.region [⟨(some 15), none, .mov (.t 10)⟩,
    ⟨(some 16), none, .bin .lss (.t 15) (.c (.int .i64 5))⟩])
  (.cond (.t 16) (.skip)
  (.exit 0)))
  (.seq (.block 1 (.seq (.block 2 (.loop (.seq (.seq (.region [⟨(some 19), none, .mov (.t 9)⟩,
    ⟨(some 20), none, .mov (.t 2)⟩,
    ⟨(some 21), none, .bin .lss (.t 19) (.t 20)⟩,
    ⟨(some 22), none, .mov (.t 21)⟩,
    ⟨(some 23), some (22, true), .mov (.t 3)⟩,
    ⟨(some 24), some (22, true), .mov (.t 0)⟩,
    ⟨(some 25), some (22, true), .mov (.t 9)⟩,
    ⟨(some 26), some (22, true), .idx (.t 24) (.t 25) sz⟩,
    ⟨(some 27), some (22, true), .load (.t 26) lz⟩,
    ⟨(some 28), some (22, true), .mov (.t 0)⟩,
    ⟨(some 29), some (22, true), .mov (.t 9)⟩,
    ⟨(some 30), some (22, true), .bin .sub (.t 29) (.c (.int .i64 1))⟩,
    ⟨(some 31), some (22, true), .idx (.t 28) (.t 30) sz⟩,
    ⟨(some 32), some (22, true), .load (.t 31) lz⟩,
    ⟨(some 33), some (22, true), .callv (.t 23) [(.t 27), (.t 32)]⟩,
    ⟨(some 34), some (22, true), .bin .lss (.t 33) (.c (.int .i64 0))⟩,
    ⟨(some 35), some (22, true), .not (.t 34)⟩,
    ⟨(some 36), none, .pick (.t 22) (.t 35) (.c (.bool false))⟩])
  (.cond (.t 36) (.skip)
  (.exit 2)))
  (.block 3 (.region [⟨(some 37), none, .mov (.t 9)⟩,
    ⟨(some 38), none, .bin .add (.t 37) (.c (.int .i64 1))⟩,
    ⟨(some 9), none, .mov (.t 38)⟩])))))
  (.seq (.seq (.region [⟨(some 39), none, .mov (.t 9)⟩,
    ⟨(some 40), none, .mov (.t 2)⟩,
    ⟨(some 41), none, .bin .eql (.t 39) (.t 40)⟩])
  (.cond (.t 41) (.seq (.region [⟨(some 8), none, .mov (.c (.bool true))⟩])
  (.ret))
  (.skip)))
  (.seq (.seq (.region [⟨(some 42), none, .mov (.t 2)⟩,
    ⟨(some 43), none, .mov (.t 1)⟩,
    ⟨(some 44), none, .bin .sub (.t 42) (.t 43)⟩,
    ⟨(some 45), none, .bin .lss (.t 44) (.c (.int .i64 50))⟩])
  (.cond (.t 45) (.seq (.region [⟨(some 8), none, .mov (.c (.bool false))⟩])
  (.ret))
  (.skip)))
  (.seq (.region [⟨(some 46), none, .mov (.t 0)⟩,
    ⟨(some 47), none, .mov (.t 9)⟩,
    ⟨(some 48), none, .mov (.t 0)⟩,
    ⟨(some 49), none, .mov (.t 9)⟩,
    ⟨(some 50), none, .bin .sub (.t 49) (.c (.int .i64 1))⟩,
    ⟨(some 51), none, .mov (.t 0)⟩,
    ⟨(some 52), none, .mov (.t 9)⟩,
    ⟨(some 53), none, .bin .sub (.t 52) (.c (.int .i64 1))⟩,
    ⟨(some 54), none, .idx (.t 51) (.t 53) sz⟩,
    ⟨(some 55), none, .load (.t 54) lz⟩,
    ⟨(some 56), none, .mov (.t 0)⟩,
    ⟨(some 57), none, .mov (.t 9)⟩,
    ⟨(some 58), none, .idx (.t 56) (.t 57) sz⟩,
    ⟨(some 59), none, .load (.t 58) lz⟩,
    ⟨(some 60), none, .idx (.t 46) (.t 47) sz⟩,
    ⟨none, none, .store (.t 60) (.t 55) sz⟩,
    ⟨(some 61), none, .idx (.t 48) (.t 50) sz⟩,
    ⟨none, none, .store (.t 61) (.t 59) sz⟩])
  (.seq (.seq (.region [⟨(some 62), none, .mov (.t 9)⟩,
    ⟨(some 63), none, .mov (.t 1)⟩,
    ⟨(some 64), none, .bin .sub (.t 62) (.t 63)⟩,
    ⟨(some 65), none, .bin .geq (.t 64) (.c (.int .i64 2))⟩])
  (.cond (.t 65) (.seq (.region [⟨(some 66), none, .mov (.t 9)⟩,
    ⟨(some 67), none, .bin .sub (.t 66) (.c (.int .i64 1))⟩,
    ⟨(some 11), none, .mov (.t 67)⟩])
  (.block 4 (.loop (.seq (.seq (.region [⟨(some 68), none, .mov (.t 11)⟩,
    ⟨(some 69), none, .bin .geq (.t 68) (.c (.int .i64 1))⟩])
  (.cond (.t 69) (.skip)
  (.exit 4)))
  (.seq (.block 5 (.seq (.seq (.region [⟨(some 72), none, .mov (.t 3)⟩,
    ⟨(some 73), none, .mov (.t 0)⟩,
    ⟨(some 74), none, .mov (.t 11)⟩,
    ⟨(some 75), none, .idx (.t 73) (.t 74) sz⟩,
    ⟨(some 76), none, .load (.t 75) lz⟩,
    ⟨(some 77), none, .mov (.t 0)⟩,
    ⟨(some 78), none, .mov (.t 11)⟩,
    ⟨(some 79), none, .bin .sub (.t 78) (.c (.int .i64 1))⟩,
    ⟨(some 80), none, .idx (.t 77) (.t 79) sz⟩,
    ⟨(some 81), none, .load (.t 80) lz⟩,
    ⟨(some 82), none, .callv (.t 72) [(.t 76), (.t 81)]⟩,
    ⟨(some 83), none, .bin .lss (.t 82) (.c (.int .i64 0))⟩,
    ⟨(some 84), none, .not (.t 83)⟩])
  (.cond (.t 84) (.exit 4)
  (.skip)))
  (.region [⟨(some 85), none, .mov (.t 0)⟩,
    ⟨(some 86), none, .mov (.t 11)⟩,
    ⟨(some 87), none, .mov (.t 0)⟩,
    ⟨(some 88), none, .mov (.t 11)⟩,
    ⟨(some 89), none, .bin .sub (.t 88) (.c (.int .i64 1))⟩,
    ⟨(some 90), none, .mov (.t 0)⟩,
    ⟨(some 91), none, .mov (.t 11)⟩,
    ⟨(some 92), none, .bin .sub (.t 91) (.c (.int .i64 1))⟩,
    ⟨(some 93), none, .idx (.t 90) (.t 92) sz⟩,
    ⟨(some 94), none, .load (.t 93) lz⟩,
    ⟨(some 95), none, .mov (.t 0)⟩,
    ⟨(some 96), none, .mov (.t 11)⟩,
    ⟨(some 97), none, .idx (.t 95) (.t 96) sz⟩,
    ⟨(some 98), none, .load (.t 97) lz⟩,
    ⟨(some 99), none, .idx (.t 85) (.t 86) sz⟩,
    ⟨none, none, .store (.t 99) (.t 94) sz⟩,
    ⟨(some 100), none, .idx (.t 87) (.t 89) sz⟩,
    ⟨none, none, .store (.t 100) (.t 98) sz⟩])))
  (.region [⟨(some 70), none, .mov (.t 11)⟩,
    ⟨(some 71), none, .bin .sub (.t 70) (.c (.int .i64 1))⟩,
    ⟨(some 11), none, .mov (.t 71)⟩]))))))
  (.skip)))
  (.seq (.region [⟨(some 101), none, .mov (.t 2)⟩,
    ⟨(some 102), none, .mov (.t 9)⟩,
    ⟨(some 103), none, .bin .sub (.t 101) (.t 102)⟩,
    ⟨(some 104), none, .bin .geq (.t 103) (.c (.int .i64 2))⟩])
  (.cond (.t 104) (.seq (.region [⟨(some 105), none, .mov (.t 9)⟩,
    ⟨(some 106), none, .bin .add (.t 105) (.c (.int .i64 1))⟩,
    ⟨(some 12), none, .mov (.t 106)⟩])
  (.block 6 (.loop (.seq (.seq (.region [⟨(some 107), none, .mov (.t 12)⟩,
    ⟨(some 108), none, .mov (.t 2)⟩,
    ⟨(some 109), none, .bin .lss (.t 107) (.t 108)⟩])
  (.cond (.t 109) (.skip)
  (.exit 6)))
  (.seq (.block 7 (.seq (.seq (.region [⟨(some 112), none, .mov (.t 3)⟩,
    ⟨(some 113), none, .mov (.t 0)⟩,
    ⟨(some 114), none, .mov (.t 12)⟩,
    ⟨(some 115), none, .idx (.t 113) (.t 114) sz⟩,
    ⟨(some 116), none, .load (.t 115) lz⟩,
    ⟨(some 117), none, .mov (.t 0)⟩,
    ⟨(some 118), none, .mov (.t 12)⟩,
    ⟨(some 119), none, .bin .sub (.t 118) (.c (.int .i64 1))⟩,
    ⟨(some 120), none, .idx (.t 117) (.t 119) sz⟩,
    ⟨(some 121), none, .load (.t 120) lz⟩,
    ⟨(some 122), none, .callv (.t 112) [(.t 116), (.t 121)]⟩,
    ⟨(some 123), none, .bin .lss (.t 122) (.c (.int .i64 0))⟩,
    ⟨(some 124), none, .not (.t 123)⟩])
  (.cond (.t 124) (.exit 6)
  (.skip)))
  (.region [⟨(some 125), none, .mov (.t 0)⟩,
    ⟨(some 126), none, .mov (.t 12)⟩,
    ⟨(some 127), none, .mov (.t 0)⟩,
    ⟨(some 128), none, .mov (.t 12)⟩,
    ⟨(some 129), none, .bin .sub (.t 128) (.c (.int .i64 1))⟩,
    ⟨(some 130), none, .mov (.t 0)⟩,
    ⟨(some 131), none, .mov (.t 12)⟩,
    ⟨(some 132), none, .bin .sub (.t 131) (.c (.int .i64 1))⟩,
    ⟨(some 133), none, .idx (.t 130) (.t 132) sz⟩,
    ⟨(some 134), none, .load (.t 133) lz⟩,
    ⟨(some 135), none, .mov (.t 0)⟩,
    ⟨(some 136), none, .mov (.t 12)⟩,
    ⟨(some 137), none, .idx (.t 135) (.t 136) sz⟩,
    ⟨(some 138), none, .load (.t 137) lz⟩,
    ⟨(some 139), none, .idx (.t 125) (.t 126) sz⟩,
    ⟨none, none, .store (.t 139) (.t 134) sz⟩,
    ⟨(some 140), none, .idx (.t 127) (.t 129) sz⟩,
    ⟨none, none, .store (.t 140) (.t 138) sz⟩])))
  (.region [⟨(some 110), none, .mov (.t 12)⟩,
    ⟨(some 111), none, .bin .add (.t 110) (.c (.int .i64 1))⟩,
    ⟨(some 12), none, .mov (.t 111)⟩]))))))
  (.skip)))))))))
  (.region [⟨(some 17), none, .mov (.t 10)⟩,
    ⟨(some 18), none, .bin .add (.t 17) (.c (.int .i64 1))⟩,
    ⟨(some 10), none, .mov (.t 18)⟩]))))))
  (.seq (.region [⟨(some 8), none, .mov (.c (.bool false))⟩])
  (.ret))))
def partialInsertionSortFR : List Res := [.t 8]
def partitionF (sz : Nat) (lz : Option Nat) : ACode := .seq (.region [⟨(some 10), none, .mov (.c (.int .i64 0))⟩,
    ⟨(some 11), none, .mov (.c (.bool false))⟩])
  (.seq (.region [⟨(some 14), none, .mov (.t 0)⟩,
    ⟨(some 15), none, .mov (.t 1)⟩,
    ⟨(some 16), none, .mov (.t 0)⟩,
    ⟨(some 17), none, .mov (.t 3)⟩,
    ⟨(some 18), none, .mov (.t 0)⟩,
    ⟨(some 19), none, .mov (.t 3)⟩,
    ⟨(some 20), none, .idx (.t 18) (.t 19) sz⟩,
    ⟨(some 21), none, .load (.t 20) lz⟩,
    ⟨(some 22), none, .mov (.t 0)⟩,
    ⟨(some 23), none, .mov (.t 1)⟩,
    ⟨(some 24), none, .idx (.t 22) (.t 23) sz⟩,
    ⟨(some 25), none, .load (.t 24) lz⟩,
    ⟨(some 26), none, .idx (.t 14) (.t 15) sz⟩,
    ⟨none, none, .store (.t 26) (.t 21) sz⟩,
    ⟨(some 27), none, .idx (.t 16) (.t 17) sz⟩,
    ⟨none, none, .store (.t 27) (.t 25) sz⟩])
  (.seq (.region [⟨(some 28), none, .mov (.t 1)⟩,
    ⟨(some 29), none, .bin .add (.t 28) (.c (.int .i64 1))⟩,
    ⟨(some 30), none, .mov (.t 2)⟩,
    ⟨(some 31), none, .bin .sub (.t 30) (.c (.int .i64 1))⟩,
    ⟨(some 12), none, .mov (.t 29)⟩,
    ⟨(some 13), none, .mov (.t 31)⟩])
  (.seq (.block 0 (.loop (.seq (.seq (.region [⟨(some 32), none, .mov (.t 12)⟩,
    ⟨(some 33), none, .mov (.t 13)⟩,
    ⟨(some 34), none, .bin .leq (.t 32) (.t 33)⟩,
    ⟨(some 35), none, .mov (.t 34)⟩,
    ⟨(some 36), some (35, true), .mov (.t 4)⟩,
    ⟨(some 37), some (35, true), .mov (.t 0)⟩,
    ⟨(some 38), some (35, true), .mov (.t 12)⟩,
    ⟨(some 39), some (35, true), .idx (.t 37) (.t 38) sz⟩,
    ⟨(some 40), some (35, true), .load (.t 39) lz⟩,
    ⟨(some 41), some (35, true), .mov (.t 0)⟩,
    ⟨(some 42), some (35, true), .mov (.t 1)⟩,
    ⟨(some 43), some (35, true), .idx (.t 41) (.t 42) sz⟩,
    ⟨(some 44), some (35, true), .load (.t 43) lz⟩,
    ⟨(some 45), some (35, true), .callv (.t 36) [(.t 40), (.t 44)]⟩,
    ⟨(some 46), some (35, true), .bin .lss (.t 45) (.c (.int .i64 0))⟩,
    ⟨(some 47), none, .pick (.t 35) (.t 46) (.c (.bool false))⟩])
  (.cond (.t 47) (.skip)
  (.exit 0)))
  (.block 1 (.region [⟨(some 48), none, .mov (.t 12)⟩,
    ⟨(some 49), none, .bin .add (.t 48) (.c (.int .i64 1))⟩,
    ⟨(some 12), none, .mov (.t 49)⟩])))))
  (.seq (.block 2 (.loop (.seq (.seq (.region [⟨(some 50), none, .mov (.t 12)⟩,
    ⟨(some 51), none, .mov (.t 13)⟩,
    ⟨(some 52), none, .bin .leq (.t 50) (.t 51)⟩,
    ⟨(some 53), none, .mov (.t 52)⟩,
    ⟨(some 54), some (53, true), .mov (.t 4)⟩,
    ⟨(some 55), some (53, true), .mov (.t 0)⟩,
    ⟨(some 56), some (53, true), .mov (.t 13)⟩,
    ⟨(some 57), some (53, true), .idx (.t 55) (.t 56) sz⟩,
    ⟨(some 58), some (53, true), .load (.t 57) lz⟩,
    ⟨(some 59), some (53, true), .mov (.t 0)⟩,
    ⟨(some 60), some (53, true), .mov (.t 1)⟩,
    ⟨(some 61), some (53, true), .idx (.t 59) (.t 60) sz⟩,
    ⟨(some 62), some (53, true), .load (.t 61) lz⟩,
    ⟨(some 63), some (53, true), .callv (.t 54) [(.t 58), (.t 62)]⟩,
    ⟨(some 64), some (53, true), .bin .lss (.t 63) (.c (.int .i64 0))⟩,
    ⟨(some 65), some (53, true), .not (.t 64)⟩,
    ⟨(some 66), none, .pick (.t 53) (.t 65) (.c (.bool false))⟩])
  (.cond (.t 66) (.skip)
  (.exit 2)))
  (.block 3 (.region [⟨(some 67), none, .mov (.t 13)⟩,
    ⟨(some 68), none, .bin .sub (.t 67) (.c (.int .i64 1))⟩,
    ⟨(some 13), none, .mov (.t 68)⟩])))))
  (.seq (.seq (.region [⟨(some 69), none, .mov (.t 12)⟩,
    ⟨(some 70), none, .mov (.t 13)⟩,
    ⟨(some 71), none, .bin .gtr (.t 69) (.t 70)⟩])
  (.cond (.t 71) (.seq (.region [⟨(some 72), none, .mov (.t 0)⟩,
    ⟨(some 73), none, .mov (.t 13)⟩,
    ⟨(some 74), none, .mov (.t 0)⟩,
    ⟨(some 75), none, .mov (.t 1)⟩,
    ⟨(some 76), none, .mov (.t 0)⟩,
    ⟨(some 77), none, .mov (.t 1)⟩,
    ⟨(some 78), none, .idx (.t 76) (.t 77) sz⟩,
    ⟨(some 79), none, .load (.t 78) lz⟩,
    ⟨(some 80), none, .mov (.t 0)⟩,
    ⟨(some 81), none, .mov (.t 13)⟩,
    ⟨(some 82), none, .idx (.t 80) (.t 81) sz⟩,
    ⟨(some 83), none, .load (.t 82) lz⟩,
    ⟨(some 84), none, .idx (.t 72) (.t 73) sz⟩,
    ⟨none, none, .store (.t 84) (.t 79) sz⟩,
    ⟨(some 85), none, .idx (.t 74) (.t 75) sz⟩,
    ⟨none, none, .store (.t 85) (.t 83) sz⟩])
  (.seq (.region [⟨(some 86), none, .mov (.t 13)⟩,
    ⟨(some 10), none, .mov (.t 86)⟩,
    ⟨(some 11), none, .mov (.c (.bool true))⟩])
  (.ret)))
  (.skip)))
  (.seq (.region [⟨(some 87), none, .mov (.t 0)⟩,
    ⟨(some 88), none, .mov (.t 12)⟩,
    ⟨(some 89), none, .mov (.t 0)⟩,
    ⟨(some 90), none, .mov (.t 13)⟩,
    ⟨(some 91), none, .mov (.t 0)⟩,
    ⟨(some 92), none, .mov (.t 13)⟩,
    ⟨(some 93), none, .idx (.t 91) (.t 92) sz⟩,
    ⟨(some 94), none, .load (.t 93) lz⟩,
    ⟨(some 95), none, .mov (.t 0)⟩,
    ⟨(some 96), none, .mov (.t 12)⟩,
    ⟨(some 97), none, .idx (.t 95) (.t 96) sz⟩,
    ⟨(some 98), none, .load (.t 97) lz⟩,
    ⟨(some 99), none, .idx (.t 87) (.t 88) sz⟩,
    ⟨none, none, .store (.t 99) (.t 94) sz⟩,
    ⟨(some 100), none, .idx (.t 89) (.t 90) sz⟩,
    ⟨none, none, .store (.t 100) (.t 98) sz⟩])
  (.seq (.region [⟨(some 101), none, .mov (.t 12)⟩,
    ⟨(some 102), none, .bin .add (.t 101) (.c (.int .i64 1))⟩,
    ⟨(some 12), none, .mov (.t 102)⟩])
  (.seq (.region [⟨(some 103), none, .mov (.t 13)⟩,
    ⟨(some 104), none, .bin .sub (.t 103) (.c (.int .i64 1))⟩,
    ⟨(some 13), none, .mov (.t 104)⟩])
  (.seq (.block 4 (.loop (.block 5 (.seq (.block 6 (.loop (.seq (.seq (.region [⟨(some 105), none, .mov (.t 12)⟩,
    ⟨(some 106), none, .mov (.t 13)⟩,
    ⟨(some 107), none, .bin .leq (.t 105) (.t 106)⟩,
    ⟨(some 108), none, .mov (.t 107)⟩,
    ⟨(some 109), some (108, true), .mov (.t 4)⟩,
    ⟨(some 110), some (108, true), .mov (.t 0)⟩,
    ⟨(some 111), some (108, true), .mov (.t 12)⟩,
    ⟨(some 112), some (108, true), .idx (.t 110) (.t 111) sz⟩,
    ⟨(some 113), some (108, true), .load (.t 112) lz⟩,
    ⟨(some 114), some (108, true), .mov (.t 0)⟩,
    ⟨(some 115), some (108, true), .mov (.t 1)⟩,
    ⟨(some 116), some (108, true), .idx (.t 114) (.t 115) sz⟩,
    ⟨(some 117), some (108, true), .load (.t 116) lz⟩,
    ⟨(some 118), some (108, true), .callv (.t 109) [(.t 113), (.t 117)]⟩,
    ⟨(some 119), some (108, true), .bin .lss (.t 118) (.c (.int .i64 0))⟩,
    ⟨(some 120), none, .pick (.t 108) (.t 119) (.c (.bool false))⟩])
  (.cond (.t 120) (.skip)
  (.exit 6)))
  (.block 7 (.region [⟨(some 121), none, .mov (.t 12)⟩,
    ⟨(some 122), none, .bin .add (.t 121) (.c (.int .i64 1))⟩,
    ⟨(some 12), none, .mov (.t 122)⟩])))))
  (.seq (.block 8 (.loop (.seq (.seq (.region [⟨(some 123), none, .mov (.t 12)⟩,
    ⟨(some 124), none, .mov (.t 13)⟩,
    ⟨(some 125), none, .bin .leq (.t 123) (.t 124)⟩,
    ⟨(some 126), none, .mov (.t 125)⟩,
    ⟨(some 127), some (126, true), .mov (.t 4)⟩,
    ⟨(some 128), some (126, true), .mov (.t 0)⟩,
    ⟨(some 129), some (126, true), .mov (.t 13)⟩,
    ⟨(some 130), some (126, true), .idx (.t 128) (.t 129) sz⟩,
    ⟨(some 131), some (126, true), .load (.t 130) lz⟩,
    ⟨(some 132), some (126, true), .mov (.t 0)⟩,
    ⟨(some 133), some (126, true), .mov (.t 1)⟩,
    ⟨(some 134), some (126, true), .idx (.t 132) (.t 133) sz⟩,
    ⟨(some 135), some (126, true), .load (.t 134) lz⟩,
    ⟨(some 136), some (126, true), .callv (.t 127) [(.t 131), (.t 135)]⟩,
    ⟨(some 137), some (126, true), .bin .lss (.t 136) (.c (.int .i64 0))⟩,
    ⟨(some 138), some (126, true), .not (.t 137)⟩,
    ⟨(some 139), none, .pick (.t 126) (.t 138) (.c (.bool false))⟩])
  (.cond (.t 139) (.skip)
  (.exit 8)))
  (.block 9 (.region [⟨(some 140), none, .mov (.t 13)⟩,
    ⟨(some 141), none, .bin .sub (.t 140) (.c (.int .i64 1))⟩,
    ⟨(some 13), none, .mov (.t 141)⟩])))))
  (.seq (.seq (.region [⟨(some 142), none, .mov (.t 12)⟩,
    ⟨(some 143), none, .mov (.t 13)⟩,
    ⟨(some 144), none, .bin .gtr (.t 142) (.t 143)⟩])
  (.cond (.t 144) (.exit 4)
  (.skip)))
  (.seq (.region [⟨(some 145), none, .mov (.t 0)⟩,
    ⟨(some 146), none, .mov (.t 12)⟩,
    ⟨(some 147), none, .mov (.t 0)⟩,
    ⟨(some 148), none, .mov (.t 13)⟩,
    ⟨(some 149), none, .mov (.t 0)⟩,
    ⟨(some 150), none, .mov (.t 13)⟩,
    ⟨(some 151), none, .idx (.t 149) (.t 150) sz⟩,
    ⟨(some 152), none, .load (.t 151) lz⟩,
    ⟨(some 153), none, .mov (.t 0)⟩,
    ⟨(some 154), none, .mov (.t 12)⟩,
    ⟨(some 155), none, .idx (.t 153) (.t 154) sz⟩,
    ⟨(some 156), none, .load (.t 155) lz⟩,
    ⟨(some 157), none, .idx (.t 145) (.t 146) sz⟩,
    ⟨none, none, .store (.t 157) (.t 152) sz⟩,
    ⟨(some 158), none, .idx (.t 147) (.t 148) sz⟩,
    ⟨none, none, .store (.t 158) (.t 156) sz⟩])
  (.seq (.region [⟨(some 159), none, .mov (.t 12)⟩,
    ⟨(some 160), none, .bin .add (.t 159) (.c (.int .i64 1))⟩,
    ⟨(some 12), none, .mov (.t 160)⟩])
  (.region [⟨(some 161), none, .mov (.t 13)⟩,
    ⟨(some 162), none, .bin .sub (.t 161) (.c (.int .i64 1))⟩,
    ⟨(some 13), none, .mov (.t 162)⟩])))))))))
  (.seq (.region [⟨(some 163), none, .mov (.t 0)⟩,
    ⟨(some 164), none, .mov (.t 13)⟩,
    ⟨(some 165), none, .mov (.t 0)⟩,
    ⟨(some 166), none, .mov (.t 1)⟩,
    ⟨(some 167), none, .mov (.t 0)⟩,
    ⟨(some 168), none, .mov (.t 1)⟩,
    ⟨(some 169), none, .idx (.t 167) (.t 168) sz⟩,
    ⟨(some 170), none, .load (.t 169) lz⟩,
    ⟨(some 171), none, .mov (.t 0)⟩,
    ⟨(some 172), none, .mov (.t 13)⟩,
    ⟨(some 173), none, .idx (.t 171) (.t 172) sz⟩,
    ⟨(some 174), none, .load (.t 173) lz⟩,
    ⟨(some 175), none, .idx (.t 163) (.t 164) sz⟩,
    ⟨none, none, .store (.t 175) (.t 170) sz⟩,
    ⟨(some 176), none, .idx (.t 165) (.t 166) sz⟩,
    ⟨none, none, .store (.t 176) (.t 174) sz⟩])
  (.seq (.region [⟨(some 177), none, .mov (.t 13)⟩,
    ⟨(some 10), none, .mov (.t 177)⟩,
    ⟨(some 11), none, .mov (.c (.bool false))⟩])
  (.ret))))))))))))
def partitionFR : List Res := [.t 10, .t 11]
def breakPatternsF (sz : Nat) (lz : Option Nat) (p_nextPow : FuncId) (p_xorNext : FuncId) : ACode := .seq (.region [⟨(some 13), none, .mov (.t 2)⟩,
    ⟨(some 14), none, .mov (.t 1)⟩,
    ⟨(some 15), none, .bin .sub (.t 13) (.t 14)⟩,
    ⟨(some 8), none, .mov (.t 15)⟩])
  (.seq (.region [⟨(some 16), none, .mov (.t 8)⟩,
    ⟨(some 17), none, .bin .geq (.t 16) (.c (.int .i64 8))⟩])
  (.cond (.t 17) (.seq (.region [⟨(some 18), none, .mov (.t 8)⟩,
    ⟨(some 19), none, .conv .u64 (.t 18)⟩,
    ⟨(some 9), none, .new (.int .u64 0) 1⟩,
    ⟨none, none, .store (.t 9) (.t 19) 1⟩])
  (.seq (.region [⟨(some 20), none, .mov (.t 8)⟩,
    ⟨(some 21), none, .call p_nextPow [(.t 20)]⟩,
    ⟨(some 10), none, .mov (.t 21)⟩])
  (.seq (.region [⟨(some 22), none, .mov (.t 1)⟩,
    ⟨(some 23), none, .mov (.t 8)⟩,
    ⟨(some 24), none, .bin .quo (.t 23) (.c (.int .i64 4))⟩,
    ⟨(some 25), none, .bin .mul (.t 24) (.c (.int .i64 2))⟩,
    ⟨(some 26), none, .bin .add (.t 22) (.t 25)⟩,
    ⟨(some 27), none, .bin .sub (.t 26) (.c (.int .i64 1))⟩,
    ⟨(some 11), none, .mov (.t 27)⟩])
  (.block 0 (.loop (.seq (.seq (.region [⟨(some 28), none, .mov (.t 11)⟩,
    ⟨(some 29), none, .mov (.t 1)⟩,
    ⟨(some 30), none, .mov (.t 8)⟩,
    ⟨(some 31), none, .bin .quo (.t 30) (.c (.int .i64 4))⟩,
    ⟨(some 32), none, .bin .mul (.t 31) (.c (.int .i64 2))⟩,
    ⟨(some 33), none, .bin .add (.t 29) (.t 32)⟩,
    ⟨(some 34), none, .bin .add (.t 33) (.c (.int .i64 1))⟩,
    ⟨(some 35), none, .bin .leq (.t 28) (.t 34)⟩])
  (.cond (.t 35) (.skip)
  (.exit 0)))
  (.seq (.block 1 (.seq (.region [⟨(some 38), none, .call p_xorNext [(.t 9)]⟩,
    ⟨(some 39), none, .mov (.t 10)⟩,
    ⟨(some 40), none, .bin .sub (.t 39) (.c (.int .u64 1))⟩,
    ⟨(some 41), none, .bin .and (.t 38) (.t 40)⟩,
    ⟨(some 42), none, .conv .i64 (.t 41)⟩,
    ⟨(some 12), none, .mov (.t 42)⟩])
  (.seq (.seq (.region [⟨(some 43), none, .mov (.t 12)⟩,
    ⟨(some 44), none, .mov (.t 8)⟩,
    ⟨(some 45), none, .bin .geq (.t 43) (.t 44)⟩])
  (.cond (.t 45) (.region [⟨(some 46), none, .mov (.t 12)⟩,
    ⟨(some 47), none, .mov (.t 8)⟩,
    ⟨(some 48), none, .bin .sub (.t 46) (.t 47)⟩,
    ⟨(some 12), none, .mov (.t 48)⟩])
  (.skip)))
  (.region [⟨(some 49), none, .mov (.t 0)⟩,
    ⟨(some 50), none, .mov (.t 11)⟩,
    ⟨(some 51), none, .mov (.t 0)⟩,
    ⟨(some 52), none, .mov (.t 1)⟩,
    ⟨(some 53), none, .mov (.t 12)⟩,
    ⟨(some 54), none, .bin .add (.t 52) (.t 53)⟩,
    ⟨(some 55), none, .mov (.t 0)⟩,
    ⟨(some 56), none, .mov (.t 1)⟩,
    ⟨(some 57), none, .mov (.t 12)⟩,
    ⟨(some 58), none, .bin .add (.t 56) (.t 57)⟩,
    ⟨(some 59), none, .idx (.t 55) (.t 58) sz⟩,
    ⟨(some 60), none, .load (.t 59) lz⟩,
    ⟨(some 61), none, .mov (.t 0)⟩,
    ⟨(some 62), none, .mov (.t 11)⟩,
    ⟨(some 63), none, .idx (.t 61) (.t 62) sz⟩,
    ⟨(some 64), none, .load (.t 63) lz⟩,
    ⟨(some 65), none, .idx (.t 49) (.t 50) sz⟩,
    ⟨none, none, .store (.t 65) (.t 60) sz⟩,
    ⟨(some 66), none, .idx (.t 51) (.t 54) sz⟩,
    ⟨none, none, .store (.t 66) (.t 64) sz⟩]))))
  (.region [⟨(some 36), none, .mov (.t 11)⟩,
    ⟨(some 37), none, .bin .add (.t 36) (.c (.int .i64 1))⟩,
    ⟨(some 11), none, .mov (.t 37)⟩]))))))))
  (.skip)))
def breakPatternsFR : List Res := []
def choosePivotF (sz : Nat) (lz : Option Nat) (p_median : FuncId) (p_medianAdjacent : FuncId) : ACode := .seq (.region [⟨(some 8), none, .mov (.c (.int .i64 0))⟩,
    ⟨(some 9), none, .mov (.c (.int .i64 0))⟩])
  (.seq (.region [⟨(some 15), none, .mov (.t 2)⟩,
    ⟨(some 16), none, .mov (.t 1)⟩,
    ⟨(some 17), none, .bin .sub (.t 15) (.t 16)⟩,
    ⟨(some 10), none, .mov (.t 17)⟩])
  (.seq (.region [⟨(some 11), none, .new (.int .i64 0) 1⟩])
  (.seq (.region [⟨(some 18), none, .mov (.t 1)⟩,
    ⟨(some 19), none, .mov (.t 10)⟩,
    ⟨(some 20), none, .bin .quo (.t 19) (.c (.int .i64 4))⟩,
    ⟨(some 21), none, .bin .mul (.t 20) (.c (.int .i64 1))⟩,
    ⟨(some 22), none, .bin .add (.t 18) (.t 21)⟩,
    ⟨(some 12), none, .mov (.t 22)⟩])
  (.seq (.region [⟨(some 23), none, .mov (.t 1)⟩,
    ⟨(some 24), none, .mov (.t 10)⟩,
    ⟨(some 25), none, .bin .quo (.t 24) (.c (.int .i64 4))⟩,
    ⟨(some 26), none, .bin .mul (.t 25) (.c (.int .i64 2))⟩,
    ⟨(some 27), none, .bin .add (.t 23) (.t 26)⟩,
    ⟨(some 13), none, .mov (.t 27)⟩])
  (.seq (.region [⟨(some 28), none, .mov (.t 1)⟩,
    ⟨(some 29), none, .mov (.t 10)⟩,
    ⟨(some 30), none, .bin .quo (.t 29) (.c (.int .i64 4))⟩,
    ⟨(some 31), none, .bin .mul (.t 30) (.c (.int .i64 3))⟩,
    ⟨(some 32), none, .bin .add (.t 28) (.t 31)⟩,
    ⟨(some 14), none, .mov (.t 32)⟩])
  (.seq (.seq (.region [⟨(some 33), none, .mov (.t 10)⟩,
    ⟨(some 34), none, .bin .geq (.t 33) (.c (.int .i64 8))⟩])
  (.cond (.t 34) (.seq (.seq (.region [⟨(some 35), none, .mov (.t 10)⟩,
    ⟨(some 36), none, .bin .geq (.t 35) (.c (.int .i64 50))⟩])
  (.cond (.t 36) (.seq (.region [⟨(some 37), none, .mov (.t 0)⟩,
    ⟨(some 38), none, .mov (.t 12)⟩,
    ⟨(some 39), none, .mov (.t 3)⟩,
    ⟨(some 40), none, .call p_medianAdjacent [(.t 37), (.t 38), (.t 11), (.t 39)]⟩,
    ⟨(some 12), none, .mov (.t 40)⟩])
  (.seq (.region [⟨(some 41), none, .mov (.t 0)⟩,
    ⟨(some 42), none, .mov (.t 13)⟩,
    ⟨(some 43), none, .mov (.t 3)⟩,
    ⟨(some 44), none, .call p_medianAdjacent [(.t 41), (.t 42), (.t 11), (.t 43)]⟩,
    ⟨(some 13), none, .mov (.t 44)⟩])
  (.region [⟨(some 45), none, .mov (.t 0)⟩,
    ⟨(some 46), none, .mov (.t 14)⟩,
    ⟨(some 47), none, .mov (.t 3)⟩,
    ⟨(some 48), none, .call p_medianAdjacent [(.t 45), (.t 46), (.t 11), (.t 47)]⟩,
    ⟨(some 14), none, .mov (.t 48)⟩])))
  (.skip)))
  (.region [⟨(some 49), none, .mov (.t 0)⟩,
    ⟨(some 50), none, .mov (.t 12)⟩,
    ⟨(some 51), none, .mov (.t 13)⟩,
    ⟨(some 52), none, .mov (.t 14)⟩,
    ⟨(some 53), none, .mov (.t 3)⟩,
    ⟨(some 54), none, .call p_median [(.t 49), (.t 50), (.t 51), (.t 52), (.t 11), (.t 53)]⟩,
    ⟨(some 13), none, .mov (.t 54)⟩]))
  (.skip)))
  (.seq (.region [⟨(some 55), none, .load (.t 11) none⟩])
  (.block 0 (.seq (.region [⟨(some 58), none, .bin .eql (.t 55) (.c (.int .i64 0))⟩,
    ⟨(some 57), none, .mov (.t 58)⟩])
  (.cond (.t 57) (.seq (.region [⟨(some 59), none, .mov (.t 13)⟩,
    ⟨(some 8), none, .mov (.t 59)⟩,
    ⟨(some 9), none, .mov (.c (.int .i64 1))⟩])
  (.ret))
  (.seq (.region [⟨(some 61), none, .bin .eql (.t 55) (.c (.int .i64 12))⟩,
    ⟨(some 60), none, .mov (.t 61)⟩])
  (.cond (.t 60) (.seq (.region [⟨(some 62), none, .mov (.t 13)⟩,
    ⟨(some 8), none, .mov (.t 62)⟩,
    ⟨(some 9), none, .mov (.c (.int .i64 2))⟩])
  (.ret))
  (.seq (.region [⟨(some 56), none, .mov (.t 13)⟩,
    ⟨(some 8), none, .mov (.t 56)⟩,
    ⟨(some 9), none, .mov (.c (.int .i64 0))⟩])
  (.ret))))))))))))))
def choosePivotFR : List Res := [.t 8, .t 9]
def order2F (sz : Nat) (lz : Option Nat) : ACode := .seq (.region [⟨(some 10), none, .mov (.c (.int .i64 0))⟩,
    ⟨(some 11), none, .mov (.c (.int .i64 0))⟩])
  (.seq (.seq (.region [⟨(some 12), none, .mov (.t 4)⟩,
    ⟨(some 13), none, .mov (.t 0)⟩,
    ⟨(some 14), none, .mov (.t 2)⟩,
    ⟨(some 15), none, .idx (.t 13) (.t 14) sz⟩,
    ⟨(some 16), none, .load (.t 15) lz⟩,
    ⟨(some 17), none, .mov (.t 0)⟩,
    ⟨(some 18), none, .mov (.t 1)⟩,
    ⟨(some 19), none, .idx (.t 17) (.t 18) sz⟩,
    ⟨(some 20), none, .load (.t 19) lz⟩,
    ⟨(some 21), none, .callv (.t 12) [(.t 16), (.t 20)]⟩,
    ⟨(some 22), none, .bin .lss (.t 21) (.c (.int .i64 0))⟩])
  (.cond (.t 22) (.seq (.region [⟨(some 23), none, .mov (.t 3)⟩,
    ⟨(some 24), none, .addr (.t 23) 0⟩,
    ⟨(some 25), none, .load (.t 24) none⟩,
    ⟨(some 26), none, .bin .add (.t 25) (.c (.int .i64 1))⟩,
    ⟨(some 27), none, .addr (.t 23) 0⟩,
    ⟨none, none, .store (.t 27) (.t 26) 1⟩])
  (.seq (.region [⟨(some 28), none, .mov (.t 2)⟩,
    ⟨(some 29), none, .mov (.t 1)⟩,
    ⟨(some 10), none, .mov (.t 28)⟩,
    ⟨(some 11), none, .mov (.t 29)⟩])
  (.ret)))
  (.skip)))
  (.seq (.region [⟨(some 30), none, .mov (.t 1)⟩,
    ⟨(some 31), none, .mov (.t 2)⟩,
    ⟨(some 10), none, .mov (.t 30)⟩,
    ⟨(some 11), none, .mov (.t 31)⟩])
  (.ret)))
def order2FR : List Res := [.t 10, .t 11]
def medianAdjacentF (sz : Nat) (lz : Option Nat) (p_median : FuncId) : ACode := .seq (.region [⟨(some 8), none, .mov (.c (.int .i64 0))⟩])
  (.seq (.region [⟨(some 9), none, .mov (.t 0)⟩,
    ⟨(some 10), none, .mov (.t 1)⟩,
    ⟨(some 11), none, .bin .sub (.t 10) (.c (.int .i64 1))⟩,
    ⟨(some 12), none, .mov (.t 1)⟩,
    ⟨(some 13), none, .mov (.t 1)⟩,
    ⟨(some 14), none, .bin .add (.t 13) (.c (.int .i64 1))⟩,
    ⟨(some 15), none, .mov (.t 2)⟩,
    ⟨(some 16), none, .mov (.t 3)⟩,
    ⟨(some 17), none, .call p_median [(.t 9), (.t 11), (.t 12), (.t 14), (.t 15), (.t 16)]⟩,
    ⟨(some 8), none, .mov (.t 17)⟩])
  (.ret))
def medianAdjacentFR : List Res := [.t 8]
def medianF (sz : Nat) (lz : Option Nat) (p_order2 : FuncId) : ACode := .seq (.region [⟨(some 12), none, .mov (.c (.int .i64 0))⟩])
  (.seq (.region [⟨(some 14), none, .mov (.t 0)⟩,
    ⟨(some 15), none, .mov (.t 1)⟩,
    ⟨(some 16), none, .mov (.t 2)⟩,
    ⟨(some 17), none, .mov (.t 4)⟩,
    ⟨(some 18), none, .mov (.t 5)⟩,
    ⟨(some 19), none, .call p_order2 [(.t 14), (.t 15), (.t 16), (.t 17), (.t 18)]⟩,
    ⟨(some 13), none, .mov (.t 19)⟩,
    ⟨(some 20), none, .ext (.t 13) 0⟩,
    ⟨(some 21), none, .ext (.t 13) 1⟩,
    ⟨(some 1), none, .mov (.t 20)⟩,
    ⟨(some 2), none, .mov (.t 21)⟩])
  (.seq (.region [⟨(some 23), none, .mov (.t 0)⟩,
    ⟨(some 24), none, .mov (.t 2)⟩,
    ⟨(some 25), none, .mov (.t 3)⟩,
    ⟨(some 26), none, .mov (.t 4)⟩,
    ⟨(some 27), none, .mov (.t 5)⟩,
    ⟨(some 28), none, .call p_order2 [(.t 23), (.t 24), (.t 25), (.t 26), (.t 27)]⟩,
    ⟨(some 22), none, .mov (.t 28)⟩,
    ⟨(some 29), none, .ext (.t 22) 0⟩,
    ⟨(some 30), none, .ext (.t 22) 1⟩,
    ⟨(some 2), none, .mov (.t 29)⟩,
    ⟨(some 3), none, .mov (.t 30)⟩])
  (.seq (.region [⟨(some 32), none, .mov (.t 0)⟩,
    ⟨(some 33), none, .mov (.t 1)⟩,
    ⟨(some 34), none, .mov (.t 2)⟩,
    ⟨(some 35), none, .mov (.t 4)⟩,
    ⟨(some 36), none, .mov (.t 5)⟩,
    ⟨(some 37), none, .call p_order2 [(.t 32), (.t 33), (.t 34), (.t 35), (.t 36)]⟩,
    ⟨(some 31), none, .mov (.t 37)⟩,
    ⟨(some 38), none, .ext (.t 31) 0⟩,
    ⟨(some 39), none, .ext (.t 31) 1⟩,
    ⟨(some 1), none, .mov (.t 38)⟩,
    ⟨(some 2), none, .mov (.t 39)⟩])
  (.seq (.region [⟨(some 40), none, .mov (.t 2)⟩,
    ⟨(some 12), none, .mov (.t 40)⟩])
  (.ret)))))
def medianFR : List Res := [.t 12]
def reverseRangeF (sz : Nat) (lz : Option Nat) : ACode := .seq (.region [⟨(some 10), none, .mov (.t 1)⟩,
    ⟨(some 8), none, .mov (.t 10)⟩])
  (.seq (.region [⟨(some 11), none, .mov (.t 2)⟩,
    ⟨(some 12), none, .bin .sub (.t 11) (.c (.int .i64 1))⟩,
    ⟨(some 9), none, .mov (.t 12)⟩])
  (.block 0 (.loop (.seq (.seq (.region [⟨(some 13), none, .mov (.t 8)⟩,
    ⟨(some 14), none, .mov (.t 9)⟩,
    ⟨(some 15), none, .bin .lss (.t 13) (.t 14)⟩])
  (.cond (.t 15) (.skip)
  (.exit 0)))
  (.block 1 (.seq (.region [⟨(some 16), none, .mov (.t 0)⟩,
    ⟨(some 17), none, .mov (.t 8)⟩,
    ⟨(some 18), none, .mov (.t 0)⟩,
    ⟨(some 19), none, .mov (.t 9)⟩,
    ⟨(some 20), none, .mov (.t 0)⟩,
    ⟨(some 21), none, .mov (.t 9)⟩,
    ⟨(some 22), none, .idx (.t 20) (.t 21) sz⟩,
    ⟨(some 23), none, .load (.t 22) lz⟩,
    ⟨(some 24), none, .mov (.t 0)⟩,
    ⟨(some 25), none, .mov (.t 8)⟩,
    ⟨(some 26), none, .idx (.t 24) (.t 25) sz⟩,
    ⟨(some 27), none, .load (.t 26) lz⟩,
    ⟨(some 28), none, .idx (.t 16) (.t 17) sz⟩,
    ⟨none, none, .store (.t 28) (.t 23) sz⟩,
    ⟨(some 29), none, .idx (.t 18) (.t 19) sz⟩,
    ⟨none, none, .store (.t 29) (.t 27) sz⟩])
  (.seq (.region [⟨(some 30), none, .mov (.t 8)⟩,
    ⟨(some 31), none, .bin .add (.t 30) (.c (.int .i64 1))⟩,
    ⟨(some 8), none, .mov (.t 31)⟩])
  (.region [⟨(some 32), none, .mov (.t 9)⟩,
    ⟨(some 33), none, .bin .sub (.t 32) (.c (.int .i64 1))⟩,
    ⟨(some 9), none, .mov (.t 33)⟩]))))))))
def reverseRangeFR : List Res := []
end Go.Ab.Srt
end
section
namespace Go.Ab.Srt
def xorNextC : ACode := .seq (.region [⟨(some 2), none, .mov (.c (.int .u64 0))⟩])
  (.seq (.region [⟨(some 3), none, .mov (.t 0)⟩,
    ⟨(some 4), none, .addr (.t 3) 0⟩,
    ⟨(some 5), none, .load (.t 4) none⟩,
    ⟨(some 6), none, .mov (.t 0)⟩,
    ⟨(some 7), none, .addr (.t 6) 0⟩,
    ⟨(some 8), none, .load (.t 7) none⟩,
    ⟨(some 9), none, .bin .shl (.t 8) (.c (.int .u64 13))⟩,
    ⟨(some 10), none, .bin .xor (.t 5) (.t 9)⟩,
    ⟨(some 11), none, .addr (.t 3) 0⟩,
    ⟨none, none, .store (.t 11) (.t 10) 1⟩])
  (.seq (.region [⟨(some 12), none, .mov (.t 0)⟩,
    ⟨(some 13), none, .addr (.t 12) 0⟩,
    ⟨(some 14), none, .load (.t 13) none⟩,
    ⟨(some 15), none, .mov (.t 0)⟩,
    ⟨(some 16), none, .addr (.t 15) 0⟩,
    ⟨(some 17), none, .load (.t 16) none⟩,
    ⟨(some 18), none, .bin .shr (.t 17) (.c (.int .u64 7))⟩,
    ⟨(some 19), none, .bin .xor (.t 14) (.t 18)⟩,
    ⟨(some 20), none, .addr (.t 12) 0⟩,
    ⟨none, none, .store (.t 20) (.t 19) 1⟩])
  (.seq (.region [⟨(some 21), none, .mov (.t 0)⟩,
    ⟨(some 22), none, .addr (.t 21) 0⟩,
    ⟨(some 23), none, .load (.t 22) none⟩,
    ⟨(some 24), none, .mov (.t 0)⟩,
    ⟨(some 25), none, .addr (.t 24) 0⟩,
    ⟨(some 26), none, .load (.t 25) none⟩,
    ⟨(some 27), none, .bin .shl (.t 26) (.c (.int .u64 17))⟩,
    ⟨(some 28), none, .bin .xor (.t 23) (.t 27)⟩,
    ⟨(some 29), none, .addr (.t 21) 0⟩,
    ⟨none, none, .store (.t 29) (.t 28) 1⟩])
  (.seq (.region [⟨(some 30), none, .mov (.t 0)⟩,
    ⟨(some 31), none, .addr (.t 30) 0⟩,
    ⟨(some 32), none, .load (.t 31) none⟩,
    ⟨(some 2), none, .mov (.t 32)⟩])
  (.ret)))))
def xorNextR : List Res := [.t 2]
def tab8 : ByteArray := ⟨#[0, 1, 2, 2, 3, 3, 3, 3, 4, 4, 4, 4, 4, 4, 4, 4, 5, 5, 5, 5, 5, 5, 5, 5, 5, 5, 5, 5, 5, 5, 5, 5, 6, 6, 6, 6, 6, 6, 6, 6, 6, 6, 6, 6, 6, 6, 6, 6, 6, 6, 6, 6, 6, 6, 6, 6, 6, 6, 6, 6, 6, 6, 6, 6, 7, 7, 7, 7, 7, 7, 7, 7, 7, 7, 7, 7, 7, 7, 7, 7, 7, 7, 7, 7, 7, 7, 7, 7, 7, 7, 7, 7, 7, 7, 7, 7, 7, 7, 7, 7, 7, 7, 7, 7, 7, 7, 7, 7, 7, 7, 7, 7, 7, 7, 7, 7, 7, 7, 7, 7, 7, 7, 7, 7, 7, 7, 7, 7, 8, 8, 8, 8, 8, 8, 8, 8, 8, 8, 8, 8, 8, 8, 8, 8, 8, 8, 8, 8, 8, 8, 8, 8, 8, 8, 8, 8, 8, 8, 8, 8, 8, 8, 8, 8, 8, 8, 8, 8, 8, 8, 8, 8, 8, 8, 8, 8, 8, 8, 8, 8, 8, 8, 8, 8, 8, 8, 8, 8, 8, 8, 8, 8, 8, 8, 8, 8, 8, 8, 8, 8, 8, 8, 8, 8, 8, 8, 8, 8, 8, 8, 8, 8, 8, 8, 8, 8, 8, 8, 8, 8, 8, 8, 8, 8, 8, 8, 8, 8, 8, 8, 8, 8, 8, 8, 8, 8, 8, 8, 8, 8, 8, 8, 8, 8, 8, 8, 8, 8, 8, 8, 8, 8, 8, 8, 8, 8]⟩
def len64C : ACode := .seq (.region [⟨(some 2), none, .mov (.c (.int .i64 0))⟩])
  (.seq (.seq (.region [⟨(some 3), none, .mov (.t 0)⟩,
    ⟨(some 4), none, .bin .geq (.t 3) (.c (.int .u64 4294967296))⟩])
  (.cond (.t 4) (.seq (.region [⟨(some 5), none, .mov (.t 0)⟩,
    ⟨(some 6), none, .bin .shr (.t 5) (.c (.int .u64 32))⟩,
    ⟨(some 0), none, .mov (.t 6)⟩])
  (.region [⟨(some 2), none, .mov (.c (.int .i64 32))⟩]))
  (.skip)))
  (.seq (.seq (.region [⟨(some 7), none, .mov (.t 0)⟩,
    ⟨(some 8), none, .bin .geq (.t 7) (.c (.int .u64 65536))⟩])
  (.cond (.t 8) (.seq (.region [⟨(some 9), none, .mov (.t 0)⟩,
    ⟨(some 10), none, .bin .shr (.t 9) (.c (.int .u64 16))⟩,
    ⟨(some 0), none, .mov (.t 10)⟩])
  (.region [⟨(some 11), none, .mov (.t 2)⟩,
    ⟨(some 12), none, .bin .add (.t 11) (.c (.int .i64 16))⟩,
    ⟨(some 2), none, .mov (.t 12)⟩]))
  (.skip)))
  (.seq (.seq (.region [⟨(some 13), none, .mov (.t 0)⟩,
    ⟨(some 14), none, .bin .geq (.t 13) (.c (.int .u64 256))⟩])
  (.cond (.t 14) (.seq (.region [⟨(some 15), none, .mov (.t 0)⟩,
    ⟨(some 16), none, .bin .shr (.t 15) (.c (.int .u64 8))⟩,
    ⟨(some 0), none, .mov (.t 16)⟩])
  (.region [⟨(some 17), none, .mov (.t 2)⟩,
    ⟨(some 18), none, .bin .add (.t 17) (.c (.int .i64 8))⟩,
    ⟨(some 2), none, .mov (.t 18)⟩]))
  (.skip)))
  (.seq (.region [⟨(some 19), none, .mov (.t 2)⟩,
    ⟨(some 20), none, .mov (.t 0)⟩,
    ⟨(some 21), none, .conv .u8 (.t 20)⟩,
    ⟨(some 22), none, .sidx (.c (.str tab8)) (.t 21)⟩,
    ⟨(some 23), none, .conv .i64 (.t 22)⟩,
    ⟨(some 24), none, .bin .add (.t 19) (.t 23)⟩,
    ⟨(some 2), none, .mov (.t 24)⟩])
  (.ret)))))
def len64R : List Res := [.t 2]
def bitsLenC (p_len32 : FuncId) (p_len64 : FuncId) : ACode := .seq (.region [⟨(some 2), none, .mov (.c (.int .i64 0))⟩])
  (.seq (.cond (.c (.bool false)) (.seq (.region [⟨(some 3), none, .mov (.t 0)⟩,
    ⟨(some 4), none, .conv .u32 (.t 3)⟩,
    ⟨(some 5), none, .call p_len32 [(.t 4)]⟩,
    ⟨(some 2), none, .mov (.t 5)⟩])
  (.ret))
  (.skip))
  (.seq (.region [⟨(some 6), none, .mov (.t 0)⟩,
    ⟨(some 7), none, .call p_len64 [(.t 6)]⟩,
    ⟨(some 2), none, .mov (.t 7)⟩])
  (.ret)))
def bitsLenR : List Res := [.t 2]
def nextPowC (p_bitsLen : FuncId) : ACode := .seq (.region [⟨(some 2), none, .mov (.c (.int .u64 0))⟩])
  (.seq (.region [⟨(some 3), none, .mov (.t 0)⟩,
    ⟨(some 4), none, .conv .u64 (.t 3)⟩,
    ⟨(some 5), none, .call p_bitsLen [(.t 4)]⟩,
    ⟨(some 6), none, .bin .shl (.c (.int .u64 1)) (.t 5)⟩,
    ⟨(some 2), none, .mov (.t 6)⟩])
  (.ret))
def nextPowR : List Res := [.t 2]
end Go.Ab.Srt
end
section
namespace Go.Ab.Srt
open Go.Sort
set_option maxRecDepth 8000
set_option maxHeartbeats 4000000
variable {ft : FuncId → Option AFn} {E : Els} {cv : AV} (c : CmpOK ft E cv) {id n : Nat} {m0 : Mem}
theorem wrap_pred (j : Nat) (h : j < 4611686018427387904) : IntKind.i64.wrap (((j + 1 : Nat) : Int) - 1) = (j : Int) := by rw [wrap_i64 _ (by omega) (by omega)]; omega
theorem wrap_succ (j : Nat) (h : j < 4611686018427387904) : IntKind.i64.wrap ((j : Int) + 1) = ((j + 1 : Nat) : Int) := by rw [wrap_i64 _ (by omega) (by omega)]; omega
theorem wrap_subN (b a : Nat) (h : a ≤ b) (hb : b < 4611686018427387904) : IntKind.i64.wrap ((b : Int) - (a : Int)) = ((b - a : Nat) : Int) := by rw [wrap_i64 _ (by omega) (by omega)]; omega
theorem wrap_addN (b a : Nat) (h : a < 4611686018427387904) (hb : b < 4611686018427387904) : IntKind.i64.wrap ((b : Int) + (a : Int)) = ((b + a : Nat) : Int) := by rw [wrap_i64 _ (by omega) (by omega)]; omega
theorem ins_run {f : FuncId} (hf : ft f = some ⟨4, insertionSortF E.sz E.lz, insertionSortFR, .r⟩) (hn : n < 4611686018427387904) {d : Array AV} {a b : Nat} (hab : a ≤ b) (hb : b ≤ n) (hd : n ≤ d.size) (hD : AllD E d) {m : Mem} (hm : MR m0 m id E.sz d)
    (K : AV → Mem → Prop) (hK : ∀ m', MR m0 m' id E.sz (insertionSort c.lt d a b) → K (.tup []) m') : WR ft (.f f) [.ref id 0 n, I64 a, I64 b, cv] m K := by
  rw [WR_f hf rfl]
  simp only [insertionSortF, insertionSortFR]
  simp only [go_sem, Nat.reduceEqDiff, Nat.reduceAdd, Nat.reduceLT, Nat.reduceLeDiff, reduceIte, wrap_succ a (by omega)]
  refine WL_inv (α := Nat × Array AV) (fun q e mm => e 0 = .ref id 0 n ∧ e 1 = I64 a ∧ e 2 = I64 b ∧ e 3 = cv ∧ e 8 = I64 q.1 ∧ a < q.1 ∧ MR m0 mm id E.sz q.2 ∧ AllD E q.2 ∧ q.2.size = d.size ∧ insOuter c.lt a b q.1 q.2 = insertionSort c.lt d a b) (fun q => b + 1 - q.1) (a + 1, d) ?_ ?_
  · simp only [go_sem, Nat.reduceEqDiff, Nat.reduceAdd, Nat.reduceLT, Nat.reduceLeDiff, reduceIte]
    exact ⟨trivial, trivial, trivial, trivial, trivial, by omega, hm, hD, trivial, rfl⟩
  · rintro ⟨i, d1⟩ e m1 ⟨h0, h1, h2, h3, h8, hai, hm1, hD1, hs1, ho⟩
    dsimp only at h8 hai hm1 hD1 hs1 ho
    by_cases hib : i < b
    case neg =>
      simp only [go_sem, Nat.reduceEqDiff, Nat.reduceAdd, Nat.reduceLT, Nat.reduceLeDiff, reduceIte, h0, h1, h2, h3, h8, show decide ((i : Int) < (b : Int)) = false from decide_eq_false (by omega)]
      refine hK _ ?_
      rw [← ho]; unfold insOuter; rw [if_neg hib]; exact hm1
    simp only [go_sem, Nat.reduceEqDiff, Nat.reduceAdd, Nat.reduceLT, Nat.reduceLeDiff, reduceIte, h0, h1, h2, h3, h8, show decide ((i : Int) < (b : Int)) = true from decide_eq_true (by omega)]
    refine WL_inv (α := Nat × Array AV) (fun q e mm => e 0 = .ref id 0 n ∧ e 1 = I64 a ∧ e 2 = I64 b ∧ e 3 = cv ∧ e 8 = I64 i ∧ e 9 = I64 q.1 ∧ q.1 ≤ i ∧ MR m0 mm id E.sz q.2 ∧ AllD E q.2 ∧ q.2.size = d.size ∧ insInner c.lt a q.1 q.2 = insInner c.lt a i d1) (fun q => q.1) (i, d1) ?_ ?_
    · simp only [go_sem, Nat.reduceEqDiff, Nat.reduceAdd, Nat.reduceLT, Nat.reduceLeDiff, reduceIte, h0, h1, h2, h3, h8]
      exact ⟨trivial, trivial, trivial, trivial, trivial, trivial, Nat.le_refl _, hm1, hD1, hs1, trivial⟩
    · rintro ⟨j, d2⟩ e' m2 ⟨g0, g1, g2, g3, g8, g9, hji, hm2, hD2, hs2, hi2⟩
      dsimp only at g9 hji hm2 hD2 hs2 hi2
      have done : ∀ m3, MR m0 m3 id E.sz d2 → insInner c.lt a j d2 = d2 → ∀ e'' : Nat → AV, e'' 0 = .ref id 0 n → e'' 1 = I64 a → e'' 2 = I64 b → e'' 3 = cv → e'' 8 = I64 ((i + 1 : Nat) : Int) → @Nx (Nat × Array AV) ⟨fun q e mm => e 0 = .ref id 0 n ∧ e 1 = I64 a ∧ e 2 = I64 b ∧ e 3 = cv ∧ e 8 = I64 q.1 ∧ a < q.1 ∧ MR m0 mm id E.sz q.2 ∧ AllD E q.2 ∧ q.2.size = d.size ∧ insOuter c.lt a b q.1 q.2 = insertionSort c.lt d a b, fun a' => b + 1 - a'.1 < b + 1 - i⟩ e'' m3 := by
        intro m3 hm3 he e'' q0 q1 q2 q3 q8
        refine Nx_of (i + 1, d2) (by dsimp only; omega) ⟨q0, q1, q2, q3, q8, by dsimp only; omega, hm3, hD2, hs2, ?_⟩
        rw [← ho]
        conv => rhs; unfold insOuter
        rw [if_pos hib, ← hi2, he]
      by_cases haj : a < j
      case neg =>
        have he : insInner c.lt a j d2 = d2 := by
          cases j with
          | zero => rfl
          | succ j => unfold insInner; rw [if_neg (by simp; omega)]
        simp only [go_sem, Nat.reduceEqDiff, Nat.reduceAdd, Nat.reduceLT, Nat.reduceLeDiff, reduceIte, g0, g1, g2, g3, g8, g9, show decide ((a : Int) < (j : Int)) = false from decide_eq_false (by omega), wrap_succ i (by omega)]
        refine done _ hm2 he _ ?_ ?_ ?_ ?_ ?_ <;> simp only [go_sem, Nat.reduceEqDiff, Nat.reduceAdd, Nat.reduceLT, Nat.reduceLeDiff, reduceIte, g0, g1, g2, g3, g8, g9]
      obtain ⟨j, rfl⟩ : ∃ k, j = k + 1 := ⟨j - 1, by omega⟩
      have hx := hD2 (j + 1) (by omega)
      have hy := hD2 j (by omega)
      have i1 := hm2.idxN (k := .i64) (n := n) (i := j + 1) (by omega)
      have i2 := hm2.idxN (k := .i64) (n := n) (i := j) (by omega)
      have l1 := hm2.ld hD2 (i := j + 1) (by omega)
      have l2 := hm2.ld hD2 (i := j) (by omega)
      have hc := c.ok _ _ hx hy
      have hp := wrap_pred j (by omega)
      cases hl : c.lt d2[j + 1]! d2[j]!
      · have he : insInner c.lt a (j + 1) d2 = d2 := by unfold insInner; rw [if_neg (by simp [hl])]
        have hl' : decide (c.cf d2[j + 1]! d2[j]! < 0) = false := hl
        simp only [go_sem, Nat.reduceEqDiff, Nat.reduceAdd, Nat.reduceLT, Nat.reduceLeDiff, reduceIte, g0, g1, g2, g3, g8, g9, show decide ((a : Int) < ((j + 1 : Nat) : Int)) = true from decide_eq_true (by omega), i1, i2, l1, l2, hc, hp, hl', wrap_succ i (by omega)]
        refine done _ hm2 he _ ?_ ?_ ?_ ?_ ?_ <;> simp only [go_sem, Nat.reduceEqDiff, Nat.reduceAdd, Nat.reduceLT, Nat.reduceLeDiff, reduceIte, g0, g1, g2, g3, g8, g9]
      · have hl' : decide (c.cf d2[j + 1]! d2[j]! < 0) = true := hl
        obtain ⟨m3, m4, s1, s2, ⟨d3, hm3⟩, hm4, hD4, hs4⟩ := hm2.swap hD2 (i := j + 1) (j := j) (by omega) (by omega)
        have i3 := hm3.idxN (k := .i64) (n := n) (i := j) (by omega)
        simp only [go_sem, Nat.reduceEqDiff, Nat.reduceAdd, Nat.reduceLT, Nat.reduceLeDiff, reduceIte, g0, g1, g2, g3, g8, g9, show decide ((a : Int) < ((j + 1 : Nat) : Int)) = true from decide_eq_true (by omega), i1, i2, l1, l2, hc, hp, hl', s1, s2, i3]
        refine Nx_of (j, swp d2 (j + 1) j) (by dsimp only; omega) ?_
        simp only [go_sem, Nat.reduceEqDiff, Nat.reduceAdd, Nat.reduceLT, Nat.reduceLeDiff, reduceIte, g0, g1, g2, g3, g8]
        refine ⟨trivial, trivial, trivial, trivial, trivial, trivial, by omega, hm4, hD4, by rw [hs4, hs2], ?_⟩
        rw [← hi2]
        conv => rhs; unfold insInner
        rw [if_pos (by simp [hl]; omega)]
end Go.Ab.Srt
end
section
namespace Go.Ab.Srt
open Go.Sort
set_option maxRecDepth 8000
set_option maxHeartbeats 4000000
variable {ft : FuncId → Option AFn} {E : Els} {cv : AV} (c : CmpOK ft E cv) {id n : Nat} {m0 : Mem}
theorem sift_run {f : FuncId} (hf : ft f = some ⟨5, siftDownF E.sz E.lz, siftDownFR, .r⟩) (hn : n < 1073741824) {d : Array AV} {lo hi first : Nat} (hlo : lo ≤ n) (hh : first + hi ≤ n) (hd : n ≤ d.size) (hD : AllD E d) {m : Mem} (hm : MR m0 m id E.sz d)
    (K : AV → Mem → Prop) (hK : ∀ m', MR m0 m' id E.sz (siftDown c.lt hi first lo d) → AllD E (siftDown c.lt hi first lo d) → (siftDown c.lt hi first lo d).size = d.size → K (.tup []) m') : WR ft (.f f) [.ref id 0 n, I64 lo, I64 hi, I64 first, cv] m K := by
  rw [WR_f hf rfl]
  simp only [siftDownF, siftDownFR]
  simp only [go_sem, Nat.reduceEqDiff, Nat.reduceAdd, Nat.reduceLT, Nat.reduceLeDiff, reduceIte]
  refine WL_inv (α := Nat × Array AV) (fun q e mm => e 0 = .ref id 0 n ∧ e 2 = I64 hi ∧ e 3 = I64 first ∧ e 4 = cv ∧ e 10 = I64 q.1 ∧ q.1 ≤ n ∧ MR m0 mm id E.sz q.2 ∧ AllD E q.2 ∧ q.2.size = d.size ∧ siftDown c.lt hi first q.1 q.2 = siftDown c.lt hi first lo d) (fun q => hi - q.1) (lo, d) ?_ ?_
  · simp only [go_sem, Nat.reduceEqDiff, Nat.reduceAdd, Nat.reduceLT, Nat.reduceLeDiff, reduceIte]
    exact ⟨trivial, trivial, trivial, trivial, trivial, hlo, hm, hD, trivial⟩
  · rintro ⟨r, d1⟩ e m1 ⟨h0, h2, h3, h4, h10, hrn, hm1, hD1, hs1, ho⟩
    dsimp only at h10 hrn hm1 hD1 hs1 ho
    rw [← ho] at hK
    have w2 : IntKind.i64.wrap (2 * (r : Int)) = ((2 * r : Nat) : Int) := by rw [wrap_i64 _ (by omega) (by omega)]; omega
    have w3 := wrap_succ (2 * r) (by omega)
    by_cases hr : 2 * r + 1 ≥ hi
    case pos =>
      have he : siftDown c.lt hi first r d1 = d1 := by unfold siftDown; rw [dif_pos hr]
      rw [he] at hK
      simp only [go_sem, Nat.reduceEqDiff, Nat.reduceAdd, Nat.reduceLT, Nat.reduceLeDiff, reduceIte, h0, h2, h3, h4, h10, w2, w3, show decide ((hi : Int) ≤ ((2 * r + 1 : Nat) : Int)) = true from decide_eq_true (by omega)]
      exact hK _ hm1 hD1 hs1
    have c0 : decide ((hi : Int) ≤ ((2 * r + 1 : Nat) : Int)) = false := decide_eq_false (by omega)
    have w4 := wrap_succ (2 * r + 1) (by omega)
    have w5 := wrap_addN first (2 * r + 1) (by omega) (by omega)
    have w6 := wrap_succ (first + (2 * r + 1)) (by omega)
    have w7 := wrap_addN first r (by omega) (by omega)
    have w8 := wrap_addN first (2 * r + 1 + 1) (by omega) (by omega)
    have x1 := hD1 (first + (2 * r + 1)) (by omega)
    have x3 := hD1 (first + r) (by omega)
    have i1 := hm1.idxN (k := .i64) (n := n) (i := first + (2 * r + 1)) (by omega)
    have i3 := hm1.idxN (k := .i64) (n := n) (i := first + r) (by omega)
    have l1 := hm1.ld hD1 (i := first + (2 * r + 1)) (by omega)
    have l3 := hm1.ld hD1 (i := first + r) (by omega)
    have hc3 := c.ok _ _ x3 x1
    -- the child that is taken is the first
    have tail1 : siftDown c.lt hi first r d1 = (if !c.lt d1[first + r]! d1[first + (2 * r + 1)]! then d1 else siftDown c.lt hi first (2 * r + 1) (swp d1 (first + r) (first + (2 * r + 1)))) →
        (∀ b, decide (c.cf d1[first + r]! d1[first + (2 * r + 1)]! < 0) = b → b = c.lt d1[first + r]! d1[first + (2 * r + 1)]!) := fun _ b h => h.symm
    by_cases hr2 : 2 * r + 1 + 1 < hi
    case neg =>
      have c1 : decide (((2 * r + 1 + 1 : Nat) : Int) < (hi : Int)) = false := decide_eq_false (by omega)
      have eq : siftDown c.lt hi first r d1 = (if !c.lt d1[first + r]! d1[first + (2 * r + 1)]! then d1 else siftDown c.lt hi first (2 * r + 1) (swp d1 (first + r) (first + (2 * r + 1)))) := by
        conv => lhs; unfold siftDown
        rw [dif_neg hr, if_neg (by simp; omega)]
      cases hl : c.lt d1[first + r]! d1[first + (2 * r + 1)]!
      · have hl' : decide (c.cf d1[first + r]! d1[first + (2 * r + 1)]! < 0) = false := hl
        rw [show siftDown c.lt hi first r d1 = d1 by rw [eq, hl]; rfl] at hK
        simp only [go_sem, Nat.reduceEqDiff, Nat.reduceAdd, Nat.reduceLT, Nat.reduceLeDiff, reduceIte, h0, h2, h3, h4, h10, w2, w3, c0, w4, c1, w5, w7, i1, i3, l1, l3, hc3, hl']
        exact hK _ hm1 hD1 hs1
      · have hl' : decide (c.cf d1[first + r]! d1[first + (2 * r + 1)]! < 0) = true := hl
        obtain ⟨m3, m4, s1, s2, ⟨d3, hm3⟩, hm4, hD4, hs4⟩ := hm1.swap hD1 (i := first + r) (j := first + (2 * r + 1)) (by omega) (by omega)
        have i5 := hm3.idxN (k := .i64) (n := n) (i := first + (2 * r + 1)) (by omega)
        simp only [go_sem, Nat.reduceEqDiff, Nat.reduceAdd, Nat.reduceLT, Nat.reduceLeDiff, reduceIte, h0, h2, h3, h4, h10, w2, w3, c0, w4, c1, w5, w7, i1, i3, l1, l3, hc3, hl', s1, s2, i5]
        refine Nx_of (2 * r + 1, swp d1 (first + r) (first + (2 * r + 1))) (by dsimp only; omega) ?_
        simp only [go_sem, Nat.reduceEqDiff, Nat.reduceAdd, Nat.reduceLT, Nat.reduceLeDiff, reduceIte, h0, h2, h3, h4]
        refine ⟨trivial, trivial, trivial, trivial, trivial, by omega, hm4, hD4, by rw [hs4, hs1], ?_⟩
        rw [← ho, eq, hl]; rfl
    have c1 : decide (((2 * r + 1 + 1 : Nat) : Int) < (hi : Int)) = true := decide_eq_true (by omega)
    have x2 := hD1 (first + (2 * r + 1) + 1) (by omega)
    have i2 := hm1.idxN (k := .i64) (n := n) (i := first + (2 * r + 1) + 1) (by omega)
    have l2 := hm1.ld hD1 (i := first + (2 * r + 1) + 1) (by omega)
    have hc1 := c.ok _ _ x1 x2
    cases hl1 : c.lt d1[first + (2 * r + 1)]! d1[first + (2 * r + 1) + 1]!
    · have hl1' : decide (c.cf d1[first + (2 * r + 1)]! d1[first + (2 * r + 1) + 1]! < 0) = false := hl1
      have eq : siftDown c.lt hi first r d1 = (if !c.lt d1[first + r]! d1[first + (2 * r + 1)]! then d1 else siftDown c.lt hi first (2 * r + 1) (swp d1 (first + r) (first + (2 * r + 1)))) := by
        conv => lhs; unfold siftDown
        rw [dif_neg hr, if_neg (by simp [hl1])]
      cases hl : c.lt d1[first + r]! d1[first + (2 * r + 1)]!
      · have hl' : decide (c.cf d1[first + r]! d1[first + (2 * r + 1)]! < 0) = false := hl
        rw [show siftDown c.lt hi first r d1 = d1 by rw [eq, hl]; rfl] at hK
        simp only [go_sem, Nat.reduceEqDiff, Nat.reduceAdd, Nat.reduceLT, Nat.reduceLeDiff, reduceIte, h0, h2, h3, h4, h10, w2, w3, c0, w4, c1, w5, w6, w7, i1, i2, i3, l1, l2, l3, hc1, hl1', hc3, hl']
        exact hK _ hm1 hD1 hs1
      · have hl' : decide (c.cf d1[first + r]! d1[first + (2 * r + 1)]! < 0) = true := hl
        obtain ⟨m3, m4, s1, s2, ⟨d3, hm3⟩, hm4, hD4, hs4⟩ := hm1.swap hD1 (i := first + r) (j := first + (2 * r + 1)) (by omega) (by omega)
        have i5 := hm3.idxN (k := .i64) (n := n) (i := first + (2 * r + 1)) (by omega)
        simp only [go_sem, Nat.reduceEqDiff, Nat.reduceAdd, Nat.reduceLT, Nat.reduceLeDiff, reduceIte, h0, h2, h3, h4, h10, w2, w3, c0, w4, c1, w5, w6, w7, i1, i2, i3, l1, l2, l3, hc1, hl1', hc3, hl', s1, s2, i5]
        refine Nx_of (2 * r + 1, swp d1 (first + r) (first + (2 * r + 1))) (by dsimp only; omega) ?_
        simp only [go_sem, Nat.reduceEqDiff, Nat.reduceAdd, Nat.reduceLT, Nat.reduceLeDiff, reduceIte, h0, h2, h3, h4]
        refine ⟨trivial, trivial, trivial, trivial, trivial, by omega, hm4, hD4, by rw [hs4, hs1], ?_⟩
        rw [← ho, eq, hl]; rfl
    · have hl1' : decide (c.cf d1[first + (2 * r + 1)]! d1[first + (2 * r + 1) + 1]! < 0) = true := hl1
      have e2 : first + (2 * r + 1) + 1 = first + (2 * r + 1 + 1) := by omega
      have x2' := x2
      rw [e2] at x2'
      have hc2 := c.ok _ _ x3 x2'
      have i2' := hm1.idxN (k := .i64) (n := n) (i := first + (2 * r + 1 + 1)) (by omega)
      have l2' := hm1.ld hD1 (i := first + (2 * r + 1 + 1)) (by omega)
      have eq : siftDown c.lt hi first r d1 = (if !c.lt d1[first + r]! d1[first + (2 * r + 1 + 1)]! then d1 else siftDown c.lt hi first (2 * r + 1 + 1) (swp d1 (first + r) (first + (2 * r + 1 + 1)))) := by
        conv => lhs; unfold siftDown
        rw [dif_neg hr, if_pos (by simp [hl1]; omega), show 2 * r + 2 = 2 * r + 1 + 1 from rfl, dif_pos hr2]
      cases hl : c.lt d1[first + r]! d1[first + (2 * r + 1 + 1)]!
      · have hl' : decide (c.cf d1[first + r]! d1[first + (2 * r + 1 + 1)]! < 0) = false := hl
        rw [show siftDown c.lt hi first r d1 = d1 by rw [eq, hl]; rfl] at hK
        simp only [go_sem, Nat.reduceEqDiff, Nat.reduceAdd, Nat.reduceLT, Nat.reduceLeDiff, reduceIte, h0, h2, h3, h4, h10, w2, w3, c0, w4, c1, w5, w6, w7, w8, i1, i2, i2', i3, l1, l2, l2', l3, hc1, hl1', hc2, hl']
        exact hK _ hm1 hD1 hs1
      · have hl' : decide (c.cf d1[first + r]! d1[first + (2 * r + 1 + 1)]! < 0) = true := hl
        obtain ⟨m3, m4, s1, s2, ⟨d3, hm3⟩, hm4, hD4, hs4⟩ := hm1.swap hD1 (i := first + r) (j := first + (2 * r + 1 + 1)) (by omega) (by omega)
        have i5 := hm3.idxN (k := .i64) (n := n) (i := first + (2 * r + 1 + 1)) (by omega)
        simp only [go_sem, Nat.reduceEqDiff, Nat.reduceAdd, Nat.reduceLT, Nat.reduceLeDiff, reduceIte, h0, h2, h3, h4, h10, w2, w3, c0, w4, c1, w5, w6, w7, w8, i1, i2, i2', i3, l1, l2, l2', l3, hc1, hl1', hc2, hl', s1, s2, i5]
        refine Nx_of (2 * r + 1 + 1, swp d1 (first + r) (first + (2 * r + 1 + 1))) (by dsimp only; omega) ?_
        simp only [go_sem, Nat.reduceEqDiff, Nat.reduceAdd, Nat.reduceLT, Nat.reduceLeDiff, reduceIte, h0, h2, h3, h4]
        refine ⟨trivial, trivial, trivial, trivial, trivial, by omega, hm4, hD4, by rw [hs4, hs1], ?_⟩
        rw [← ho, eq, hl]; rfl
end Go.Ab.Srt
end
section
namespace Go.Ab.Srt
open Go.Sort
set_option maxRecDepth 8000
set_option maxHeartbeats 4000000
variable {ft : FuncId → Option AFn} {E : Els} {cv : AV} (c : CmpOK ft E cv) {id n : Nat} {m0 : Mem}
theorem quo_nat (k j : Nat) (hj : j ≠ 0) (h : k < 4611686018427387904) : binOp .quo (I64 (k : Int)) (I64 (j : Int)) = some (I64 ((k / j : Nat) : Int)) := by
  have h1 : (k : Int).tdiv (j : Int) = ((k / j : Nat) : Int) := by rw [Int.tdiv_eq_ediv_of_nonneg (by omega)]; simp
  have h2 : k / j ≤ k := Nat.div_le_self _ _
  simp only [binOp, binI, if_true]
  rw [if_neg (by omega), h1]
  generalize k / j = q at h2
  rw [wrap_i64 _ (by omega) (by omega)]
theorem heap_run {f ps : FuncId} (hf : ft f = some ⟨4, heapSortF E.sz E.lz ps, heapSortFR, .r⟩) (hps : ft ps = some ⟨5, siftDownF E.sz E.lz, siftDownFR, .r⟩) (hn : n < 1073741824) {d : Array AV} {a b : Nat} (hab : a < b) (hb : b ≤ n) (hd : n ≤ d.size)
    (hD : AllD E d) {m : Mem} (hm : MR m0 m id E.sz d) (K : AV → Mem → Prop) (hK : ∀ m', MR m0 m' id E.sz (heapSort c.lt d a b) → K (.tup []) m') : WR ft (.f f) [.ref id 0 n, I64 a, I64 b, cv] m K := by
  have hw : ∀ (s : St) (as : List AV) (K : AV → St → Prop), WB ft ps as s K = WR ft (.f ps) as s.mem fun v m => K v (s.setMem m) := fun s as K => WB_r hps rfl as s K
  rw [WR_f hf rfl]
  simp only [heapSortF, heapSortFR]
  have w1 := wrap_subN b a (by omega) (by omega)
  have w2 : IntKind.i64.wrap (((b - a : Nat) : Int) - 1) = ((b - a - 1 : Nat) : Int) := by rw [wrap_i64 _ (by omega) (by omega)]; omega
  have w3 := quo_nat (b - a - 1) 2 (by omega) (by omega)
  simp only [go_sem, Nat.reduceEqDiff, Nat.reduceAdd, Nat.reduceLT, Nat.reduceLeDiff, reduceIte, w1, w2, show (I64 2) = I64 ((2 : Nat) : Int) from rfl, w3]
  refine WL_inv (α := Nat × Array AV) (fun q e mm => e 0 = .ref id 0 n ∧ e 1 = I64 a ∧ e 3 = cv ∧ e 8 = I64 a ∧ e 9 = I64 0 ∧ e 10 = I64 ((b - a : Nat) : Int) ∧ e 11 = I64 ((q.1 : Int) - 1) ∧ q.1 ≤ b - a ∧ MR m0 mm id E.sz q.2 ∧ AllD E q.2 ∧ q.2.size = d.size ∧ heapBuild c.lt (b - a) a q.1 q.2 = heapBuild c.lt (b - a) a ((b - a - 1) / 2 + 1) d) (fun q => q.1) ((b - a - 1) / 2 + 1, d) ?_ ?_
  · simp only [go_sem, Nat.reduceEqDiff, Nat.reduceAdd, Nat.reduceLT, Nat.reduceLeDiff, reduceIte]
    refine ⟨trivial, trivial, trivial, trivial, trivial, trivial, ?_, by omega, hm, hD, ?_⟩
    · rw [show (((b - a - 1) / 2 + 1 : Nat) : Int) - 1 = (((b - a - 1) / 2 : Nat) : Int) by omega]
    · trivial
  · rintro ⟨k, d1⟩ e m1 ⟨h0, h1, h3, h8, h9, h10, h11, hk, hm1, hD1, hs1, ho⟩
    dsimp only at h11 hk hm1 hD1 hs1 ho
    cases k with
    | succ k =>
      have e1 : (((k + 1 : Nat) : Int) - 1) = (k : Int) := by omega
      have e2 : IntKind.i64.wrap ((k : Int) - 1) = (k : Int) - 1 := wrap_i64 _ (by omega) (by omega)
      simp only [go_sem, Nat.reduceEqDiff, Nat.reduceAdd, Nat.reduceLT, Nat.reduceLeDiff, reduceIte, h0, h3, h8, h10, h11, e1, dec_nn, hw]
      refine sift_run c hps hn (d := d1) (by omega) (by omega) (by omega) hD1 hm1 _ fun m2 hm2 hD2 hs2 => ?_
      simp only [go_sem, Nat.reduceEqDiff, Nat.reduceAdd, Nat.reduceLT, Nat.reduceLeDiff, reduceIte, h0, h1, h3, h8, h9, h10, h11, e1, e2]
      refine Nx_of (k, siftDown c.lt (b - a) a k d1) (by dsimp only; omega) ?_
      simp only [go_sem, Nat.reduceEqDiff, Nat.reduceAdd, Nat.reduceLT, Nat.reduceLeDiff, reduceIte, h0, h1, h3, h8, h9, h10]
      exact ⟨trivial, trivial, trivial, trivial, trivial, trivial, trivial, by omega, hm2, hD2, by rw [hs2, hs1], ho⟩
    | zero =>
      simp only [go_sem, Nat.reduceEqDiff, Nat.reduceAdd, Nat.reduceLT, Nat.reduceLeDiff, reduceIte, h0, h1, h3, h8, h9, h10, h11, w2, show decide ((0 : Int) ≤ ((0 : Nat) : Int) - 1) = false from rfl]
      have ho' : heapBuild c.lt (b - a) a ((b - a - 1) / 2 + 1) d = d1 := ho.symm
      refine WL_inv (α := Nat × Array AV) (fun q e mm => e 0 = .ref id 0 n ∧ e 3 = cv ∧ e 8 = I64 a ∧ e 9 = I64 0 ∧ e 12 = I64 ((q.1 : Int) - 1) ∧ q.1 ≤ b - a ∧ MR m0 mm id E.sz q.2 ∧ AllD E q.2 ∧ q.2.size = d.size ∧ heapPop c.lt a q.1 q.2 = heapSort c.lt d a b) (fun q => q.1) (b - a, d1) ?_ ?_
      · simp only [go_sem, Nat.reduceEqDiff, Nat.reduceAdd, Nat.reduceLT, Nat.reduceLeDiff, reduceIte, h0, h3, h8, h9]
        refine ⟨trivial, trivial, trivial, trivial, ?_, Nat.le_refl _, hm1, hD1, hs1, ?_⟩
        · rw [show ((b - a : Nat) : Int) - 1 = ((b - a - 1 : Nat) : Int) by omega]
        · unfold heapSort; rw [ho']
      · rintro ⟨k, d2⟩ e' m2 ⟨g0, g3, g8, g9, g12, hk2, hm2, hD2, hs2, ho2⟩
        dsimp only at g12 hk2 hm2 hD2 hs2 ho2
        cases k with
        | zero =>
          simp only [go_sem, Nat.reduceEqDiff, Nat.reduceAdd, Nat.reduceLT, Nat.reduceLeDiff, reduceIte, g0, g3, g8, g9, g12, show decide ((0 : Int) ≤ ((0 : Nat) : Int) - 1) = false from rfl]
          refine hK _ ?_
          rw [← ho2]; exact hm2
        | succ k =>
          have e1 : (((k + 1 : Nat) : Int) - 1) = (k : Int) := by omega
          have e2 : IntKind.i64.wrap ((k : Int) - 1) = (k : Int) - 1 := wrap_i64 _ (by omega) (by omega)
          have w5 := wrap_addN a k (by omega) (by omega)
          obtain ⟨m3, m4, s1, s2, ⟨d3, hm3⟩, hm4, hD4, hs4⟩ := hm2.swap hD2 (i := a) (j := a + k) (by omega) (by omega)
          have i1 := hm2.idxN (k := .i64) (n := n) (i := a) (by omega)
          have i2 := hm2.idxN (k := .i64) (n := n) (i := a + k) (by omega)
          have i3 := hm3.idxN (k := .i64) (n := n) (i := a + k) (by omega)
          have l1 := hm2.ld hD2 (i := a) (by omega)
          have l2 := hm2.ld hD2 (i := a + k) (by omega)
          simp only [go_sem, Nat.reduceEqDiff, Nat.reduceAdd, Nat.reduceLT, Nat.reduceLeDiff, reduceIte, g0, g3, g8, g9, g12, e1, dec_nn, w5, i1, i2, l1, l2, s1, s2, i3, hw]
          refine sift_run c hps hn (d := swp d2 a (a + k)) (lo := 0) (by omega) (by omega) (by omega) hD4 hm4 _ fun m5 hm5 hD5 hs5 => ?_
          simp only [go_sem, Nat.reduceEqDiff, Nat.reduceAdd, Nat.reduceLT, Nat.reduceLeDiff, reduceIte, g0, g3, g8, g9, g12, e1, e2]
          refine Nx_of (k, siftDown c.lt k a 0 (swp d2 a (a + k))) (by dsimp only; omega) ?_
          simp only [go_sem, Nat.reduceEqDiff, Nat.reduceAdd, Nat.reduceLT, Nat.reduceLeDiff, reduceIte, g0, g3, g8, g9]
          exact ⟨trivial, trivial, trivial, trivial, trivial, by omega, hm5, hD5, by rw [hs5, hs4, hs2], ho2⟩
end Go.Ab.Srt
end
section
namespace Go.Ab.Srt
open Go.Sort
set_option maxRecDepth 8000
set_option maxHeartbeats 4000000
variable {ft : FuncId → Option AFn} {E : Els} {cv : AV} (c : CmpOK ft E cv) {id n : Nat} {m0 : Mem}
theorem wrap_p1 (b : Nat) (h : 1 ≤ b) (hb : b < 4611686018427387904) : IntKind.i64.wrap ((b : Int) - 1) = ((b - 1 : Nat) : Int) := by rw [wrap_i64 _ (by omega) (by omega)]; omega
theorem scanUp_go {p : AV → Bool} {d : Array AV} {j k : Nat} (h : k ≤ j) (hp : p d[k]! = true) : scanUp p d j k = scanUp p d j (k + 1) := by
  conv => lhs; unfold scanUp
  rw [if_pos (by simp [h, hp])]
theorem scanUp_end {p : AV → Bool} {d : Array AV} {j k : Nat} (h : k ≤ j → p d[k]! = false) : scanUp p d j k = k := by
  conv => lhs; unfold scanUp
  rw [if_neg]
  intro hh
  simp only [Bool.and_eq_true, decide_eq_true_eq] at hh
  rw [h hh.1] at hh; cases hh.2
theorem scanDown_go {p : AV → Bool} {d : Array AV} {i l : Nat} (h : i ≤ l + 1) (hp : p d[l + 1]! = true) : scanDown p d i (l + 1) = scanDown p d i l := by
  conv => lhs; unfold scanDown
  rw [if_pos (by simp [h, hp])]
theorem scanDown_end {p : AV → Bool} {d : Array AV} {i l : Nat} (h : i ≤ l → p d[l]! = false) : scanDown p d i l = l := by
  cases l with
  | zero => rfl
  | succ l =>
    conv => lhs; unfold scanDown
    rw [if_neg]
    intro hh
    simp only [Bool.and_eq_true, decide_eq_true_eq] at hh
    rw [h hh.1] at hh; cases hh.2
theorem pe_run {f : FuncId} (hf : ft f = some ⟨5, partitionEqualF E.sz E.lz, partitionEqualFR, .r⟩) (hn : n < 1073741824) {d : Array AV} {a b pv : Nat} (hap : a ≤ pv) (hpb : pv < b) (hb : b ≤ n) (hd : n ≤ d.size)
    (hD : AllD E d) {m : Mem} (hm : MR m0 m id E.sz d) (K : AV → Mem → Prop)
    (hK : ∀ m', MR m0 m' id E.sz (partitionEqual c.lt d a b pv).2 → AllD E (partitionEqual c.lt d a b pv).2 → (partitionEqual c.lt d a b pv).2.size = d.size → K (I64 (((partitionEqual c.lt d a b pv).1 : Nat) : Int)) m') :
    WR ft (.f f) [.ref id 0 n, I64 a, I64 b, I64 pv, cv] m K := by
  rw [WR_f hf rfl]
  simp only [partitionEqualF, partitionEqualFR]
  obtain ⟨m3, m4, s1, s2, ⟨d3, hm3⟩, hm4, hD4, hs4⟩ := hm.swap hD (i := a) (j := pv) (by omega) (by omega)
  have i1 := hm.idxN (k := .i64) (n := n) (i := a) (by omega)
  have i2 := hm.idxN (k := .i64) (n := n) (i := pv) (by omega)
  have i3 := hm3.idxN (k := .i64) (n := n) (i := pv) (by omega)
  have l1 := hm.ld hD (i := a) (by omega)
  have l2 := hm.ld hD (i := pv) (by omega)
  unfold partitionEqual at hK
  generalize swp d a pv = d0 at hm4 hD4 hs4 hK
  simp only [go_sem, Nat.reduceEqDiff, Nat.reduceAdd, Nat.reduceLT, Nat.reduceLeDiff, reduceIte, i1, i2, i3, l1, l2, s1, s2, wrap_succ a (by omega), wrap_p1 b (by omega) (by omega)]
  clear s1 s2 i1 i2 i3 l1 l2 hm3
  refine WL_inv (α := Nat × Nat × Array AV) (fun q e mm => e 0 = .ref id 0 n ∧ e 1 = I64 a ∧ e 4 = cv ∧ e 11 = I64 q.1 ∧ e 12 = I64 q.2.1 ∧ a < q.1 ∧ q.2.1 < b ∧ MR m0 mm id E.sz q.2.2 ∧ AllD E q.2.2 ∧ q.2.2.size = d.size ∧ partEqLoop c.lt a q.1 q.2.1 q.2.2 = partEqLoop c.lt a (a + 1) (b - 1) d0)
    (fun q => q.2.1 + 1 - q.1) (a + 1, b - 1, d0) ?_ ?_
  · simp only [go_sem, Nat.reduceEqDiff, Nat.reduceAdd, Nat.reduceLT, Nat.reduceLeDiff, reduceIte]
    exact ⟨trivial, trivial, trivial, trivial, trivial, by omega, by omega, hm4, hD4, hs4, trivial⟩
  rintro ⟨i, j, d1⟩ e m1 ⟨h0, h1, h4, h11, h12, hai, hjb, hm1, hD1, hs1, ho⟩
  dsimp only at h11 h12 hai hjb hm1 hD1 hs1 ho
  rw [← ho] at hK
  rw [partEqLoop_eq] at ho
  rw [partEqLoop_eq] at hK
  have ia := hm1.idxN (k := .i64) (n := n) (i := a) (by omega)
  have la := hm1.ld hD1 (i := a) (by omega)
  have xa := hD1 a (by omega)
  simp only [go_sem, Nat.reduceEqDiff, Nat.reduceAdd, Nat.reduceLT, Nat.reduceLeDiff, reduceIte]
  refine WL_inv (α := Nat) (fun k e mm => e 0 = .ref id 0 n ∧ e 1 = I64 a ∧ e 4 = cv ∧ e 11 = I64 k ∧ e 12 = I64 j ∧ m1 = mm ∧ i ≤ k ∧ scanUp (fun x => !c.lt d1[a]! x) d1 j k = scanUp (fun x => !c.lt d1[a]! x) d1 j i) (fun k => j + 1 - k) i ?_ ?_
  · simp only [go_sem, Nat.reduceEqDiff, Nat.reduceAdd, Nat.reduceLT, Nat.reduceLeDiff, reduceIte]
    exact ⟨h0, h1, h4, h11, h12, trivial, Nat.le_refl _, trivial⟩
  rintro k e1 m2 ⟨g0, g1, g4, g11, g12, rfl, hik, hk⟩
  by_cases hgo : k ≤ j ∧ c.lt d1[a]! d1[k]! = false
  · obtain ⟨hkj, hl⟩ := hgo
    have hl' : decide (c.cf d1[a]! d1[k]! < 0) = false := hl
    have ik := hm1.idxN (k := .i64) (n := n) (i := k) (by omega)
    have lk := hm1.ld hD1 (i := k) (by omega)
    have hc := c.ok _ _ xa (hD1 k (by omega))
    simp only [go_sem, Nat.reduceEqDiff, Nat.reduceAdd, Nat.reduceLT, Nat.reduceLeDiff, reduceIte, g0, g1, g4, g11, g12, show decide ((k : Int) ≤ (j : Int)) = true from decide_eq_true (by omega), ia, la, ik, lk, hc, hl', wrap_succ k (by omega)]
    refine Nx_of (k + 1) (by first | omega | (dsimp only; omega)) ?_
    simp only [go_sem, Nat.reduceEqDiff, Nat.reduceAdd, Nat.reduceLT, Nat.reduceLeDiff, reduceIte, g0, g1, g4, g12]
    exact ⟨trivial, trivial, trivial, trivial, trivial, trivial, by omega, by rw [← hk]; exact (scanUp_go hkj (by simp [hl])).symm⟩
  have hke : scanUp (fun x => !c.lt d1[a]! x) d1 j i = k := by
    rw [← hk]; exact scanUp_end fun h => by
      have : ¬c.lt d1[a]! d1[k]! = false := fun h' => hgo ⟨h, h'⟩
      simpa using this
  rw [hke] at ho hK
  by_cases hkj : k ≤ j
  case' pos =>
    have hl : c.lt d1[a]! d1[k]! = true := by
      have : ¬c.lt d1[a]! d1[k]! = false := fun h' => hgo ⟨hkj, h'⟩
      simpa using this
    have hl' : decide (c.cf d1[a]! d1[k]! < 0) = true := hl
    have ik := hm1.idxN (k := .i64) (n := n) (i := k) (by omega)
    have lk := hm1.ld hD1 (i := k) (by omega)
    have hc := c.ok _ _ xa (hD1 k (by omega))
    simp only [go_sem, Nat.reduceEqDiff, Nat.reduceAdd, Nat.reduceLT, Nat.reduceLeDiff, reduceIte, g0, g1, g4, g11, g12, show decide ((k : Int) ≤ (j : Int)) = true from decide_eq_true (by omega), ia, la, ik, lk, hc, hl']
  case' neg =>
    simp only [go_sem, Nat.reduceEqDiff, Nat.reduceAdd, Nat.reduceLT, Nat.reduceLeDiff, reduceIte, g0, g1, g4, g11, g12, show decide ((k : Int) ≤ (j : Int)) = false from decide_eq_false (by omega)]
  all_goals
    refine WL_inv (α := Nat) (fun l e mm => e 0 = .ref id 0 n ∧ e 1 = I64 a ∧ e 4 = cv ∧ e 11 = I64 k ∧ e 12 = I64 l ∧ m1 = mm ∧ l ≤ j ∧ scanDown (fun x => c.lt d1[a]! x) d1 k l = scanDown (fun x => c.lt d1[a]! x) d1 k j) (fun l => l) j ?_ ?_
    · simp only [go_sem, Nat.reduceEqDiff, Nat.reduceAdd, Nat.reduceLT, Nat.reduceLeDiff, reduceIte, g0, g1, g4, g11, g12]
      exact ⟨trivial, trivial, trivial, trivial, trivial, trivial, Nat.le_refl _, trivial⟩
    rintro l e2 m2 ⟨q0, q1, q4, q11, q12, rfl, hlj, hl⟩
    by_cases hgo2 : k ≤ l ∧ c.lt d1[a]! d1[l]! = true
    · obtain ⟨hkl, hlt⟩ := hgo2
      obtain ⟨l, rfl⟩ : ∃ l', l = l' + 1 := ⟨l - 1, by omega⟩
      have hl' : decide (c.cf d1[a]! d1[l + 1]! < 0) = true := hlt
      have ik := hm1.idxN (k := .i64) (n := n) (i := l + 1) (by omega)
      have lk := hm1.ld hD1 (i := l + 1) (by omega)
      have hc := c.ok _ _ xa (hD1 (l + 1) (by omega))
      simp only [go_sem, Nat.reduceEqDiff, Nat.reduceAdd, Nat.reduceLT, Nat.reduceLeDiff, reduceIte, q0, q1, q4, q11, q12, show decide ((k : Int) ≤ ((l + 1 : Nat) : Int)) = true from decide_eq_true (by omega), ia, la, ik, lk, hc, hl', wrap_pred l (by omega)]
      refine Nx_of l (by first | omega | (dsimp only; omega)) ?_
      simp only [go_sem, Nat.reduceEqDiff, Nat.reduceAdd, Nat.reduceLT, Nat.reduceLeDiff, reduceIte, q0, q1, q4, q11]
      exact ⟨trivial, trivial, trivial, trivial, trivial, trivial, by omega, by rw [← hl]; exact (scanDown_go hkl (by simp [hlt])).symm⟩
    have hle : scanDown (fun x => c.lt d1[a]! x) d1 k j = l := by
      rw [← hl]; exact scanDown_end fun h => by
        have : ¬c.lt d1[a]! d1[l]! = true := fun h' => hgo2 ⟨h, h'⟩
        simpa using this
    rw [hle] at ho hK
    by_cases hkl : k ≤ l
    · have hlt : c.lt d1[a]! d1[l]! = false := by
        have : ¬c.lt d1[a]! d1[l]! = true := fun h' => hgo2 ⟨hkl, h'⟩
        simpa using this
      have hl' : decide (c.cf d1[a]! d1[l]! < 0) = false := hlt
      have il := hm1.idxN (k := .i64) (n := n) (i := l) (by omega)
      have ll := hm1.ld hD1 (i := l) (by omega)
      have ik := hm1.idxN (k := .i64) (n := n) (i := k) (by omega)
      have lk := hm1.ld hD1 (i := k) (by omega)
      have hc := c.ok _ _ xa (hD1 l (by omega))
      obtain ⟨m5, m6, s1, s2, ⟨d3, hm5⟩, hm6, hD6, hs6⟩ := hm1.swap hD1 (i := k) (j := l) (by omega) (by omega)
      have i5 := hm5.idxN (k := .i64) (n := n) (i := l) (by omega)
      simp only [go_sem, Nat.reduceEqDiff, Nat.reduceAdd, Nat.reduceLT, Nat.reduceLeDiff, reduceIte, q0, q1, q4, q11, q12, show decide ((k : Int) ≤ (l : Int)) = true from decide_eq_true (by omega), show decide ((l : Int) < (k : Int)) = false from decide_eq_false (by omega), ia, la, il, ll, ik, lk, hc, hl', s1, s2, i5, wrap_succ k (by omega), wrap_p1 l (by omega) (by omega)]
      rw [if_neg (by omega)] at ho
      refine Nx_of (k + 1, l - 1, swp d1 k l) (by first | omega | (dsimp only; omega)) ?_
      simp only [go_sem, Nat.reduceEqDiff, Nat.reduceAdd, Nat.reduceLT, Nat.reduceLeDiff, reduceIte, q0, q1, q4]
      exact ⟨trivial, trivial, trivial, trivial, trivial, by omega, by omega, hm6, hD6, by rw [hs6, hs1], ho⟩
    · rw [if_pos (by omega)] at hK
      simp only [go_sem, Nat.reduceEqDiff, Nat.reduceAdd, Nat.reduceLT, Nat.reduceLeDiff, reduceIte, q0, q1, q4, q11, q12, show decide ((k : Int) ≤ (l : Int)) = false from decide_eq_false (by omega), show decide ((l : Int) < (k : Int)) = true from decide_eq_true (by omega)]
      exact hK _ hm1 hD1 hs1
end Go.Ab.Srt
end
section
namespace Go.Ab.Srt
open Go.Sort
set_option maxRecDepth 8000
set_option maxHeartbeats 4000000
variable {ft : FuncId → Option AFn} {E : Els} {cv : AV} (c : CmpOK ft E cv) {id n : Nat} {m0 : Mem}
theorem pt_run {f : FuncId} (hf : ft f = some ⟨5, partitionF E.sz E.lz, partitionFR, .r⟩) (hn : n < 1073741824) {d : Array AV} {a b pv : Nat} (hap : a ≤ pv) (hpb : pv < b) (hb : b ≤ n) (hd : n ≤ d.size)
    (hD : AllD E d) {m : Mem} (hm : MR m0 m id E.sz d) (K : AV → Mem → Prop)
    (hK : ∀ m', MR m0 m' id E.sz (partition c.lt d a b pv).2.2 → AllD E (partition c.lt d a b pv).2.2 → (partition c.lt d a b pv).2.2.size = d.size → K (.tup [I64 (((partition c.lt d a b pv).1 : Nat) : Int), .bool (partition c.lt d a b pv).2.1]) m') :
    WR ft (.f f) [.ref id 0 n, I64 a, I64 b, I64 pv, cv] m K := by
  rw [WR_f hf rfl]
  simp only [partitionF, partitionFR]
  obtain ⟨m3, m4, s1, s2, ⟨d3, hm3⟩, hm4, hD4, hs4⟩ := hm.swap hD (i := a) (j := pv) (by omega) (by omega)
  have i1 := hm.idxN (k := .i64) (n := n) (i := a) (by omega)
  have i2 := hm.idxN (k := .i64) (n := n) (i := pv) (by omega)
  have i3 := hm3.idxN (k := .i64) (n := n) (i := pv) (by omega)
  have l1 := hm.ld hD (i := a) (by omega)
  have l2 := hm.ld hD (i := pv) (by omega)
  unfold partition at hK
  dsimp only at hK
  generalize swp d a pv = d0 at hm4 hD4 hs4 hK
  simp only [go_sem, Nat.reduceEqDiff, Nat.reduceAdd, Nat.reduceLT, Nat.reduceLeDiff, reduceIte, i1, i2, i3, l1, l2, s1, s2, wrap_succ a (by omega), wrap_p1 b (by omega) (by omega)]
  clear s1 s2 i1 i2 i3 l1 l2 hm3
  generalize hj0 : b - 1 = j0 at hK ⊢
  generalize hi0 : a + 1 = i0 at hK ⊢
  have xia := hm4.idxN (k := .i64) (n := n) (i := a) (by omega)
  have xla := hm4.ld hD4 (i := a) (by omega)
  have xxa := hD4 a (by omega)
  refine WL_inv (α := Nat) (fun q e mm => e 0 = .ref id 0 n ∧ e 1 = I64 a ∧ e 2 = I64 b ∧ e 4 = cv ∧ e 12 = I64 q ∧ e 13 = I64 j0 ∧ m4 = mm ∧ i0 ≤ q ∧ scanUp (fun x => c.lt x d0[a]!) d0 j0 q = scanUp (fun x => c.lt x d0[a]!) d0 j0 i0) (fun q => j0 + 1 - q) i0 ?_ ?_
  · simp only [go_sem, Nat.reduceEqDiff, Nat.reduceAdd, Nat.reduceLT, Nat.reduceLeDiff, reduceIte]
    exact ⟨trivial, trivial, trivial, trivial, trivial, trivial, trivial, Nat.le_refl _, trivial⟩
  rintro xk xe1 xm2 ⟨xg0, xg1, xg2, xg4, xg11, xg12, rfl, xhik, xhk⟩
  by_cases xhgo : xk ≤ j0 ∧ c.lt d0[xk]! d0[a]! = true
  · obtain ⟨hkj, hl⟩ := xhgo
    have hl' : decide (c.cf d0[xk]! d0[a]! < 0) = true := hl
    have ik := hm4.idxN (k := .i64) (n := n) (i := xk) (by omega)
    have lk := hm4.ld hD4 (i := xk) (by omega)
    have hc := c.ok _ _ (hD4 xk (by omega)) xxa
    simp only [go_sem, Nat.reduceEqDiff, Nat.reduceAdd, Nat.reduceLT, Nat.reduceLeDiff, reduceIte, xg0, xg1, xg2, xg4, xg11, xg12, show decide ((xk : Int) ≤ ((j0 : Nat) : Int)) = true from decide_eq_true (by omega), xia, xla, ik, lk, hc, hl', wrap_succ xk (by omega)]
    refine Nx_of (xk + 1) (by first | omega | (dsimp only; omega)) ?_
    simp only [go_sem, Nat.reduceEqDiff, Nat.reduceAdd, Nat.reduceLT, Nat.reduceLeDiff, reduceIte, xg0, xg1, xg2, xg4, xg12]
    exact ⟨trivial, trivial, trivial, trivial, trivial, trivial, trivial, by omega, by rw [← xhk]; exact (scanUp_go hkj hl).symm⟩
  have xhke : scanUp (fun x => c.lt x d0[a]!) d0 j0 i0 = xk := by
    rw [← xhk]; exact scanUp_end fun h => by
      have : ¬c.lt d0[xk]! d0[a]! = true := fun h' => xhgo ⟨h, h'⟩
      simpa using this
  rw [xhke] at hK
  by_cases xhkj : xk ≤ j0
  case' pos =>
    have hl : c.lt d0[xk]! d0[a]! = false := by
      have : ¬c.lt d0[xk]! d0[a]! = true := fun h' => xhgo ⟨xhkj, h'⟩
      simpa using this
    have hl' : decide (c.cf d0[xk]! d0[a]! < 0) = false := hl
    have ik := hm4.idxN (k := .i64) (n := n) (i := xk) (by omega)
    have lk := hm4.ld hD4 (i := xk) (by omega)
    have hc := c.ok _ _ (hD4 xk (by omega)) xxa
    simp only [go_sem, Nat.reduceEqDiff, Nat.reduceAdd, Nat.reduceLT, Nat.reduceLeDiff, reduceIte, xg0, xg1, xg2, xg4, xg11, xg12, show decide ((xk : Int) ≤ ((j0 : Nat) : Int)) = true from decide_eq_true (by omega), xia, xla, ik, lk, hc, hl']
  case' neg =>
    simp only [go_sem, Nat.reduceEqDiff, Nat.reduceAdd, Nat.reduceLT, Nat.reduceLeDiff, reduceIte, xg0, xg1, xg2, xg4, xg11, xg12, show decide ((xk : Int) ≤ ((j0 : Nat) : Int)) = false from decide_eq_false (by omega)]
  all_goals
    refine WL_inv (α := Nat) (fun q e mm => e 0 = .ref id 0 n ∧ e 1 = I64 a ∧ e 2 = I64 b ∧ e 4 = cv ∧ e 12 = I64 xk ∧ e 13 = I64 q ∧ m4 = mm ∧ q ≤ j0 ∧ scanDown (fun x => !c.lt x d0[a]!) d0 xk q = scanDown (fun x => !c.lt x d0[a]!) d0 xk j0) (fun q => q) (j0) ?_ ?_
    · simp only [go_sem, Nat.reduceEqDiff, Nat.reduceAdd, Nat.reduceLT, Nat.reduceLeDiff, reduceIte, xg0, xg1, xg2, xg4, xg11, xg12]
      exact ⟨trivial, trivial, trivial, trivial, trivial, trivial, trivial, Nat.le_refl _, trivial⟩
    rintro xl xe2 xm3 ⟨xq0, xq1, xq2, xq4, xq11, xq12, rfl, xhlj, xhl⟩
    by_cases xhgo2 : xk ≤ xl ∧ c.lt d0[xl]! d0[a]! = false
    · obtain ⟨hkl, hlt⟩ := xhgo2
      obtain ⟨xl, rfl⟩ : ∃ l', xl = l' + 1 := ⟨xl - 1, by omega⟩
      have hl' : decide (c.cf d0[xl + 1]! d0[a]! < 0) = false := hlt
      have ik := hm4.idxN (k := .i64) (n := n) (i := xl + 1) (by omega)
      have lk := hm4.ld hD4 (i := xl + 1) (by omega)
      have hc := c.ok _ _ (hD4 (xl + 1) (by omega)) xxa
      simp only [go_sem, Nat.reduceEqDiff, Nat.reduceAdd, Nat.reduceLT, Nat.reduceLeDiff, reduceIte, xq0, xq1, xq2, xq4, xq11, xq12, show decide ((xk : Int) ≤ ((xl + 1 : Nat) : Int)) = true from decide_eq_true (by omega), xia, xla, ik, lk, hc, hl', wrap_pred xl (by omega)]
      refine Nx_of xl (by first | omega | (dsimp only; omega)) ?_
      simp only [go_sem, Nat.reduceEqDiff, Nat.reduceAdd, Nat.reduceLT, Nat.reduceLeDiff, reduceIte, xq0, xq1, xq2, xq4, xq11]
      exact ⟨trivial, trivial, trivial, trivial, trivial, trivial, trivial, by omega, by rw [← xhl]; exact (scanDown_go hkl (by simp [hlt])).symm⟩
    have xhle : scanDown (fun x => !c.lt x d0[a]!) d0 xk (j0) = xl := by
      rw [← xhl]; exact scanDown_end fun h => by
        have : ¬c.lt d0[xl]! d0[a]! = false := fun h' => xhgo2 ⟨h, h'⟩
        simpa using this
    rw [xhle] at hK
    by_cases xhkl : xk ≤ xl
    case' pos =>
      have xhlt : c.lt d0[xl]! d0[a]! = true := by
        have : ¬c.lt d0[xl]! d0[a]! = false := fun h' => xhgo2 ⟨xhkl, h'⟩
        simpa using this
      have xhl' : decide (c.cf d0[xl]! d0[a]! < 0) = true := xhlt
      have xil := hm4.idxN (k := .i64) (n := n) (i := xl) (by omega)
      have xll := hm4.ld hD4 (i := xl) (by omega)
      have xik := hm4.idxN (k := .i64) (n := n) (i := xk) (by omega)
      have xlk := hm4.ld hD4 (i := xk) (by omega)
      have xhc := c.ok _ _ (hD4 xl (by omega)) xxa
      obtain ⟨m5, m6, s1, s2, ⟨d3, hm5⟩, hm6, hD6, hs6⟩ := hm4.swap hD4 (i := xk) (j := xl) (by omega) (by omega)
      have i5 := hm5.idxN (k := .i64) (n := n) (i := xl) (by omega)
      rw [if_neg (by omega)] at hK
      simp only [go_sem, Nat.reduceEqDiff, Nat.reduceAdd, Nat.reduceLT, Nat.reduceLeDiff, reduceIte, xq0, xq1, xq2, xq4, xq11, xq12, show decide ((xk : Int) ≤ (xl : Int)) = true from decide_eq_true (by omega), show decide ((xl : Int) < (xk : Int)) = false from decide_eq_false (by omega), xia, xla, xil, xll, xik, xlk, xhc, xhl', s1, s2, i5, wrap_succ xk (by omega), wrap_p1 xl (by omega) (by omega)]
      generalize hd1 : swp d0 xk xl = d1 at hm6 hD6 hs6 hK
      refine WL_inv (α := Nat × Nat × Array AV) (fun q e mm => e 0 = .ref id 0 n ∧ e 1 = I64 a ∧ e 2 = I64 b ∧ e 4 = cv ∧ e 12 = I64 q.1 ∧ e 13 = I64 q.2.1 ∧ a < q.1 ∧ q.2.1 < b ∧ MR m0 mm id E.sz q.2.2 ∧ AllD E q.2.2 ∧ q.2.2.size = d.size ∧ partLoop c.lt a q.1 q.2.1 q.2.2 = partLoop c.lt a (xk + 1) (xl - 1) d1)
        (fun q => q.2.1 + 1 - q.1) (xk + 1, xl - 1, d1) ?_ ?_
      · simp only [go_sem, Nat.reduceEqDiff, Nat.reduceAdd, Nat.reduceLT, Nat.reduceLeDiff, reduceIte, xq0, xq1, xq2, xq4]
        exact ⟨trivial, trivial, trivial, trivial, trivial, trivial, by omega, by omega, hm6, hD6, by rw [hs6, hs4], trivial⟩
      rintro ⟨i, j, d2⟩ e m9 ⟨h0, h1, h2, h4, h12, h13, hai, hjb, hm2, hD2, hs2, ho⟩
      dsimp only at h12 h13 hai hjb hm2 hD2 hs2 ho
      rw [partLoop_eq] at ho
      have yia := hm2.idxN (k := .i64) (n := n) (i := a) (by omega)
      have yla := hm2.ld hD2 (i := a) (by omega)
      have yxa := hD2 a (by omega)
      simp only [go_sem, Nat.reduceEqDiff, Nat.reduceAdd, Nat.reduceLT, Nat.reduceLeDiff, reduceIte]
      refine WL_inv (α := Nat) (fun q e mm => e 0 = .ref id 0 n ∧ e 1 = I64 a ∧ e 2 = I64 b ∧ e 4 = cv ∧ e 12 = I64 q ∧ e 13 = I64 j ∧ m9 = mm ∧ i ≤ q ∧ scanUp (fun x => c.lt x d2[a]!) d2 j q = scanUp (fun x => c.lt x d2[a]!) d2 j i) (fun q => j + 1 - q) i ?_ ?_
      · simp only [go_sem, Nat.reduceEqDiff, Nat.reduceAdd, Nat.reduceLT, Nat.reduceLeDiff, reduceIte, h0, h1, h2, h4, h12, h13]
        exact ⟨trivial, trivial, trivial, trivial, trivial, trivial, trivial, Nat.le_refl _, trivial⟩
      rintro yk ye1 ym2 ⟨yg0, yg1, yg2, yg4, yg11, yg12, rfl, yhik, yhk⟩
      by_cases yhgo : yk ≤ j ∧ c.lt d2[yk]! d2[a]! = true
      · obtain ⟨hkj, hl⟩ := yhgo
        have hl' : decide (c.cf d2[yk]! d2[a]! < 0) = true := hl
        have ik := hm2.idxN (k := .i64) (n := n) (i := yk) (by omega)
        have lk := hm2.ld hD2 (i := yk) (by omega)
        have hc := c.ok _ _ (hD2 yk (by omega)) yxa
        simp only [go_sem, Nat.reduceEqDiff, Nat.reduceAdd, Nat.reduceLT, Nat.reduceLeDiff, reduceIte, yg0, yg1, yg2, yg4, yg11, yg12, show decide ((yk : Int) ≤ ((j : Nat) : Int)) = true from decide_eq_true (by omega), yia, yla, ik, lk, hc, hl', wrap_succ yk (by omega)]
        refine Nx_of (yk + 1) (by first | omega | (dsimp only; omega)) ?_
        simp only [go_sem, Nat.reduceEqDiff, Nat.reduceAdd, Nat.reduceLT, Nat.reduceLeDiff, reduceIte, yg0, yg1, yg2, yg4, yg12]
        exact ⟨trivial, trivial, trivial, trivial, trivial, trivial, trivial, by omega, by rw [← yhk]; exact (scanUp_go hkj hl).symm⟩
      have yhke : scanUp (fun x => c.lt x d2[a]!) d2 j i = yk := by
        rw [← yhk]; exact scanUp_end fun h => by
          have : ¬c.lt d2[yk]! d2[a]! = true := fun h' => yhgo ⟨h, h'⟩
          simpa using this
      rw [yhke] at ho
      by_cases yhkj : yk ≤ j
      case' pos =>
        have hl : c.lt d2[yk]! d2[a]! = false := by
          have : ¬c.lt d2[yk]! d2[a]! = true := fun h' => yhgo ⟨yhkj, h'⟩
          simpa using this
        have hl' : decide (c.cf d2[yk]! d2[a]! < 0) = false := hl
        have ik := hm2.idxN (k := .i64) (n := n) (i := yk) (by omega)
        have lk := hm2.ld hD2 (i := yk) (by omega)
        have hc := c.ok _ _ (hD2 yk (by omega)) yxa
        simp only [go_sem, Nat.reduceEqDiff, Nat.reduceAdd, Nat.reduceLT, Nat.reduceLeDiff, reduceIte, yg0, yg1, yg2, yg4, yg11, yg12, show decide ((yk : Int) ≤ ((j : Nat) : Int)) = true from decide_eq_true (by omega), yia, yla, ik, lk, hc, hl']
      case' neg =>
        simp only [go_sem, Nat.reduceEqDiff, Nat.reduceAdd, Nat.reduceLT, Nat.reduceLeDiff, reduceIte, yg0, yg1, yg2, yg4, yg11, yg12, show decide ((yk : Int) ≤ ((j : Nat) : Int)) = false from decide_eq_false (by omega)]
      all_goals
        refine WL_inv (α := Nat) (fun q e mm => e 0 = .ref id 0 n ∧ e 1 = I64 a ∧ e 2 = I64 b ∧ e 4 = cv ∧ e 12 = I64 yk ∧ e 13 = I64 q ∧ m9 = mm ∧ q ≤ j ∧ scanDown (fun x => !c.lt x d2[a]!) d2 yk q = scanDown (fun x => !c.lt x d2[a]!) d2 yk j) (fun q => q) (j) ?_ ?_
        · simp only [go_sem, Nat.reduceEqDiff, Nat.reduceAdd, Nat.reduceLT, Nat.reduceLeDiff, reduceIte, yg0, yg1, yg2, yg4, yg11, yg12]
          exact ⟨trivial, trivial, trivial, trivial, trivial, trivial, trivial, Nat.le_refl _, trivial⟩
        rintro yl ye2 ym3 ⟨yq0, yq1, yq2, yq4, yq11, yq12, rfl, yhlj, yhl⟩
        by_cases yhgo2 : yk ≤ yl ∧ c.lt d2[yl]! d2[a]! = false
        · obtain ⟨hkl, hlt⟩ := yhgo2
          obtain ⟨yl, rfl⟩ : ∃ l', yl = l' + 1 := ⟨yl - 1, by omega⟩
          have hl' : decide (c.cf d2[yl + 1]! d2[a]! < 0) = false := hlt
          have ik := hm2.idxN (k := .i64) (n := n) (i := yl + 1) (by omega)
          have lk := hm2.ld hD2 (i := yl + 1) (by omega)
          have hc := c.ok _ _ (hD2 (yl + 1) (by omega)) yxa
          simp only [go_sem, Nat.reduceEqDiff, Nat.reduceAdd, Nat.reduceLT, Nat.reduceLeDiff, reduceIte, yq0, yq1, yq2, yq4, yq11, yq12, show decide ((yk : Int) ≤ ((yl + 1 : Nat) : Int)) = true from decide_eq_true (by omega), yia, yla, ik, lk, hc, hl', wrap_pred yl (by omega)]
          refine Nx_of yl (by first | omega | (dsimp only; omega)) ?_
          simp only [go_sem, Nat.reduceEqDiff, Nat.reduceAdd, Nat.reduceLT, Nat.reduceLeDiff, reduceIte, yq0, yq1, yq2, yq4, yq11]
          exact ⟨trivial, trivial, trivial, trivial, trivial, trivial, trivial, by omega, by rw [← yhl]; exact (scanDown_go hkl (by simp [hlt])).symm⟩
        have yhle : scanDown (fun x => !c.lt x d2[a]!) d2 yk (j) = yl := by
          rw [← yhl]; exact scanDown_end fun h => by
            have : ¬c.lt d2[yl]! d2[a]! = false := fun h' => yhgo2 ⟨h, h'⟩
            simpa using this
        rw [yhle] at ho
        by_cases yhkl : yk ≤ yl
        case' pos =>
          have yhlt : c.lt d2[yl]! d2[a]! = true := by
            have : ¬c.lt d2[yl]! d2[a]! = false := fun h' => yhgo2 ⟨yhkl, h'⟩
            simpa using this
          have yhl' : decide (c.cf d2[yl]! d2[a]! < 0) = true := yhlt
          have yil := hm2.idxN (k := .i64) (n := n) (i := yl) (by omega)
          have yll := hm2.ld hD2 (i := yl) (by omega)
          have yik := hm2.idxN (k := .i64) (n := n) (i := yk) (by omega)
          have ylk := hm2.ld hD2 (i := yk) (by omega)
          have yhc := c.ok _ _ (hD2 yl (by omega)) yxa
          obtain ⟨m7, m8, t1, t2, ⟨d5, hm7⟩, hm8, hD8, hs8⟩ := hm2.swap hD2 (i := yk) (j := yl) (by omega) (by omega)
          have i5 := hm7.idxN (k := .i64) (n := n) (i := yl) (by omega)
          simp only [go_sem, Nat.reduceEqDiff, Nat.reduceAdd, Nat.reduceLT, Nat.reduceLeDiff, reduceIte, yq0, yq1, yq2, yq4, yq11, yq12, show decide ((yk : Int) ≤ (yl : Int)) = true from decide_eq_true (by omega), show decide ((yl : Int) < (yk : Int)) = false from decide_eq_false (by omega), yia, yla, yil, yll, yik, ylk, yhc, yhl', t1, t2, i5, wrap_succ yk (by omega), wrap_p1 yl (by omega) (by omega)]
          rw [if_neg (by omega)] at ho
          refine Nx_of (yk + 1, yl - 1, swp d2 yk yl) (by first | omega | (dsimp only; omega)) ?_
          simp only [go_sem, Nat.reduceEqDiff, Nat.reduceAdd, Nat.reduceLT, Nat.reduceLeDiff, reduceIte, yq0, yq1, yq2, yq4]
          exact ⟨trivial, trivial, trivial, trivial, trivial, trivial, by omega, by omega, hm8, hD8, by rw [hs8, hs2], ho⟩
        case' neg =>
          have yil := hm2.idxN (k := .i64) (n := n) (i := yl) (by omega)
          have yll := hm2.ld hD2 (i := yl) (by omega)
          obtain ⟨m7, m8, t1, t2, ⟨d5, hm7⟩, hm8, hD8, hs8⟩ := hm2.swap hD2 (i := yl) (j := a) (by omega) (by omega)
          have i5 := hm7.idxN (k := .i64) (n := n) (i := a) (by omega)
          rw [if_pos (by omega)] at ho
          rw [← ho] at hK
          simp only [go_sem, Nat.reduceEqDiff, Nat.reduceAdd, Nat.reduceLT, Nat.reduceLeDiff, reduceIte, yq0, yq1, yq2, yq4, yq11, yq12, show decide ((yk : Int) ≤ (yl : Int)) = false from decide_eq_false (by omega), show decide ((yl : Int) < (yk : Int)) = true from decide_eq_true (by omega), yia, yla, yil, yll, t1, t2, i5]
          exact hK _ hm8 hD8 (by rw [hs8, hs2])
    case' neg =>
      have xil := hm4.idxN (k := .i64) (n := n) (i := xl) (by omega)
      have xll := hm4.ld hD4 (i := xl) (by omega)
      obtain ⟨m7, m8, t1, t2, ⟨d5, hm7⟩, hm8, hD8, hs8⟩ := hm4.swap hD4 (i := xl) (j := a) (by omega) (by omega)
      have i5 := hm7.idxN (k := .i64) (n := n) (i := a) (by omega)
      rw [if_pos (by omega)] at hK
      simp only [go_sem, Nat.reduceEqDiff, Nat.reduceAdd, Nat.reduceLT, Nat.reduceLeDiff, reduceIte, xq0, xq1, xq2, xq4, xq11, xq12, show decide ((xk : Int) ≤ (xl : Int)) = false from decide_eq_false (by omega), show decide ((xl : Int) < (xk : Int)) = true from decide_eq_true (by omega), xia, xla, xil, xll, t1, t2, i5]
      exact hK _ hm8 hD8 (by rw [hs8, hs4])
end Go.Ab.Srt
end
section
namespace Go.Ab.Srt
open Go.Sort
set_option maxRecDepth 8000
set_option maxHeartbeats 4000000
variable {ft : FuncId → Option AFn} {E : Els} {cv : AV} (c : CmpOK ft E cv) {id n : Nat} {m0 : Mem}
theorem rev_run {f : FuncId} (hf : ft f = some ⟨4, reverseRangeF E.sz E.lz, reverseRangeFR, .r⟩) (hn : n < 1073741824) {d : Array AV} {a b : Nat} (hab : a < b) (hb : b ≤ n) (hd : n ≤ d.size)
    (hD : AllD E d) {m : Mem} (hm : MR m0 m id E.sz d) (K : AV → Mem → Prop) (hK : ∀ m', MR m0 m' id E.sz (reverseRange d a b) → AllD E (reverseRange d a b) → (reverseRange d a b).size = d.size → K (.tup []) m') : WR ft (.f f) [.ref id 0 n, I64 a, I64 b, cv] m K := by
  rw [WR_f hf rfl]
  simp only [reverseRangeF, reverseRangeFR]
  unfold reverseRange at hK
  simp only [go_sem, Nat.reduceEqDiff, Nat.reduceAdd, Nat.reduceLT, Nat.reduceLeDiff, reduceIte, wrap_p1 b (by omega) (by omega)]
  generalize hj0 : b - 1 = j0 at hK ⊢
  refine WL_inv (α := Nat × Nat × Array AV) (fun q e mm => e 0 = .ref id 0 n ∧ e 8 = I64 q.1 ∧ e 9 = I64 q.2.1 ∧ q.2.1 < b ∧ MR m0 mm id E.sz q.2.2 ∧ AllD E q.2.2 ∧ q.2.2.size = d.size ∧ reverseLoop q.1 q.2.1 q.2.2 = reverseLoop a j0 d) (fun q => q.2.1 - q.1) (a, j0, d) ?_ ?_
  · simp only [go_sem, Nat.reduceEqDiff, Nat.reduceAdd, Nat.reduceLT, Nat.reduceLeDiff, reduceIte]
    exact ⟨trivial, trivial, trivial, by omega, hm, hD, trivial⟩
  rintro ⟨i, j, d1⟩ e m1 ⟨h0, h8, h9, hjb, hm1, hD1, hs1, ho⟩
  dsimp only at h8 h9 hjb hm1 hD1 hs1 ho
  rw [← ho] at hK
  by_cases hij : i < j
  · have hr : reverseLoop i j d1 = reverseLoop (i + 1) (j - 1) (swp d1 i j) := by
      conv => lhs; unfold reverseLoop
      rw [if_pos hij]
    obtain ⟨m5, m6, s1, s2, ⟨d3, hm5⟩, hm6, hD6, hs6⟩ := hm1.swap hD1 (i := i) (j := j) (by omega) (by omega)
    have i1 := hm1.idxN (k := .i64) (n := n) (i := i) (by omega)
    have i2 := hm1.idxN (k := .i64) (n := n) (i := j) (by omega)
    have i3 := hm5.idxN (k := .i64) (n := n) (i := j) (by omega)
    have l1 := hm1.ld hD1 (i := i) (by omega)
    have l2 := hm1.ld hD1 (i := j) (by omega)
    simp only [go_sem, Nat.reduceEqDiff, Nat.reduceAdd, Nat.reduceLT, Nat.reduceLeDiff, reduceIte, h0, h8, h9, show decide ((i : Int) < (j : Int)) = true from decide_eq_true (by omega), i1, i2, i3, l1, l2, s1, s2, wrap_succ i (by omega), wrap_p1 j (by omega) (by omega)]
    refine Nx_of (i + 1, j - 1, swp d1 i j) (by first | omega | (dsimp only; omega)) ?_
    simp only [go_sem, Nat.reduceEqDiff, Nat.reduceAdd, Nat.reduceLT, Nat.reduceLeDiff, reduceIte, h0]
    exact ⟨trivial, trivial, trivial, by omega, hm6, hD6, by rw [hs6, hs1], by rw [← ho]; exact hr.symm⟩
  · have hr : reverseLoop i j d1 = d1 := by
      unfold reverseLoop
      rw [if_neg hij]
    rw [hr] at hK
    simp only [go_sem, Nat.reduceEqDiff, Nat.reduceAdd, Nat.reduceLT, Nat.reduceLeDiff, reduceIte, h0, h8, h9, show decide ((i : Int) < (j : Int)) = false from decide_eq_false (by omega)]
    exact hK _ hm1 hD1 hs1
theorem scanSorted_go {lt : AV → AV → Bool} {d : Array AV} {b i : Nat} (h : i < b) (hl : lt d[i]! d[i - 1]! = false) : scanSorted lt d b i = scanSorted lt d b (i + 1) := by
  conv => lhs; unfold scanSorted
  rw [if_pos (by simp [h, hl])]
theorem scanSorted_end {lt : AV → AV → Bool} {d : Array AV} {b i : Nat} (h : i < b → lt d[i]! d[i - 1]! = true) : scanSorted lt d b i = i := by
  conv => lhs; unfold scanSorted
  rw [if_neg]
  intro hh
  simp only [Bool.and_eq_true, decide_eq_true_eq, Bool.not_eq_true'] at hh
  rw [h hh.1] at hh; cases hh.2
theorem shiftUp_go {lt : AV → AV → Bool} {d : Array AV} {b j : Nat} (h : j < b) (hl : lt d[j]! d[j - 1]! = true) : shiftUp lt b j d = shiftUp lt b (j + 1) (swp d j (j - 1)) := by
  conv => lhs; unfold shiftUp
  rw [if_pos h, hl]; rfl
theorem shiftUp_end {lt : AV → AV → Bool} {d : Array AV} {b j : Nat} (h : j < b → lt d[j]! d[j - 1]! = false) : shiftUp lt b j d = d := by
  unfold shiftUp
  split
  · rename_i hh; rw [h hh]; rfl
  · rfl
theorem shiftDown_go {lt : AV → AV → Bool} {d : Array AV} {j : Nat} (hl : lt d[j + 1]! d[j]! = true) : shiftDown lt (j + 1) d = shiftDown lt j (swp d (j + 1) j) := by
  conv => lhs; unfold shiftDown
  rw [hl]; rfl
theorem pi_run {f : FuncId} (hf : ft f = some ⟨4, partialInsertionSortF E.sz E.lz, partialInsertionSortFR, .r⟩) (hn : n < 1073741824) {d : Array AV} {a b : Nat} (hab : a < b) (hb : b ≤ n) (hd : n ≤ d.size)
    (hD : AllD E d) {m : Mem} (hm : MR m0 m id E.sz d) (K : AV → Mem → Prop)
    (hK : ∀ m', MR m0 m' id E.sz (partialInsertionSort c.lt d a b).1 → AllD E (partialInsertionSort c.lt d a b).1 → (partialInsertionSort c.lt d a b).1.size = d.size → K (.bool (partialInsertionSort c.lt d a b).2) m') :
    WR ft (.f f) [.ref id 0 n, I64 a, I64 b, cv] m K := by
  rw [WR_f hf rfl]
  simp only [partialInsertionSortF, partialInsertionSortFR]
  unfold partialInsertionSort at hK
  simp only [go_sem, Nat.reduceEqDiff, Nat.reduceAdd, Nat.reduceLT, Nat.reduceLeDiff, reduceIte, wrap_succ a (by omega)]
  refine WL_inv (α := Nat × Nat × Array AV) (fun q e mm => e 0 = .ref id 0 n ∧ e 1 = I64 a ∧ e 2 = I64 b ∧ e 3 = cv ∧ e 9 = I64 q.2.1 ∧ e 10 = I64 (5 - (q.1 : Int)) ∧ q.1 ≤ 5 ∧ a < q.2.1 ∧ q.2.1 ≤ b ∧ MR m0 mm id E.sz q.2.2 ∧ AllD E q.2.2 ∧ q.2.2.size = d.size ∧ partialIns c.lt a b q.1 q.2.1 q.2.2 = partialIns c.lt a b 5 (a + 1) d)
    (fun q => q.1) (5, a + 1, d) ?_ ?_
  · simp only [go_sem, Nat.reduceEqDiff, Nat.reduceAdd, Nat.reduceLT, Nat.reduceLeDiff, reduceIte]
    exact ⟨trivial, trivial, trivial, trivial, trivial, rfl, by first | trivial | omega, by first | trivial | omega, by first | trivial | omega, hm, hD, trivial⟩
  rintro ⟨s, i, d1⟩ e m1 ⟨h0, h1, h2, h3, h9, h10, hs5, hai, hib, hm1, hD1, hs1, ho⟩
  dsimp only at h9 h10 hs5 hai hib hm1 hD1 hs1 ho
  rw [← ho] at hK
  cases s with
  | zero =>
    simp only [go_sem, Nat.reduceEqDiff, Nat.reduceAdd, Nat.reduceLT, Nat.reduceLeDiff, reduceIte, h0, h1, h2, h3, h9, h10, show decide ((5 : Int) - ((0 : Nat) : Int) < 5) = false from rfl]
    exact hK _ hm1 hD1 hs1
  | succ s =>
  have w5 : IntKind.i64.wrap ((5 : Int) - ((s + 1 : Nat) : Int) + 1) = 5 - (s : Int) := by rw [wrap_i64 _ (by omega) (by omega)]; omega
  simp only [go_sem, Nat.reduceEqDiff, Nat.reduceAdd, Nat.reduceLT, Nat.reduceLeDiff, reduceIte, h0, h1, h2, h3, h9, h10, show decide ((5 : Int) - ((s + 1 : Nat) : Int) < 5) = true from decide_eq_true (by omega)]
  refine WL_inv (α := Nat) (fun k e mm => e 0 = .ref id 0 n ∧ e 1 = I64 a ∧ e 2 = I64 b ∧ e 3 = cv ∧ e 9 = I64 k ∧ e 10 = I64 (5 - ((s + 1 : Nat) : Int)) ∧ m1 = mm ∧ i ≤ k ∧ k ≤ b ∧ scanSorted c.lt d1 b k = scanSorted c.lt d1 b i) (fun k => b - k) i ?_ ?_
  · simp only [go_sem, Nat.reduceEqDiff, Nat.reduceAdd, Nat.reduceLT, Nat.reduceLeDiff, reduceIte, h0, h1, h2, h3, h9, h10]
    exact ⟨trivial, trivial, trivial, trivial, trivial, trivial, trivial, Nat.le_refl _, hib, trivial⟩
  rintro k e1 m2 ⟨g0, g1, g2, g3, g9, g10, rfl, hik, hkb, hk⟩
  by_cases hgo : k < b ∧ c.lt d1[k]! d1[k - 1]! = false
  · obtain ⟨hkb', hl⟩ := hgo
    have hl' : decide (c.cf d1[k]! d1[k - 1]! < 0) = false := hl
    have ik := hm1.idxN (k := .i64) (n := n) (i := k) (by omega)
    have lk := hm1.ld hD1 (i := k) (by omega)
    have ip := hm1.idxN (k := .i64) (n := n) (i := k - 1) (by omega)
    have lp := hm1.ld hD1 (i := k - 1) (by omega)
    have hc := c.ok _ _ (hD1 k (by omega)) (hD1 (k - 1) (by omega))
    simp only [go_sem, Nat.reduceEqDiff, Nat.reduceAdd, Nat.reduceLT, Nat.reduceLeDiff, reduceIte, g0, g1, g2, g3, g9, g10, show decide ((k : Int) < (b : Int)) = true from decide_eq_true (by omega), ik, lk, ip, lp, hc, hl', wrap_succ k (by omega), wrap_p1 k (by omega) (by omega)]
    refine Nx_of (k + 1) (by first | omega | (dsimp only; omega)) ?_
    simp only [go_sem, Nat.reduceEqDiff, Nat.reduceAdd, Nat.reduceLT, Nat.reduceLeDiff, reduceIte, g0, g1, g2, g3, g10]
    exact ⟨trivial, trivial, trivial, trivial, trivial, trivial, trivial, by omega, by omega, by rw [← hk]; exact (scanSorted_go hkb' hl).symm⟩
  have hke : scanSorted c.lt d1 b i = k := by
    rw [← hk]; exact scanSorted_end fun h => by
      have : ¬c.lt d1[k]! d1[k - 1]! = false := fun h' => hgo ⟨h, h'⟩
      simpa using this
  rw [partialIns_succ, hke] at ho
  by_cases hkb' : k = b
  · subst hkb'
    rw [if_pos rfl] at ho
    rw [show partialIns c.lt a k (s + 1) i d1 = (d1, true) by rw [partialIns_succ, hke, if_pos rfl]] at hK
    simp only [go_sem, Nat.reduceEqDiff, Nat.reduceAdd, Nat.reduceLT, Nat.reduceLeDiff, reduceIte, g0, g1, g2, g3, g9, g10, show decide ((k : Int) < (k : Int)) = false from decide_eq_false (by omega), show ((k : Int) == (k : Int)) = true from by simp]
    exact hK _ hm1 hD1 hs1
  have hlt : k < b := by omega
  have hl : c.lt d1[k]! d1[k - 1]! = true := by
    have : ¬c.lt d1[k]! d1[k - 1]! = false := fun h' => hgo ⟨hlt, h'⟩
    simpa using this
  have hl' : decide (c.cf d1[k]! d1[k - 1]! < 0) = true := hl
  have ik := hm1.idxN (k := .i64) (n := n) (i := k) (by omega)
  have lk := hm1.ld hD1 (i := k) (by omega)
  have ip := hm1.idxN (k := .i64) (n := n) (i := k - 1) (by omega)
  have lp := hm1.ld hD1 (i := k - 1) (by omega)
  have hc := c.ok _ _ (hD1 k (by omega)) (hD1 (k - 1) (by omega))
  have c1 : decide ((k : Int) < (b : Int)) = true := decide_eq_true (by omega)
  have c2 : ((k : Int) == (b : Int)) = false := by
    rw [beq_eq_false_iff_ne]; omega
  have w1 := wrap_subN b a (by omega) (by omega)
  have w2 := wrap_p1 k (by omega) (by omega)
  rw [if_neg hkb'] at ho
  by_cases h50 : b - a < 50
  · rw [if_pos h50] at ho
    rw [show partialIns c.lt a b (s + 1) i d1 = (d1, false) by rw [partialIns_succ, hke, if_neg hkb', if_pos h50]] at hK
    simp only [go_sem, Nat.reduceEqDiff, Nat.reduceAdd, Nat.reduceLT, Nat.reduceLeDiff, reduceIte, g0, g1, g2, g3, g9, g10, c1, c2, ik, lk, ip, lp, hc, hl', w1, w2, show decide (((b - a : Nat) : Int) < 50) = true from decide_eq_true (by omega)]
    exact hK _ hm1 hD1 hs1
  rw [if_neg h50] at ho
  unfold fixUp fixDown at ho
  have c3 : decide (((b - a : Nat) : Int) < 50) = false := decide_eq_false (by omega)
  obtain ⟨m5, m6, s1, s2, ⟨d3, hm5⟩, hm6, hD6, hs6⟩ := hm1.swap hD1 (i := k) (j := k - 1) (by omega) (by omega)
  have i5 := hm5.idxN (k := .i64) (n := n) (i := k - 1) (by omega)
  have w3 := wrap_subN k a (by omega) (by omega)
  have w4 := wrap_subN b k (by omega) (by omega)
  have w6 := wrap_succ k (by omega)
  generalize swp d1 k (k - 1) = d6 at hm6 hD6 hs6 ho
  rw [hs1] at hs6
  by_cases h2' : k - a ≥ 2 <;> by_cases h3' : b - k ≥ 2
  · rw [if_pos h2', if_pos h3'] at ho
    have k1 : decide ((2 : Int) ≤ ((k - a : Nat) : Int)) = true := decide_eq_true (by omega)
    have k2 : decide ((2 : Int) ≤ ((b - k : Nat) : Int)) = true := decide_eq_true (by omega)
    simp only [go_sem, Nat.reduceEqDiff, Nat.reduceAdd, Nat.reduceLT, Nat.reduceLeDiff, reduceIte, g0, g1, g2, g3, g9, g10, c1, c2, c3, ik, lk, ip, lp, hc, hl', w1, w2, w3, w4, w5, w6, s1, s2, i5, k1, k2]
    refine WL_inv (α := Nat × Array AV) (fun q e mm => e 0 = .ref id 0 n ∧ e 1 = I64 a ∧ e 2 = I64 b ∧ e 3 = cv ∧ e 9 = I64 k ∧ e 10 = I64 (5 - ((s + 1 : Nat) : Int)) ∧ e 11 = I64 q.1 ∧ q.1 < n ∧ MR m0 mm id E.sz q.2 ∧ AllD E q.2 ∧ q.2.size = d.size ∧ shiftDown c.lt q.1 q.2 = shiftDown c.lt (k - 1) d6) (fun q => q.1) (k - 1, d6) ?_ ?_
    · simp only [go_sem, Nat.reduceEqDiff, Nat.reduceAdd, Nat.reduceLT, Nat.reduceLeDiff, reduceIte, g0, g1, g2, g3, g9, g10]
      exact ⟨trivial, trivial, trivial, trivial, trivial, trivial, trivial, by omega, hm6, hD6, hs6, trivial⟩
    rintro ⟨j, d7⟩ e7 m7 ⟨g0, g1, g2, g3, g9, g10, g11, hjn, hm7, hD7, hs7, ho7⟩
    dsimp only at g11 hjn hm7 hD7 hs7 ho7
    cases j with
    | zero =>
      rw [← ho7, show shiftDown c.lt 0 d7 = d7 from rfl] at ho
      simp only [go_sem, Nat.reduceEqDiff, Nat.reduceAdd, Nat.reduceLT, Nat.reduceLeDiff, reduceIte, g0, g1, g2, g3, g9, g10, g11, w4, w5, w6, show decide ((1 : Int) ≤ ((0 : Nat) : Int)) = false from rfl, show decide ((2 : Int) ≤ ((b - k : Nat) : Int)) = true from decide_eq_true (by omega)]
      refine WL_inv (α := Nat × Array AV) (fun q e mm => e 0 = .ref id 0 n ∧ e 1 = I64 a ∧ e 2 = I64 b ∧ e 3 = cv ∧ e 9 = I64 k ∧ e 10 = I64 (5 - ((s + 1 : Nat) : Int)) ∧ e 12 = I64 q.1 ∧ k < q.1 ∧ q.1 ≤ b ∧ MR m0 mm id E.sz q.2 ∧ AllD E q.2 ∧ q.2.size = d.size ∧ shiftUp c.lt b q.1 q.2 = shiftUp c.lt b (k + 1) d7) (fun q => b - q.1) (k + 1, d7) ?_ ?_
      · simp only [go_sem, Nat.reduceEqDiff, Nat.reduceAdd, Nat.reduceLT, Nat.reduceLeDiff, reduceIte, g0, g1, g2, g3, g9, g10]
        exact ⟨trivial, trivial, trivial, trivial, trivial, trivial, trivial, by omega, by omega, hm7, hD7, hs7, trivial⟩
      rintro ⟨j, d8⟩ e8 m8 ⟨g0, g1, g2, g3, g9, g10, g12, hkj, hjb, hm8, hD8, hs8, ho8⟩
      dsimp only at g12 hkj hjb hm8 hD8 hs8 ho8
      by_cases hjb' : j < b
      · have ij := hm8.idxN (k := .i64) (n := n) (i := j) (by omega)
        have lj := hm8.ld hD8 (i := j) (by omega)
        have iq := hm8.idxN (k := .i64) (n := n) (i := j - 1) (by omega)
        have lq := hm8.ld hD8 (i := j - 1) (by omega)
        have hcj := c.ok _ _ (hD8 j (by omega)) (hD8 (j - 1) (by omega))
        have wj := wrap_p1 j (by omega) (by omega)
        have wk := wrap_succ j (by omega)
        cases hlj : c.lt d8[j]! d8[j - 1]!
        · have hlj' : decide (c.cf d8[j]! d8[j - 1]! < 0) = false := hlj
          rw [← ho8, shiftUp_end fun _ => hlj] at ho
          simp only [go_sem, Nat.reduceEqDiff, Nat.reduceAdd, Nat.reduceLT, Nat.reduceLeDiff, reduceIte, g0, g1, g2, g3, g9, g10, g12, w5, show decide ((j : Int) < (b : Int)) = true from decide_eq_true (by omega), ij, lj, iq, lq, hcj, hlj', wj]
          refine Nx_of (s, k, d8) (by first | omega | (dsimp only; omega)) ?_
          simp only [go_sem, Nat.reduceEqDiff, Nat.reduceAdd, Nat.reduceLT, Nat.reduceLeDiff, reduceIte, g0, g1, g2, g3, g9, g10, w5]
          exact ⟨trivial, trivial, trivial, trivial, trivial, trivial, by omega, by omega, by omega, hm8, hD8, hs8, ho⟩
        · have hlj' : decide (c.cf d8[j]! d8[j - 1]! < 0) = true := hlj
          obtain ⟨m9, m10, t1, t2, ⟨d9, hm9⟩, hm10, hD10, hs10⟩ := hm8.swap hD8 (i := j) (j := j - 1) (by omega) (by omega)
          have i9 := hm9.idxN (k := .i64) (n := n) (i := j - 1) (by omega)
          simp only [go_sem, Nat.reduceEqDiff, Nat.reduceAdd, Nat.reduceLT, Nat.reduceLeDiff, reduceIte, g0, g1, g2, g3, g9, g10, g12, w5, show decide ((j : Int) < (b : Int)) = true from decide_eq_true (by omega), ij, lj, iq, lq, hcj, hlj', wj, t1, t2, i9, wk]
          refine Nx_of (j + 1, swp d8 j (j - 1)) (by first | omega | (dsimp only; omega)) ?_
          simp only [go_sem, Nat.reduceEqDiff, Nat.reduceAdd, Nat.reduceLT, Nat.reduceLeDiff, reduceIte, g0, g1, g2, g3, g9, g10]
          exact ⟨trivial, trivial, trivial, trivial, trivial, trivial, trivial, by omega, by omega, hm10, hD10, by rw [hs10, hs8], by rw [← ho8]; exact (shiftUp_go hjb' hlj).symm⟩
      · rw [← ho8, shiftUp_end fun h => absurd h hjb'] at ho
        simp only [go_sem, Nat.reduceEqDiff, Nat.reduceAdd, Nat.reduceLT, Nat.reduceLeDiff, reduceIte, g0, g1, g2, g3, g9, g10, g12, w5, show decide ((j : Int) < (b : Int)) = false from decide_eq_false (by omega)]
        refine Nx_of (s, k, d8) (by first | omega | (dsimp only; omega)) ?_
        simp only [go_sem, Nat.reduceEqDiff, Nat.reduceAdd, Nat.reduceLT, Nat.reduceLeDiff, reduceIte, g0, g1, g2, g3, g9, g10, w5]
        exact ⟨trivial, trivial, trivial, trivial, trivial, trivial, by omega, by omega, by omega, hm8, hD8, hs8, ho⟩
    | succ j =>
      have ij := hm7.idxN (k := .i64) (n := n) (i := j + 1) (by omega)
      have lj := hm7.ld hD7 (i := j + 1) (by omega)
      have iq := hm7.idxN (k := .i64) (n := n) (i := j) (by omega)
      have lq := hm7.ld hD7 (i := j) (by omega)
      have hcj := c.ok _ _ (hD7 (j + 1) (by omega)) (hD7 j (by omega))
      have wj := wrap_pred j (by omega)
      have cj : decide ((1 : Int) ≤ ((j + 1 : Nat) : Int)) = true := decide_eq_true (by omega)
      cases hlj : c.lt d7[j + 1]! d7[j]!
      · have hlj' : decide (c.cf d7[j + 1]! d7[j]! < 0) = false := hlj
        rw [← ho7, show shiftDown c.lt (j + 1) d7 = d7 by unfold shiftDown; rw [hlj]; rfl] at ho
        simp only [go_sem, Nat.reduceEqDiff, Nat.reduceAdd, Nat.reduceLT, Nat.reduceLeDiff, reduceIte, g0, g1, g2, g3, g9, g10, g11, w4, w5, w6, cj, ij, lj, iq, lq, hcj, hlj', wj, show decide ((2 : Int) ≤ ((b - k : Nat) : Int)) = true from decide_eq_true (by omega)]
        refine WL_inv (α := Nat × Array AV) (fun q e mm => e 0 = .ref id 0 n ∧ e 1 = I64 a ∧ e 2 = I64 b ∧ e 3 = cv ∧ e 9 = I64 k ∧ e 10 = I64 (5 - ((s + 1 : Nat) : Int)) ∧ e 12 = I64 q.1 ∧ k < q.1 ∧ q.1 ≤ b ∧ MR m0 mm id E.sz q.2 ∧ AllD E q.2 ∧ q.2.size = d.size ∧ shiftUp c.lt b q.1 q.2 = shiftUp c.lt b (k + 1) d7) (fun q => b - q.1) (k + 1, d7) ?_ ?_
        · simp only [go_sem, Nat.reduceEqDiff, Nat.reduceAdd, Nat.reduceLT, Nat.reduceLeDiff, reduceIte, g0, g1, g2, g3, g9, g10]
          exact ⟨trivial, trivial, trivial, trivial, trivial, trivial, trivial, by omega, by omega, hm7, hD7, hs7, trivial⟩
        rintro ⟨j, d8⟩ e8 m8 ⟨g0, g1, g2, g3, g9, g10, g12, hkj, hjb, hm8, hD8, hs8, ho8⟩
        dsimp only at g12 hkj hjb hm8 hD8 hs8 ho8
        by_cases hjb' : j < b
        · have ij := hm8.idxN (k := .i64) (n := n) (i := j) (by omega)
          have lj := hm8.ld hD8 (i := j) (by omega)
          have iq := hm8.idxN (k := .i64) (n := n) (i := j - 1) (by omega)
          have lq := hm8.ld hD8 (i := j - 1) (by omega)
          have hcj := c.ok _ _ (hD8 j (by omega)) (hD8 (j - 1) (by omega))
          have wj := wrap_p1 j (by omega) (by omega)
          have wk := wrap_succ j (by omega)
          cases hlj : c.lt d8[j]! d8[j - 1]!
          · have hlj' : decide (c.cf d8[j]! d8[j - 1]! < 0) = false := hlj
            rw [← ho8, shiftUp_end fun _ => hlj] at ho
            simp only [go_sem, Nat.reduceEqDiff, Nat.reduceAdd, Nat.reduceLT, Nat.reduceLeDiff, reduceIte, g0, g1, g2, g3, g9, g10, g12, w5, show decide ((j : Int) < (b : Int)) = true from decide_eq_true (by omega), ij, lj, iq, lq, hcj, hlj', wj]
            refine Nx_of (s, k, d8) (by first | omega | (dsimp only; omega)) ?_
            simp only [go_sem, Nat.reduceEqDiff, Nat.reduceAdd, Nat.reduceLT, Nat.reduceLeDiff, reduceIte, g0, g1, g2, g3, g9, g10, w5]
            exact ⟨trivial, trivial, trivial, trivial, trivial, trivial, by omega, by omega, by omega, hm8, hD8, hs8, ho⟩
          · have hlj' : decide (c.cf d8[j]! d8[j - 1]! < 0) = true := hlj
            obtain ⟨m9, m10, t1, t2, ⟨d9, hm9⟩, hm10, hD10, hs10⟩ := hm8.swap hD8 (i := j) (j := j - 1) (by omega) (by omega)
            have i9 := hm9.idxN (k := .i64) (n := n) (i := j - 1) (by omega)
            simp only [go_sem, Nat.reduceEqDiff, Nat.reduceAdd, Nat.reduceLT, Nat.reduceLeDiff, reduceIte, g0, g1, g2, g3, g9, g10, g12, w5, show decide ((j : Int) < (b : Int)) = true from decide_eq_true (by omega), ij, lj, iq, lq, hcj, hlj', wj, t1, t2, i9, wk]
            refine Nx_of (j + 1, swp d8 j (j - 1)) (by first | omega | (dsimp only; omega)) ?_
            simp only [go_sem, Nat.reduceEqDiff, Nat.reduceAdd, Nat.reduceLT, Nat.reduceLeDiff, reduceIte, g0, g1, g2, g3, g9, g10]
            exact ⟨trivial, trivial, trivial, trivial, trivial, trivial, trivial, by omega, by omega, hm10, hD10, by rw [hs10, hs8], by rw [← ho8]; exact (shiftUp_go hjb' hlj).symm⟩
        · rw [← ho8, shiftUp_end fun h => absurd h hjb'] at ho
          simp only [go_sem, Nat.reduceEqDiff, Nat.reduceAdd, Nat.reduceLT, Nat.reduceLeDiff, reduceIte, g0, g1, g2, g3, g9, g10, g12, w5, show decide ((j : Int) < (b : Int)) = false from decide_eq_false (by omega)]
          refine Nx_of (s, k, d8) (by first | omega | (dsimp only; omega)) ?_
          simp only [go_sem, Nat.reduceEqDiff, Nat.reduceAdd, Nat.reduceLT, Nat.reduceLeDiff, reduceIte, g0, g1, g2, g3, g9, g10, w5]
          exact ⟨trivial, trivial, trivial, trivial, trivial, trivial, by omega, by omega, by omega, hm8, hD8, hs8, ho⟩
      · have hlj' : decide (c.cf d7[j + 1]! d7[j]! < 0) = true := hlj
        obtain ⟨m9, m10, t1, t2, ⟨d9, hm9⟩, hm10, hD10, hs10⟩ := hm7.swap hD7 (i := j + 1) (j := j) (by omega) (by omega)
        have i9 := hm9.idxN (k := .i64) (n := n) (i := j) (by omega)
        simp only [go_sem, Nat.reduceEqDiff, Nat.reduceAdd, Nat.reduceLT, Nat.reduceLeDiff, reduceIte, g0, g1, g2, g3, g9, g10, g11, cj, ij, lj, iq, lq, hcj, hlj', wj, t1, t2, i9]
        refine Nx_of (j, swp d7 (j + 1) j) (by first | omega | (dsimp only; omega)) ?_
        simp only [go_sem, Nat.reduceEqDiff, Nat.reduceAdd, Nat.reduceLT, Nat.reduceLeDiff, reduceIte, g0, g1, g2, g3, g9, g10]
        exact ⟨trivial, trivial, trivial, trivial, trivial, trivial, trivial, by omega, hm10, hD10, by rw [hs10, hs7], by rw [← ho7]; exact (shiftDown_go hlj).symm⟩
  · rw [if_pos h2', if_neg h3'] at ho
    have k1 : decide ((2 : Int) ≤ ((k - a : Nat) : Int)) = true := decide_eq_true (by omega)
    have k2 : decide ((2 : Int) ≤ ((b - k : Nat) : Int)) = false := decide_eq_false (by omega)
    simp only [go_sem, Nat.reduceEqDiff, Nat.reduceAdd, Nat.reduceLT, Nat.reduceLeDiff, reduceIte, g0, g1, g2, g3, g9, g10, c1, c2, c3, ik, lk, ip, lp, hc, hl', w1, w2, w3, w4, w5, w6, s1, s2, i5, k1, k2]
    refine WL_inv (α := Nat × Array AV) (fun q e mm => e 0 = .ref id 0 n ∧ e 1 = I64 a ∧ e 2 = I64 b ∧ e 3 = cv ∧ e 9 = I64 k ∧ e 10 = I64 (5 - ((s + 1 : Nat) : Int)) ∧ e 11 = I64 q.1 ∧ q.1 < n ∧ MR m0 mm id E.sz q.2 ∧ AllD E q.2 ∧ q.2.size = d.size ∧ shiftDown c.lt q.1 q.2 = shiftDown c.lt (k - 1) d6) (fun q => q.1) (k - 1, d6) ?_ ?_
    · simp only [go_sem, Nat.reduceEqDiff, Nat.reduceAdd, Nat.reduceLT, Nat.reduceLeDiff, reduceIte, g0, g1, g2, g3, g9, g10]
      exact ⟨trivial, trivial, trivial, trivial, trivial, trivial, trivial, by omega, hm6, hD6, hs6, trivial⟩
    rintro ⟨j, d7⟩ e7 m7 ⟨g0, g1, g2, g3, g9, g10, g11, hjn, hm7, hD7, hs7, ho7⟩
    dsimp only at g11 hjn hm7 hD7 hs7 ho7
    cases j with
    | zero =>
      rw [← ho7, show shiftDown c.lt 0 d7 = d7 from rfl] at ho
      simp only [go_sem, Nat.reduceEqDiff, Nat.reduceAdd, Nat.reduceLT, Nat.reduceLeDiff, reduceIte, g0, g1, g2, g3, g9, g10, g11, w4, w5, w6, show decide ((1 : Int) ≤ ((0 : Nat) : Int)) = false from rfl, show decide ((2 : Int) ≤ ((b - k : Nat) : Int)) = false from decide_eq_false (by omega)]
      refine Nx_of (s, k, d7) (by first | omega | (dsimp only; omega)) ?_
      simp only [go_sem, Nat.reduceEqDiff, Nat.reduceAdd, Nat.reduceLT, Nat.reduceLeDiff, reduceIte, g0, g1, g2, g3, g9, g10, w5]
      exact ⟨trivial, trivial, trivial, trivial, trivial, trivial, by omega, by omega, by omega, hm7, hD7, hs7, ho⟩
    | succ j =>
      have ij := hm7.idxN (k := .i64) (n := n) (i := j + 1) (by omega)
      have lj := hm7.ld hD7 (i := j + 1) (by omega)
      have iq := hm7.idxN (k := .i64) (n := n) (i := j) (by omega)
      have lq := hm7.ld hD7 (i := j) (by omega)
      have hcj := c.ok _ _ (hD7 (j + 1) (by omega)) (hD7 j (by omega))
      have wj := wrap_pred j (by omega)
      have cj : decide ((1 : Int) ≤ ((j + 1 : Nat) : Int)) = true := decide_eq_true (by omega)
      cases hlj : c.lt d7[j + 1]! d7[j]!
      · have hlj' : decide (c.cf d7[j + 1]! d7[j]! < 0) = false := hlj
        rw [← ho7, show shiftDown c.lt (j + 1) d7 = d7 by unfold shiftDown; rw [hlj]; rfl] at ho
        simp only [go_sem, Nat.reduceEqDiff, Nat.reduceAdd, Nat.reduceLT, Nat.reduceLeDiff, reduceIte, g0, g1, g2, g3, g9, g10, g11, w4, w5, w6, cj, ij, lj, iq, lq, hcj, hlj', wj, show decide ((2 : Int) ≤ ((b - k : Nat) : Int)) = false from decide_eq_false (by omega)]
        refine Nx_of (s, k, d7) (by first | omega | (dsimp only; omega)) ?_
        simp only [go_sem, Nat.reduceEqDiff, Nat.reduceAdd, Nat.reduceLT, Nat.reduceLeDiff, reduceIte, g0, g1, g2, g3, g9, g10, w5]
        exact ⟨trivial, trivial, trivial, trivial, trivial, trivial, by omega, by omega, by omega, hm7, hD7, hs7, ho⟩
      · have hlj' : decide (c.cf d7[j + 1]! d7[j]! < 0) = true := hlj
        obtain ⟨m9, m10, t1, t2, ⟨d9, hm9⟩, hm10, hD10, hs10⟩ := hm7.swap hD7 (i := j + 1) (j := j) (by omega) (by omega)
        have i9 := hm9.idxN (k := .i64) (n := n) (i := j) (by omega)
        simp only [go_sem, Nat.reduceEqDiff, Nat.reduceAdd, Nat.reduceLT, Nat.reduceLeDiff, reduceIte, g0, g1, g2, g3, g9, g10, g11, cj, ij, lj, iq, lq, hcj, hlj', wj, t1, t2, i9]
        refine Nx_of (j, swp d7 (j + 1) j) (by first | omega | (dsimp only; omega)) ?_
        simp only [go_sem, Nat.reduceEqDiff, Nat.reduceAdd, Nat.reduceLT, Nat.reduceLeDiff, reduceIte, g0, g1, g2, g3, g9, g10]
        exact ⟨trivial, trivial, trivial, trivial, trivial, trivial, trivial, by omega, hm10, hD10, by rw [hs10, hs7], by rw [← ho7]; exact (shiftDown_go hlj).symm⟩
  · rw [if_neg h2', if_pos h3'] at ho
    have k1 : decide ((2 : Int) ≤ ((k - a : Nat) : Int)) = false := decide_eq_false (by omega)
    have k2 : decide ((2 : Int) ≤ ((b - k : Nat) : Int)) = true := decide_eq_true (by omega)
    simp only [go_sem, Nat.reduceEqDiff, Nat.reduceAdd, Nat.reduceLT, Nat.reduceLeDiff, reduceIte, g0, g1, g2, g3, g9, g10, c1, c2, c3, ik, lk, ip, lp, hc, hl', w1, w2, w3, w4, w5, w6, s1, s2, i5, k1, k2]
    refine WL_inv (α := Nat × Array AV) (fun q e mm => e 0 = .ref id 0 n ∧ e 1 = I64 a ∧ e 2 = I64 b ∧ e 3 = cv ∧ e 9 = I64 k ∧ e 10 = I64 (5 - ((s + 1 : Nat) : Int)) ∧ e 12 = I64 q.1 ∧ k < q.1 ∧ q.1 ≤ b ∧ MR m0 mm id E.sz q.2 ∧ AllD E q.2 ∧ q.2.size = d.size ∧ shiftUp c.lt b q.1 q.2 = shiftUp c.lt b (k + 1) d6) (fun q => b - q.1) (k + 1, d6) ?_ ?_
    · simp only [go_sem, Nat.reduceEqDiff, Nat.reduceAdd, Nat.reduceLT, Nat.reduceLeDiff, reduceIte, g0, g1, g2, g3, g9, g10]
      exact ⟨trivial, trivial, trivial, trivial, trivial, trivial, trivial, by omega, by omega, hm6, hD6, hs6, trivial⟩
    rintro ⟨j, d8⟩ e8 m8 ⟨g0, g1, g2, g3, g9, g10, g12, hkj, hjb, hm8, hD8, hs8, ho8⟩
    dsimp only at g12 hkj hjb hm8 hD8 hs8 ho8
    by_cases hjb' : j < b
    · have ij := hm8.idxN (k := .i64) (n := n) (i := j) (by omega)
      have lj := hm8.ld hD8 (i := j) (by omega)
      have iq := hm8.idxN (k := .i64) (n := n) (i := j - 1) (by omega)
      have lq := hm8.ld hD8 (i := j - 1) (by omega)
      have hcj := c.ok _ _ (hD8 j (by omega)) (hD8 (j - 1) (by omega))
      have wj := wrap_p1 j (by omega) (by omega)
      have wk := wrap_succ j (by omega)
      cases hlj : c.lt d8[j]! d8[j - 1]!
      · have hlj' : decide (c.cf d8[j]! d8[j - 1]! < 0) = false := hlj
        rw [← ho8, shiftUp_end fun _ => hlj] at ho
        simp only [go_sem, Nat.reduceEqDiff, Nat.reduceAdd, Nat.reduceLT, Nat.reduceLeDiff, reduceIte, g0, g1, g2, g3, g9, g10, g12, w5, show decide ((j : Int) < (b : Int)) = true from decide_eq_true (by omega), ij, lj, iq, lq, hcj, hlj', wj]
        refine Nx_of (s, k, d8) (by first | omega | (dsimp only; omega)) ?_
        simp only [go_sem, Nat.reduceEqDiff, Nat.reduceAdd, Nat.reduceLT, Nat.reduceLeDiff, reduceIte, g0, g1, g2, g3, g9, g10, w5]
        exact ⟨trivial, trivial, trivial, trivial, trivial, trivial, by omega, by omega, by omega, hm8, hD8, hs8, ho⟩
      · have hlj' : decide (c.cf d8[j]! d8[j - 1]! < 0) = true := hlj
        obtain ⟨m9, m10, t1, t2, ⟨d9, hm9⟩, hm10, hD10, hs10⟩ := hm8.swap hD8 (i := j) (j := j - 1) (by omega) (by omega)
        have i9 := hm9.idxN (k := .i64) (n := n) (i := j - 1) (by omega)
        simp only [go_sem, Nat.reduceEqDiff, Nat.reduceAdd, Nat.reduceLT, Nat.reduceLeDiff, reduceIte, g0, g1, g2, g3, g9, g10, g12, w5, show decide ((j : Int) < (b : Int)) = true from decide_eq_true (by omega), ij, lj, iq, lq, hcj, hlj', wj, t1, t2, i9, wk]
        refine Nx_of (j + 1, swp d8 j (j - 1)) (by first | omega | (dsimp only; omega)) ?_
        simp only [go_sem, Nat.reduceEqDiff, Nat.reduceAdd, Nat.reduceLT, Nat.reduceLeDiff, reduceIte, g0, g1, g2, g3, g9, g10]
        exact ⟨trivial, trivial, trivial, trivial, trivial, trivial, trivial, by omega, by omega, hm10, hD10, by rw [hs10, hs8], by rw [← ho8]; exact (shiftUp_go hjb' hlj).symm⟩
    · rw [← ho8, shiftUp_end fun h => absurd h hjb'] at ho
      simp only [go_sem, Nat.reduceEqDiff, Nat.reduceAdd, Nat.reduceLT, Nat.reduceLeDiff, reduceIte, g0, g1, g2, g3, g9, g10, g12, w5, show decide ((j : Int) < (b : Int)) = false from decide_eq_false (by omega)]
      refine Nx_of (s, k, d8) (by first | omega | (dsimp only; omega)) ?_
      simp only [go_sem, Nat.reduceEqDiff, Nat.reduceAdd, Nat.reduceLT, Nat.reduceLeDiff, reduceIte, g0, g1, g2, g3, g9, g10, w5]
      exact ⟨trivial, trivial, trivial, trivial, trivial, trivial, by omega, by omega, by omega, hm8, hD8, hs8, ho⟩
  · rw [if_neg h2', if_neg h3'] at ho
    have k1 : decide ((2 : Int) ≤ ((k - a : Nat) : Int)) = false := decide_eq_false (by omega)
    have k2 : decide ((2 : Int) ≤ ((b - k : Nat) : Int)) = false := decide_eq_false (by omega)
    simp only [go_sem, Nat.reduceEqDiff, Nat.reduceAdd, Nat.reduceLT, Nat.reduceLeDiff, reduceIte, g0, g1, g2, g3, g9, g10, c1, c2, c3, ik, lk, ip, lp, hc, hl', w1, w2, w3, w4, w5, w6, s1, s2, i5, k1, k2]
    refine Nx_of (s, k, d6) (by first | omega | (dsimp only; omega)) ?_
    simp only [go_sem, Nat.reduceEqDiff, Nat.reduceAdd, Nat.reduceLT, Nat.reduceLeDiff, reduceIte, g0, g1, g2, g3, g9, g10, w5]
    exact ⟨trivial, trivial, trivial, trivial, trivial, trivial, by omega, by omega, by omega, hm6, hD6, hs6, ho⟩
end Go.Ab.Srt
end
section
namespace Go.Ab.Srt
open Go.Sort
set_option maxRecDepth 8000
set_option maxHeartbeats 4000000
variable {ft : FuncId → Option AFn} {E : Els} {cv : AV} (c : CmpOK ft E cv) {id n : Nat} {m0 : Mem}
include c
structure MS (m0 m : Mem) (id sz sw : Nat) (d : Array AV) : Prop where
  mr : MR m0 m id sz d
  new : m0.blks.length ≤ sw
  old : id < m0.blks.length
  cnt : ∃ x : Int, m.blks[sw]? = some (.live [I64 x] 1)
omit c in
theorem wbr {f : FuncId} {fn : AFn} (hf : ft f = some fn) (hm : fn.md = .r) : ∀ (s : St) (as : List AV) (K : AV → St → Prop), WB ft f as s K = WR ft (.f f) as s.mem fun v m => K v (s.setMem m) := fun s as K => WB_r hf hm as s K
theorem order2_run {f : FuncId} (hf : ft f = some ⟨5, order2F E.sz E.lz, order2FR, .r⟩) {d : Array AV} {a b sw : Nat} (ha : a < n) (hb : b < n) (hd : n ≤ d.size) (hD : AllD E d) {m : Mem} (hm : MS m0 m id E.sz sw d)
    (K : AV → Mem → Prop) (hK : ∀ x y m', (x = a ∧ y = b ∨ x = b ∧ y = a) → MS m0 m' id E.sz sw d → K (.tup [I64 ((x : Nat) : Int), I64 ((y : Nat) : Int)]) m') : WR ft (.f f) [.ref id 0 n, I64 a, I64 b, .ptr sw 0 0, cv] m K := by
  rw [WR_f hf rfl]
  simp only [order2F, order2FR]
  obtain ⟨hr, hne, hol, x, hx⟩ := hm
  have ia := hr.idxN (k := .i64) (n := n) (i := a) (by omega)
  have la := hr.ld hD (i := a) (by omega)
  have ib := hr.idxN (k := .i64) (n := n) (i := b) (by omega)
  have lb := hr.ld hD (i := b) (by omega)
  have hc := c.ok _ _ (hD b (by omega)) (hD a (by omega))
  cases hl : c.lt d[b]! d[a]!
  · have hl' : decide (c.cf d[b]! d[a]! < 0) = false := hl
    simp only [go_sem, Nat.reduceEqDiff, Nat.reduceAdd, Nat.reduceLT, Nat.reduceLeDiff, reduceIte, ia, la, ib, lb, hc, hl']
    exact hK a b _ (.inl ⟨rfl, rfl⟩) ⟨hr, hne, hol, x, hx⟩
  · have hl' : decide (c.cf d[b]! d[a]! < 0) = true := hl
    have h7 := hr.setO hne hol (.live [I64 (IntKind.i64.wrap (x + 1))] 1)
    have hlen : sw < m.blks.length := (List.getElem?_eq_some_iff.1 hx).1
    simp only [go_sem, Nat.reduceEqDiff, Nat.reduceAdd, Nat.reduceLT, Nat.reduceLeDiff, reduceIte, ia, la, ib, lb, hc, hl', hx, Nat.zero_add]
    exact hK b a _ (.inr ⟨rfl, rfl⟩) ⟨h7, hne, hol, _, List.getElem?_set_self hlen⟩
theorem median_run {f po : FuncId} (hf : ft f = some ⟨6, medianF E.sz E.lz po, medianFR, .r⟩) (ho : ft po = some ⟨5, order2F E.sz E.lz, order2FR, .r⟩) {d : Array AV} {x y z sw : Nat} (hx : x < n) (hy : y < n) (hz : z < n) (hd : n ≤ d.size) (hD : AllD E d) {m : Mem} (hm : MS m0 m id E.sz sw d)
    (K : AV → Mem → Prop) (hK : ∀ p m', (p = x ∨ p = y ∨ p = z) → MS m0 m' id E.sz sw d → K (I64 ((p : Nat) : Int)) m') : WR ft (.f f) [.ref id 0 n, I64 x, I64 y, I64 z, .ptr sw 0 0, cv] m K := by
  have hw := wbr ho rfl
  rw [WR_f hf rfl]
  simp only [medianF, medianFR]
  simp only [go_sem, Nat.reduceEqDiff, Nat.reduceAdd, Nat.reduceLT, Nat.reduceLeDiff, reduceIte, hw]
  refine order2_run c ho hx hy hd hD hm _ fun a1 b1 m1 h1 hm1 => ?_
  simp only [go_sem, Nat.reduceEqDiff, Nat.reduceAdd, Nat.reduceLT, Nat.reduceLeDiff, reduceIte, hw]
  refine order2_run c ho (a := b1) (b := z) (by omega) hz hd hD hm1 _ fun a2 b2 m2 h2 hm2 => ?_
  simp only [go_sem, Nat.reduceEqDiff, Nat.reduceAdd, Nat.reduceLT, Nat.reduceLeDiff, reduceIte, hw]
  refine order2_run c ho (a := a1) (b := a2) (by omega) (by omega) hd hD hm2 _ fun a3 b3 m3 h3 hm3 => ?_
  simp only [go_sem, Nat.reduceEqDiff, Nat.reduceAdd, Nat.reduceLT, Nat.reduceLeDiff, reduceIte]
  exact hK b3 _ (by omega) hm3
theorem medianAdj_run {f pm po : FuncId} (hf : ft f = some ⟨4, medianAdjacentF E.sz E.lz pm, medianAdjacentFR, .r⟩) (hm' : ft pm = some ⟨6, medianF E.sz E.lz po, medianFR, .r⟩) (ho : ft po = some ⟨5, order2F E.sz E.lz, order2FR, .r⟩) (hn : n < 1073741824)
    {d : Array AV} {a sw : Nat} (h1 : 1 ≤ a) (h2 : a + 1 < n) (hd : n ≤ d.size) (hD : AllD E d) {m : Mem} (hm : MS m0 m id E.sz sw d)
    (K : AV → Mem → Prop) (hK : ∀ p m', (a ≤ p + 1 ∧ p ≤ a + 1) → MS m0 m' id E.sz sw d → K (I64 ((p : Nat) : Int)) m') : WR ft (.f f) [.ref id 0 n, I64 a, .ptr sw 0 0, cv] m K := by
  have hw := wbr hm' rfl
  rw [WR_f hf rfl]
  simp only [medianAdjacentF, medianAdjacentFR]
  simp only [go_sem, Nat.reduceEqDiff, Nat.reduceAdd, Nat.reduceLT, Nat.reduceLeDiff, reduceIte, hw, wrap_p1 a h1 (by omega), wrap_succ a (by omega)]
  refine median_run c hm' ho (x := a - 1) (y := a) (z := a + 1) (by omega) (by omega) (by omega) hd hD hm _ fun p m1 hp hm1 => ?_
  simp only [go_sem, Nat.reduceEqDiff, Nat.reduceAdd, Nat.reduceLT, Nat.reduceLeDiff, reduceIte]
  exact hK p _ (by omega) hm1
theorem choose_run {f pa pm po : FuncId} (hf : ft f = some ⟨4, choosePivotF E.sz E.lz pm pa, choosePivotFR, .r⟩) (ha' : ft pa = some ⟨4, medianAdjacentF E.sz E.lz pm, medianAdjacentFR, .r⟩) (hm' : ft pm = some ⟨6, medianF E.sz E.lz po, medianFR, .r⟩)
    (ho : ft po = some ⟨5, order2F E.sz E.lz, order2FR, .r⟩) (hn : n < 1073741824) {d : Array AV} {a b : Nat} (hab : a < b) (hb : b ≤ n) (hd : n ≤ d.size) (hD : AllD E d) (hid : id < m0.blks.length) {m : Mem} (hm : MR m0 m id E.sz d)
    (K : AV → Mem → Prop) (hK : ∀ p h m', a ≤ p → p < b → (h = 0 ∨ h = 1 ∨ h = 2) → MR m0 m' id E.sz d → K (.tup [I64 ((p : Nat) : Int), I64 ((h : Nat) : Int)]) m') : WR ft (.f f) [.ref id 0 n, I64 a, I64 b, cv] m K := by
  have hw1 := wbr ha' rfl
  have hw2 := wbr hm' rfl
  rw [WR_f hf rfl]
  simp only [choosePivotF, choosePivotFR]
  have w0 := wrap_subN b a (by omega) (by omega)
  have q0 := quo_nat (b - a) 4 (by omega) (by omega)
  have hq : 4 * ((b - a) / 4) ≤ b - a := by omega
  have hq2 : b - a < 4 * ((b - a) / 4) + 4 := by omega
  generalize (b - a) / 4 = q at q0 hq hq2
  have w1 : IntKind.i64.wrap ((q : Int) * 1) = (q : Int) := by rw [wrap_i64 _ (by omega) (by omega)]; omega
  have w2 : IntKind.i64.wrap ((q : Int) * 2) = ((q * 2 : Nat) : Int) := by rw [wrap_i64 _ (by omega) (by omega)]; omega
  have w3 : IntKind.i64.wrap ((q : Int) * 3) = ((q * 3 : Nat) : Int) := by rw [wrap_i64 _ (by omega) (by omega)]; omega
  have a1 := wrap_addN a q (by omega) (by omega)
  have a2 := wrap_addN a (q * 2) (by omega) (by omega)
  have a3 := wrap_addN a (q * 3) (by omega) (by omega)
  have hms : MS m0 ⟨m.blks ++ [.live [I64 0] 1], m.toks⟩ id E.sz m.blks.length d := ⟨hm.push _, hm.len, hid, 0, by simp⟩
  have nb : newBlk m [I64 0] 1 = ⟨m.blks ++ [.live [I64 0] 1], m.toks⟩ := rfl
  have e4 : (I64 4) = I64 ((4 : Nat) : Int) := rfl
  -- the end: what the counter says
  have fin : ∀ (p : Nat) (m' : Mem), a ≤ p → p < b → MS m0 m' id E.sz m.blks.length d → ∃ x : Int, m'.blks[m.blks.length]? = some (.live [I64 x] 1) ∧ K (.tup [I64 ((p : Nat) : Int), I64 0]) m' ∧ K (.tup [I64 ((p : Nat) : Int), I64 1]) m' ∧ K (.tup [I64 ((p : Nat) : Int), I64 2]) m' := by
    intro p m' h1 h2 h3
    obtain ⟨x, hx⟩ := h3.cnt
    exact ⟨x, hx, hK p 0 _ h1 h2 (.inl rfl) h3.mr, hK p 1 _ h1 h2 (.inr (.inl rfl)) h3.mr, hK p 2 _ h1 h2 (.inr (.inr rfl)) h3.mr⟩
  by_cases h8 : 8 ≤ b - a
  case neg =>
    obtain ⟨x, hx, k0, k1, k2⟩ := fin (a + q * 2) _ (by omega) (by omega) hms
    cases x0 : (x == 0) <;> cases x12 : (x == 12) <;>
    (simp only [go_sem, Nat.reduceEqDiff, Nat.reduceAdd, Nat.reduceLT, Nat.reduceLeDiff, reduceIte, w0, nb, e4, q0, w1, w2, w3, a1, a2, a3, show decide ((8 : Int) ≤ ((b - a : Nat) : Int)) = false from decide_eq_false (by omega), hx, x0, x12, Nat.zero_add]
     first | exact k0 | exact k1 | exact k2)
  have c8 : decide ((8 : Int) ≤ ((b - a : Nat) : Int)) = true := decide_eq_true (by omega)
  by_cases h50 : 50 ≤ b - a
  case neg =>
    simp only [go_sem, Nat.reduceEqDiff, Nat.reduceAdd, Nat.reduceLT, Nat.reduceLeDiff, reduceIte, w0, nb, e4, q0, w1, w2, w3, a1, a2, a3, c8, show decide ((50 : Int) ≤ ((b - a : Nat) : Int)) = false from decide_eq_false (by omega), hw2]
    refine median_run c hm' ho (x := a + q) (y := a + q * 2) (z := a + q * 3) (by omega) (by omega) (by omega) hd hD hms _ fun p m1 hp hm1 => ?_
    obtain ⟨x, hx, k0, k1, k2⟩ := fin p _ (by omega) (by omega) hm1
    cases x0 : (x == 0) <;> cases x12 : (x == 12) <;>
    (simp only [go_sem, Nat.reduceEqDiff, Nat.reduceAdd, Nat.reduceLT, Nat.reduceLeDiff, reduceIte, hx, x0, x12, Nat.zero_add]
     first | exact k0 | exact k1 | exact k2)
  simp only [go_sem, Nat.reduceEqDiff, Nat.reduceAdd, Nat.reduceLT, Nat.reduceLeDiff, reduceIte, w0, nb, e4, q0, w1, w2, w3, a1, a2, a3, c8, show decide ((50 : Int) ≤ ((b - a : Nat) : Int)) = true from decide_eq_true (by omega), hw1]
  refine medianAdj_run c ha' hm' ho hn (a := a + q) (by omega) (by omega) hd hD hms _ fun p1 m1 hp1 hm1 => ?_
  simp only [go_sem, Nat.reduceEqDiff, Nat.reduceAdd, Nat.reduceLT, Nat.reduceLeDiff, reduceIte, hw1]
  refine medianAdj_run c ha' hm' ho hn (a := a + q * 2) (by omega) (by omega) hd hD hm1 _ fun p2 m2 hp2 hm2 => ?_
  simp only [go_sem, Nat.reduceEqDiff, Nat.reduceAdd, Nat.reduceLT, Nat.reduceLeDiff, reduceIte, hw1]
  refine medianAdj_run c ha' hm' ho hn (a := a + q * 3) (by omega) (by omega) hd hD hm2 _ fun p3 m3 hp3 hm3 => ?_
  simp only [go_sem, Nat.reduceEqDiff, Nat.reduceAdd, Nat.reduceLT, Nat.reduceLeDiff, reduceIte, hw2]
  refine median_run c hm' ho (x := p1) (y := p2) (z := p3) (by omega) (by omega) (by omega) hd hD hm3 _ fun p m4 hp hm4 => ?_
  obtain ⟨x, hx, k0, k1, k2⟩ := fin p _ (by omega) (by omega) hm4
  cases x0 : (x == 0) <;> cases x12 : (x == 12) <;>
  (simp only [go_sem, Nat.reduceEqDiff, Nat.reduceAdd, Nat.reduceLT, Nat.reduceLeDiff, reduceIte, hx, x0, x12, Nat.zero_add]
   first | exact k0 | exact k1 | exact k2)
end Go.Ab.Srt
end
