/-
 A part of the proofs over this seat.
 (The texts Ad1 Ad2 Ad2b Ad3 Ad4 Ad5 Ad6 Ad7 Ad8 Ad9, one behind the other.)
-/
import Derived.Test.YtlmhadnbcmjaeaaGreatA0
import Derived.Sort.AssemblyPlain
set_option linter.unusedSimpArgs false
set_option linter.unusedVariables false
set_option linter.unusedSectionVars false
section
namespace Go.Ab
open Go.Sort
instance instInhabitedAV : Inhabited AV := ⟨.undef⟩
structure Els where
 sz : Nat
 lz : Option Nat
 D : AV → Prop
 len : ∀ x, D x → x.cells.length = sz
 sol : ∀ x, D x → x.cells.all AV.solid = true
 rd : ∀ x, D x → readCells x.cells 0 lz = some x
 wr : ∀ x y, D x → D y → writeCells x 0 y.cells = some y
def AllD (E : Els) (d : Array AV) : Prop := ∀ i, i < d.size → E.D d[i]!
structure MR (m m' : Mem) (id sz : Nat) (d : Array AV) : Prop where
 blk : m'.blks[id]? = some (.live d.toList sz)
 len : m.blks.length ≤ m'.blks.length
 toks : m'.toks = m.toks
 old : ∀ i, i < m.blks.length → i ≠ id → m'.blks[i]? = m.blks[i]?
section
variable {m m1 m2 : Mem} {id sz : Nat} {d d' : Array AV} {E : Els}
theorem MR.refl (h : m.blks[id]? = some (.live d.toList sz)) : MR m m id sz d := ⟨h, Nat.le_refl _, rfl, fun _ _ _ => rfl⟩
theorem MR.trans (h : MR m m1 id sz d) (k : MR m1 m2 id sz d') : MR m m2 id sz d' :=
 ⟨k.blk, Nat.le_trans h.len k.len, k.toks.trans h.toks, fun i hi hne => (k.old i (Nat.lt_of_lt_of_le hi h.len) hne).trans (h.old i hi hne)⟩
theorem MR.lt (h : MR m m1 id sz d) : id < m1.blks.length := (List.getElem?_eq_some_iff.1 h.blk).1
theorem MR.push (h : MR m m1 id sz d) (b : Blk) : MR m ⟨m1.blks ++ [b], m1.toks⟩ id sz d :=
 ⟨by simp only; rw [List.getElem?_append_left h.lt]; exact h.blk, by simp; have := h.len; omega, h.toks, fun i hi hne => by simp only; rw [List.getElem?_append_left (by have := h.len; omega)]; exact h.old i hi hne⟩
theorem MR.setO (h : MR m m1 id sz d) {j : Nat} (hj : m.blks.length ≤ j) (hid : id < m.blks.length) (b : Blk) : MR m ⟨m1.blks.set j b, m1.toks⟩ id sz d :=
 ⟨by simp only; rw [List.getElem?_set_ne (by omega)]; exact h.blk, by simp; exact h.len, h.toks, fun i hi hne => by simp only; rw [List.getElem?_set_ne (by omega)]; exact h.old i hi hne⟩
theorem MR.put (h : MR m m1 id sz d) (d' : Array AV) : MR m ⟨m1.blks.set id (.live d'.toList sz), m1.toks⟩ id sz d' :=
 ⟨by simp only; rw [List.getElem?_set_self h.lt], by simp; exact h.len, h.toks, fun i hi hne => by simp only; rw [List.getElem?_set_ne (Ne.symm hne)]; exact h.old i hi hne⟩
theorem MR.idx (h : MR m m1 id sz d) {n : Nat} {k : IntKind} {i : Int} (h0 : 0 ≤ i) (h1 : i < (n : Int)) : idxAt m1 (.ref id 0 n) (.int k i) sz = some (.ptr id i.toNat 0) := by
 rw [idxAt_ref, if_pos ⟨⟨h0, h1⟩, by rw [lsz_eq, h.blk]; rfl⟩, Nat.zero_add]
theorem MR.lenE (h : MR m m1 id sz d) (n : Nat) : lenAt m1 (.ref id 0 n) = some (.int .i64 n) := by
 rw [lenAt_ref, if_pos (by rw [lsz_eq, h.blk]; rfl)]
theorem get_bang {i : Nat} (h : i < d.size) : d.toList[i]? = some d[i]! := by
 rw [Array.getElem?_toList, Array.getElem?_eq_getElem h, getElem!_pos d i h]
theorem MR.ld (h : MR m m1 id E.sz d) (hD : AllD E d) {i : Nat} (hi : i < d.size) : loadAt m1 (.ptr id i 0) E.lz = some d[i]! := by
 simp only [loadAt_ptr, h.blk, ldBlk_live, get_bang hi, ldEl_some]
 exact E.rd _ (hD i hi)
theorem MR.st (h : MR m m1 id E.sz d) (hD : AllD E d) {i : Nat} (hi : i < d.size) {v : AV} (hv : E.D v) : storeAt m1 (.ptr id i 0) v E.sz = some ⟨m1.blks.set id (.live (d.setIfInBounds i v).toList E.sz), m1.toks⟩ := by
 simp only [storeAt_ptr, h.blk, stBlk_live, get_bang hi, stEl_some]
 rw [if_pos ⟨E.len v hv, by rw [solids_eq]; exact E.sol v hv⟩, E.wr _ _ (hD i hi) hv]
 simp
theorem AllD.set (hD : AllD E d) {i : Nat} {v : AV} (hv : E.D v) : AllD E (d.setIfInBounds i v) := by
 intro j hj
 rw [Array.size_setIfInBounds] at hj
 rw [getElem!_pos _ j (by simpa using hj), Array.getElem_setIfInBounds]
 split
 ·exact hv
 ·have := hD j hj; rwa [getElem!_pos d j hj] at this
theorem swp_size (d : Array AV) (i j : Nat) : (swp d i j).size = d.size := by simp [swp]
theorem AllD.swp (hD : AllD E d) {i j : Nat} (hi : i < d.size) (hj : j < d.size) : AllD E (Go.Sort.swp d i j) := (hD.set (hD j hj)).set (hD i hi)
theorem MR.swap (h : MR m m1 id E.sz d) (hD : AllD E d) {i j : Nat} (hi : i < d.size) (hj : j < d.size) : ∃ m2 m3, storeAt m1 (.ptr id i 0) d[j]! E.sz = some m2 ∧ storeAt m2 (.ptr id j 0) d[i]! E.sz = some m3 ∧
  (∃ d2, MR m m2 id E.sz d2) ∧ MR m m3 id E.sz (Go.Sort.swp d i j) ∧ AllD E (Go.Sort.swp d i j) ∧ (Go.Sort.swp d i j).size = d.size := by
 refine ⟨_, _, h.st hD hi (hD j hj), (h.put _).st (hD.set (hD j hj)) (by simpa using hj) (hD i hi), ⟨_, h.put _⟩, ?_, hD.swp hi hj, swp_size _ _ _⟩
 exact (h.put _).put _
theorem MR.idxN (h : MR m m1 id sz d) {n i : Nat} {k : IntKind} (h1 : i < n) : idxAt m1 (.ref id 0 n) (.int k (i : Int)) sz = some (.ptr id i 0) := by
 have := h.idx (k := k) (n := n) (i := (i : Int)) (by omega) (by omega)
 rwa [Int.toNat_natCast] at this
end
structure CmpOK (ft : FuncId → Option AFn) (E : Els) (cv : AV) where
 cf : AV → AV → Int
 ok : ∀ x y, E.D x → E.D y → ∀ (s : St) (K : AV → St → Prop), @WAH ft cv [x, y] s ⟨K⟩ = K (I64 (cf x y)) s
def CmpOK.lt {ft : FuncId → Option AFn} {E : Els} {cv : AV} (c : CmpOK ft E cv) (x y : AV) : Bool := decide (c.cf x y < 0)
end Go.Ab
end
section
namespace Go.Ab.Srt
def insertionSortF (sz : Nat) (lz : Option Nat) : ACode := Sq [Mv 10 1,Bc .add 11 10 1,Mv 8 11]
 (.block 0 (.loop (.seq (Sq [Mv 12 8,Mv 13 2,Bn .lss 14 12 13]
 (.cond (.t 14) (.skip)
 (.exit 0)))
 (.seq (.block 1 (Sq [Mv 17 8,Mv 9 17]
 (.block 2 (.loop (.seq (Sq [Mv 18 9,Mv 19 1,Bn .gtr 20 18 19,Mv 21 20,Og 22 21 true (.mov (.t 3)),Og 23 21 true (.mov (.t 0)),Og 24 21 true (.mov (.t 9)),Og 25 21 true (.idx (.t 23) (.t 24) sz),Og 26 21 true (.load (.t 25) lz),Og 27 21 true (.mov (.t 0)),Og 28 21 true (.mov (.t 9)),Og 29 21 true (.bin .sub (.t 28) (Ci 1)),Og 30 21 true (.idx (.t 27) (.t 29) sz),Og 31 21 true (.load (.t 30) lz),Og 32 21 true (.callv (.t 22) [.t 26,.t 31]),Og 33 21 true (.bin .lss (.t 32) (Ci 0)),Ob 34 (.pick (.t 21) (.t 33) (.c (.bool false)))]
 (.cond (.t 34) (.skip)
 (.exit 2)))
 (.seq (.block 3 (.region [Mv 37 0,Mv 38 9,Mv 39 0,Mv 40 9,Bc .sub 41 40 1,Mv 42 0,Mv 43 9,Bc .sub 44 43 1,Ob 45 (.idx (.t 42) (.t 44) sz),Ob 46 (.load (.t 45) lz),Mv 47 0,Mv 48 9,Ob 49 (.idx (.t 47) (.t 48) sz),Ob 50 (.load (.t 49) lz),Ob 51 (.idx (.t 37) (.t 38) sz),On (.store (.t 51) (.t 46) sz),Ob 52 (.idx (.t 39) (.t 41) sz),On (.store (.t 52) (.t 50) sz)]))
 (.region [Mv 35 9,Bc .sub 36 35 1,Mv 9 36])))))))
 (.region [Mv 15 8,Bc .add 16 15 1,Mv 8 16])))))
def insertionSortFR : List Res := []
def siftDownF (sz : Nat) (lz : Option Nat) : ACode := Sq [Mv 12 1,Mv 10 12]
 (.block 0 (.loop (.block 1 (Sq [Mv 13 10,Ob 14 (.bin .mul (Ci 2) (.t 13)),Bc .add 15 14 1,Mv 11 15]
 (.seq (Sq [Mv 16 11,Mv 17 2,Bn .geq 18 16 17]
 (.cond (.t 18) (.exit 0)
 (.skip)))
 (.seq (Sq [Mv 19 11,Bc .add 20 19 1,Mv 21 2,Bn .lss 22 20 21,Mv 23 22,Og 24 23 true (.mov (.t 4)),Og 25 23 true (.mov (.t 0)),Og 26 23 true (.mov (.t 3)),Og 27 23 true (.mov (.t 11)),Og 28 23 true (.bin .add (.t 26) (.t 27)),Og 29 23 true (.idx (.t 25) (.t 28) sz),Og 30 23 true (.load (.t 29) lz),Og 31 23 true (.mov (.t 0)),Og 32 23 true (.mov (.t 3)),Og 33 23 true (.mov (.t 11)),Og 34 23 true (.bin .add (.t 32) (.t 33)),Og 35 23 true (.bin .add (.t 34) (Ci 1)),Og 36 23 true (.idx (.t 31) (.t 35) sz),Og 37 23 true (.load (.t 36) lz),Og 38 23 true (.callv (.t 24) [.t 30,.t 37]),Og 39 23 true (.bin .lss (.t 38) (Ci 0)),Ob 40 (.pick (.t 23) (.t 39) (.c (.bool false)))]
 (.cond (.t 40) (.region [Mv 41 11,Bc .add 42 41 1,Mv 11 42])
 (.skip)))
 (.seq (Sq [Mv 43 4,Mv 44 0,Mv 45 3,Mv 46 10,Bn .add 47 45 46,Ob 48 (.idx (.t 44) (.t 47) sz),Ob 49 (.load (.t 48) lz),Mv 50 0,Mv 51 3,Mv 52 11,Bn .add 53 51 52,Ob 54 (.idx (.t 50) (.t 53) sz),Ob 55 (.load (.t 54) lz),Ob 56 (.callv (.t 43) [.t 49,.t 55]),Bc .lss 57 56 0,Ob 58 (.not (.t 57))]
 (.cond (.t 58) (.ret)
 (.skip)))
 (Sq [Mv 59 0,Mv 60 3,Mv 61 10,Bn .add 62 60 61,Mv 63 0,Mv 64 3,Mv 65 11,Bn .add 66 64 65,Mv 67 0,Mv 68 3,Mv 69 11,Bn .add 70 68 69,Ob 71 (.idx (.t 67) (.t 70) sz),Ob 72 (.load (.t 71) lz),Mv 73 0,Mv 74 3,Mv 75 10,Bn .add 76 74 75,Ob 77 (.idx (.t 73) (.t 76) sz),Ob 78 (.load (.t 77) lz),Ob 79 (.idx (.t 59) (.t 62) sz),On (.store (.t 79) (.t 72) sz),Ob 80 (.idx (.t 63) (.t 66) sz),On (.store (.t 80) (.t 78) sz)]
 (.region [Mv 81 11,Mv 10 81])))))))))
def siftDownFR : List Res := []
def heapSortF (sz : Nat) (lz : Option Nat) (p_siftDown : FuncId) : ACode := Sq [Mv 13 1,Mv 8 13]
 (Sq [Mc 9 0]
 (Sq [Mv 14 2,Mv 15 1,Bn .sub 16 14 15,Mv 10 16]
 (.seq (Sq [Mv 17 10,Bc .sub 18 17 1,Bc .quo 19 18 2,Mv 11 19]
 (.block 0 (.loop (.seq (Sq [Mv 20 11,Bc .geq 21 20 0]
 (.cond (.t 21) (.skip)
 (.exit 0)))
 (.seq (.block 1 (.region [Mv 24 0,Mv 25 11,Mv 26 10,Mv 27 8,Mv 28 3,Ob 29 (.call p_siftDown [.t 24,.t 25,.t 26,.t 27,.t 28])]))
 (.region [Mv 22 11,Bc .sub 23 22 1,Mv 11 23]))))))
 (Sq [Mv 30 10,Bc .sub 31 30 1,Mv 12 31]
 (.block 2 (.loop (.seq (Sq [Mv 32 12,Bc .geq 33 32 0]
 (.cond (.t 33) (.skip)
 (.exit 2)))
 (.seq (.block 3 (Sq [Mv 36 0,Mv 37 8,Mv 38 0,Mv 39 8,Mv 40 12,Bn .add 41 39 40,Mv 42 0,Mv 43 8,Mv 44 12,Bn .add 45 43 44,Ob 46 (.idx (.t 42) (.t 45) sz),Ob 47 (.load (.t 46) lz),Mv 48 0,Mv 49 8,Ob 50 (.idx (.t 48) (.t 49) sz),Ob 51 (.load (.t 50) lz),Ob 52 (.idx (.t 36) (.t 37) sz),On (.store (.t 52) (.t 47) sz),Ob 53 (.idx (.t 38) (.t 41) sz),On (.store (.t 53) (.t 51) sz)]
 (.region [Mv 54 0,Mv 55 9,Mv 56 12,Mv 57 8,Mv 58 3,Ob 59 (.call p_siftDown [.t 54,.t 55,.t 56,.t 57,.t 58])])))
 (.region [Mv 34 12,Bc .sub 35 34 1,Mv 12 35])))))))))
def heapSortFR : List Res := []
def pdqsortF (sz : Nat) (lz : Option Nat) (p_breakPatterns : FuncId) (p_choosePivot : FuncId) (p_heapSort : FuncId) (p_insertionSort : FuncId) (p_partialInsertionSort : FuncId) (p_partition : FuncId) (p_partitionEqual : FuncId) (p_pdqsort : FuncId) (p_reverseRange : FuncId) : ACode := Sq [Ob 10 (.mov (.c (.bool true)))]
 (Sq [Ob 11 (.mov (.c (.bool true)))]
 (.block 0 (.loop (.block 1 (Sq [Mv 21 2,Mv 22 1,Bn .sub 23 21 22,Mv 12 23]
 (.seq (Sq [Mv 24 12,Bc .leq 25 24 12]
 (.cond (.t 25) (Sq [Mv 26 0,Mv 27 1,Mv 28 2,Mv 29 4,Ob 30 (.call p_insertionSort [.t 26,.t 27,.t 28,.t 29])]
 (.ret))
 (.skip)))
 (.seq (Sq [Mv 31 3,Bc .eql 32 31 0]
 (.cond (.t 32) (Sq [Mv 33 0,Mv 34 1,Mv 35 2,Mv 36 4,Ob 37 (.call p_heapSort [.t 33,.t 34,.t 35,.t 36])]
 (.ret))
 (.skip)))
 (.seq (Sq [Mv 38 10,Ob 39 (.not (.t 38))]
 (.cond (.t 39) (Sq [Mv 40 0,Mv 41 1,Mv 42 2,Mv 43 4,Ob 44 (.call p_breakPatterns [.t 40,.t 41,.t 42,.t 43])]
 (.region [Mv 45 3,Bc .sub 46 45 1,Mv 3 46]))
 (.skip)))
 (Sq [Mv 48 0,Mv 49 1,Mv 50 2,Mv 51 4,Ob 52 (.call p_choosePivot [.t 48,.t 49,.t 50,.t 51]),Mv 47 52,Xt 53 47 0,Xt 54 47 1,Mv 13 53,Mv 14 54]
 (.seq (Sq [Mv 55 14,Bc .eql 56 55 2]
 (.cond (.t 56) (Sq [Mv 57 0,Mv 58 1,Mv 59 2,Mv 60 4,Ob 61 (.call p_reverseRange [.t 57,.t 58,.t 59,.t 60])]
 (Sq [Mv 62 2,Bc .sub 63 62 1,Mv 64 13,Mv 65 1,Bn .sub 66 64 65,Bn .sub 67 63 66,Mv 13 67]
 (.region [Mc 14 1])))
 (.skip)))
 (.seq (Sq [Mv 68 10,Mv 69 68,Og 70 69 true (.mov (.t 11)),Ob 71 (.pick (.t 69) (.t 70) (.c (.bool false))),Mv 72 71,Og 73 72 true (.mov (.t 14)),Og 74 72 true (.bin .eql (.t 73) (Ci 1)),Ob 75 (.pick (.t 72) (.t 74) (.c (.bool false)))]
 (.cond (.t 75) (Sq [Mv 76 0,Mv 77 1,Mv 78 2,Mv 79 4,Ob 80 (.call p_partialInsertionSort [.t 76,.t 77,.t 78,.t 79])]
 (.cond (.t 80) (.ret)
 (.skip)))
 (.skip)))
 (.seq (Sq [Mv 81 1,Bc .gtr 82 81 0,Mv 83 82,Og 84 83 true (.mov (.t 4)),Og 85 83 true (.mov (.t 0)),Og 86 83 true (.mov (.t 1)),Og 87 83 true (.bin .sub (.t 86) (Ci 1)),Og 88 83 true (.idx (.t 85) (.t 87) sz),Og 89 83 true (.load (.t 88) lz),Og 90 83 true (.mov (.t 0)),Og 91 83 true (.mov (.t 13)),Og 92 83 true (.idx (.t 90) (.t 91) sz),Og 93 83 true (.load (.t 92) lz),Og 94 83 true (.callv (.t 84) [.t 89,.t 93]),Og 95 83 true (.bin .lss (.t 94) (Ci 0)),Og 96 83 true (.not (.t 95)),Ob 97 (.pick (.t 83) (.t 96) (.c (.bool false)))]
 (.cond (.t 97) (Sq [Mv 98 0,Mv 99 1,Mv 100 2,Mv 101 13,Mv 102 4,Ob 103 (.call p_partitionEqual [.t 98,.t 99,.t 100,.t 101,.t 102]),Mv 15 103]
 (Sq [Mv 104 15,Mv 1 104]
 (.exit 1)))
 (.skip)))
 (Sq [Mv 106 0,Mv 107 1,Mv 108 2,Mv 109 13,Mv 110 4,Ob 111 (.call p_partition [.t 106,.t 107,.t 108,.t 109,.t 110]),Mv 105 111,Xt 112 105 0,Xt 113 105 1,Mv 16 112,Mv 17 113]
 (Sq [Mv 114 17,Mv 11 114]
 (Sq [Mv 115 16,Mv 116 1,Bn .sub 117 115 116,Mv 118 2,Mv 119 16,Bn .sub 120 118 119,Mv 18 117,Mv 19 120]
 (Sq [Mv 121 12,Bc .quo 122 121 8,Mv 20 122]
 (Sq [Mv 123 18,Mv 124 19,Bn .lss 125 123 124]
 (.cond (.t 125) (Sq [Mv 126 18,Mv 127 20,Bn .geq 128 126 127,Mv 10 128]
 (Sq [Mv 129 0,Mv 130 1,Mv 131 16,Mv 132 3,Mv 133 4,Ob 134 (.call p_pdqsort [.t 129,.t 130,.t 131,.t 132,.t 133])]
 (.region [Mv 135 16,Bc .add 136 135 1,Mv 1 136])))
 (Sq [Mv 137 19,Mv 138 20,Bn .geq 139 137 138,Mv 10 139]
 (Sq [Mv 140 0,Mv 141 16,Bc .add 142 141 1,Mv 143 2,Mv 144 3,Mv 145 4,Ob 146 (.call p_pdqsort [.t 140,.t 142,.t 143,.t 144,.t 145])]
 (.region [Mv 147 16,Mv 2 147])))))))))))))))))))))
def pdqsortFR : List Res := []
def partitionEqualF (sz : Nat) (lz : Option Nat) : ACode := Sq [Mc 10 0]
 (Sq [Mv 13 0,Mv 14 1,Mv 15 0,Mv 16 3,Mv 17 0,Mv 18 3,Ob 19 (.idx (.t 17) (.t 18) sz),Ob 20 (.load (.t 19) lz),Mv 21 0,Mv 22 1,Ob 23 (.idx (.t 21) (.t 22) sz),Ob 24 (.load (.t 23) lz),Ob 25 (.idx (.t 13) (.t 14) sz),On (.store (.t 25) (.t 20) sz),Ob 26 (.idx (.t 15) (.t 16) sz),On (.store (.t 26) (.t 24) sz)]
 (Sq [Mv 27 1,Bc .add 28 27 1,Mv 29 2,Bc .sub 30 29 1,Mv 11 28,Mv 12 30]
 (.seq (.block 0 (.loop (.block 1 (.seq (.block 2 (.loop (.seq (Sq [Mv 31 11,Mv 32 12,Bn .leq 33 31 32,Mv 34 33,Og 35 34 true (.mov (.t 4)),Og 36 34 true (.mov (.t 0)),Og 37 34 true (.mov (.t 1)),Og 38 34 true (.idx (.t 36) (.t 37) sz),Og 39 34 true (.load (.t 38) lz),Og 40 34 true (.mov (.t 0)),Og 41 34 true (.mov (.t 11)),Og 42 34 true (.idx (.t 40) (.t 41) sz),Og 43 34 true (.load (.t 42) lz),Og 44 34 true (.callv (.t 35) [.t 39,.t 43]),Og 45 34 true (.bin .lss (.t 44) (Ci 0)),Og 46 34 true (.not (.t 45)),Ob 47 (.pick (.t 34) (.t 46) (.c (.bool false)))]
 (.cond (.t 47) (.skip)
 (.exit 2)))
 (.block 3 (.region [Mv 48 11,Bc .add 49 48 1,Mv 11 49])))))
 (.seq (.block 4 (.loop (.seq (Sq [Mv 50 11,Mv 51 12,Bn .leq 52 50 51,Mv 53 52,Og 54 53 true (.mov (.t 4)),Og 55 53 true (.mov (.t 0)),Og 56 53 true (.mov (.t 1)),Og 57 53 true (.idx (.t 55) (.t 56) sz),Og 58 53 true (.load (.t 57) lz),Og 59 53 true (.mov (.t 0)),Og 60 53 true (.mov (.t 12)),Og 61 53 true (.idx (.t 59) (.t 60) sz),Og 62 53 true (.load (.t 61) lz),Og 63 53 true (.callv (.t 54) [.t 58,.t 62]),Og 64 53 true (.bin .lss (.t 63) (Ci 0)),Ob 65 (.pick (.t 53) (.t 64) (.c (.bool false)))]
 (.cond (.t 65) (.skip)
 (.exit 4)))
 (.block 5 (.region [Mv 66 12,Bc .sub 67 66 1,Mv 12 67])))))
 (.seq (Sq [Mv 68 11,Mv 69 12,Bn .gtr 70 68 69]
 (.cond (.t 70) (.exit 0)
 (.skip)))
 (Sq [Mv 71 0,Mv 72 11,Mv 73 0,Mv 74 12,Mv 75 0,Mv 76 12,Ob 77 (.idx (.t 75) (.t 76) sz),Ob 78 (.load (.t 77) lz),Mv 79 0,Mv 80 11,Ob 81 (.idx (.t 79) (.t 80) sz),Ob 82 (.load (.t 81) lz),Ob 83 (.idx (.t 71) (.t 72) sz),On (.store (.t 83) (.t 78) sz),Ob 84 (.idx (.t 73) (.t 74) sz),On (.store (.t 84) (.t 82) sz)]
 (Sq [Mv 85 11,Bc .add 86 85 1,Mv 11 86]
 (.region [Mv 87 12,Bc .sub 88 87 1,Mv 12 88])))))))))
 (Sq [Mv 89 11,Mv 10 89]
 (.ret)))))
def partitionEqualFR : List Res := [.t 10]
def partialInsertionSortF (sz : Nat) (lz : Option Nat) : ACode := Sq [Ob 8 (.mov (.c (.bool false)))]
 (Sq [Mv 13 1,Bc .add 14 13 1,Mv 9 14]
 (.seq (Sq [Mc 10 0]
 (.block 0 (.loop (.seq (Sq [Mv 15 10,Bc .lss 16 15 5]
 (.cond (.t 16) (.skip)
 (.exit 0)))
 (.seq (.block 1 (.seq (.block 2 (.loop (.seq (Sq [Mv 19 9,Mv 20 2,Bn .lss 21 19 20,Mv 22 21,Og 23 22 true (.mov (.t 3)),Og 24 22 true (.mov (.t 0)),Og 25 22 true (.mov (.t 9)),Og 26 22 true (.idx (.t 24) (.t 25) sz),Og 27 22 true (.load (.t 26) lz),Og 28 22 true (.mov (.t 0)),Og 29 22 true (.mov (.t 9)),Og 30 22 true (.bin .sub (.t 29) (Ci 1)),Og 31 22 true (.idx (.t 28) (.t 30) sz),Og 32 22 true (.load (.t 31) lz),Og 33 22 true (.callv (.t 23) [.t 27,.t 32]),Og 34 22 true (.bin .lss (.t 33) (Ci 0)),Og 35 22 true (.not (.t 34)),Ob 36 (.pick (.t 22) (.t 35) (.c (.bool false)))]
 (.cond (.t 36) (.skip)
 (.exit 2)))
 (.block 3 (.region [Mv 37 9,Bc .add 38 37 1,Mv 9 38])))))
 (.seq (Sq [Mv 39 9,Mv 40 2,Bn .eql 41 39 40]
 (.cond (.t 41) (Sq [Ob 8 (.mov (.c (.bool true)))]
 (.ret))
 (.skip)))
 (.seq (Sq [Mv 42 2,Mv 43 1,Bn .sub 44 42 43,Bc .lss 45 44 50]
 (.cond (.t 45) (Sq [Ob 8 (.mov (.c (.bool false)))]
 (.ret))
 (.skip)))
 (Sq [Mv 46 0,Mv 47 9,Mv 48 0,Mv 49 9,Bc .sub 50 49 1,Mv 51 0,Mv 52 9,Bc .sub 53 52 1,Ob 54 (.idx (.t 51) (.t 53) sz),Ob 55 (.load (.t 54) lz),Mv 56 0,Mv 57 9,Ob 58 (.idx (.t 56) (.t 57) sz),Ob 59 (.load (.t 58) lz),Ob 60 (.idx (.t 46) (.t 47) sz),On (.store (.t 60) (.t 55) sz),Ob 61 (.idx (.t 48) (.t 50) sz),On (.store (.t 61) (.t 59) sz)]
 (.seq (Sq [Mv 62 9,Mv 63 1,Bn .sub 64 62 63,Bc .geq 65 64 2]
 (.cond (.t 65) (Sq [Mv 66 9,Bc .sub 67 66 1,Mv 11 67]
 (.block 4 (.loop (.seq (Sq [Mv 68 11,Bc .geq 69 68 1]
 (.cond (.t 69) (.skip)
 (.exit 4)))
 (.seq (.block 5 (.seq (Sq [Mv 72 3,Mv 73 0,Mv 74 11,Ob 75 (.idx (.t 73) (.t 74) sz),Ob 76 (.load (.t 75) lz),Mv 77 0,Mv 78 11,Bc .sub 79 78 1,Ob 80 (.idx (.t 77) (.t 79) sz),Ob 81 (.load (.t 80) lz),Ob 82 (.callv (.t 72) [.t 76,.t 81]),Bc .lss 83 82 0,Ob 84 (.not (.t 83))]
 (.cond (.t 84) (.exit 4)
 (.skip)))
 (.region [Mv 85 0,Mv 86 11,Mv 87 0,Mv 88 11,Bc .sub 89 88 1,Mv 90 0,Mv 91 11,Bc .sub 92 91 1,Ob 93 (.idx (.t 90) (.t 92) sz),Ob 94 (.load (.t 93) lz),Mv 95 0,Mv 96 11,Ob 97 (.idx (.t 95) (.t 96) sz),Ob 98 (.load (.t 97) lz),Ob 99 (.idx (.t 85) (.t 86) sz),On (.store (.t 99) (.t 94) sz),Ob 100 (.idx (.t 87) (.t 89) sz),On (.store (.t 100) (.t 98) sz)])))
 (.region [Mv 70 11,Bc .sub 71 70 1,Mv 11 71]))))))
 (.skip)))
 (Sq [Mv 101 2,Mv 102 9,Bn .sub 103 101 102,Bc .geq 104 103 2]
 (.cond (.t 104) (Sq [Mv 105 9,Bc .add 106 105 1,Mv 12 106]
 (.block 6 (.loop (.seq (Sq [Mv 107 12,Mv 108 2,Bn .lss 109 107 108]
 (.cond (.t 109) (.skip)
 (.exit 6)))
 (.seq (.block 7 (.seq (Sq [Mv 112 3,Mv 113 0,Mv 114 12,Ob 115 (.idx (.t 113) (.t 114) sz),Ob 116 (.load (.t 115) lz),Mv 117 0,Mv 118 12,Bc .sub 119 118 1,Ob 120 (.idx (.t 117) (.t 119) sz),Ob 121 (.load (.t 120) lz),Ob 122 (.callv (.t 112) [.t 116,.t 121]),Bc .lss 123 122 0,Ob 124 (.not (.t 123))]
 (.cond (.t 124) (.exit 6)
 (.skip)))
 (.region [Mv 125 0,Mv 126 12,Mv 127 0,Mv 128 12,Bc .sub 129 128 1,Mv 130 0,Mv 131 12,Bc .sub 132 131 1,Ob 133 (.idx (.t 130) (.t 132) sz),Ob 134 (.load (.t 133) lz),Mv 135 0,Mv 136 12,Ob 137 (.idx (.t 135) (.t 136) sz),Ob 138 (.load (.t 137) lz),Ob 139 (.idx (.t 125) (.t 126) sz),On (.store (.t 139) (.t 134) sz),Ob 140 (.idx (.t 127) (.t 129) sz),On (.store (.t 140) (.t 138) sz)])))
 (.region [Mv 110 12,Bc .add 111 110 1,Mv 12 111]))))))
 (.skip)))))))))
 (.region [Mv 17 10,Bc .add 18 17 1,Mv 10 18]))))))
 (Sq [Ob 8 (.mov (.c (.bool false)))]
 (.ret))))
def partialInsertionSortFR : List Res := [.t 8]
def partitionF (sz : Nat) (lz : Option Nat) : ACode := Sq [Mc 10 0,Ob 11 (.mov (.c (.bool false)))]
 (Sq [Mv 14 0,Mv 15 1,Mv 16 0,Mv 17 3,Mv 18 0,Mv 19 3,Ob 20 (.idx (.t 18) (.t 19) sz),Ob 21 (.load (.t 20) lz),Mv 22 0,Mv 23 1,Ob 24 (.idx (.t 22) (.t 23) sz),Ob 25 (.load (.t 24) lz),Ob 26 (.idx (.t 14) (.t 15) sz),On (.store (.t 26) (.t 21) sz),Ob 27 (.idx (.t 16) (.t 17) sz),On (.store (.t 27) (.t 25) sz)]
 (Sq [Mv 28 1,Bc .add 29 28 1,Mv 30 2,Bc .sub 31 30 1,Mv 12 29,Mv 13 31]
 (.seq (.block 0 (.loop (.seq (Sq [Mv 32 12,Mv 33 13,Bn .leq 34 32 33,Mv 35 34,Og 36 35 true (.mov (.t 4)),Og 37 35 true (.mov (.t 0)),Og 38 35 true (.mov (.t 12)),Og 39 35 true (.idx (.t 37) (.t 38) sz),Og 40 35 true (.load (.t 39) lz),Og 41 35 true (.mov (.t 0)),Og 42 35 true (.mov (.t 1)),Og 43 35 true (.idx (.t 41) (.t 42) sz),Og 44 35 true (.load (.t 43) lz),Og 45 35 true (.callv (.t 36) [.t 40,.t 44]),Og 46 35 true (.bin .lss (.t 45) (Ci 0)),Ob 47 (.pick (.t 35) (.t 46) (.c (.bool false)))]
 (.cond (.t 47) (.skip)
 (.exit 0)))
 (.block 1 (.region [Mv 48 12,Bc .add 49 48 1,Mv 12 49])))))
 (.seq (.block 2 (.loop (.seq (Sq [Mv 50 12,Mv 51 13,Bn .leq 52 50 51,Mv 53 52,Og 54 53 true (.mov (.t 4)),Og 55 53 true (.mov (.t 0)),Og 56 53 true (.mov (.t 13)),Og 57 53 true (.idx (.t 55) (.t 56) sz),Og 58 53 true (.load (.t 57) lz),Og 59 53 true (.mov (.t 0)),Og 60 53 true (.mov (.t 1)),Og 61 53 true (.idx (.t 59) (.t 60) sz),Og 62 53 true (.load (.t 61) lz),Og 63 53 true (.callv (.t 54) [.t 58,.t 62]),Og 64 53 true (.bin .lss (.t 63) (Ci 0)),Og 65 53 true (.not (.t 64)),Ob 66 (.pick (.t 53) (.t 65) (.c (.bool false)))]
 (.cond (.t 66) (.skip)
 (.exit 2)))
 (.block 3 (.region [Mv 67 13,Bc .sub 68 67 1,Mv 13 68])))))
 (.seq (Sq [Mv 69 12,Mv 70 13,Bn .gtr 71 69 70]
 (.cond (.t 71) (Sq [Mv 72 0,Mv 73 13,Mv 74 0,Mv 75 1,Mv 76 0,Mv 77 1,Ob 78 (.idx (.t 76) (.t 77) sz),Ob 79 (.load (.t 78) lz),Mv 80 0,Mv 81 13,Ob 82 (.idx (.t 80) (.t 81) sz),Ob 83 (.load (.t 82) lz),Ob 84 (.idx (.t 72) (.t 73) sz),On (.store (.t 84) (.t 79) sz),Ob 85 (.idx (.t 74) (.t 75) sz),On (.store (.t 85) (.t 83) sz)]
 (Sq [Mv 86 13,Mv 10 86,Ob 11 (.mov (.c (.bool true)))]
 (.ret)))
 (.skip)))
 (Sq [Mv 87 0,Mv 88 12,Mv 89 0,Mv 90 13,Mv 91 0,Mv 92 13,Ob 93 (.idx (.t 91) (.t 92) sz),Ob 94 (.load (.t 93) lz),Mv 95 0,Mv 96 12,Ob 97 (.idx (.t 95) (.t 96) sz),Ob 98 (.load (.t 97) lz),Ob 99 (.idx (.t 87) (.t 88) sz),On (.store (.t 99) (.t 94) sz),Ob 100 (.idx (.t 89) (.t 90) sz),On (.store (.t 100) (.t 98) sz)]
 (Sq [Mv 101 12,Bc .add 102 101 1,Mv 12 102]
 (Sq [Mv 103 13,Bc .sub 104 103 1,Mv 13 104]
 (.seq (.block 4 (.loop (.block 5 (.seq (.block 6 (.loop (.seq (Sq [Mv 105 12,Mv 106 13,Bn .leq 107 105 106,Mv 108 107,Og 109 108 true (.mov (.t 4)),Og 110 108 true (.mov (.t 0)),Og 111 108 true (.mov (.t 12)),Og 112 108 true (.idx (.t 110) (.t 111) sz),Og 113 108 true (.load (.t 112) lz),Og 114 108 true (.mov (.t 0)),Og 115 108 true (.mov (.t 1)),Og 116 108 true (.idx (.t 114) (.t 115) sz),Og 117 108 true (.load (.t 116) lz),Og 118 108 true (.callv (.t 109) [.t 113,.t 117]),Og 119 108 true (.bin .lss (.t 118) (Ci 0)),Ob 120 (.pick (.t 108) (.t 119) (.c (.bool false)))]
 (.cond (.t 120) (.skip)
 (.exit 6)))
 (.block 7 (.region [Mv 121 12,Bc .add 122 121 1,Mv 12 122])))))
 (.seq (.block 8 (.loop (.seq (Sq [Mv 123 12,Mv 124 13,Bn .leq 125 123 124,Mv 126 125,Og 127 126 true (.mov (.t 4)),Og 128 126 true (.mov (.t 0)),Og 129 126 true (.mov (.t 13)),Og 130 126 true (.idx (.t 128) (.t 129) sz),Og 131 126 true (.load (.t 130) lz),Og 132 126 true (.mov (.t 0)),Og 133 126 true (.mov (.t 1)),Og 134 126 true (.idx (.t 132) (.t 133) sz),Og 135 126 true (.load (.t 134) lz),Og 136 126 true (.callv (.t 127) [.t 131,.t 135]),Og 137 126 true (.bin .lss (.t 136) (Ci 0)),Og 138 126 true (.not (.t 137)),Ob 139 (.pick (.t 126) (.t 138) (.c (.bool false)))]
 (.cond (.t 139) (.skip)
 (.exit 8)))
 (.block 9 (.region [Mv 140 13,Bc .sub 141 140 1,Mv 13 141])))))
 (.seq (Sq [Mv 142 12,Mv 143 13,Bn .gtr 144 142 143]
 (.cond (.t 144) (.exit 4)
 (.skip)))
 (Sq [Mv 145 0,Mv 146 12,Mv 147 0,Mv 148 13,Mv 149 0,Mv 150 13,Ob 151 (.idx (.t 149) (.t 150) sz),Ob 152 (.load (.t 151) lz),Mv 153 0,Mv 154 12,Ob 155 (.idx (.t 153) (.t 154) sz),Ob 156 (.load (.t 155) lz),Ob 157 (.idx (.t 145) (.t 146) sz),On (.store (.t 157) (.t 152) sz),Ob 158 (.idx (.t 147) (.t 148) sz),On (.store (.t 158) (.t 156) sz)]
 (Sq [Mv 159 12,Bc .add 160 159 1,Mv 12 160]
 (.region [Mv 161 13,Bc .sub 162 161 1,Mv 13 162])))))))))
 (Sq [Mv 163 0,Mv 164 13,Mv 165 0,Mv 166 1,Mv 167 0,Mv 168 1,Ob 169 (.idx (.t 167) (.t 168) sz),Ob 170 (.load (.t 169) lz),Mv 171 0,Mv 172 13,Ob 173 (.idx (.t 171) (.t 172) sz),Ob 174 (.load (.t 173) lz),Ob 175 (.idx (.t 163) (.t 164) sz),On (.store (.t 175) (.t 170) sz),Ob 176 (.idx (.t 165) (.t 166) sz),On (.store (.t 176) (.t 174) sz)]
 (Sq [Mv 177 13,Mv 10 177,Ob 11 (.mov (.c (.bool false)))]
 (.ret))))))))))))
def partitionFR : List Res := [.t 10, .t 11]
def breakPatternsF (sz : Nat) (lz : Option Nat) (p_nextPow : FuncId) (p_xorNext : FuncId) : ACode := Sq [Mv 13 2,Mv 14 1,Bn .sub 15 13 14,Mv 8 15]
 (Sq [Mv 16 8,Bc .geq 17 16 8]
 (.cond (.t 17) (Sq [Mv 18 8,Ob 19 (.conv .u64 (.t 18)),Ob 9 (.new (.int .u64 0) 1),Sv 9 19 1]
 (Sq [Mv 20 8,Ob 21 (.call p_nextPow [.t 20]),Mv 10 21]
 (Sq [Mv 22 1,Mv 23 8,Bc .quo 24 23 4,Bc .mul 25 24 2,Bn .add 26 22 25,Bc .sub 27 26 1,Mv 11 27]
 (.block 0 (.loop (.seq (Sq [Mv 28 11,Mv 29 1,Mv 30 8,Bc .quo 31 30 4,Bc .mul 32 31 2,Bn .add 33 29 32,Bc .add 34 33 1,Bn .leq 35 28 34]
 (.cond (.t 35) (.skip)
 (.exit 0)))
 (.seq (.block 1 (Sq [Ob 38 (.call p_xorNext [.t 9]),Mv 39 10,Ob 40 (.bin .sub (.t 39) (.c (.int .u64 1))),Bn .and 41 38 40,Ob 42 (.conv .i64 (.t 41)),Mv 12 42]
 (.seq (Sq [Mv 43 12,Mv 44 8,Bn .geq 45 43 44]
 (.cond (.t 45) (.region [Mv 46 12,Mv 47 8,Bn .sub 48 46 47,Mv 12 48])
 (.skip)))
 (.region [Mv 49 0,Mv 50 11,Mv 51 0,Mv 52 1,Mv 53 12,Bn .add 54 52 53,Mv 55 0,Mv 56 1,Mv 57 12,Bn .add 58 56 57,Ob 59 (.idx (.t 55) (.t 58) sz),Ob 60 (.load (.t 59) lz),Mv 61 0,Mv 62 11,Ob 63 (.idx (.t 61) (.t 62) sz),Ob 64 (.load (.t 63) lz),Ob 65 (.idx (.t 49) (.t 50) sz),On (.store (.t 65) (.t 60) sz),Ob 66 (.idx (.t 51) (.t 54) sz),On (.store (.t 66) (.t 64) sz)]))))
 (.region [Mv 36 11,Bc .add 37 36 1,Mv 11 37]))))))))
 (.skip)))
def breakPatternsFR : List Res := []
def choosePivotF (sz : Nat) (lz : Option Nat) (p_median : FuncId) (p_medianAdjacent : FuncId) : ACode := Sq [Mc 8 0,Mc 9 0]
 (Sq [Mv 15 2,Mv 16 1,Bn .sub 17 15 16,Mv 10 17]
 (Sq [Ob 11 (.new (.int .i64 0) 1)]
 (Sq [Mv 18 1,Mv 19 10,Bc .quo 20 19 4,Bc .mul 21 20 1,Bn .add 22 18 21,Mv 12 22]
 (Sq [Mv 23 1,Mv 24 10,Bc .quo 25 24 4,Bc .mul 26 25 2,Bn .add 27 23 26,Mv 13 27]
 (Sq [Mv 28 1,Mv 29 10,Bc .quo 30 29 4,Bc .mul 31 30 3,Bn .add 32 28 31,Mv 14 32]
 (.seq (Sq [Mv 33 10,Bc .geq 34 33 8]
 (.cond (.t 34) (.seq (Sq [Mv 35 10,Bc .geq 36 35 50]
 (.cond (.t 36) (Sq [Mv 37 0,Mv 38 12,Mv 39 3,Ob 40 (.call p_medianAdjacent [.t 37,.t 38,.t 11,.t 39]),Mv 12 40]
 (Sq [Mv 41 0,Mv 42 13,Mv 43 3,Ob 44 (.call p_medianAdjacent [.t 41,.t 42,.t 11,.t 43]),Mv 13 44]
 (.region [Mv 45 0,Mv 46 14,Mv 47 3,Ob 48 (.call p_medianAdjacent [.t 45,.t 46,.t 11,.t 47]),Mv 14 48])))
 (.skip)))
 (.region [Mv 49 0,Mv 50 12,Mv 51 13,Mv 52 14,Mv 53 3,Ob 54 (.call p_median [.t 49,.t 50,.t 51,.t 52,.t 11,.t 53]),Mv 13 54]))
 (.skip)))
 (Sq [Ld 55 11]
 (.block 0 (Sq [Bc .eql 58 55 0,Mv 57 58]
 (.cond (.t 57) (Sq [Mv 59 13,Mv 8 59,Mc 9 1]
 (.ret))
 (Sq [Bc .eql 61 55 12,Mv 60 61]
 (.cond (.t 60) (Sq [Mv 62 13,Mv 8 62,Mc 9 2]
 (.ret))
 (Sq [Mv 56 13,Mv 8 56,Mc 9 0]
 (.ret))))))))))))))
def choosePivotFR : List Res := [.t 8, .t 9]
def order2F (sz : Nat) (lz : Option Nat) : ACode := Sq [Mc 10 0,Mc 11 0]
 (.seq (Sq [Mv 12 4,Mv 13 0,Mv 14 2,Ob 15 (.idx (.t 13) (.t 14) sz),Ob 16 (.load (.t 15) lz),Mv 17 0,Mv 18 1,Ob 19 (.idx (.t 17) (.t 18) sz),Ob 20 (.load (.t 19) lz),Ob 21 (.callv (.t 12) [.t 16,.t 20]),Bc .lss 22 21 0]
 (.cond (.t 22) (Sq [Mv 23 3,Oa 24 23 0,Ld 25 24,Bc .add 26 25 1,Oa 27 23 0,Sv 27 26 1]
 (Sq [Mv 28 2,Mv 29 1,Mv 10 28,Mv 11 29]
 (.ret)))
 (.skip)))
 (Sq [Mv 30 1,Mv 31 2,Mv 10 30,Mv 11 31]
 (.ret)))
def order2FR : List Res := [.t 10, .t 11]
def medianAdjacentF (sz : Nat) (lz : Option Nat) (p_median : FuncId) : ACode := Sq [Mc 8 0]
 (Sq [Mv 9 0,Mv 10 1,Bc .sub 11 10 1,Mv 12 1,Mv 13 1,Bc .add 14 13 1,Mv 15 2,Mv 16 3,Ob 17 (.call p_median [.t 9,.t 11,.t 12,.t 14,.t 15,.t 16]),Mv 8 17]
 (.ret))
def medianAdjacentFR : List Res := [.t 8]
def medianF (sz : Nat) (lz : Option Nat) (p_order2 : FuncId) : ACode := Sq [Mc 12 0]
 (Sq [Mv 14 0,Mv 15 1,Mv 16 2,Mv 17 4,Mv 18 5,Ob 19 (.call p_order2 [.t 14,.t 15,.t 16,.t 17,.t 18]),Mv 13 19,Xt 20 13 0,Xt 21 13 1,Mv 1 20,Mv 2 21]
 (Sq [Mv 23 0,Mv 24 2,Mv 25 3,Mv 26 4,Mv 27 5,Ob 28 (.call p_order2 [.t 23,.t 24,.t 25,.t 26,.t 27]),Mv 22 28,Xt 29 22 0,Xt 30 22 1,Mv 2 29,Mv 3 30]
 (Sq [Mv 32 0,Mv 33 1,Mv 34 2,Mv 35 4,Mv 36 5,Ob 37 (.call p_order2 [.t 32,.t 33,.t 34,.t 35,.t 36]),Mv 31 37,Xt 38 31 0,Xt 39 31 1,Mv 1 38,Mv 2 39]
 (Sq [Mv 40 2,Mv 12 40]
 (.ret)))))
def medianFR : List Res := [.t 12]
def reverseRangeF (sz : Nat) (lz : Option Nat) : ACode := Sq [Mv 10 1,Mv 8 10]
 (Sq [Mv 11 2,Bc .sub 12 11 1,Mv 9 12]
 (.block 0 (.loop (.seq (Sq [Mv 13 8,Mv 14 9,Bn .lss 15 13 14]
 (.cond (.t 15) (.skip)
 (.exit 0)))
 (.block 1 (Sq [Mv 16 0,Mv 17 8,Mv 18 0,Mv 19 9,Mv 20 0,Mv 21 9,Ob 22 (.idx (.t 20) (.t 21) sz),Ob 23 (.load (.t 22) lz),Mv 24 0,Mv 25 8,Ob 26 (.idx (.t 24) (.t 25) sz),Ob 27 (.load (.t 26) lz),Ob 28 (.idx (.t 16) (.t 17) sz),On (.store (.t 28) (.t 23) sz),Ob 29 (.idx (.t 18) (.t 19) sz),On (.store (.t 29) (.t 27) sz)]
 (Sq [Mv 30 8,Bc .add 31 30 1,Mv 8 31]
 (.region [Mv 32 9,Bc .sub 33 32 1,Mv 9 33]))))))))
def reverseRangeFR : List Res := []
end Go.Ab.Srt
end
section
namespace Go.Ab.Srt
def xorNextC : ACode := Sq [Ob 2 (.mov (.c (.int .u64 0)))]
 (Sq [Mv 3 0,Oa 4 3 0,Ld 5 4,Mv 6 0,Oa 7 6 0,Ld 8 7,Ob 9 (.bin .shl (.t 8) (.c (.int .u64 13))),Bn .xor 10 5 9,Oa 11 3 0,Sv 11 10 1]
 (Sq [Mv 12 0,Oa 13 12 0,Ld 14 13,Mv 15 0,Oa 16 15 0,Ld 17 16,Ob 18 (.bin .shr (.t 17) (.c (.int .u64 7))),Bn .xor 19 14 18,Oa 20 12 0,Sv 20 19 1]
 (Sq [Mv 21 0,Oa 22 21 0,Ld 23 22,Mv 24 0,Oa 25 24 0,Ld 26 25,Ob 27 (.bin .shl (.t 26) (.c (.int .u64 17))),Bn .xor 28 23 27,Oa 29 21 0,Sv 29 28 1]
 (Sq [Mv 30 0,Oa 31 30 0,Ld 32 31,Mv 2 32]
 (.ret)))))
def xorNextR : List Res := [.t 2]
def tab8 : ByteArray := ⟨#[0, 1, 2, 2, 3, 3, 3, 3, 4, 4, 4, 4, 4, 4, 4, 4, 5, 5, 5, 5, 5, 5, 5, 5, 5, 5, 5, 5, 5, 5, 5, 5, 6, 6, 6, 6, 6, 6, 6, 6, 6, 6, 6, 6, 6, 6, 6, 6, 6, 6, 6, 6, 6, 6, 6, 6, 6, 6, 6, 6, 6, 6, 6, 6, 7, 7, 7, 7, 7, 7, 7, 7, 7, 7, 7, 7, 7, 7, 7, 7, 7, 7, 7, 7, 7, 7, 7, 7, 7, 7, 7, 7, 7, 7, 7, 7, 7, 7, 7, 7, 7, 7, 7, 7, 7, 7, 7, 7, 7, 7, 7, 7, 7, 7, 7, 7, 7, 7, 7, 7, 7, 7, 7, 7, 7, 7, 7, 7, 8, 8, 8, 8, 8, 8, 8, 8, 8, 8, 8, 8, 8, 8, 8, 8, 8, 8, 8, 8, 8, 8, 8, 8, 8, 8, 8, 8, 8, 8, 8, 8, 8, 8, 8, 8, 8, 8, 8, 8, 8, 8, 8, 8, 8, 8, 8, 8, 8, 8, 8, 8, 8, 8, 8, 8, 8, 8, 8, 8, 8, 8, 8, 8, 8, 8, 8, 8, 8, 8, 8, 8, 8, 8, 8, 8, 8, 8, 8, 8, 8, 8, 8, 8, 8, 8, 8, 8, 8, 8, 8, 8, 8, 8, 8, 8, 8, 8, 8, 8, 8, 8, 8, 8, 8, 8, 8, 8, 8, 8, 8, 8, 8, 8, 8, 8, 8, 8, 8, 8, 8, 8, 8, 8, 8, 8, 8, 8]⟩
def len64C : ACode := Sq [Mc 2 0]
 (.seq (Sq [Mv 3 0,Ob 4 (.bin .geq (.t 3) (.c (.int .u64 4294967296)))]
 (.cond (.t 4) (Sq [Mv 5 0,Ob 6 (.bin .shr (.t 5) (.c (.int .u64 32))),Mv 0 6]
 (.region [Mc 2 32]))
 (.skip)))
 (.seq (Sq [Mv 7 0,Ob 8 (.bin .geq (.t 7) (.c (.int .u64 65536)))]
 (.cond (.t 8) (Sq [Mv 9 0,Ob 10 (.bin .shr (.t 9) (.c (.int .u64 16))),Mv 0 10]
 (.region [Mv 11 2,Bc .add 12 11 16,Mv 2 12]))
 (.skip)))
 (.seq (Sq [Mv 13 0,Ob 14 (.bin .geq (.t 13) (.c (.int .u64 256)))]
 (.cond (.t 14) (Sq [Mv 15 0,Ob 16 (.bin .shr (.t 15) (.c (.int .u64 8))),Mv 0 16]
 (.region [Mv 17 2,Bc .add 18 17 8,Mv 2 18]))
 (.skip)))
 (Sq [Mv 19 2,Mv 20 0,Ob 21 (.conv .u8 (.t 20)),Ob 22 (.sidx (.c (.str tab8)) (.t 21)),Ob 23 (.conv .i64 (.t 22)),Bn .add 24 19 23,Mv 2 24]
 (.ret)))))
def len64R : List Res := [.t 2]
def bitsLenC (p_len32 : FuncId) (p_len64 : FuncId) : ACode := Sq [Mc 2 0]
 (.seq (.cond (.c (.bool false)) (Sq [Mv 3 0,Ob 4 (.conv .u32 (.t 3)),Ob 5 (.call p_len32 [.t 4]),Mv 2 5]
 (.ret))
 (.skip))
 (Sq [Mv 6 0,Ob 7 (.call p_len64 [.t 6]),Mv 2 7]
 (.ret)))
def bitsLenR : List Res := [.t 2]
def nextPowC (p_bitsLen : FuncId) : ACode := Sq [Ob 2 (.mov (.c (.int .u64 0)))]
 (Sq [Mv 3 0,Ob 4 (.conv .u64 (.t 3)),Ob 5 (.call p_bitsLen [.t 4]),Ob 6 (.bin .shl (.c (.int .u64 1)) (.t 5)),Mv 2 6]
 (.ret))
def nextPowR : List Res := [.t 2]
end Go.Ab.Srt
end
section
namespace Go.Ab.Srt
open Go.Sort
set_option maxRecDepth 8000
set_option maxHeartbeats 4000000
variable {ft : FuncId → Option AFn} {E : Els} {cv : AV} (c : CmpOK ft E cv) {id n : Nat} {m0 : Mem}
theorem wrap_pred (j : Nat) (h : j < 4611686018427387904) : IntKind.i64.wrap (((j + 1 : Nat) : Int) - 1) = (j : Int) := by rw [wrap_i64 _ (by omega) (by omega)]; omega
theorem wrap_succ (j : Nat) (h : j < 4611686018427387904) : IntKind.i64.wrap ((j : Int) + 1) = ((j + 1 : Nat) : Int) := by rw [wrap_i64 _ (by omega) (by omega)]; omega
theorem wrap_subN (b a : Nat) (h : a ≤ b) (hb : b < 4611686018427387904) : IntKind.i64.wrap ((b : Int) - (a : Int)) = ((b - a : Nat) : Int) := by rw [wrap_i64 _ (by omega) (by omega)]; omega
theorem wrap_addN (b a : Nat) (h : a < 4611686018427387904) (hb : b < 4611686018427387904) : IntKind.i64.wrap ((b : Int) + (a : Int)) = ((b + a : Nat) : Int) := by rw [wrap_i64 _ (by omega) (by omega)]; omega
theorem ins_run {f : FuncId} (hf : ft f = some ⟨4, insertionSortF E.sz E.lz, insertionSortFR, .r⟩) (hn : n < 4611686018427387904) {d : Array AV} {a b : Nat} (hab : a ≤ b) (hb : b ≤ n) (hd : n ≤ d.size) (hD : AllD E d) {m : Mem} (hm : MR m0 m id E.sz d)
  (K : AV → Mem → Prop) (hK : ∀ m', MR m0 m' id E.sz (insertionSort c.lt d a b) → K (.tup []) m') : WR ft (.f f) [.ref id 0 n, I64 a, I64 b, cv] m K := by
 rw [WR_f hf rfl]
 simp only [insertionSortF, insertionSortFR]
 simp only [go_sem, Nat.reduceEqDiff, Nat.reduceAdd, Nat.reduceLT, Nat.reduceLeDiff, reduceIte, wrap_succ a (by omega)]
 refine WL_inv (α := Nat × Array AV) (fun q e mm => e 0 = .ref id 0 n ∧ e 1 = I64 a ∧ e 2 = I64 b ∧ e 3 = cv ∧ e 8 = I64 q.1 ∧ a < q.1 ∧ MR m0 mm id E.sz q.2 ∧ AllD E q.2 ∧ q.2.size = d.size ∧ insOuter c.lt a b q.1 q.2 = insertionSort c.lt d a b) (fun q => b + 1 - q.1) (a + 1, d) ?_ ?_
 ·simp only [go_sem, Nat.reduceEqDiff, Nat.reduceAdd, Nat.reduceLT, Nat.reduceLeDiff, reduceIte]
  exact ⟨trivial, trivial, trivial, trivial, trivial, by omega, hm, hD, trivial, rfl⟩
 ·rintro ⟨i, d1⟩ e m1 ⟨h0, h1, h2, h3, h8, hai, hm1, hD1, hs1, ho⟩
  dsimp only at h8 hai hm1 hD1 hs1 ho
  by_cases hib : i < b
  case neg =>
   simp only [go_sem, Nat.reduceEqDiff, Nat.reduceAdd, Nat.reduceLT, Nat.reduceLeDiff, reduceIte, h0, h1, h2, h3, h8, show decide ((i : Int) < (b : Int)) = false from decide_eq_false (by omega)]
   refine hK _ ?_
   rw [← ho]; unfold insOuter; rw [if_neg hib]; exact hm1
  simp only [go_sem, Nat.reduceEqDiff, Nat.reduceAdd, Nat.reduceLT, Nat.reduceLeDiff, reduceIte, h0, h1, h2, h3, h8, show decide ((i : Int) < (b : Int)) = true from decide_eq_true (by omega)]
  refine WL_inv (α := Nat × Array AV) (fun q e mm => e 0 = .ref id 0 n ∧ e 1 = I64 a ∧ e 2 = I64 b ∧ e 3 = cv ∧ e 8 = I64 i ∧ e 9 = I64 q.1 ∧ q.1 ≤ i ∧ MR m0 mm id E.sz q.2 ∧ AllD E q.2 ∧ q.2.size = d.size ∧ insInner c.lt a q.1 q.2 = insInner c.lt a i d1) (fun q => q.1) (i, d1) ?_ ?_
  ·simp only [go_sem, Nat.reduceEqDiff, Nat.reduceAdd, Nat.reduceLT, Nat.reduceLeDiff, reduceIte, h0, h1, h2, h3, h8]
   exact ⟨trivial, trivial, trivial, trivial, trivial, trivial, Nat.le_refl _, hm1, hD1, hs1, trivial⟩
  ·rintro ⟨j, d2⟩ e' m2 ⟨g0, g1, g2, g3, g8, g9, hji, hm2, hD2, hs2, hi2⟩
   dsimp only at g9 hji hm2 hD2 hs2 hi2
   have done : ∀ m3, MR m0 m3 id E.sz d2 → insInner c.lt a j d2 = d2 → ∀ e'' : Nat → AV, e'' 0 = .ref id 0 n → e'' 1 = I64 a → e'' 2 = I64 b → e'' 3 = cv → e'' 8 = I64 ((i + 1 : Nat) : Int) → @Nx (Nat × Array AV) ⟨fun q e mm => e 0 = .ref id 0 n ∧ e 1 = I64 a ∧ e 2 = I64 b ∧ e 3 = cv ∧ e 8 = I64 q.1 ∧ a < q.1 ∧ MR m0 mm id E.sz q.2 ∧ AllD E q.2 ∧ q.2.size = d.size ∧ insOuter c.lt a b q.1 q.2 = insertionSort c.lt d a b, fun a' => b + 1 - a'.1 < b + 1 - i⟩ e'' m3 := by
    intro m3 hm3 he e'' q0 q1 q2 q3 q8
    refine Nx_of (i + 1, d2) (by dsimp only; omega) ⟨q0, q1, q2, q3, q8, by dsimp only; omega, hm3, hD2, hs2, ?_⟩
    rw [← ho]
    conv => rhs; unfold insOuter
    rw [if_pos hib, ← hi2, he]
   by_cases haj : a < j
   case neg =>
    have he : insInner c.lt a j d2 = d2 := by
     cases j with
     | zero => rfl
     | succ j => unfold insInner; rw [if_neg (by simp; omega)]
    simp only [go_sem, Nat.reduceEqDiff, Nat.reduceAdd, Nat.reduceLT, Nat.reduceLeDiff, reduceIte, g0, g1, g2, g3, g8, g9, show decide ((a : Int) < (j : Int)) = false from decide_eq_false (by omega), wrap_succ i (by omega)]
    refine done _ hm2 he _ ?_ ?_ ?_ ?_ ?_ <;> simp only [go_sem, Nat.reduceEqDiff, Nat.reduceAdd, Nat.reduceLT, Nat.reduceLeDiff, reduceIte, g0, g1, g2, g3, g8, g9]
   obtain ⟨j, rfl⟩ : ∃ k, j = k + 1 := ⟨j - 1, by omega⟩
   have hx := hD2 (j + 1) (by omega)
   have hy := hD2 j (by omega)
   have i1 := hm2.idxN (k := .i64) (n := n) (i := j + 1) (by omega)
   have i2 := hm2.idxN (k := .i64) (n := n) (i := j) (by omega)
   have l1 := hm2.ld hD2 (i := j + 1) (by omega)
   have l2 := hm2.ld hD2 (i := j) (by omega)
   have hc := c.ok _ _ hx hy
   have hp := wrap_pred j (by omega)
   cases hl : c.lt d2[j + 1]! d2[j]!
   ·have he : insInner c.lt a (j + 1) d2 = d2 := by unfold insInner; rw [if_neg (by simp [hl])]
    have hl' : decide (c.cf d2[j + 1]! d2[j]! < 0) = false := hl
    simp only [go_sem, Nat.reduceEqDiff, Nat.reduceAdd, Nat.reduceLT, Nat.reduceLeDiff, reduceIte, g0, g1, g2, g3, g8, g9, show decide ((a : Int) < ((j + 1 : Nat) : Int)) = true from decide_eq_true (by omega), i1, i2, l1, l2, hc, hp, hl', wrap_succ i (by omega)]
    refine done _ hm2 he _ ?_ ?_ ?_ ?_ ?_ <;> simp only [go_sem, Nat.reduceEqDiff, Nat.reduceAdd, Nat.reduceLT, Nat.reduceLeDiff, reduceIte, g0, g1, g2, g3, g8, g9]
   ·have hl' : decide (c.cf d2[j + 1]! d2[j]! < 0) = true := hl
    obtain ⟨m3, m4, s1, s2, ⟨d3, hm3⟩, hm4, hD4, hs4⟩ := hm2.swap hD2 (i := j + 1) (j := j) (by omega) (by omega)
    have i3 := hm3.idxN (k := .i64) (n := n) (i := j) (by omega)
    simp only [go_sem, Nat.reduceEqDiff, Nat.reduceAdd, Nat.reduceLT, Nat.reduceLeDiff, reduceIte, g0, g1, g2, g3, g8, g9, show decide ((a : Int) < ((j + 1 : Nat) : Int)) = true from decide_eq_true (by omega), i1, i2, l1, l2, hc, hp, hl', s1, s2, i3]
    refine Nx_of (j, swp d2 (j + 1) j) (by dsimp only; omega) ?_
    simp only [go_sem, Nat.reduceEqDiff, Nat.reduceAdd, Nat.reduceLT, Nat.reduceLeDiff, reduceIte, g0, g1, g2, g3, g8]
    refine ⟨trivial, trivial, trivial, trivial, trivial, trivial, by omega, hm4, hD4, by rw [hs4, hs2], ?_⟩
    rw [← hi2]
    conv => rhs; unfold insInner
    rw [if_pos (by simp [hl]; omega)]
end Go.Ab.Srt
end
section
namespace Go.Ab.Srt
open Go.Sort
set_option maxRecDepth 8000
set_option maxHeartbeats 4000000
variable {ft : FuncId → Option AFn} {E : Els} {cv : AV} (c : CmpOK ft E cv) {id n : Nat} {m0 : Mem}
theorem sift_run {f : FuncId} (hf : ft f = some ⟨5, siftDownF E.sz E.lz, siftDownFR, .r⟩) (hn : n < 1073741824) {d : Array AV} {lo hi first : Nat} (hlo : lo ≤ n) (hh : first + hi ≤ n) (hd : n ≤ d.size) (hD : AllD E d) {m : Mem} (hm : MR m0 m id E.sz d)
  (K : AV → Mem → Prop) (hK : ∀ m', MR m0 m' id E.sz (siftDown c.lt hi first lo d) → AllD E (siftDown c.lt hi first lo d) → (siftDown c.lt hi first lo d).size = d.size → K (.tup []) m') : WR ft (.f f) [.ref id 0 n, I64 lo, I64 hi, I64 first, cv] m K := by
 rw [WR_f hf rfl]
 simp only [siftDownF, siftDownFR]
 simp only [go_sem, Nat.reduceEqDiff, Nat.reduceAdd, Nat.reduceLT, Nat.reduceLeDiff, reduceIte]
 refine WL_inv (α := Nat × Array AV) (fun q e mm => e 0 = .ref id 0 n ∧ e 2 = I64 hi ∧ e 3 = I64 first ∧ e 4 = cv ∧ e 10 = I64 q.1 ∧ q.1 ≤ n ∧ MR m0 mm id E.sz q.2 ∧ AllD E q.2 ∧ q.2.size = d.size ∧ siftDown c.lt hi first q.1 q.2 = siftDown c.lt hi first lo d) (fun q => hi - q.1) (lo, d) ?_ ?_
 ·simp only [go_sem, Nat.reduceEqDiff, Nat.reduceAdd, Nat.reduceLT, Nat.reduceLeDiff, reduceIte]
  exact ⟨trivial, trivial, trivial, trivial, trivial, hlo, hm, hD, trivial⟩
 ·rintro ⟨r, d1⟩ e m1 ⟨h0, h2, h3, h4, h10, hrn, hm1, hD1, hs1, ho⟩
  dsimp only at h10 hrn hm1 hD1 hs1 ho
  rw [← ho] at hK
  have w2 : IntKind.i64.wrap (2 * (r : Int)) = ((2 * r : Nat) : Int) := by rw [wrap_i64 _ (by omega) (by omega)]; omega
  have w3 := wrap_succ (2 * r) (by omega)
  by_cases hr : 2 * r + 1 ≥ hi
  case pos =>
   have he : siftDown c.lt hi first r d1 = d1 := by unfold siftDown; rw [dif_pos hr]
   rw [he] at hK
   simp only [go_sem, Nat.reduceEqDiff, Nat.reduceAdd, Nat.reduceLT, Nat.reduceLeDiff, reduceIte, h0, h2, h3, h4, h10, w2, w3, show decide ((hi : Int) ≤ ((2 * r + 1 : Nat) : Int)) = true from decide_eq_true (by omega)]
   exact hK _ hm1 hD1 hs1
  have c0 : decide ((hi : Int) ≤ ((2 * r + 1 : Nat) : Int)) = false := decide_eq_false (by omega)
  have w4 := wrap_succ (2 * r + 1) (by omega)
  have w5 := wrap_addN first (2 * r + 1) (by omega) (by omega)
  have w6 := wrap_succ (first + (2 * r + 1)) (by omega)
  have w7 := wrap_addN first r (by omega) (by omega)
  have w8 := wrap_addN first (2 * r + 1 + 1) (by omega) (by omega)
  have x1 := hD1 (first + (2 * r + 1)) (by omega)
  have x3 := hD1 (first + r) (by omega)
  have i1 := hm1.idxN (k := .i64) (n := n) (i := first + (2 * r + 1)) (by omega)
  have i3 := hm1.idxN (k := .i64) (n := n) (i := first + r) (by omega)
  have l1 := hm1.ld hD1 (i := first + (2 * r + 1)) (by omega)
  have l3 := hm1.ld hD1 (i := first + r) (by omega)
  have hc3 := c.ok _ _ x3 x1
  -- the child that is taken is the first
  have tail1 : siftDown c.lt hi first r d1 = (if !c.lt d1[first + r]! d1[first + (2 * r + 1)]! then d1 else siftDown c.lt hi first (2 * r + 1) (swp d1 (first + r) (first + (2 * r + 1)))) →
    (∀ b, decide (c.cf d1[first + r]! d1[first + (2 * r + 1)]! < 0) = b → b = c.lt d1[first + r]! d1[first + (2 * r + 1)]!) := fun _ b h => h.symm
  by_cases hr2 : 2 * r + 1 + 1 < hi
  case neg =>
   have c1 : decide (((2 * r + 1 + 1 : Nat) : Int) < (hi : Int)) = false := decide_eq_false (by omega)
   have eq : siftDown c.lt hi first r d1 = (if !c.lt d1[first + r]! d1[first + (2 * r + 1)]! then d1 else siftDown c.lt hi first (2 * r + 1) (swp d1 (first + r) (first + (2 * r + 1)))) := by
    conv => lhs; unfold siftDown
    rw [dif_neg hr, if_neg (by simp; omega)]
   cases hl : c.lt d1[first + r]! d1[first + (2 * r + 1)]!
   ·have hl' : decide (c.cf d1[first + r]! d1[first + (2 * r + 1)]! < 0) = false := hl
    rw [show siftDown c.lt hi first r d1 = d1 by rw [eq, hl]; rfl] at hK
    simp only [go_sem, Nat.reduceEqDiff, Nat.reduceAdd, Nat.reduceLT, Nat.reduceLeDiff, reduceIte, h0, h2, h3, h4, h10, w2, w3, c0, w4, c1, w5, w7, i1, i3, l1, l3, hc3, hl']
    exact hK _ hm1 hD1 hs1
   ·have hl' : decide (c.cf d1[first + r]! d1[first + (2 * r + 1)]! < 0) = true := hl
    obtain ⟨m3, m4, s1, s2, ⟨d3, hm3⟩, hm4, hD4, hs4⟩ := hm1.swap hD1 (i := first + r) (j := first + (2 * r + 1)) (by omega) (by omega)
    have i5 := hm3.idxN (k := .i64) (n := n) (i := first + (2 * r + 1)) (by omega)
    simp only [go_sem, Nat.reduceEqDiff, Nat.reduceAdd, Nat.reduceLT, Nat.reduceLeDiff, reduceIte, h0, h2, h3, h4, h10, w2, w3, c0, w4, c1, w5, w7, i1, i3, l1, l3, hc3, hl', s1, s2, i5]
    refine Nx_of (2 * r + 1, swp d1 (first + r) (first + (2 * r + 1))) (by dsimp only; omega) ?_
    simp only [go_sem, Nat.reduceEqDiff, Nat.reduceAdd, Nat.reduceLT, Nat.reduceLeDiff, reduceIte, h0, h2, h3, h4]
    refine ⟨trivial, trivial, trivial, trivial, trivial, by omega, hm4, hD4, by rw [hs4, hs1], ?_⟩
    rw [← ho, eq, hl]; rfl
  have c1 : decide (((2 * r + 1 + 1 : Nat) : Int) < (hi : Int)) = true := decide_eq_true (by omega)
  have x2 := hD1 (first + (2 * r + 1) + 1) (by omega)
  have i2 := hm1.idxN (k := .i64) (n := n) (i := first + (2 * r + 1) + 1) (by omega)
  have l2 := hm1.ld hD1 (i := first + (2 * r + 1) + 1) (by omega)
  have hc1 := c.ok _ _ x1 x2
  cases hl1 : c.lt d1[first + (2 * r + 1)]! d1[first + (2 * r + 1) + 1]!
  ·have hl1' : decide (c.cf d1[first + (2 * r + 1)]! d1[first + (2 * r + 1) + 1]! < 0) = false := hl1
   have eq : siftDown c.lt hi first r d1 = (if !c.lt d1[first + r]! d1[first + (2 * r + 1)]! then d1 else siftDown c.lt hi first (2 * r + 1) (swp d1 (first + r) (first + (2 * r + 1)))) := by
    conv => lhs; unfold siftDown
    rw [dif_neg hr, if_neg (by simp [hl1])]
   cases hl : c.lt d1[first + r]! d1[first + (2 * r + 1)]!
   ·have hl' : decide (c.cf d1[first + r]! d1[first + (2 * r + 1)]! < 0) = false := hl
    rw [show siftDown c.lt hi first r d1 = d1 by rw [eq, hl]; rfl] at hK
    simp only [go_sem, Nat.reduceEqDiff, Nat.reduceAdd, Nat.reduceLT, Nat.reduceLeDiff, reduceIte, h0, h2, h3, h4, h10, w2, w3, c0, w4, c1, w5, w6, w7, i1, i2, i3, l1, l2, l3, hc1, hl1', hc3, hl']
    exact hK _ hm1 hD1 hs1
   ·have hl' : decide (c.cf d1[first + r]! d1[first + (2 * r + 1)]! < 0) = true := hl
    obtain ⟨m3, m4, s1, s2, ⟨d3, hm3⟩, hm4, hD4, hs4⟩ := hm1.swap hD1 (i := first + r) (j := first + (2 * r + 1)) (by omega) (by omega)
    have i5 := hm3.idxN (k := .i64) (n := n) (i := first + (2 * r + 1)) (by omega)
    simp only [go_sem, Nat.reduceEqDiff, Nat.reduceAdd, Nat.reduceLT, Nat.reduceLeDiff, reduceIte, h0, h2, h3, h4, h10, w2, w3, c0, w4, c1, w5, w6, w7, i1, i2, i3, l1, l2, l3, hc1, hl1', hc3, hl', s1, s2, i5]
    refine Nx_of (2 * r + 1, swp d1 (first + r) (first + (2 * r + 1))) (by dsimp only; omega) ?_
    simp only [go_sem, Nat.reduceEqDiff, Nat.reduceAdd, Nat.reduceLT, Nat.reduceLeDiff, reduceIte, h0, h2, h3, h4]
    refine ⟨trivial, trivial, trivial, trivial, trivial, by omega, hm4, hD4, by rw [hs4, hs1], ?_⟩
    rw [← ho, eq, hl]; rfl
  ·have hl1' : decide (c.cf d1[first + (2 * r + 1)]! d1[first + (2 * r + 1) + 1]! < 0) = true := hl1
   have e2 : first + (2 * r + 1) + 1 = first + (2 * r + 1 + 1) := by omega
   have x2' := x2
   rw [e2] at x2'
   have hc2 := c.ok _ _ x3 x2'
   have i2' := hm1.idxN (k := .i64) (n := n) (i := first + (2 * r + 1 + 1)) (by omega)
   have l2' := hm1.ld hD1 (i := first + (2 * r + 1 + 1)) (by omega)
   have eq : siftDown c.lt hi first r d1 = (if !c.lt d1[first + r]! d1[first + (2 * r + 1 + 1)]! then d1 else siftDown c.lt hi first (2 * r + 1 + 1) (swp d1 (first + r) (first + (2 * r + 1 + 1)))) := by
    conv => lhs; unfold siftDown
    rw [dif_neg hr, if_pos (by simp [hl1]; omega), show 2 * r + 2 = 2 * r + 1 + 1 from rfl, dif_pos hr2]
   cases hl : c.lt d1[first + r]! d1[first + (2 * r + 1 + 1)]!
   ·have hl' : decide (c.cf d1[first + r]! d1[first + (2 * r + 1 + 1)]! < 0) = false := hl
    rw [show siftDown c.lt hi first r d1 = d1 by rw [eq, hl]; rfl] at hK
    simp only [go_sem, Nat.reduceEqDiff, Nat.reduceAdd, Nat.reduceLT, Nat.reduceLeDiff, reduceIte, h0, h2, h3, h4, h10, w2, w3, c0, w4, c1, w5, w6, w7, w8, i1, i2, i2', i3, l1, l2, l2', l3, hc1, hl1', hc2, hl']
    exact hK _ hm1 hD1 hs1
   ·have hl' : decide (c.cf d1[first + r]! d1[first + (2 * r + 1 + 1)]! < 0) = true := hl
    obtain ⟨m3, m4, s1, s2, ⟨d3, hm3⟩, hm4, hD4, hs4⟩ := hm1.swap hD1 (i := first + r) (j := first + (2 * r + 1 + 1)) (by omega) (by omega)
    have i5 := hm3.idxN (k := .i64) (n := n) (i := first + (2 * r + 1 + 1)) (by omega)
    simp only [go_sem, Nat.reduceEqDiff, Nat.reduceAdd, Nat.reduceLT, Nat.reduceLeDiff, reduceIte, h0, h2, h3, h4, h10, w2, w3, c0, w4, c1, w5, w6, w7, w8, i1, i2, i2', i3, l1, l2, l2', l3, hc1, hl1', hc2, hl', s1, s2, i5]
    refine Nx_of (2 * r + 1 + 1, swp d1 (first + r) (first + (2 * r + 1 + 1))) (by dsimp only; omega) ?_
    simp only [go_sem, Nat.reduceEqDiff, Nat.reduceAdd, Nat.reduceLT, Nat.reduceLeDiff, reduceIte, h0, h2, h3, h4]
    refine ⟨trivial, trivial, trivial, trivial, trivial, by omega, hm4, hD4, by rw [hs4, hs1], ?_⟩
    rw [← ho, eq, hl]; rfl
end Go.Ab.Srt
end
section
namespace Go.Ab.Srt
open Go.Sort
set_option maxRecDepth 8000
set_option maxHeartbeats 4000000
variable {ft : FuncId → Option AFn} {E : Els} {cv : AV} (c : CmpOK ft E cv) {id n : Nat} {m0 : Mem}
theorem quo_nat (k j : Nat) (hj : j ≠ 0) (h : k < 4611686018427387904) : binOp .quo (I64 (k : Int)) (I64 (j : Int)) = some (I64 ((k / j : Nat) : Int)) := by
 have h1 : (k : Int).tdiv (j : Int) = ((k / j : Nat) : Int) := by rw [Int.tdiv_eq_ediv_of_nonneg (by omega)]; simp
 have h2 : k / j ≤ k := Nat.div_le_self _ _
 simp only [binOp, binI, if_true]
 rw [if_neg (by omega), h1]
 generalize k / j = q at h2
 rw [wrap_i64 _ (by omega) (by omega)]
theorem heap_run {f ps : FuncId} (hf : ft f = some ⟨4, heapSortF E.sz E.lz ps, heapSortFR, .r⟩) (hps : ft ps = some ⟨5, siftDownF E.sz E.lz, siftDownFR, .r⟩) (hn : n < 1073741824) {d : Array AV} {a b : Nat} (hab : a < b) (hb : b ≤ n) (hd : n ≤ d.size)
  (hD : AllD E d) {m : Mem} (hm : MR m0 m id E.sz d) (K : AV → Mem → Prop) (hK : ∀ m', MR m0 m' id E.sz (heapSort c.lt d a b) → K (.tup []) m') : WR ft (.f f) [.ref id 0 n, I64 a, I64 b, cv] m K := by
 have hw : ∀ (s : St) (as : List AV) (K : AV → St → Prop), WB ft ps as s K = WR ft (.f ps) as s.mem fun v m => K v (s.setMem m) := fun s as K => WB_r hps rfl as s K
 rw [WR_f hf rfl]
 simp only [heapSortF, heapSortFR]
 have w1 := wrap_subN b a (by omega) (by omega)
 have w2 : IntKind.i64.wrap (((b - a : Nat) : Int) - 1) = ((b - a - 1 : Nat) : Int) := by rw [wrap_i64 _ (by omega) (by omega)]; omega
 have w3 := quo_nat (b - a - 1) 2 (by omega) (by omega)
 simp only [go_sem, Nat.reduceEqDiff, Nat.reduceAdd, Nat.reduceLT, Nat.reduceLeDiff, reduceIte, w1, w2, show (I64 2) = I64 ((2 : Nat) : Int) from rfl, w3]
 refine WL_inv (α := Nat × Array AV) (fun q e mm => e 0 = .ref id 0 n ∧ e 1 = I64 a ∧ e 3 = cv ∧ e 8 = I64 a ∧ e 9 = I64 0 ∧ e 10 = I64 ((b - a : Nat) : Int) ∧ e 11 = I64 ((q.1 : Int) - 1) ∧ q.1 ≤ b - a ∧ MR m0 mm id E.sz q.2 ∧ AllD E q.2 ∧ q.2.size = d.size ∧ heapBuild c.lt (b - a) a q.1 q.2 = heapBuild c.lt (b - a) a ((b - a - 1) / 2 + 1) d) (fun q => q.1) ((b - a - 1) / 2 + 1, d) ?_ ?_
 ·simp only [go_sem, Nat.reduceEqDiff, Nat.reduceAdd, Nat.reduceLT, Nat.reduceLeDiff, reduceIte]
  refine ⟨trivial, trivial, trivial, trivial, trivial, trivial, ?_, by omega, hm, hD, ?_⟩
  ·rw [show (((b - a - 1) / 2 + 1 : Nat) : Int) - 1 = (((b - a - 1) / 2 : Nat) : Int) by omega]
  ·trivial
 ·rintro ⟨k, d1⟩ e m1 ⟨h0, h1, h3, h8, h9, h10, h11, hk, hm1, hD1, hs1, ho⟩
  dsimp only at h11 hk hm1 hD1 hs1 ho
  cases k with
  | succ k =>
   have e1 : (((k + 1 : Nat) : Int) - 1) = (k : Int) := by omega
   have e2 : IntKind.i64.wrap ((k : Int) - 1) = (k : Int) - 1 := wrap_i64 _ (by omega) (by omega)
   simp only [go_sem, Nat.reduceEqDiff, Nat.reduceAdd, Nat.reduceLT, Nat.reduceLeDiff, reduceIte, h0, h3, h8, h10, h11, e1, dec_nn, hw]
   refine sift_run c hps hn (d := d1) (by omega) (by omega) (by omega) hD1 hm1 _ fun m2 hm2 hD2 hs2 => ?_
   simp only [go_sem, Nat.reduceEqDiff, Nat.reduceAdd, Nat.reduceLT, Nat.reduceLeDiff, reduceIte, h0, h1, h3, h8, h9, h10, h11, e1, e2]
   refine Nx_of (k, siftDown c.lt (b - a) a k d1) (by dsimp only; omega) ?_
   simp only [go_sem, Nat.reduceEqDiff, Nat.reduceAdd, Nat.reduceLT, Nat.reduceLeDiff, reduceIte, h0, h1, h3, h8, h9, h10]
   exact ⟨trivial, trivial, trivial, trivial, trivial, trivial, trivial, by omega, hm2, hD2, by rw [hs2, hs1], ho⟩
  | zero =>
   simp only [go_sem, Nat.reduceEqDiff, Nat.reduceAdd, Nat.reduceLT, Nat.reduceLeDiff, reduceIte, h0, h1, h3, h8, h9, h10, h11, w2, show decide ((0 : Int) ≤ ((0 : Nat) : Int) - 1) = false from rfl]
   have ho' : heapBuild c.lt (b - a) a ((b - a - 1) / 2 + 1) d = d1 := ho.symm
   refine WL_inv (α := Nat × Array AV) (fun q e mm => e 0 = .ref id 0 n ∧ e 3 = cv ∧ e 8 = I64 a ∧ e 9 = I64 0 ∧ e 12 = I64 ((q.1 : Int) - 1) ∧ q.1 ≤ b - a ∧ MR m0 mm id E.sz q.2 ∧ AllD E q.2 ∧ q.2.size = d.size ∧ heapPop c.lt a q.1 q.2 = heapSort c.lt d a b) (fun q => q.1) (b - a, d1) ?_ ?_
   ·simp only [go_sem, Nat.reduceEqDiff, Nat.reduceAdd, Nat.reduceLT, Nat.reduceLeDiff, reduceIte, h0, h3, h8, h9]
    refine ⟨trivial, trivial, trivial, trivial, ?_, Nat.le_refl _, hm1, hD1, hs1, ?_⟩
    ·rw [show ((b - a : Nat) : Int) - 1 = ((b - a - 1 : Nat) : Int) by omega]
    ·unfold heapSort; rw [ho']
   ·rintro ⟨k, d2⟩ e' m2 ⟨g0, g3, g8, g9, g12, hk2, hm2, hD2, hs2, ho2⟩
    dsimp only at g12 hk2 hm2 hD2 hs2 ho2
    cases k with
    | zero =>
     simp only [go_sem, Nat.reduceEqDiff, Nat.reduceAdd, Nat.reduceLT, Nat.reduceLeDiff, reduceIte, g0, g3, g8, g9, g12, show decide ((0 : Int) ≤ ((0 : Nat) : Int) - 1) = false from rfl]
     refine hK _ ?_
     rw [← ho2]; exact hm2
    | succ k =>
     have e1 : (((k + 1 : Nat) : Int) - 1) = (k : Int) := by omega
     have e2 : IntKind.i64.wrap ((k : Int) - 1) = (k : Int) - 1 := wrap_i64 _ (by omega) (by omega)
     have w5 := wrap_addN a k (by omega) (by omega)
     obtain ⟨m3, m4, s1, s2, ⟨d3, hm3⟩, hm4, hD4, hs4⟩ := hm2.swap hD2 (i := a) (j := a + k) (by omega) (by omega)
     have i1 := hm2.idxN (k := .i64) (n := n) (i := a) (by omega)
     have i2 := hm2.idxN (k := .i64) (n := n) (i := a + k) (by omega)
     have i3 := hm3.idxN (k := .i64) (n := n) (i := a + k) (by omega)
     have l1 := hm2.ld hD2 (i := a) (by omega)
     have l2 := hm2.ld hD2 (i := a + k) (by omega)
     simp only [go_sem, Nat.reduceEqDiff, Nat.reduceAdd, Nat.reduceLT, Nat.reduceLeDiff, reduceIte, g0, g3, g8, g9, g12, e1, dec_nn, w5, i1, i2, l1, l2, s1, s2, i3, hw]
     refine sift_run c hps hn (d := swp d2 a (a + k)) (lo := 0) (by omega) (by omega) (by omega) hD4 hm4 _ fun m5 hm5 hD5 hs5 => ?_
     simp only [go_sem, Nat.reduceEqDiff, Nat.reduceAdd, Nat.reduceLT, Nat.reduceLeDiff, reduceIte, g0, g3, g8, g9, g12, e1, e2]
     refine Nx_of (k, siftDown c.lt k a 0 (swp d2 a (a + k))) (by dsimp only; omega) ?_
     simp only [go_sem, Nat.reduceEqDiff, Nat.reduceAdd, Nat.reduceLT, Nat.reduceLeDiff, reduceIte, g0, g3, g8, g9]
     exact ⟨trivial, trivial, trivial, trivial, trivial, by omega, hm5, hD5, by rw [hs5, hs4, hs2], ho2⟩
end Go.Ab.Srt
end
section
namespace Go.Ab.Srt
open Go.Sort
set_option maxRecDepth 8000
set_option maxHeartbeats 4000000
variable {ft : FuncId → Option AFn} {E : Els} {cv : AV} (c : CmpOK ft E cv) {id n : Nat} {m0 : Mem}
theorem wrap_p1 (b : Nat) (h : 1 ≤ b) (hb : b < 4611686018427387904) : IntKind.i64.wrap ((b : Int) - 1) = ((b - 1 : Nat) : Int) := by rw [wrap_i64 _ (by omega) (by omega)]; omega
theorem scanUp_go {p : AV → Bool} {d : Array AV} {j k : Nat} (h : k ≤ j) (hp : p d[k]! = true) : scanUp p d j k = scanUp p d j (k + 1) := by
 conv => lhs; unfold scanUp
 rw [if_pos (by simp [h, hp])]
theorem scanUp_end {p : AV → Bool} {d : Array AV} {j k : Nat} (h : k ≤ j → p d[k]! = false) : scanUp p d j k = k := by
 conv => lhs; unfold scanUp
 rw [if_neg]
 intro hh
 simp only [Bool.and_eq_true, decide_eq_true_eq] at hh
 rw [h hh.1] at hh; cases hh.2
theorem scanDown_go {p : AV → Bool} {d : Array AV} {i l : Nat} (h : i ≤ l + 1) (hp : p d[l + 1]! = true) : scanDown p d i (l + 1) = scanDown p d i l := by
 conv => lhs; unfold scanDown
 rw [if_pos (by simp [h, hp])]
theorem scanDown_end {p : AV → Bool} {d : Array AV} {i l : Nat} (h : i ≤ l → p d[l]! = false) : scanDown p d i l = l := by
 cases l with
 | zero => rfl
 | succ l =>
  conv => lhs; unfold scanDown
  rw [if_neg]
  intro hh
  simp only [Bool.and_eq_true, decide_eq_true_eq] at hh
  rw [h hh.1] at hh; cases hh.2
theorem pe_run {f : FuncId} (hf : ft f = some ⟨5, partitionEqualF E.sz E.lz, partitionEqualFR, .r⟩) (hn : n < 1073741824) {d : Array AV} {a b pv : Nat} (hap : a ≤ pv) (hpb : pv < b) (hb : b ≤ n) (hd : n ≤ d.size)
  (hD : AllD E d) {m : Mem} (hm : MR m0 m id E.sz d) (K : AV → Mem → Prop)
  (hK : ∀ m', MR m0 m' id E.sz (partitionEqual c.lt d a b pv).2 → AllD E (partitionEqual c.lt d a b pv).2 → (partitionEqual c.lt d a b pv).2.size = d.size → K (I64 (((partitionEqual c.lt d a b pv).1 : Nat) : Int)) m') :
  WR ft (.f f) [.ref id 0 n, I64 a, I64 b, I64 pv, cv] m K := by
 rw [WR_f hf rfl]
 simp only [partitionEqualF, partitionEqualFR]
 obtain ⟨m3, m4, s1, s2, ⟨d3, hm3⟩, hm4, hD4, hs4⟩ := hm.swap hD (i := a) (j := pv) (by omega) (by omega)
 have i1 := hm.idxN (k := .i64) (n := n) (i := a) (by omega)
 have i2 := hm.idxN (k := .i64) (n := n) (i := pv) (by omega)
 have i3 := hm3.idxN (k := .i64) (n := n) (i := pv) (by omega)
 have l1 := hm.ld hD (i := a) (by omega)
 have l2 := hm.ld hD (i := pv) (by omega)
 unfold partitionEqual at hK
 generalize swp d a pv = d0 at hm4 hD4 hs4 hK
 simp only [go_sem, Nat.reduceEqDiff, Nat.reduceAdd, Nat.reduceLT, Nat.reduceLeDiff, reduceIte, i1, i2, i3, l1, l2, s1, s2, wrap_succ a (by omega), wrap_p1 b (by omega) (by omega)]
 clear s1 s2 i1 i2 i3 l1 l2 hm3
 refine WL_inv (α := Nat × Nat × Array AV) (fun q e mm => e 0 = .ref id 0 n ∧ e 1 = I64 a ∧ e 4 = cv ∧ e 11 = I64 q.1 ∧ e 12 = I64 q.2.1 ∧ a < q.1 ∧ q.2.1 < b ∧ MR m0 mm id E.sz q.2.2 ∧ AllD E q.2.2 ∧ q.2.2.size = d.size ∧ partEqLoop c.lt a q.1 q.2.1 q.2.2 = partEqLoop c.lt a (a + 1) (b - 1) d0)
  (fun q => q.2.1 + 1 - q.1) (a + 1, b - 1, d0) ?_ ?_
 ·simp only [go_sem, Nat.reduceEqDiff, Nat.reduceAdd, Nat.reduceLT, Nat.reduceLeDiff, reduceIte]
  exact ⟨trivial, trivial, trivial, trivial, trivial, by omega, by omega, hm4, hD4, hs4, trivial⟩
 rintro ⟨i, j, d1⟩ e m1 ⟨h0, h1, h4, h11, h12, hai, hjb, hm1, hD1, hs1, ho⟩
 dsimp only at h11 h12 hai hjb hm1 hD1 hs1 ho
 rw [← ho] at hK
 rw [partEqLoop_eq] at ho
 rw [partEqLoop_eq] at hK
 have ia := hm1.idxN (k := .i64) (n := n) (i := a) (by omega)
 have la := hm1.ld hD1 (i := a) (by omega)
 have xa := hD1 a (by omega)
 simp only [go_sem, Nat.reduceEqDiff, Nat.reduceAdd, Nat.reduceLT, Nat.reduceLeDiff, reduceIte]
 refine WL_inv (α := Nat) (fun k e mm => e 0 = .ref id 0 n ∧ e 1 = I64 a ∧ e 4 = cv ∧ e 11 = I64 k ∧ e 12 = I64 j ∧ m1 = mm ∧ i ≤ k ∧ scanUp (fun x => !c.lt d1[a]! x) d1 j k = scanUp (fun x => !c.lt d1[a]! x) d1 j i) (fun k => j + 1 - k) i ?_ ?_
 ·simp only [go_sem, Nat.reduceEqDiff, Nat.reduceAdd, Nat.reduceLT, Nat.reduceLeDiff, reduceIte]
  exact ⟨h0, h1, h4, h11, h12, trivial, Nat.le_refl _, trivial⟩
 rintro k e1 m2 ⟨g0, g1, g4, g11, g12, rfl, hik, hk⟩
 by_cases hgo : k ≤ j ∧ c.lt d1[a]! d1[k]! = false
 ·obtain ⟨hkj, hl⟩ := hgo
  have hl' : decide (c.cf d1[a]! d1[k]! < 0) = false := hl
  have ik := hm1.idxN (k := .i64) (n := n) (i := k) (by omega)
  have lk := hm1.ld hD1 (i := k) (by omega)
  have hc := c.ok _ _ xa (hD1 k (by omega))
  simp only [go_sem, Nat.reduceEqDiff, Nat.reduceAdd, Nat.reduceLT, Nat.reduceLeDiff, reduceIte, g0, g1, g4, g11, g12, show decide ((k : Int) ≤ (j : Int)) = true from decide_eq_true (by omega), ia, la, ik, lk, hc, hl', wrap_succ k (by omega)]
  refine Nx_of (k + 1) (by first | omega | (dsimp only; omega)) ?_
  simp only [go_sem, Nat.reduceEqDiff, Nat.reduceAdd, Nat.reduceLT, Nat.reduceLeDiff, reduceIte, g0, g1, g4, g12]
  exact ⟨trivial, trivial, trivial, trivial, trivial, trivial, by omega, by rw [← hk]; exact (scanUp_go hkj (by simp [hl])).symm⟩
 have hke : scanUp (fun x => !c.lt d1[a]! x) d1 j i = k := by
  rw [← hk]; exact scanUp_end fun h => by
   have : ¬c.lt d1[a]! d1[k]! = false := fun h' => hgo ⟨h, h'⟩
   simpa using this
 rw [hke] at ho hK
 by_cases hkj : k ≤ j
 case' pos =>
  have hl : c.lt d1[a]! d1[k]! = true := by
   have : ¬c.lt d1[a]! d1[k]! = false := fun h' => hgo ⟨hkj, h'⟩
   simpa using this
  have hl' : decide (c.cf d1[a]! d1[k]! < 0) = true := hl
  have ik := hm1.idxN (k := .i64) (n := n) (i := k) (by omega)
  have lk := hm1.ld hD1 (i := k) (by omega)
  have hc := c.ok _ _ xa (hD1 k (by omega))
  simp only [go_sem, Nat.reduceEqDiff, Nat.reduceAdd, Nat.reduceLT, Nat.reduceLeDiff, reduceIte, g0, g1, g4, g11, g12, show decide ((k : Int) ≤ (j : Int)) = true from decide_eq_true (by omega), ia, la, ik, lk, hc, hl']
 case' neg =>
  simp only [go_sem, Nat.reduceEqDiff, Nat.reduceAdd, Nat.reduceLT, Nat.reduceLeDiff, reduceIte, g0, g1, g4, g11, g12, show decide ((k : Int) ≤ (j : Int)) = false from decide_eq_false (by omega)]
 all_goals
  refine WL_inv (α := Nat) (fun l e mm => e 0 = .ref id 0 n ∧ e 1 = I64 a ∧ e 4 = cv ∧ e 11 = I64 k ∧ e 12 = I64 l ∧ m1 = mm ∧ l ≤ j ∧ scanDown (fun x => c.lt d1[a]! x) d1 k l = scanDown (fun x => c.lt d1[a]! x) d1 k j) (fun l => l) j ?_ ?_
  ·simp only [go_sem, Nat.reduceEqDiff, Nat.reduceAdd, Nat.reduceLT, Nat.reduceLeDiff, reduceIte, g0, g1, g4, g11, g12]
   exact ⟨trivial, trivial, trivial, trivial, trivial, trivial, Nat.le_refl _, trivial⟩
  rintro l e2 m2 ⟨q0, q1, q4, q11, q12, rfl, hlj, hl⟩
  by_cases hgo2 : k ≤ l ∧ c.lt d1[a]! d1[l]! = true
  ·obtain ⟨hkl, hlt⟩ := hgo2
   obtain ⟨l, rfl⟩ : ∃ l', l = l' + 1 := ⟨l - 1, by omega⟩
   have hl' : decide (c.cf d1[a]! d1[l + 1]! < 0) = true := hlt
   have ik := hm1.idxN (k := .i64) (n := n) (i := l + 1) (by omega)
   have lk := hm1.ld hD1 (i := l + 1) (by omega)
   have hc := c.ok _ _ xa (hD1 (l + 1) (by omega))
   simp only [go_sem, Nat.reduceEqDiff, Nat.reduceAdd, Nat.reduceLT, Nat.reduceLeDiff, reduceIte, q0, q1, q4, q11, q12, show decide ((k : Int) ≤ ((l + 1 : Nat) : Int)) = true from decide_eq_true (by omega), ia, la, ik, lk, hc, hl', wrap_pred l (by omega)]
   refine Nx_of l (by first | omega | (dsimp only; omega)) ?_
   simp only [go_sem, Nat.reduceEqDiff, Nat.reduceAdd, Nat.reduceLT, Nat.reduceLeDiff, reduceIte, q0, q1, q4, q11]
   exact ⟨trivial, trivial, trivial, trivial, trivial, trivial, by omega, by rw [← hl]; exact (scanDown_go hkl (by simp [hlt])).symm⟩
  have hle : scanDown (fun x => c.lt d1[a]! x) d1 k j = l := by
   rw [← hl]; exact scanDown_end fun h => by
    have : ¬c.lt d1[a]! d1[l]! = true := fun h' => hgo2 ⟨h, h'⟩
    simpa using this
  rw [hle] at ho hK
  by_cases hkl : k ≤ l
  ·have hlt : c.lt d1[a]! d1[l]! = false := by
    have : ¬c.lt d1[a]! d1[l]! = true := fun h' => hgo2 ⟨hkl, h'⟩
    simpa using this
   have hl' : decide (c.cf d1[a]! d1[l]! < 0) = false := hlt
   have il := hm1.idxN (k := .i64) (n := n) (i := l) (by omega)
   have ll := hm1.ld hD1 (i := l) (by omega)
   have ik := hm1.idxN (k := .i64) (n := n) (i := k) (by omega)
   have lk := hm1.ld hD1 (i := k) (by omega)
   have hc := c.ok _ _ xa (hD1 l (by omega))
   obtain ⟨m5, m6, s1, s2, ⟨d3, hm5⟩, hm6, hD6, hs6⟩ := hm1.swap hD1 (i := k) (j := l) (by omega) (by omega)
   have i5 := hm5.idxN (k := .i64) (n := n) (i := l) (by omega)
   simp only [go_sem, Nat.reduceEqDiff, Nat.reduceAdd, Nat.reduceLT, Nat.reduceLeDiff, reduceIte, q0, q1, q4, q11, q12, show decide ((k : Int) ≤ (l : Int)) = true from decide_eq_true (by omega), show decide ((l : Int) < (k : Int)) = false from decide_eq_false (by omega), ia, la, il, ll, ik, lk, hc, hl', s1, s2, i5, wrap_succ k (by omega), wrap_p1 l (by omega) (by omega)]
   rw [if_neg (by omega)] at ho
   refine Nx_of (k + 1, l - 1, swp d1 k l) (by first | omega | (dsimp only; omega)) ?_
   simp only [go_sem, Nat.reduceEqDiff, Nat.reduceAdd, Nat.reduceLT, Nat.reduceLeDiff, reduceIte, q0, q1, q4]
   exact ⟨trivial, trivial, trivial, trivial, trivial, by omega, by omega, hm6, hD6, by rw [hs6, hs1], ho⟩
  ·rw [if_pos (by omega)] at hK
   simp only [go_sem, Nat.reduceEqDiff, Nat.reduceAdd, Nat.reduceLT, Nat.reduceLeDiff, reduceIte, q0, q1, q4, q11, q12, show decide ((k : Int) ≤ (l : Int)) = false from decide_eq_false (by omega), show decide ((l : Int) < (k : Int)) = true from decide_eq_true (by omega)]
   exact hK _ hm1 hD1 hs1
end Go.Ab.Srt
end
section
namespace Go.Ab.Srt
open Go.Sort
set_option maxRecDepth 8000
set_option maxHeartbeats 4000000
variable {ft : FuncId → Option AFn} {E : Els} {cv : AV} (c : CmpOK ft E cv) {id n : Nat} {m0 : Mem}
theorem pt_run {f : FuncId} (hf : ft f = some ⟨5, partitionF E.sz E.lz, partitionFR, .r⟩) (hn : n < 1073741824) {d : Array AV} {a b pv : Nat} (hap : a ≤ pv) (hpb : pv < b) (hb : b ≤ n) (hd : n ≤ d.size)
  (hD : AllD E d) {m : Mem} (hm : MR m0 m id E.sz d) (K : AV → Mem → Prop)
  (hK : ∀ m', MR m0 m' id E.sz (partition c.lt d a b pv).2.2 → AllD E (partition c.lt d a b pv).2.2 → (partition c.lt d a b pv).2.2.size = d.size → K (.tup [I64 (((partition c.lt d a b pv).1 : Nat) : Int), .bool (partition c.lt d a b pv).2.1]) m') :
  WR ft (.f f) [.ref id 0 n, I64 a, I64 b, I64 pv, cv] m K := by
 rw [WR_f hf rfl]
 simp only [partitionF, partitionFR]
 obtain ⟨m3, m4, s1, s2, ⟨d3, hm3⟩, hm4, hD4, hs4⟩ := hm.swap hD (i := a) (j := pv) (by omega) (by omega)
 have i1 := hm.idxN (k := .i64) (n := n) (i := a) (by omega)
 have i2 := hm.idxN (k := .i64) (n := n) (i := pv) (by omega)
 have i3 := hm3.idxN (k := .i64) (n := n) (i := pv) (by omega)
 have l1 := hm.ld hD (i := a) (by omega)
 have l2 := hm.ld hD (i := pv) (by omega)
 unfold partition at hK
 dsimp only at hK
 generalize swp d a pv = d0 at hm4 hD4 hs4 hK
 simp only [go_sem, Nat.reduceEqDiff, Nat.reduceAdd, Nat.reduceLT, Nat.reduceLeDiff, reduceIte, i1, i2, i3, l1, l2, s1, s2, wrap_succ a (by omega), wrap_p1 b (by omega) (by omega)]
 clear s1 s2 i1 i2 i3 l1 l2 hm3
 generalize hj0 : b - 1 = j0 at hK ⊢
 generalize hi0 : a + 1 = i0 at hK ⊢
 have xia := hm4.idxN (k := .i64) (n := n) (i := a) (by omega)
 have xla := hm4.ld hD4 (i := a) (by omega)
 have xxa := hD4 a (by omega)
 refine WL_inv (α := Nat) (fun q e mm => e 0 = .ref id 0 n ∧ e 1 = I64 a ∧ e 2 = I64 b ∧ e 4 = cv ∧ e 12 = I64 q ∧ e 13 = I64 j0 ∧ m4 = mm ∧ i0 ≤ q ∧ scanUp (fun x => c.lt x d0[a]!) d0 j0 q = scanUp (fun x => c.lt x d0[a]!) d0 j0 i0) (fun q => j0 + 1 - q) i0 ?_ ?_
 ·simp only [go_sem, Nat.reduceEqDiff, Nat.reduceAdd, Nat.reduceLT, Nat.reduceLeDiff, reduceIte]
  exact ⟨trivial, trivial, trivial, trivial, trivial, trivial, trivial, Nat.le_refl _, trivial⟩
 rintro xk xe1 xm2 ⟨xg0, xg1, xg2, xg4, xg11, xg12, rfl, xhik, xhk⟩
 by_cases xhgo : xk ≤ j0 ∧ c.lt d0[xk]! d0[a]! = true
 ·obtain ⟨hkj, hl⟩ := xhgo
  have hl' : decide (c.cf d0[xk]! d0[a]! < 0) = true := hl
  have ik := hm4.idxN (k := .i64) (n := n) (i := xk) (by omega)
  have lk := hm4.ld hD4 (i := xk) (by omega)
  have hc := c.ok _ _ (hD4 xk (by omega)) xxa
  simp only [go_sem, Nat.reduceEqDiff, Nat.reduceAdd, Nat.reduceLT, Nat.reduceLeDiff, reduceIte, xg0, xg1, xg2, xg4, xg11, xg12, show decide ((xk : Int) ≤ ((j0 : Nat) : Int)) = true from decide_eq_true (by omega), xia, xla, ik, lk, hc, hl', wrap_succ xk (by omega)]
  refine Nx_of (xk + 1) (by first | omega | (dsimp only; omega)) ?_
  simp only [go_sem, Nat.reduceEqDiff, Nat.reduceAdd, Nat.reduceLT, Nat.reduceLeDiff, reduceIte, xg0, xg1, xg2, xg4, xg12]
  exact ⟨trivial, trivial, trivial, trivial, trivial, trivial, trivial, by omega, by rw [← xhk]; exact (scanUp_go hkj hl).symm⟩
 have xhke : scanUp (fun x => c.lt x d0[a]!) d0 j0 i0 = xk := by
  rw [← xhk]; exact scanUp_end fun h => by
   have : ¬c.lt d0[xk]! d0[a]! = true := fun h' => xhgo ⟨h, h'⟩
   simpa using this
 rw [xhke] at hK
 by_cases xhkj : xk ≤ j0
 case' pos =>
  have hl : c.lt d0[xk]! d0[a]! = false := by
   have : ¬c.lt d0[xk]! d0[a]! = true := fun h' => xhgo ⟨xhkj, h'⟩
   simpa using this
  have hl' : decide (c.cf d0[xk]! d0[a]! < 0) = false := hl
  have ik := hm4.idxN (k := .i64) (n := n) (i := xk) (by omega)
  have lk := hm4.ld hD4 (i := xk) (by omega)
  have hc := c.ok _ _ (hD4 xk (by omega)) xxa
  simp only [go_sem, Nat.reduceEqDiff, Nat.reduceAdd, Nat.reduceLT, Nat.reduceLeDiff, reduceIte, xg0, xg1, xg2, xg4, xg11, xg12, show decide ((xk : Int) ≤ ((j0 : Nat) : Int)) = true from decide_eq_true (by omega), xia, xla, ik, lk, hc, hl']
 case' neg =>
  simp only [go_sem, Nat.reduceEqDiff, Nat.reduceAdd, Nat.reduceLT, Nat.reduceLeDiff, reduceIte, xg0, xg1, xg2, xg4, xg11, xg12, show decide ((xk : Int) ≤ ((j0 : Nat) : Int)) = false from decide_eq_false (by omega)]
 all_goals
  refine WL_inv (α := Nat) (fun q e mm => e 0 = .ref id 0 n ∧ e 1 = I64 a ∧ e 2 = I64 b ∧ e 4 = cv ∧ e 12 = I64 xk ∧ e 13 = I64 q ∧ m4 = mm ∧ q ≤ j0 ∧ scanDown (fun x => !c.lt x d0[a]!) d0 xk q = scanDown (fun x => !c.lt x d0[a]!) d0 xk j0) (fun q => q) (j0) ?_ ?_
  ·simp only [go_sem, Nat.reduceEqDiff, Nat.reduceAdd, Nat.reduceLT, Nat.reduceLeDiff, reduceIte, xg0, xg1, xg2, xg4, xg11, xg12]
   exact ⟨trivial, trivial, trivial, trivial, trivial, trivial, trivial, Nat.le_refl _, trivial⟩
  rintro xl xe2 xm3 ⟨xq0, xq1, xq2, xq4, xq11, xq12, rfl, xhlj, xhl⟩
  by_cases xhgo2 : xk ≤ xl ∧ c.lt d0[xl]! d0[a]! = false
  ·obtain ⟨hkl, hlt⟩ := xhgo2
   obtain ⟨xl, rfl⟩ : ∃ l', xl = l' + 1 := ⟨xl - 1, by omega⟩
   have hl' : decide (c.cf d0[xl + 1]! d0[a]! < 0) = false := hlt
   have ik := hm4.idxN (k := .i64) (n := n) (i := xl + 1) (by omega)
   have lk := hm4.ld hD4 (i := xl + 1) (by omega)
   have hc := c.ok _ _ (hD4 (xl + 1) (by omega)) xxa
   simp only [go_sem, Nat.reduceEqDiff, Nat.reduceAdd, Nat.reduceLT, Nat.reduceLeDiff, reduceIte, xq0, xq1, xq2, xq4, xq11, xq12, show decide ((xk : Int) ≤ ((xl + 1 : Nat) : Int)) = true from decide_eq_true (by omega), xia, xla, ik, lk, hc, hl', wrap_pred xl (by omega)]
   refine Nx_of xl (by first | omega | (dsimp only; omega)) ?_
   simp only [go_sem, Nat.reduceEqDiff, Nat.reduceAdd, Nat.reduceLT, Nat.reduceLeDiff, reduceIte, xq0, xq1, xq2, xq4, xq11]
   exact ⟨trivial, trivial, trivial, trivial, trivial, trivial, trivial, by omega, by rw [← xhl]; exact (scanDown_go hkl (by simp [hlt])).symm⟩
  have xhle : scanDown (fun x => !c.lt x d0[a]!) d0 xk (j0) = xl := by
   rw [← xhl]; exact scanDown_end fun h => by
    have : ¬c.lt d0[xl]! d0[a]! = false := fun h' => xhgo2 ⟨h, h'⟩
    simpa using this
  rw [xhle] at hK
  by_cases xhkl : xk ≤ xl
  case' pos =>
   have xhlt : c.lt d0[xl]! d0[a]! = true := by
    have : ¬c.lt d0[xl]! d0[a]! = false := fun h' => xhgo2 ⟨xhkl, h'⟩
    simpa using this
   have xhl' : decide (c.cf d0[xl]! d0[a]! < 0) = true := xhlt
   have xil := hm4.idxN (k := .i64) (n := n) (i := xl) (by omega)
   have xll := hm4.ld hD4 (i := xl) (by omega)
   have xik := hm4.idxN (k := .i64) (n := n) (i := xk) (by omega)
   have xlk := hm4.ld hD4 (i := xk) (by omega)
   have xhc := c.ok _ _ (hD4 xl (by omega)) xxa
   obtain ⟨m5, m6, s1, s2, ⟨d3, hm5⟩, hm6, hD6, hs6⟩ := hm4.swap hD4 (i := xk) (j := xl) (by omega) (by omega)
   have i5 := hm5.idxN (k := .i64) (n := n) (i := xl) (by omega)
   rw [if_neg (by omega)] at hK
   simp only [go_sem, Nat.reduceEqDiff, Nat.reduceAdd, Nat.reduceLT, Nat.reduceLeDiff, reduceIte, xq0, xq1, xq2, xq4, xq11, xq12, show decide ((xk : Int) ≤ (xl : Int)) = true from decide_eq_true (by omega), show decide ((xl : Int) < (xk : Int)) = false from decide_eq_false (by omega), xia, xla, xil, xll, xik, xlk, xhc, xhl', s1, s2, i5, wrap_succ xk (by omega), wrap_p1 xl (by omega) (by omega)]
   generalize hd1 : swp d0 xk xl = d1 at hm6 hD6 hs6 hK
   refine WL_inv (α := Nat × Nat × Array AV) (fun q e mm => e 0 = .ref id 0 n ∧ e 1 = I64 a ∧ e 2 = I64 b ∧ e 4 = cv ∧ e 12 = I64 q.1 ∧ e 13 = I64 q.2.1 ∧ a < q.1 ∧ q.2.1 < b ∧ MR m0 mm id E.sz q.2.2 ∧ AllD E q.2.2 ∧ q.2.2.size = d.size ∧ partLoop c.lt a q.1 q.2.1 q.2.2 = partLoop c.lt a (xk + 1) (xl - 1) d1)
    (fun q => q.2.1 + 1 - q.1) (xk + 1, xl - 1, d1) ?_ ?_
   ·simp only [go_sem, Nat.reduceEqDiff, Nat.reduceAdd, Nat.reduceLT, Nat.reduceLeDiff, reduceIte, xq0, xq1, xq2, xq4]
    exact ⟨trivial, trivial, trivial, trivial, trivial, trivial, by omega, by omega, hm6, hD6, by rw [hs6, hs4], trivial⟩
   rintro ⟨i, j, d2⟩ e m9 ⟨h0, h1, h2, h4, h12, h13, hai, hjb, hm2, hD2, hs2, ho⟩
   dsimp only at h12 h13 hai hjb hm2 hD2 hs2 ho
   rw [partLoop_eq] at ho
   have yia := hm2.idxN (k := .i64) (n := n) (i := a) (by omega)
   have yla := hm2.ld hD2 (i := a) (by omega)
   have yxa := hD2 a (by omega)
   simp only [go_sem, Nat.reduceEqDiff, Nat.reduceAdd, Nat.reduceLT, Nat.reduceLeDiff, reduceIte]
   refine WL_inv (α := Nat) (fun q e mm => e 0 = .ref id 0 n ∧ e 1 = I64 a ∧ e 2 = I64 b ∧ e 4 = cv ∧ e 12 = I64 q ∧ e 13 = I64 j ∧ m9 = mm ∧ i ≤ q ∧ scanUp (fun x => c.lt x d2[a]!) d2 j q = scanUp (fun x => c.lt x d2[a]!) d2 j i) (fun q => j + 1 - q) i ?_ ?_
   ·simp only [go_sem, Nat.reduceEqDiff, Nat.reduceAdd, Nat.reduceLT, Nat.reduceLeDiff, reduceIte, h0, h1, h2, h4, h12, h13]
    exact ⟨trivial, trivial, trivial, trivial, trivial, trivial, trivial, Nat.le_refl _, trivial⟩
   rintro yk ye1 ym2 ⟨yg0, yg1, yg2, yg4, yg11, yg12, rfl, yhik, yhk⟩
   by_cases yhgo : yk ≤ j ∧ c.lt d2[yk]! d2[a]! = true
   ·obtain ⟨hkj, hl⟩ := yhgo
    have hl' : decide (c.cf d2[yk]! d2[a]! < 0) = true := hl
    have ik := hm2.idxN (k := .i64) (n := n) (i := yk) (by omega)
    have lk := hm2.ld hD2 (i := yk) (by omega)
    have hc := c.ok _ _ (hD2 yk (by omega)) yxa
    simp only [go_sem, Nat.reduceEqDiff, Nat.reduceAdd, Nat.reduceLT, Nat.reduceLeDiff, reduceIte, yg0, yg1, yg2, yg4, yg11, yg12, show decide ((yk : Int) ≤ ((j : Nat) : Int)) = true from decide_eq_true (by omega), yia, yla, ik, lk, hc, hl', wrap_succ yk (by omega)]
    refine Nx_of (yk + 1) (by first | omega | (dsimp only; omega)) ?_
    simp only [go_sem, Nat.reduceEqDiff, Nat.reduceAdd, Nat.reduceLT, Nat.reduceLeDiff, reduceIte, yg0, yg1, yg2, yg4, yg12]
    exact ⟨trivial, trivial, trivial, trivial, trivial, trivial, trivial, by omega, by rw [← yhk]; exact (scanUp_go hkj hl).symm⟩
   have yhke : scanUp (fun x => c.lt x d2[a]!) d2 j i = yk := by
    rw [← yhk]; exact scanUp_end fun h => by
     have : ¬c.lt d2[yk]! d2[a]! = true := fun h' => yhgo ⟨h, h'⟩
     simpa using this
   rw [yhke] at ho
   by_cases yhkj : yk ≤ j
   case' pos =>
    have hl : c.lt d2[yk]! d2[a]! = false := by
     have : ¬c.lt d2[yk]! d2[a]! = true := fun h' => yhgo ⟨yhkj, h'⟩
     simpa using this
    have hl' : decide (c.cf d2[yk]! d2[a]! < 0) = false := hl
    have ik := hm2.idxN (k := .i64) (n := n) (i := yk) (by omega)
    have lk := hm2.ld hD2 (i := yk) (by omega)
    have hc := c.ok _ _ (hD2 yk (by omega)) yxa
    simp only [go_sem, Nat.reduceEqDiff, Nat.reduceAdd, Nat.reduceLT, Nat.reduceLeDiff, reduceIte, yg0, yg1, yg2, yg4, yg11, yg12, show decide ((yk : Int) ≤ ((j : Nat) : Int)) = true from decide_eq_true (by omega), yia, yla, ik, lk, hc, hl']
   case' neg =>
    simp only [go_sem, Nat.reduceEqDiff, Nat.reduceAdd, Nat.reduceLT, Nat.reduceLeDiff, reduceIte, yg0, yg1, yg2, yg4, yg11, yg12, show decide ((yk : Int) ≤ ((j : Nat) : Int)) = false from decide_eq_false (by omega)]
   all_goals
    refine WL_inv (α := Nat) (fun q e mm => e 0 = .ref id 0 n ∧ e 1 = I64 a ∧ e 2 = I64 b ∧ e 4 = cv ∧ e 12 = I64 yk ∧ e 13 = I64 q ∧ m9 = mm ∧ q ≤ j ∧ scanDown (fun x => !c.lt x d2[a]!) d2 yk q = scanDown (fun x => !c.lt x d2[a]!) d2 yk j) (fun q => q) (j) ?_ ?_
    ·simp only [go_sem, Nat.reduceEqDiff, Nat.reduceAdd, Nat.reduceLT, Nat.reduceLeDiff, reduceIte, yg0, yg1, yg2, yg4, yg11, yg12]
     exact ⟨trivial, trivial, trivial, trivial, trivial, trivial, trivial, Nat.le_refl _, trivial⟩
    rintro yl ye2 ym3 ⟨yq0, yq1, yq2, yq4, yq11, yq12, rfl, yhlj, yhl⟩
    by_cases yhgo2 : yk ≤ yl ∧ c.lt d2[yl]! d2[a]! = false
    ·obtain ⟨hkl, hlt⟩ := yhgo2
     obtain ⟨yl, rfl⟩ : ∃ l', yl = l' + 1 := ⟨yl - 1, by omega⟩
     have hl' : decide (c.cf d2[yl + 1]! d2[a]! < 0) = false := hlt
     have ik := hm2.idxN (k := .i64) (n := n) (i := yl + 1) (by omega)
     have lk := hm2.ld hD2 (i := yl + 1) (by omega)
     have hc := c.ok _ _ (hD2 (yl + 1) (by omega)) yxa
     simp only [go_sem, Nat.reduceEqDiff, Nat.reduceAdd, Nat.reduceLT, Nat.reduceLeDiff, reduceIte, yq0, yq1, yq2, yq4, yq11, yq12, show decide ((yk : Int) ≤ ((yl + 1 : Nat) : Int)) = true from decide_eq_true (by omega), yia, yla, ik, lk, hc, hl', wrap_pred yl (by omega)]
     refine Nx_of yl (by first | omega | (dsimp only; omega)) ?_
     simp only [go_sem, Nat.reduceEqDiff, Nat.reduceAdd, Nat.reduceLT, Nat.reduceLeDiff, reduceIte, yq0, yq1, yq2, yq4, yq11]
     exact ⟨trivial, trivial, trivial, trivial, trivial, trivial, trivial, by omega, by rw [← yhl]; exact (scanDown_go hkl (by simp [hlt])).symm⟩
    have yhle : scanDown (fun x => !c.lt x d2[a]!) d2 yk (j) = yl := by
     rw [← yhl]; exact scanDown_end fun h => by
      have : ¬c.lt d2[yl]! d2[a]! = false := fun h' => yhgo2 ⟨h, h'⟩
      simpa using this
    rw [yhle] at ho
    by_cases yhkl : yk ≤ yl
    case' pos =>
     have yhlt : c.lt d2[yl]! d2[a]! = true := by
      have : ¬c.lt d2[yl]! d2[a]! = false := fun h' => yhgo2 ⟨yhkl, h'⟩
      simpa using this
     have yhl' : decide (c.cf d2[yl]! d2[a]! < 0) = true := yhlt
     have yil := hm2.idxN (k := .i64) (n := n) (i := yl) (by omega)
     have yll := hm2.ld hD2 (i := yl) (by omega)
     have yik := hm2.idxN (k := .i64) (n := n) (i := yk) (by omega)
     have ylk := hm2.ld hD2 (i := yk) (by omega)
     have yhc := c.ok _ _ (hD2 yl (by omega)) yxa
     obtain ⟨m7, m8, t1, t2, ⟨d5, hm7⟩, hm8, hD8, hs8⟩ := hm2.swap hD2 (i := yk) (j := yl) (by omega) (by omega)
     have i5 := hm7.idxN (k := .i64) (n := n) (i := yl) (by omega)
     simp only [go_sem, Nat.reduceEqDiff, Nat.reduceAdd, Nat.reduceLT, Nat.reduceLeDiff, reduceIte, yq0, yq1, yq2, yq4, yq11, yq12, show decide ((yk : Int) ≤ (yl : Int)) = true from decide_eq_true (by omega), show decide ((yl : Int) < (yk : Int)) = false from decide_eq_false (by omega), yia, yla, yil, yll, yik, ylk, yhc, yhl', t1, t2, i5, wrap_succ yk (by omega), wrap_p1 yl (by omega) (by omega)]
     rw [if_neg (by omega)] at ho
     refine Nx_of (yk + 1, yl - 1, swp d2 yk yl) (by first | omega | (dsimp only; omega)) ?_
     simp only [go_sem, Nat.reduceEqDiff, Nat.reduceAdd, Nat.reduceLT, Nat.reduceLeDiff, reduceIte, yq0, yq1, yq2, yq4]
     exact ⟨trivial, trivial, trivial, trivial, trivial, trivial, by omega, by omega, hm8, hD8, by rw [hs8, hs2], ho⟩
    case' neg =>
     have yil := hm2.idxN (k := .i64) (n := n) (i := yl) (by omega)
     have yll := hm2.ld hD2 (i := yl) (by omega)
     obtain ⟨m7, m8, t1, t2, ⟨d5, hm7⟩, hm8, hD8, hs8⟩ := hm2.swap hD2 (i := yl) (j := a) (by omega) (by omega)
     have i5 := hm7.idxN (k := .i64) (n := n) (i := a) (by omega)
     rw [if_pos (by omega)] at ho
     rw [← ho] at hK
     simp only [go_sem, Nat.reduceEqDiff, Nat.reduceAdd, Nat.reduceLT, Nat.reduceLeDiff, reduceIte, yq0, yq1, yq2, yq4, yq11, yq12, show decide ((yk : Int) ≤ (yl : Int)) = false from decide_eq_false (by omega), show decide ((yl : Int) < (yk : Int)) = true from decide_eq_true (by omega), yia, yla, yil, yll, t1, t2, i5]
     exact hK _ hm8 hD8 (by rw [hs8, hs2])
  case' neg =>
   have xil := hm4.idxN (k := .i64) (n := n) (i := xl) (by omega)
   have xll := hm4.ld hD4 (i := xl) (by omega)
   obtain ⟨m7, m8, t1, t2, ⟨d5, hm7⟩, hm8, hD8, hs8⟩ := hm4.swap hD4 (i := xl) (j := a) (by omega) (by omega)
   have i5 := hm7.idxN (k := .i64) (n := n) (i := a) (by omega)
   rw [if_pos (by omega)] at hK
   simp only [go_sem, Nat.reduceEqDiff, Nat.reduceAdd, Nat.reduceLT, Nat.reduceLeDiff, reduceIte, xq0, xq1, xq2, xq4, xq11, xq12, show decide ((xk : Int) ≤ (xl : Int)) = false from decide_eq_false (by omega), show decide ((xl : Int) < (xk : Int)) = true from decide_eq_true (by omega), xia, xla, xil, xll, t1, t2, i5]
   exact hK _ hm8 hD8 (by rw [hs8, hs4])
end Go.Ab.Srt
end
section
namespace Go.Ab.Srt
open Go.Sort
set_option maxRecDepth 8000
set_option maxHeartbeats 4000000
variable {ft : FuncId → Option AFn} {E : Els} {cv : AV} (c : CmpOK ft E cv) {id n : Nat} {m0 : Mem}
theorem rev_run {f : FuncId} (hf : ft f = some ⟨4, reverseRangeF E.sz E.lz, reverseRangeFR, .r⟩) (hn : n < 1073741824) {d : Array AV} {a b : Nat} (hab : a < b) (hb : b ≤ n) (hd : n ≤ d.size)
  (hD : AllD E d) {m : Mem} (hm : MR m0 m id E.sz d) (K : AV → Mem → Prop) (hK : ∀ m', MR m0 m' id E.sz (reverseRange d a b) → AllD E (reverseRange d a b) → (reverseRange d a b).size = d.size → K (.tup []) m') : WR ft (.f f) [.ref id 0 n, I64 a, I64 b, cv] m K := by
 rw [WR_f hf rfl]
 simp only [reverseRangeF, reverseRangeFR]
 unfold reverseRange at hK
 simp only [go_sem, Nat.reduceEqDiff, Nat.reduceAdd, Nat.reduceLT, Nat.reduceLeDiff, reduceIte, wrap_p1 b (by omega) (by omega)]
 generalize hj0 : b - 1 = j0 at hK ⊢
 refine WL_inv (α := Nat × Nat × Array AV) (fun q e mm => e 0 = .ref id 0 n ∧ e 8 = I64 q.1 ∧ e 9 = I64 q.2.1 ∧ q.2.1 < b ∧ MR m0 mm id E.sz q.2.2 ∧ AllD E q.2.2 ∧ q.2.2.size = d.size ∧ reverseLoop q.1 q.2.1 q.2.2 = reverseLoop a j0 d) (fun q => q.2.1 - q.1) (a, j0, d) ?_ ?_
 ·simp only [go_sem, Nat.reduceEqDiff, Nat.reduceAdd, Nat.reduceLT, Nat.reduceLeDiff, reduceIte]
  exact ⟨trivial, trivial, trivial, by omega, hm, hD, trivial⟩
 rintro ⟨i, j, d1⟩ e m1 ⟨h0, h8, h9, hjb, hm1, hD1, hs1, ho⟩
 dsimp only at h8 h9 hjb hm1 hD1 hs1 ho
 rw [← ho] at hK
 by_cases hij : i < j
 ·have hr : reverseLoop i j d1 = reverseLoop (i + 1) (j - 1) (swp d1 i j) := by
   conv => lhs; unfold reverseLoop
   rw [if_pos hij]
  obtain ⟨m5, m6, s1, s2, ⟨d3, hm5⟩, hm6, hD6, hs6⟩ := hm1.swap hD1 (i := i) (j := j) (by omega) (by omega)
  have i1 := hm1.idxN (k := .i64) (n := n) (i := i) (by omega)
  have i2 := hm1.idxN (k := .i64) (n := n) (i := j) (by omega)
  have i3 := hm5.idxN (k := .i64) (n := n) (i := j) (by omega)
  have l1 := hm1.ld hD1 (i := i) (by omega)
  have l2 := hm1.ld hD1 (i := j) (by omega)
  simp only [go_sem, Nat.reduceEqDiff, Nat.reduceAdd, Nat.reduceLT, Nat.reduceLeDiff, reduceIte, h0, h8, h9, show decide ((i : Int) < (j : Int)) = true from decide_eq_true (by omega), i1, i2, i3, l1, l2, s1, s2, wrap_succ i (by omega), wrap_p1 j (by omega) (by omega)]
  refine Nx_of (i + 1, j - 1, swp d1 i j) (by first | omega | (dsimp only; omega)) ?_
  simp only [go_sem, Nat.reduceEqDiff, Nat.reduceAdd, Nat.reduceLT, Nat.reduceLeDiff, reduceIte, h0]
  exact ⟨trivial, trivial, trivial, by omega, hm6, hD6, by rw [hs6, hs1], by rw [← ho]; exact hr.symm⟩
 ·have hr : reverseLoop i j d1 = d1 := by
   unfold reverseLoop
   rw [if_neg hij]
  rw [hr] at hK
  simp only [go_sem, Nat.reduceEqDiff, Nat.reduceAdd, Nat.reduceLT, Nat.reduceLeDiff, reduceIte, h0, h8, h9, show decide ((i : Int) < (j : Int)) = false from decide_eq_false (by omega)]
  exact hK _ hm1 hD1 hs1
theorem scanSorted_go {lt : AV → AV → Bool} {d : Array AV} {b i : Nat} (h : i < b) (hl : lt d[i]! d[i - 1]! = false) : scanSorted lt d b i = scanSorted lt d b (i + 1) := by
 conv => lhs; unfold scanSorted
 rw [if_pos (by simp [h, hl])]
theorem scanSorted_end {lt : AV → AV → Bool} {d : Array AV} {b i : Nat} (h : i < b → lt d[i]! d[i - 1]! = true) : scanSorted lt d b i = i := by
 conv => lhs; unfold scanSorted
 rw [if_neg]
 intro hh
 simp only [Bool.and_eq_true, decide_eq_true_eq, Bool.not_eq_true'] at hh
 rw [h hh.1] at hh; cases hh.2
theorem shiftUp_go {lt : AV → AV → Bool} {d : Array AV} {b j : Nat} (h : j < b) (hl : lt d[j]! d[j - 1]! = true) : shiftUp lt b j d = shiftUp lt b (j + 1) (swp d j (j - 1)) := by
 conv => lhs; unfold shiftUp
 rw [if_pos h, hl]; rfl
theorem shiftUp_end {lt : AV → AV → Bool} {d : Array AV} {b j : Nat} (h : j < b → lt d[j]! d[j - 1]! = false) : shiftUp lt b j d = d := by
 unfold shiftUp
 split
 ·rename_i hh; rw [h hh]; rfl
 ·rfl
theorem shiftDown_go {lt : AV → AV → Bool} {d : Array AV} {j : Nat} (hl : lt d[j + 1]! d[j]! = true) : shiftDown lt (j + 1) d = shiftDown lt j (swp d (j + 1) j) := by
 conv => lhs; unfold shiftDown
 rw [hl]; rfl
theorem pi_run {f : FuncId} (hf : ft f = some ⟨4, partialInsertionSortF E.sz E.lz, partialInsertionSortFR, .r⟩) (hn : n < 1073741824) {d : Array AV} {a b : Nat} (hab : a < b) (hb : b ≤ n) (hd : n ≤ d.size)
  (hD : AllD E d) {m : Mem} (hm : MR m0 m id E.sz d) (K : AV → Mem → Prop)
  (hK : ∀ m', MR m0 m' id E.sz (partialInsertionSort c.lt d a b).1 → AllD E (partialInsertionSort c.lt d a b).1 → (partialInsertionSort c.lt d a b).1.size = d.size → K (.bool (partialInsertionSort c.lt d a b).2) m') :
  WR ft (.f f) [.ref id 0 n, I64 a, I64 b, cv] m K := by
 rw [WR_f hf rfl]
 simp only [partialInsertionSortF, partialInsertionSortFR]
 unfold partialInsertionSort at hK
 simp only [go_sem, Nat.reduceEqDiff, Nat.reduceAdd, Nat.reduceLT, Nat.reduceLeDiff, reduceIte, wrap_succ a (by omega)]
 refine WL_inv (α := Nat × Nat × Array AV) (fun q e mm => e 0 = .ref id 0 n ∧ e 1 = I64 a ∧ e 2 = I64 b ∧ e 3 = cv ∧ e 9 = I64 q.2.1 ∧ e 10 = I64 (5 - (q.1 : Int)) ∧ q.1 ≤ 5 ∧ a < q.2.1 ∧ q.2.1 ≤ b ∧ MR m0 mm id E.sz q.2.2 ∧ AllD E q.2.2 ∧ q.2.2.size = d.size ∧ partialIns c.lt a b q.1 q.2.1 q.2.2 = partialIns c.lt a b 5 (a + 1) d)
  (fun q => q.1) (5, a + 1, d) ?_ ?_
 ·simp only [go_sem, Nat.reduceEqDiff, Nat.reduceAdd, Nat.reduceLT, Nat.reduceLeDiff, reduceIte]
  exact ⟨trivial, trivial, trivial, trivial, trivial, rfl, by first | trivial | omega, by first | trivial | omega, by first | trivial | omega, hm, hD, trivial⟩
 rintro ⟨s, i, d1⟩ e m1 ⟨h0, h1, h2, h3, h9, h10, hs5, hai, hib, hm1, hD1, hs1, ho⟩
 dsimp only at h9 h10 hs5 hai hib hm1 hD1 hs1 ho
 rw [← ho] at hK
 cases s with
 | zero =>
  simp only [go_sem, Nat.reduceEqDiff, Nat.reduceAdd, Nat.reduceLT, Nat.reduceLeDiff, reduceIte, h0, h1, h2, h3, h9, h10, show decide ((5 : Int) - ((0 : Nat) : Int) < 5) = false from rfl]
  exact hK _ hm1 hD1 hs1
 | succ s =>
 have w5 : IntKind.i64.wrap ((5 : Int) - ((s + 1 : Nat) : Int) + 1) = 5 - (s : Int) := by rw [wrap_i64 _ (by omega) (by omega)]; omega
 simp only [go_sem, Nat.reduceEqDiff, Nat.reduceAdd, Nat.reduceLT, Nat.reduceLeDiff, reduceIte, h0, h1, h2, h3, h9, h10, show decide ((5 : Int) - ((s + 1 : Nat) : Int) < 5) = true from decide_eq_true (by omega)]
 refine WL_inv (α := Nat) (fun k e mm => e 0 = .ref id 0 n ∧ e 1 = I64 a ∧ e 2 = I64 b ∧ e 3 = cv ∧ e 9 = I64 k ∧ e 10 = I64 (5 - ((s + 1 : Nat) : Int)) ∧ m1 = mm ∧ i ≤ k ∧ k ≤ b ∧ scanSorted c.lt d1 b k = scanSorted c.lt d1 b i) (fun k => b - k) i ?_ ?_
 ·simp only [go_sem, Nat.reduceEqDiff, Nat.reduceAdd, Nat.reduceLT, Nat.reduceLeDiff, reduceIte, h0, h1, h2, h3, h9, h10]
  exact ⟨trivial, trivial, trivial, trivial, trivial, trivial, trivial, Nat.le_refl _, hib, trivial⟩
 rintro k e1 m2 ⟨g0, g1, g2, g3, g9, g10, rfl, hik, hkb, hk⟩
 by_cases hgo : k < b ∧ c.lt d1[k]! d1[k - 1]! = false
 ·obtain ⟨hkb', hl⟩ := hgo
  have hl' : decide (c.cf d1[k]! d1[k - 1]! < 0) = false := hl
  have ik := hm1.idxN (k := .i64) (n := n) (i := k) (by omega)
  have lk := hm1.ld hD1 (i := k) (by omega)
  have ip := hm1.idxN (k := .i64) (n := n) (i := k - 1) (by omega)
  have lp := hm1.ld hD1 (i := k - 1) (by omega)
  have hc := c.ok _ _ (hD1 k (by omega)) (hD1 (k - 1) (by omega))
  simp only [go_sem, Nat.reduceEqDiff, Nat.reduceAdd, Nat.reduceLT, Nat.reduceLeDiff, reduceIte, g0, g1, g2, g3, g9, g10, show decide ((k : Int) < (b : Int)) = true from decide_eq_true (by omega), ik, lk, ip, lp, hc, hl', wrap_succ k (by omega), wrap_p1 k (by omega) (by omega)]
  refine Nx_of (k + 1) (by first | omega | (dsimp only; omega)) ?_
  simp only [go_sem, Nat.reduceEqDiff, Nat.reduceAdd, Nat.reduceLT, Nat.reduceLeDiff, reduceIte, g0, g1, g2, g3, g10]
  exact ⟨trivial, trivial, trivial, trivial, trivial, trivial, trivial, by omega, by omega, by rw [← hk]; exact (scanSorted_go hkb' hl).symm⟩
 have hke : scanSorted c.lt d1 b i = k := by
  rw [← hk]; exact scanSorted_end fun h => by
   have : ¬c.lt d1[k]! d1[k - 1]! = false := fun h' => hgo ⟨h, h'⟩
   simpa using this
 rw [partialIns_succ, hke] at ho
 by_cases hkb' : k = b
 ·subst hkb'
  rw [if_pos rfl] at ho
  rw [show partialIns c.lt a k (s + 1) i d1 = (d1, true) by rw [partialIns_succ, hke, if_pos rfl]] at hK
  simp only [go_sem, Nat.reduceEqDiff, Nat.reduceAdd, Nat.reduceLT, Nat.reduceLeDiff, reduceIte, g0, g1, g2, g3, g9, g10, show decide ((k : Int) < (k : Int)) = false from decide_eq_false (by omega), show ((k : Int) == (k : Int)) = true from by simp]
  exact hK _ hm1 hD1 hs1
 have hlt : k < b := by omega
 have hl : c.lt d1[k]! d1[k - 1]! = true := by
  have : ¬c.lt d1[k]! d1[k - 1]! = false := fun h' => hgo ⟨hlt, h'⟩
  simpa using this
 have hl' : decide (c.cf d1[k]! d1[k - 1]! < 0) = true := hl
 have ik := hm1.idxN (k := .i64) (n := n) (i := k) (by omega)
 have lk := hm1.ld hD1 (i := k) (by omega)
 have ip := hm1.idxN (k := .i64) (n := n) (i := k - 1) (by omega)
 have lp := hm1.ld hD1 (i := k - 1) (by omega)
 have hc := c.ok _ _ (hD1 k (by omega)) (hD1 (k - 1) (by omega))
 have c1 : decide ((k : Int) < (b : Int)) = true := decide_eq_true (by omega)
 have c2 : ((k : Int) == (b : Int)) = false := by
  rw [beq_eq_false_iff_ne]; omega
 have w1 := wrap_subN b a (by omega) (by omega)
 have w2 := wrap_p1 k (by omega) (by omega)
 rw [if_neg hkb'] at ho
 by_cases h50 : b - a < 50
 ·rw [if_pos h50] at ho
  rw [show partialIns c.lt a b (s + 1) i d1 = (d1, false) by rw [partialIns_succ, hke, if_neg hkb', if_pos h50]] at hK
  simp only [go_sem, Nat.reduceEqDiff, Nat.reduceAdd, Nat.reduceLT, Nat.reduceLeDiff, reduceIte, g0, g1, g2, g3, g9, g10, c1, c2, ik, lk, ip, lp, hc, hl', w1, w2, show decide (((b - a : Nat) : Int) < 50) = true from decide_eq_true (by omega)]
  exact hK _ hm1 hD1 hs1
 rw [if_neg h50] at ho
 unfold fixUp fixDown at ho
 have c3 : decide (((b - a : Nat) : Int) < 50) = false := decide_eq_false (by omega)
 obtain ⟨m5, m6, s1, s2, ⟨d3, hm5⟩, hm6, hD6, hs6⟩ := hm1.swap hD1 (i := k) (j := k - 1) (by omega) (by omega)
 have i5 := hm5.idxN (k := .i64) (n := n) (i := k - 1) (by omega)
 have w3 := wrap_subN k a (by omega) (by omega)
 have w4 := wrap_subN b k (by omega) (by omega)
 have w6 := wrap_succ k (by omega)
 generalize swp d1 k (k - 1) = d6 at hm6 hD6 hs6 ho
 rw [hs1] at hs6
 by_cases h2' : k - a ≥ 2 <;> by_cases h3' : b - k ≥ 2
 ·rw [if_pos h2', if_pos h3'] at ho
  have k1 : decide ((2 : Int) ≤ ((k - a : Nat) : Int)) = true := decide_eq_true (by omega)
  have k2 : decide ((2 : Int) ≤ ((b - k : Nat) : Int)) = true := decide_eq_true (by omega)
  simp only [go_sem, Nat.reduceEqDiff, Nat.reduceAdd, Nat.reduceLT, Nat.reduceLeDiff, reduceIte, g0, g1, g2, g3, g9, g10, c1, c2, c3, ik, lk, ip, lp, hc, hl', w1, w2, w3, w4, w5, w6, s1, s2, i5, k1, k2]
  refine WL_inv (α := Nat × Array AV) (fun q e mm => e 0 = .ref id 0 n ∧ e 1 = I64 a ∧ e 2 = I64 b ∧ e 3 = cv ∧ e 9 = I64 k ∧ e 10 = I64 (5 - ((s + 1 : Nat) : Int)) ∧ e 11 = I64 q.1 ∧ q.1 < n ∧ MR m0 mm id E.sz q.2 ∧ AllD E q.2 ∧ q.2.size = d.size ∧ shiftDown c.lt q.1 q.2 = shiftDown c.lt (k - 1) d6) (fun q => q.1) (k - 1, d6) ?_ ?_
  ·simp only [go_sem, Nat.reduceEqDiff, Nat.reduceAdd, Nat.reduceLT, Nat.reduceLeDiff, reduceIte, g0, g1, g2, g3, g9, g10]
   exact ⟨trivial, trivial, trivial, trivial, trivial, trivial, trivial, by omega, hm6, hD6, hs6, trivial⟩
  rintro ⟨j, d7⟩ e7 m7 ⟨g0, g1, g2, g3, g9, g10, g11, hjn, hm7, hD7, hs7, ho7⟩
  dsimp only at g11 hjn hm7 hD7 hs7 ho7
  cases j with
  | zero =>
   rw [← ho7, show shiftDown c.lt 0 d7 = d7 from rfl] at ho
   simp only [go_sem, Nat.reduceEqDiff, Nat.reduceAdd, Nat.reduceLT, Nat.reduceLeDiff, reduceIte, g0, g1, g2, g3, g9, g10, g11, w4, w5, w6, show decide ((1 : Int) ≤ ((0 : Nat) : Int)) = false from rfl, show decide ((2 : Int) ≤ ((b - k : Nat) : Int)) = true from decide_eq_true (by omega)]
   refine WL_inv (α := Nat × Array AV) (fun q e mm => e 0 = .ref id 0 n ∧ e 1 = I64 a ∧ e 2 = I64 b ∧ e 3 = cv ∧ e 9 = I64 k ∧ e 10 = I64 (5 - ((s + 1 : Nat) : Int)) ∧ e 12 = I64 q.1 ∧ k < q.1 ∧ q.1 ≤ b ∧ MR m0 mm id E.sz q.2 ∧ AllD E q.2 ∧ q.2.size = d.size ∧ shiftUp c.lt b q.1 q.2 = shiftUp c.lt b (k + 1) d7) (fun q => b - q.1) (k + 1, d7) ?_ ?_
   ·simp only [go_sem, Nat.reduceEqDiff, Nat.reduceAdd, Nat.reduceLT, Nat.reduceLeDiff, reduceIte, g0, g1, g2, g3, g9, g10]
    exact ⟨trivial, trivial, trivial, trivial, trivial, trivial, trivial, by omega, by omega, hm7, hD7, hs7, trivial⟩
   rintro ⟨j, d8⟩ e8 m8 ⟨g0, g1, g2, g3, g9, g10, g12, hkj, hjb, hm8, hD8, hs8, ho8⟩
   dsimp only at g12 hkj hjb hm8 hD8 hs8 ho8
   by_cases hjb' : j < b
   ·have ij := hm8.idxN (k := .i64) (n := n) (i := j) (by omega)
    have lj := hm8.ld hD8 (i := j) (by omega)
    have iq := hm8.idxN (k := .i64) (n := n) (i := j - 1) (by omega)
    have lq := hm8.ld hD8 (i := j - 1) (by omega)
    have hcj := c.ok _ _ (hD8 j (by omega)) (hD8 (j - 1) (by omega))
    have wj := wrap_p1 j (by omega) (by omega)
    have wk := wrap_succ j (by omega)
    cases hlj : c.lt d8[j]! d8[j - 1]!
    ·have hlj' : decide (c.cf d8[j]! d8[j - 1]! < 0) = false := hlj
     rw [← ho8, shiftUp_end fun _ => hlj] at ho
     simp only [go_sem, Nat.reduceEqDiff, Nat.reduceAdd, Nat.reduceLT, Nat.reduceLeDiff, reduceIte, g0, g1, g2, g3, g9, g10, g12, w5, show decide ((j : Int) < (b : Int)) = true from decide_eq_true (by omega), ij, lj, iq, lq, hcj, hlj', wj]
     refine Nx_of (s, k, d8) (by first | omega | (dsimp only; omega)) ?_
     simp only [go_sem, Nat.reduceEqDiff, Nat.reduceAdd, Nat.reduceLT, Nat.reduceLeDiff, reduceIte, g0, g1, g2, g3, g9, g10, w5]
     exact ⟨trivial, trivial, trivial, trivial, trivial, trivial, by omega, by omega, by omega, hm8, hD8, hs8, ho⟩
    ·have hlj' : decide (c.cf d8[j]! d8[j - 1]! < 0) = true := hlj
     obtain ⟨m9, m10, t1, t2, ⟨d9, hm9⟩, hm10, hD10, hs10⟩ := hm8.swap hD8 (i := j) (j := j - 1) (by omega) (by omega)
     have i9 := hm9.idxN (k := .i64) (n := n) (i := j - 1) (by omega)
     simp only [go_sem, Nat.reduceEqDiff, Nat.reduceAdd, Nat.reduceLT, Nat.reduceLeDiff, reduceIte, g0, g1, g2, g3, g9, g10, g12, w5, show decide ((j : Int) < (b : Int)) = true from decide_eq_true (by omega), ij, lj, iq, lq, hcj, hlj', wj, t1, t2, i9, wk]
     refine Nx_of (j + 1, swp d8 j (j - 1)) (by first | omega | (dsimp only; omega)) ?_
     simp only [go_sem, Nat.reduceEqDiff, Nat.reduceAdd, Nat.reduceLT, Nat.reduceLeDiff, reduceIte, g0, g1, g2, g3, g9, g10]
     exact ⟨trivial, trivial, trivial, trivial, trivial, trivial, trivial, by omega, by omega, hm10, hD10, by rw [hs10, hs8], by rw [← ho8]; exact (shiftUp_go hjb' hlj).symm⟩
   ·rw [← ho8, shiftUp_end fun h => absurd h hjb'] at ho
    simp only [go_sem, Nat.reduceEqDiff, Nat.reduceAdd, Nat.reduceLT, Nat.reduceLeDiff, reduceIte, g0, g1, g2, g3, g9, g10, g12, w5, show decide ((j : Int) < (b : Int)) = false from decide_eq_false (by omega)]
    refine Nx_of (s, k, d8) (by first | omega | (dsimp only; omega)) ?_
    simp only [go_sem, Nat.reduceEqDiff, Nat.reduceAdd, Nat.reduceLT, Nat.reduceLeDiff, reduceIte, g0, g1, g2, g3, g9, g10, w5]
    exact ⟨trivial, trivial, trivial, trivial, trivial, trivial, by omega, by omega, by omega, hm8, hD8, hs8, ho⟩
  | succ j =>
   have ij := hm7.idxN (k := .i64) (n := n) (i := j + 1) (by omega)
   have lj := hm7.ld hD7 (i := j + 1) (by omega)
   have iq := hm7.idxN (k := .i64) (n := n) (i := j) (by omega)
   have lq := hm7.ld hD7 (i := j) (by omega)
   have hcj := c.ok _ _ (hD7 (j + 1) (by omega)) (hD7 j (by omega))
   have wj := wrap_pred j (by omega)
   have cj : decide ((1 : Int) ≤ ((j + 1 : Nat) : Int)) = true := decide_eq_true (by omega)
   cases hlj : c.lt d7[j + 1]! d7[j]!
   ·have hlj' : decide (c.cf d7[j + 1]! d7[j]! < 0) = false := hlj
    rw [← ho7, show shiftDown c.lt (j + 1) d7 = d7 by unfold shiftDown; rw [hlj]; rfl] at ho
    simp only [go_sem, Nat.reduceEqDiff, Nat.reduceAdd, Nat.reduceLT, Nat.reduceLeDiff, reduceIte, g0, g1, g2, g3, g9, g10, g11, w4, w5, w6, cj, ij, lj, iq, lq, hcj, hlj', wj, show decide ((2 : Int) ≤ ((b - k : Nat) : Int)) = true from decide_eq_true (by omega)]
    refine WL_inv (α := Nat × Array AV) (fun q e mm => e 0 = .ref id 0 n ∧ e 1 = I64 a ∧ e 2 = I64 b ∧ e 3 = cv ∧ e 9 = I64 k ∧ e 10 = I64 (5 - ((s + 1 : Nat) : Int)) ∧ e 12 = I64 q.1 ∧ k < q.1 ∧ q.1 ≤ b ∧ MR m0 mm id E.sz q.2 ∧ AllD E q.2 ∧ q.2.size = d.size ∧ shiftUp c.lt b q.1 q.2 = shiftUp c.lt b (k + 1) d7) (fun q => b - q.1) (k + 1, d7) ?_ ?_
    ·simp only [go_sem, Nat.reduceEqDiff, Nat.reduceAdd, Nat.reduceLT, Nat.reduceLeDiff, reduceIte, g0, g1, g2, g3, g9, g10]
     exact ⟨trivial, trivial, trivial, trivial, trivial, trivial, trivial, by omega, by omega, hm7, hD7, hs7, trivial⟩
    rintro ⟨j, d8⟩ e8 m8 ⟨g0, g1, g2, g3, g9, g10, g12, hkj, hjb, hm8, hD8, hs8, ho8⟩
    dsimp only at g12 hkj hjb hm8 hD8 hs8 ho8
    by_cases hjb' : j < b
    ·have ij := hm8.idxN (k := .i64) (n := n) (i := j) (by omega)
     have lj := hm8.ld hD8 (i := j) (by omega)
     have iq := hm8.idxN (k := .i64) (n := n) (i := j - 1) (by omega)
     have lq := hm8.ld hD8 (i := j - 1) (by omega)
     have hcj := c.ok _ _ (hD8 j (by omega)) (hD8 (j - 1) (by omega))
     have wj := wrap_p1 j (by omega) (by omega)
     have wk := wrap_succ j (by omega)
     cases hlj : c.lt d8[j]! d8[j - 1]!
     ·have hlj' : decide (c.cf d8[j]! d8[j - 1]! < 0) = false := hlj
      rw [← ho8, shiftUp_end fun _ => hlj] at ho
      simp only [go_sem, Nat.reduceEqDiff, Nat.reduceAdd, Nat.reduceLT, Nat.reduceLeDiff, reduceIte, g0, g1, g2, g3, g9, g10, g12, w5, show decide ((j : Int) < (b : Int)) = true from decide_eq_true (by omega), ij, lj, iq, lq, hcj, hlj', wj]
      refine Nx_of (s, k, d8) (by first | omega | (dsimp only; omega)) ?_
      simp only [go_sem, Nat.reduceEqDiff, Nat.reduceAdd, Nat.reduceLT, Nat.reduceLeDiff, reduceIte, g0, g1, g2, g3, g9, g10, w5]
      exact ⟨trivial, trivial, trivial, trivial, trivial, trivial, by omega, by omega, by omega, hm8, hD8, hs8, ho⟩
     ·have hlj' : decide (c.cf d8[j]! d8[j - 1]! < 0) = true := hlj
      obtain ⟨m9, m10, t1, t2, ⟨d9, hm9⟩, hm10, hD10, hs10⟩ := hm8.swap hD8 (i := j) (j := j - 1) (by omega) (by omega)
      have i9 := hm9.idxN (k := .i64) (n := n) (i := j - 1) (by omega)
      simp only [go_sem, Nat.reduceEqDiff, Nat.reduceAdd, Nat.reduceLT, Nat.reduceLeDiff, reduceIte, g0, g1, g2, g3, g9, g10, g12, w5, show decide ((j : Int) < (b : Int)) = true from decide_eq_true (by omega), ij, lj, iq, lq, hcj, hlj', wj, t1, t2, i9, wk]
      refine Nx_of (j + 1, swp d8 j (j - 1)) (by first | omega | (dsimp only; omega)) ?_
      simp only [go_sem, Nat.reduceEqDiff, Nat.reduceAdd, Nat.reduceLT, Nat.reduceLeDiff, reduceIte, g0, g1, g2, g3, g9, g10]
      exact ⟨trivial, trivial, trivial, trivial, trivial, trivial, trivial, by omega, by omega, hm10, hD10, by rw [hs10, hs8], by rw [← ho8]; exact (shiftUp_go hjb' hlj).symm⟩
    ·rw [← ho8, shiftUp_end fun h => absurd h hjb'] at ho
     simp only [go_sem, Nat.reduceEqDiff, Nat.reduceAdd, Nat.reduceLT, Nat.reduceLeDiff, reduceIte, g0, g1, g2, g3, g9, g10, g12, w5, show decide ((j : Int) < (b : Int)) = false from decide_eq_false (by omega)]
     refine Nx_of (s, k, d8) (by first | omega | (dsimp only; omega)) ?_
     simp only [go_sem, Nat.reduceEqDiff, Nat.reduceAdd, Nat.reduceLT, Nat.reduceLeDiff, reduceIte, g0, g1, g2, g3, g9, g10, w5]
     exact ⟨trivial, trivial, trivial, trivial, trivial, trivial, by omega, by omega, by omega, hm8, hD8, hs8, ho⟩
   ·have hlj' : decide (c.cf d7[j + 1]! d7[j]! < 0) = true := hlj
    obtain ⟨m9, m10, t1, t2, ⟨d9, hm9⟩, hm10, hD10, hs10⟩ := hm7.swap hD7 (i := j + 1) (j := j) (by omega) (by omega)
    have i9 := hm9.idxN (k := .i64) (n := n) (i := j) (by omega)
    simp only [go_sem, Nat.reduceEqDiff, Nat.reduceAdd, Nat.reduceLT, Nat.reduceLeDiff, reduceIte, g0, g1, g2, g3, g9, g10, g11, cj, ij, lj, iq, lq, hcj, hlj', wj, t1, t2, i9]
    refine Nx_of (j, swp d7 (j + 1) j) (by first | omega | (dsimp only; omega)) ?_
    simp only [go_sem, Nat.reduceEqDiff, Nat.reduceAdd, Nat.reduceLT, Nat.reduceLeDiff, reduceIte, g0, g1, g2, g3, g9, g10]
    exact ⟨trivial, trivial, trivial, trivial, trivial, trivial, trivial, by omega, hm10, hD10, by rw [hs10, hs7], by rw [← ho7]; exact (shiftDown_go hlj).symm⟩
 ·rw [if_pos h2', if_neg h3'] at ho
  have k1 : decide ((2 : Int) ≤ ((k - a : Nat) : Int)) = true := decide_eq_true (by omega)
  have k2 : decide ((2 : Int) ≤ ((b - k : Nat) : Int)) = false := decide_eq_false (by omega)
  simp only [go_sem, Nat.reduceEqDiff, Nat.reduceAdd, Nat.reduceLT, Nat.reduceLeDiff, reduceIte, g0, g1, g2, g3, g9, g10, c1, c2, c3, ik, lk, ip, lp, hc, hl', w1, w2, w3, w4, w5, w6, s1, s2, i5, k1, k2]
  refine WL_inv (α := Nat × Array AV) (fun q e mm => e 0 = .ref id 0 n ∧ e 1 = I64 a ∧ e 2 = I64 b ∧ e 3 = cv ∧ e 9 = I64 k ∧ e 10 = I64 (5 - ((s + 1 : Nat) : Int)) ∧ e 11 = I64 q.1 ∧ q.1 < n ∧ MR m0 mm id E.sz q.2 ∧ AllD E q.2 ∧ q.2.size = d.size ∧ shiftDown c.lt q.1 q.2 = shiftDown c.lt (k - 1) d6) (fun q => q.1) (k - 1, d6) ?_ ?_
  ·simp only [go_sem, Nat.reduceEqDiff, Nat.reduceAdd, Nat.reduceLT, Nat.reduceLeDiff, reduceIte, g0, g1, g2, g3, g9, g10]
   exact ⟨trivial, trivial, trivial, trivial, trivial, trivial, trivial, by omega, hm6, hD6, hs6, trivial⟩
  rintro ⟨j, d7⟩ e7 m7 ⟨g0, g1, g2, g3, g9, g10, g11, hjn, hm7, hD7, hs7, ho7⟩
  dsimp only at g11 hjn hm7 hD7 hs7 ho7
  cases j with
  | zero =>
   rw [← ho7, show shiftDown c.lt 0 d7 = d7 from rfl] at ho
   simp only [go_sem, Nat.reduceEqDiff, Nat.reduceAdd, Nat.reduceLT, Nat.reduceLeDiff, reduceIte, g0, g1, g2, g3, g9, g10, g11, w4, w5, w6, show decide ((1 : Int) ≤ ((0 : Nat) : Int)) = false from rfl, show decide ((2 : Int) ≤ ((b - k : Nat) : Int)) = false from decide_eq_false (by omega)]
   refine Nx_of (s, k, d7) (by first | omega | (dsimp only; omega)) ?_
   simp only [go_sem, Nat.reduceEqDiff, Nat.reduceAdd, Nat.reduceLT, Nat.reduceLeDiff, reduceIte, g0, g1, g2, g3, g9, g10, w5]
   exact ⟨trivial, trivial, trivial, trivial, trivial, trivial, by omega, by omega, by omega, hm7, hD7, hs7, ho⟩
  | succ j =>
   have ij := hm7.idxN (k := .i64) (n := n) (i := j + 1) (by omega)
   have lj := hm7.ld hD7 (i := j + 1) (by omega)
   have iq := hm7.idxN (k := .i64) (n := n) (i := j) (by omega)
   have lq := hm7.ld hD7 (i := j) (by omega)
   have hcj := c.ok _ _ (hD7 (j + 1) (by omega)) (hD7 j (by omega))
   have wj := wrap_pred j (by omega)
   have cj : decide ((1 : Int) ≤ ((j + 1 : Nat) : Int)) = true := decide_eq_true (by omega)
   cases hlj : c.lt d7[j + 1]! d7[j]!
   ·have hlj' : decide (c.cf d7[j + 1]! d7[j]! < 0) = false := hlj
    rw [← ho7, show shiftDown c.lt (j + 1) d7 = d7 by unfold shiftDown; rw [hlj]; rfl] at ho
    simp only [go_sem, Nat.reduceEqDiff, Nat.reduceAdd, Nat.reduceLT, Nat.reduceLeDiff, reduceIte, g0, g1, g2, g3, g9, g10, g11, w4, w5, w6, cj, ij, lj, iq, lq, hcj, hlj', wj, show decide ((2 : Int) ≤ ((b - k : Nat) : Int)) = false from decide_eq_false (by omega)]
    refine Nx_of (s, k, d7) (by first | omega | (dsimp only; omega)) ?_
    simp only [go_sem, Nat.reduceEqDiff, Nat.reduceAdd, Nat.reduceLT, Nat.reduceLeDiff, reduceIte, g0, g1, g2, g3, g9, g10, w5]
    exact ⟨trivial, trivial, trivial, trivial, trivial, trivial, by omega, by omega, by omega, hm7, hD7, hs7, ho⟩
   ·have hlj' : decide (c.cf d7[j + 1]! d7[j]! < 0) = true := hlj
    obtain ⟨m9, m10, t1, t2, ⟨d9, hm9⟩, hm10, hD10, hs10⟩ := hm7.swap hD7 (i := j + 1) (j := j) (by omega) (by omega)
    have i9 := hm9.idxN (k := .i64) (n := n) (i := j) (by omega)
    simp only [go_sem, Nat.reduceEqDiff, Nat.reduceAdd, Nat.reduceLT, Nat.reduceLeDiff, reduceIte, g0, g1, g2, g3, g9, g10, g11, cj, ij, lj, iq, lq, hcj, hlj', wj, t1, t2, i9]
    refine Nx_of (j, swp d7 (j + 1) j) (by first | omega | (dsimp only; omega)) ?_
    simp only [go_sem, Nat.reduceEqDiff, Nat.reduceAdd, Nat.reduceLT, Nat.reduceLeDiff, reduceIte, g0, g1, g2, g3, g9, g10]
    exact ⟨trivial, trivial, trivial, trivial, trivial, trivial, trivial, by omega, hm10, hD10, by rw [hs10, hs7], by rw [← ho7]; exact (shiftDown_go hlj).symm⟩
 ·rw [if_neg h2', if_pos h3'] at ho
  have k1 : decide ((2 : Int) ≤ ((k - a : Nat) : Int)) = false := decide_eq_false (by omega)
  have k2 : decide ((2 : Int) ≤ ((b - k : Nat) : Int)) = true := decide_eq_true (by omega)
  simp only [go_sem, Nat.reduceEqDiff, Nat.reduceAdd, Nat.reduceLT, Nat.reduceLeDiff, reduceIte, g0, g1, g2, g3, g9, g10, c1, c2, c3, ik, lk, ip, lp, hc, hl', w1, w2, w3, w4, w5, w6, s1, s2, i5, k1, k2]
  refine WL_inv (α := Nat × Array AV) (fun q e mm => e 0 = .ref id 0 n ∧ e 1 = I64 a ∧ e 2 = I64 b ∧ e 3 = cv ∧ e 9 = I64 k ∧ e 10 = I64 (5 - ((s + 1 : Nat) : Int)) ∧ e 12 = I64 q.1 ∧ k < q.1 ∧ q.1 ≤ b ∧ MR m0 mm id E.sz q.2 ∧ AllD E q.2 ∧ q.2.size = d.size ∧ shiftUp c.lt b q.1 q.2 = shiftUp c.lt b (k + 1) d6) (fun q => b - q.1) (k + 1, d6) ?_ ?_
  ·simp only [go_sem, Nat.reduceEqDiff, Nat.reduceAdd, Nat.reduceLT, Nat.reduceLeDiff, reduceIte, g0, g1, g2, g3, g9, g10]
   exact ⟨trivial, trivial, trivial, trivial, trivial, trivial, trivial, by omega, by omega, hm6, hD6, hs6, trivial⟩
  rintro ⟨j, d8⟩ e8 m8 ⟨g0, g1, g2, g3, g9, g10, g12, hkj, hjb, hm8, hD8, hs8, ho8⟩
  dsimp only at g12 hkj hjb hm8 hD8 hs8 ho8
  by_cases hjb' : j < b
  ·have ij := hm8.idxN (k := .i64) (n := n) (i := j) (by omega)
   have lj := hm8.ld hD8 (i := j) (by omega)
   have iq := hm8.idxN (k := .i64) (n := n) (i := j - 1) (by omega)
   have lq := hm8.ld hD8 (i := j - 1) (by omega)
   have hcj := c.ok _ _ (hD8 j (by omega)) (hD8 (j - 1) (by omega))
   have wj := wrap_p1 j (by omega) (by omega)
   have wk := wrap_succ j (by omega)
   cases hlj : c.lt d8[j]! d8[j - 1]!
   ·have hlj' : decide (c.cf d8[j]! d8[j - 1]! < 0) = false := hlj
    rw [← ho8, shiftUp_end fun _ => hlj] at ho
    simp only [go_sem, Nat.reduceEqDiff, Nat.reduceAdd, Nat.reduceLT, Nat.reduceLeDiff, reduceIte, g0, g1, g2, g3, g9, g10, g12, w5, show decide ((j : Int) < (b : Int)) = true from decide_eq_true (by omega), ij, lj, iq, lq, hcj, hlj', wj]
    refine Nx_of (s, k, d8) (by first | omega | (dsimp only; omega)) ?_
    simp only [go_sem, Nat.reduceEqDiff, Nat.reduceAdd, Nat.reduceLT, Nat.reduceLeDiff, reduceIte, g0, g1, g2, g3, g9, g10, w5]
    exact ⟨trivial, trivial, trivial, trivial, trivial, trivial, by omega, by omega, by omega, hm8, hD8, hs8, ho⟩
   ·have hlj' : decide (c.cf d8[j]! d8[j - 1]! < 0) = true := hlj
    obtain ⟨m9, m10, t1, t2, ⟨d9, hm9⟩, hm10, hD10, hs10⟩ := hm8.swap hD8 (i := j) (j := j - 1) (by omega) (by omega)
    have i9 := hm9.idxN (k := .i64) (n := n) (i := j - 1) (by omega)
    simp only [go_sem, Nat.reduceEqDiff, Nat.reduceAdd, Nat.reduceLT, Nat.reduceLeDiff, reduceIte, g0, g1, g2, g3, g9, g10, g12, w5, show decide ((j : Int) < (b : Int)) = true from decide_eq_true (by omega), ij, lj, iq, lq, hcj, hlj', wj, t1, t2, i9, wk]
    refine Nx_of (j + 1, swp d8 j (j - 1)) (by first | omega | (dsimp only; omega)) ?_
    simp only [go_sem, Nat.reduceEqDiff, Nat.reduceAdd, Nat.reduceLT, Nat.reduceLeDiff, reduceIte, g0, g1, g2, g3, g9, g10]
    exact ⟨trivial, trivial, trivial, trivial, trivial, trivial, trivial, by omega, by omega, hm10, hD10, by rw [hs10, hs8], by rw [← ho8]; exact (shiftUp_go hjb' hlj).symm⟩
  ·rw [← ho8, shiftUp_end fun h => absurd h hjb'] at ho
   simp only [go_sem, Nat.reduceEqDiff, Nat.reduceAdd, Nat.reduceLT, Nat.reduceLeDiff, reduceIte, g0, g1, g2, g3, g9, g10, g12, w5, show decide ((j : Int) < (b : Int)) = false from decide_eq_false (by omega)]
   refine Nx_of (s, k, d8) (by first | omega | (dsimp only; omega)) ?_
   simp only [go_sem, Nat.reduceEqDiff, Nat.reduceAdd, Nat.reduceLT, Nat.reduceLeDiff, reduceIte, g0, g1, g2, g3, g9, g10, w5]
   exact ⟨trivial, trivial, trivial, trivial, trivial, trivial, by omega, by omega, by omega, hm8, hD8, hs8, ho⟩
 ·rw [if_neg h2', if_neg h3'] at ho
  have k1 : decide ((2 : Int) ≤ ((k - a : Nat) : Int)) = false := decide_eq_false (by omega)
  have k2 : decide ((2 : Int) ≤ ((b - k : Nat) : Int)) = false := decide_eq_false (by omega)
  simp only [go_sem, Nat.reduceEqDiff, Nat.reduceAdd, Nat.reduceLT, Nat.reduceLeDiff, reduceIte, g0, g1, g2, g3, g9, g10, c1, c2, c3, ik, lk, ip, lp, hc, hl', w1, w2, w3, w4, w5, w6, s1, s2, i5, k1, k2]
  refine Nx_of (s, k, d6) (by first | omega | (dsimp only; omega)) ?_
  simp only [go_sem, Nat.reduceEqDiff, Nat.reduceAdd, Nat.reduceLT, Nat.reduceLeDiff, reduceIte, g0, g1, g2, g3, g9, g10, w5]
  exact ⟨trivial, trivial, trivial, trivial, trivial, trivial, by omega, by omega, by omega, hm6, hD6, hs6, ho⟩
end Go.Ab.Srt
end
section
namespace Go.Ab.Srt
open Go.Sort
set_option maxRecDepth 8000
set_option maxHeartbeats 4000000
variable {ft : FuncId → Option AFn} {E : Els} {cv : AV} (c : CmpOK ft E cv) {id n : Nat} {m0 : Mem}
include c
structure MS (m0 m : Mem) (id sz sw : Nat) (d : Array AV) : Prop where
 mr : MR m0 m id sz d
 new : m0.blks.length ≤ sw
 old : id < m0.blks.length
 cnt : ∃ x : Int, m.blks[sw]? = some (.live [I64 x] 1)
omit c in
theorem wbr {f : FuncId} {fn : AFn} (hf : ft f = some fn) (hm : fn.md = .r) : ∀ (s : St) (as : List AV) (K : AV → St → Prop), WB ft f as s K = WR ft (.f f) as s.mem fun v m => K v (s.setMem m) := fun s as K => WB_r hf hm as s K
theorem order2_run {f : FuncId} (hf : ft f = some ⟨5, order2F E.sz E.lz, order2FR, .r⟩) {d : Array AV} {a b sw : Nat} (ha : a < n) (hb : b < n) (hd : n ≤ d.size) (hD : AllD E d) {m : Mem} (hm : MS m0 m id E.sz sw d)
  (K : AV → Mem → Prop) (hK : ∀ x y m', (x = a ∧ y = b ∨ x = b ∧ y = a) → MS m0 m' id E.sz sw d → K (.tup [I64 ((x : Nat) : Int), I64 ((y : Nat) : Int)]) m') : WR ft (.f f) [.ref id 0 n, I64 a, I64 b, .ptr sw 0 0, cv] m K := by
 rw [WR_f hf rfl]
 simp only [order2F, order2FR]
 obtain ⟨hr, hne, hol, x, hx⟩ := hm
 have ia := hr.idxN (k := .i64) (n := n) (i := a) (by omega)
 have la := hr.ld hD (i := a) (by omega)
 have ib := hr.idxN (k := .i64) (n := n) (i := b) (by omega)
 have lb := hr.ld hD (i := b) (by omega)
 have hc := c.ok _ _ (hD b (by omega)) (hD a (by omega))
 cases hl : c.lt d[b]! d[a]!
 ·have hl' : decide (c.cf d[b]! d[a]! < 0) = false := hl
  simp only [go_sem, Nat.reduceEqDiff, Nat.reduceAdd, Nat.reduceLT, Nat.reduceLeDiff, reduceIte, ia, la, ib, lb, hc, hl']
  exact hK a b _ (.inl ⟨rfl, rfl⟩) ⟨hr, hne, hol, x, hx⟩
 ·have hl' : decide (c.cf d[b]! d[a]! < 0) = true := hl
  have h7 := hr.setO hne hol (.live [I64 (IntKind.i64.wrap (x + 1))] 1)
  have hlen : sw < m.blks.length := (List.getElem?_eq_some_iff.1 hx).1
  simp only [go_sem, Nat.reduceEqDiff, Nat.reduceAdd, Nat.reduceLT, Nat.reduceLeDiff, reduceIte, ia, la, ib, lb, hc, hl', hx, Nat.zero_add]
  exact hK b a _ (.inr ⟨rfl, rfl⟩) ⟨h7, hne, hol, _, List.getElem?_set_self hlen⟩
theorem median_run {f po : FuncId} (hf : ft f = some ⟨6, medianF E.sz E.lz po, medianFR, .r⟩) (ho : ft po = some ⟨5, order2F E.sz E.lz, order2FR, .r⟩) {d : Array AV} {x y z sw : Nat} (hx : x < n) (hy : y < n) (hz : z < n) (hd : n ≤ d.size) (hD : AllD E d) {m : Mem} (hm : MS m0 m id E.sz sw d)
  (K : AV → Mem → Prop) (hK : ∀ p m', (p = x ∨ p = y ∨ p = z) → MS m0 m' id E.sz sw d → K (I64 ((p : Nat) : Int)) m') : WR ft (.f f) [.ref id 0 n, I64 x, I64 y, I64 z, .ptr sw 0 0, cv] m K := by
 have hw := wbr ho rfl
 rw [WR_f hf rfl]
 simp only [medianF, medianFR]
 simp only [go_sem, Nat.reduceEqDiff, Nat.reduceAdd, Nat.reduceLT, Nat.reduceLeDiff, reduceIte, hw]
 refine order2_run c ho hx hy hd hD hm _ fun a1 b1 m1 h1 hm1 => ?_
 simp only [go_sem, Nat.reduceEqDiff, Nat.reduceAdd, Nat.reduceLT, Nat.reduceLeDiff, reduceIte, hw]
 refine order2_run c ho (a := b1) (b := z) (by omega) hz hd hD hm1 _ fun a2 b2 m2 h2 hm2 => ?_
 simp only [go_sem, Nat.reduceEqDiff, Nat.reduceAdd, Nat.reduceLT, Nat.reduceLeDiff, reduceIte, hw]
 refine order2_run c ho (a := a1) (b := a2) (by omega) (by omega) hd hD hm2 _ fun a3 b3 m3 h3 hm3 => ?_
 simp only [go_sem, Nat.reduceEqDiff, Nat.reduceAdd, Nat.reduceLT, Nat.reduceLeDiff, reduceIte]
 exact hK b3 _ (by omega) hm3
theorem medianAdj_run {f pm po : FuncId} (hf : ft f = some ⟨4, medianAdjacentF E.sz E.lz pm, medianAdjacentFR, .r⟩) (hm' : ft pm = some ⟨6, medianF E.sz E.lz po, medianFR, .r⟩) (ho : ft po = some ⟨5, order2F E.sz E.lz, order2FR, .r⟩) (hn : n < 1073741824)
  {d : Array AV} {a sw : Nat} (h1 : 1 ≤ a) (h2 : a + 1 < n) (hd : n ≤ d.size) (hD : AllD E d) {m : Mem} (hm : MS m0 m id E.sz sw d)
  (K : AV → Mem → Prop) (hK : ∀ p m', (a ≤ p + 1 ∧ p ≤ a + 1) → MS m0 m' id E.sz sw d → K (I64 ((p : Nat) : Int)) m') : WR ft (.f f) [.ref id 0 n, I64 a, .ptr sw 0 0, cv] m K := by
 have hw := wbr hm' rfl
 rw [WR_f hf rfl]
 simp only [medianAdjacentF, medianAdjacentFR]
 simp only [go_sem, Nat.reduceEqDiff, Nat.reduceAdd, Nat.reduceLT, Nat.reduceLeDiff, reduceIte, hw, wrap_p1 a h1 (by omega), wrap_succ a (by omega)]
 refine median_run c hm' ho (x := a - 1) (y := a) (z := a + 1) (by omega) (by omega) (by omega) hd hD hm _ fun p m1 hp hm1 => ?_
 simp only [go_sem, Nat.reduceEqDiff, Nat.reduceAdd, Nat.reduceLT, Nat.reduceLeDiff, reduceIte]
 exact hK p _ (by omega) hm1
theorem choose_run {f pa pm po : FuncId} (hf : ft f = some ⟨4, choosePivotF E.sz E.lz pm pa, choosePivotFR, .r⟩) (ha' : ft pa = some ⟨4, medianAdjacentF E.sz E.lz pm, medianAdjacentFR, .r⟩) (hm' : ft pm = some ⟨6, medianF E.sz E.lz po, medianFR, .r⟩)
  (ho : ft po = some ⟨5, order2F E.sz E.lz, order2FR, .r⟩) (hn : n < 1073741824) {d : Array AV} {a b : Nat} (hab : a < b) (hb : b ≤ n) (hd : n ≤ d.size) (hD : AllD E d) (hid : id < m0.blks.length) {m : Mem} (hm : MR m0 m id E.sz d)
  (K : AV → Mem → Prop) (hK : ∀ p h m', a ≤ p → p < b → (h = 0 ∨ h = 1 ∨ h = 2) → MR m0 m' id E.sz d → K (.tup [I64 ((p : Nat) : Int), I64 ((h : Nat) : Int)]) m') : WR ft (.f f) [.ref id 0 n, I64 a, I64 b, cv] m K := by
 have hw1 := wbr ha' rfl
 have hw2 := wbr hm' rfl
 rw [WR_f hf rfl]
 simp only [choosePivotF, choosePivotFR]
 have w0 := wrap_subN b a (by omega) (by omega)
 have q0 := quo_nat (b - a) 4 (by omega) (by omega)
 have hq : 4 * ((b - a) / 4) ≤ b - a := by omega
 have hq2 : b - a < 4 * ((b - a) / 4) + 4 := by omega
 generalize (b - a) / 4 = q at q0 hq hq2
 have w1 : IntKind.i64.wrap ((q : Int) * 1) = (q : Int) := by rw [wrap_i64 _ (by omega) (by omega)]; omega
 have w2 : IntKind.i64.wrap ((q : Int) * 2) = ((q * 2 : Nat) : Int) := by rw [wrap_i64 _ (by omega) (by omega)]; omega
 have w3 : IntKind.i64.wrap ((q : Int) * 3) = ((q * 3 : Nat) : Int) := by rw [wrap_i64 _ (by omega) (by omega)]; omega
 have a1 := wrap_addN a q (by omega) (by omega)
 have a2 := wrap_addN a (q * 2) (by omega) (by omega)
 have a3 := wrap_addN a (q * 3) (by omega) (by omega)
 have hms : MS m0 ⟨m.blks ++ [.live [I64 0] 1], m.toks⟩ id E.sz m.blks.length d := ⟨hm.push _, hm.len, hid, 0, by simp⟩
 have nb : newBlk m [I64 0] 1 = ⟨m.blks ++ [.live [I64 0] 1], m.toks⟩ := rfl
 have e4 : (I64 4) = I64 ((4 : Nat) : Int) := rfl
 -- the end: what the counter says
 have fin : ∀ (p : Nat) (m' : Mem), a ≤ p → p < b → MS m0 m' id E.sz m.blks.length d → ∃ x : Int, m'.blks[m.blks.length]? = some (.live [I64 x] 1) ∧ K (.tup [I64 ((p : Nat) : Int), I64 0]) m' ∧ K (.tup [I64 ((p : Nat) : Int), I64 1]) m' ∧ K (.tup [I64 ((p : Nat) : Int), I64 2]) m' := by
  intro p m' h1 h2 h3
  obtain ⟨x, hx⟩ := h3.cnt
  exact ⟨x, hx, hK p 0 _ h1 h2 (.inl rfl) h3.mr, hK p 1 _ h1 h2 (.inr (.inl rfl)) h3.mr, hK p 2 _ h1 h2 (.inr (.inr rfl)) h3.mr⟩
 by_cases h8 : 8 ≤ b - a
 case neg =>
  obtain ⟨x, hx, k0, k1, k2⟩ := fin (a + q * 2) _ (by omega) (by omega) hms
  cases x0 : (x == 0) <;> cases x12 : (x == 12) <;>
  (simp only [go_sem, Nat.reduceEqDiff, Nat.reduceAdd, Nat.reduceLT, Nat.reduceLeDiff, reduceIte, w0, nb, e4, q0, w1, w2, w3, a1, a2, a3, show decide ((8 : Int) ≤ ((b - a : Nat) : Int)) = false from decide_eq_false (by omega), hx, x0, x12, Nat.zero_add]
   first | exact k0 | exact k1 | exact k2)
 have c8 : decide ((8 : Int) ≤ ((b - a : Nat) : Int)) = true := decide_eq_true (by omega)
 by_cases h50 : 50 ≤ b - a
 case neg =>
  simp only [go_sem, Nat.reduceEqDiff, Nat.reduceAdd, Nat.reduceLT, Nat.reduceLeDiff, reduceIte, w0, nb, e4, q0, w1, w2, w3, a1, a2, a3, c8, show decide ((50 : Int) ≤ ((b - a : Nat) : Int)) = false from decide_eq_false (by omega), hw2]
  refine median_run c hm' ho (x := a + q) (y := a + q * 2) (z := a + q * 3) (by omega) (by omega) (by omega) hd hD hms _ fun p m1 hp hm1 => ?_
  obtain ⟨x, hx, k0, k1, k2⟩ := fin p _ (by omega) (by omega) hm1
  cases x0 : (x == 0) <;> cases x12 : (x == 12) <;>
  (simp only [go_sem, Nat.reduceEqDiff, Nat.reduceAdd, Nat.reduceLT, Nat.reduceLeDiff, reduceIte, hx, x0, x12, Nat.zero_add]
   first | exact k0 | exact k1 | exact k2)
 simp only [go_sem, Nat.reduceEqDiff, Nat.reduceAdd, Nat.reduceLT, Nat.reduceLeDiff, reduceIte, w0, nb, e4, q0, w1, w2, w3, a1, a2, a3, c8, show decide ((50 : Int) ≤ ((b - a : Nat) : Int)) = true from decide_eq_true (by omega), hw1]
 refine medianAdj_run c ha' hm' ho hn (a := a + q) (by omega) (by omega) hd hD hms _ fun p1 m1 hp1 hm1 => ?_
 simp only [go_sem, Nat.reduceEqDiff, Nat.reduceAdd, Nat.reduceLT, Nat.reduceLeDiff, reduceIte, hw1]
 refine medianAdj_run c ha' hm' ho hn (a := a + q * 2) (by omega) (by omega) hd hD hm1 _ fun p2 m2 hp2 hm2 => ?_
 simp only [go_sem, Nat.reduceEqDiff, Nat.reduceAdd, Nat.reduceLT, Nat.reduceLeDiff, reduceIte, hw1]
 refine medianAdj_run c ha' hm' ho hn (a := a + q * 3) (by omega) (by omega) hd hD hm2 _ fun p3 m3 hp3 hm3 => ?_
 simp only [go_sem, Nat.reduceEqDiff, Nat.reduceAdd, Nat.reduceLT, Nat.reduceLeDiff, reduceIte, hw2]
 refine median_run c hm' ho (x := p1) (y := p2) (z := p3) (by omega) (by omega) (by omega) hd hD hm3 _ fun p m4 hp hm4 => ?_
 obtain ⟨x, hx, k0, k1, k2⟩ := fin p _ (by omega) (by omega) hm4
 cases x0 : (x == 0) <;> cases x12 : (x == 12) <;>
 (simp only [go_sem, Nat.reduceEqDiff, Nat.reduceAdd, Nat.reduceLT, Nat.reduceLeDiff, reduceIte, hx, x0, x12, Nat.zero_add]
  first | exact k0 | exact k1 | exact k2)
end Go.Ab.Srt
end
